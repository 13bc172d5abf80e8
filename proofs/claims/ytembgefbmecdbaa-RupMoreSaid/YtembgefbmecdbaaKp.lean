/-
  A clause of a formula; whether a formula holds.
-/
import Derived.Test.YtembgefbmecdbaaKe
import Derived.Test.YtembgefbmecdbaaKg
namespace Go.Proofs.Ytembgefbmecdbaa
open Go.RowKit Go.Lib
/-- A slice of truth values reads as l. -/
def RBo (w : World) (A : Option Addr) (l : List Bool) : Prop := 0 < l.length → ∃ b off : Nat, A = some ⟨b, off, none⟩ ∧ b < w.heap.size ∧ ∀ j, j < l.length → w.cell? ⟨b, off + j, none⟩ = some (.bool (l.getD j false))
theorem RBo.over {w w' : World} {A : Option Addr} {l : List Bool} (h : RBo w A l) (k : Below w.heap.size w w') : RBo w' A l := fun h0 => by
  obtain ⟨b, off, e, hb, hc⟩ := h h0
  exact ⟨b, off, e, Nat.lt_of_lt_of_le hb k.size, fun j hj => (k.cell (p := ⟨b, off + j, none⟩) hb).trans (hc j hj)⟩
section
variable {base : Nat} {w : World} {p V : Nat} {cs : List (List Int)} {vl ve : Value}
set_option maxRecDepth 100000 in
theorem Clause_t (h : CF base w p V cs vl ve) (i : Nat) (hi : i < cs.length) : Calls Try.prog 27 #[pv p, .int .i64 (i : Int)] w (OV w.heap.size w cs[i]) := by
  have hL := Len_t h
  have hS := stored_t h i hi
  have hl1 : (cs[i]).length ≤ 1000 := h.hc _ (List.getElem_mem hi)
  have hC := fun (A : Option Addr) (c : Nat) (W : World) (hR : RL W A cs[i]) => Clone_s A c cs[i] W hR (by omega)
  obtain ⟨l, hl⟩ : ∃ l, cs[i] = l := ⟨_, rfl⟩
  obtain ⟨nc, hnc⟩ : ∃ nc, cs.length = nc := ⟨_, rfl⟩
  rw [hl] at hS hC ⊢
  rw [hnc] at hL hi
  have d1 : decide ((i : Int) < 0) = false := by simp
  have d2 : decide ((nc : Int) ≤ (i : Int)) = false := by rw [decide_eq_false_iff_not]; omega
  replace hL := Lib.hid hL
  replace hS := Lib.hid hS
  replace hC := Lib.hid hC
  clear h hl hnc hl1
  go_enter Try.func27, Try.ntmps27
  go_wp2_with fail
  (with_reducible refine hL.out.mono ?_)
  rintro e w1 ⟨rfl, rfl⟩
  go_wp2_with fail
  (with_reducible refine hS.out.mono ?_)
  rintro e w2 ⟨A, c, rfl, hR, hb2, _⟩
  go_wp2_with fail
  (with_reducible refine (hC.out _ _ _ hR).mono ?_)
  rintro e w3 ⟨v, rfl, ho, hb3⟩
  go_wp2_with fail
  go_ret
  exact ⟨v, rfl, own_mono ho hb2.size, below_call hb3 hb2 hb2.size⟩
end
end Go.Proofs.Ytembgefbmecdbaa
