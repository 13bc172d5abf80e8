/-
  A clause of a formula; whether a formula holds.
-/
import Derived.Test.YtgnmehkklmklnaaDoorKe
import Derived.Test.YtgnmehkklmklnaaDoorKg
namespace Go.Proofs.YtgnmehkklmklnaaDoor
open Go.RowKit Go.Lib
/-- A slice of truth values reads as l. -/
def RBo (w : World) (A : Option Addr) (l : List Bool) : Prop := 0 < l.length → ∃ b off : Nat, A = some ⟨b, off, none⟩ ∧ b < w.heap.size ∧ ∀ j, j < l.length → w.cell? ⟨b, off + j, none⟩ = some (.bool (l.getD j false))
theorem RBo.over {w w' : World} {A : Option Addr} {l : List Bool} (h : RBo w A l) (k : Below w.heap.size w w') : RBo w' A l := fun h0 => by
  obtain ⟨b, off, e, hb, hc⟩ := h h0
  exact ⟨b, off, e, Nat.lt_of_lt_of_le hb k.size, fun j hj => (k.cell (p := ⟨b, off + j, none⟩) hb).trans (hc j hj)⟩
/-- A literal is true. -/
def litB (m : List Bool) (x : Int) : Bool := m.getD ((max x (-x)).toNat - 1) false == decide (0 < x)
/-- All clauses hold. -/
def holB (m : List Bool) (cs : List (List Int)) : Bool := cs.all fun c => c.any (litB m)
section
variable {base : Nat} {w : World} {p V : Nat} {cs : List (List Int)} {vl ve : Value}
set_option maxRecDepth 100000 in
theorem Clause_t (h : CF base w p V cs vl ve) (i : Nat) (hi : i < cs.length) : Calls Tryd.prog 16 #[pv p, .int .i64 (i : Int)] w (OV w.heap.size w cs[i]) := by
  have hL := Len_t h
  have hS := stored_t h i hi
  have hl1 : (cs[i]).length ≤ 1000 := h.hc _ (List.getElem_mem hi)
  have hC := fun (A : Option Addr) (c : Nat) (W : World) (hR : RL W A cs[i]) => Clone_s A c cs[i] W hR (by omega)
  obtain ⟨l, hl⟩ : ∃ l, cs[i] = l := ⟨_, rfl⟩
  obtain ⟨nc, hnc⟩ : ∃ nc, cs.length = nc := ⟨_, rfl⟩
  rw [hl] at hS hC ⊢
  rw [hnc] at hL hi
  have d1 : decide ((i : Int) < 0) = false := by simp
  have d2 : decide ((nc : Int) ≤ (i : Int)) = false := by rw [decide_eq_false_iff_not]; omega
  replace hL := Lib.hid hL
  replace hS := Lib.hid hS
  replace hC := Lib.hid hC
  clear h hl hnc hl1
  go_enter Tryd.func16, Tryd.ntmps16
  go_wp2_with fail
  (with_reducible refine hL.out.mono ?_)
  rintro e w1 ⟨rfl, rfl⟩
  go_wp2_with fail
  (with_reducible refine hS.out.mono ?_)
  rintro e w2 ⟨A, c, rfl, hR, hb2, _⟩
  go_wp2_with fail
  (with_reducible refine (hC.out _ _ _ hR).mono ?_)
  rintro e w3 ⟨v, rfl, ho, hb3⟩
  go_wp2_with fail
  go_ret
  exact ⟨v, rfl, own_mono ho hb2.size, below_call hb3 hb2 hb2.size⟩
set_option maxRecDepth 100000 in
theorem Clause_neg (h : CF base w p V cs vl ve) (i : Int) (hi : i < 0) : Calls Tryd.prog 16 #[pv p, .int .i64 i] w fun e w' => e = .returned (.slice none 0 0) ∧ w = w' := by
  clear h
  have d1 : decide (i < 0) = true := by simpa using hi
  go_enter Tryd.func16, Tryd.ntmps16
  go_wp2_with fail
  go_ret
  exact ⟨rfl, rfl⟩
set_option maxRecDepth 100000 in
theorem Clause_over (h : CF base w p V cs vl ve) (i : Nat) (hi : cs.length ≤ i) : Calls Tryd.prog 16 #[pv p, .int .i64 (i : Int)] w fun e w' => e = .returned (.slice none 0 0) ∧ w = w' := by
  have hL := Len_t h
  obtain ⟨nc, hnc⟩ : ∃ nc, cs.length = nc := ⟨_, rfl⟩
  rw [hnc] at hL hi
  have d1 : decide ((i : Int) < 0) = false := by simp
  have d2 : decide ((nc : Int) ≤ (i : Int)) = true := by rw [decide_eq_true_iff]; omega
  replace hL := Lib.hid hL
  clear h hnc
  go_enter Tryd.func16, Tryd.ntmps16
  go_wp2_with fail
  (with_reducible refine hL.out.mono ?_)
  rintro e w1 ⟨rfl, rfl⟩
  go_wp2_with fail
  go_ret
  exact ⟨rfl, rfl⟩
end
set_option maxRecDepth 100000 in
set_option maxHeartbeats 800000 in
theorem isTrue_t (m : List Bool) (x : Int) (g c : Nat) (A : Option Addr) (hx : x ≠ 0 ∧ -60000 ≤ x ∧ x ≤ 60000) (w : World) (hc : w.cell? ⟨g, 0, none⟩ = some (.slice A m.length c)) (hA : RBo w A m) :
    Calls Tryd.prog 22 #[.int .i64 x, .pointer (some ⟨g, 0, none⟩)] w (RV w (.bool (litB m x))) := by
  have hv := variable_t x w
  rw [va_dom hx.2] at hv
  unfold litB
  obtain ⟨k, hk⟩ : ∃ k : Nat, max x (-x) = (k : Int) + 1 := ⟨((max x (-x)) - 1).toNat, by omega⟩
  have hk2 : (max x (-x)).toNat - 1 = k := by omega
  have hk3 : k ≤ 60000 := by omega
  rw [hk] at hv
  rw [hk2]
  obtain ⟨n, hn⟩ : ∃ n, m.length = n := ⟨_, rfl⟩
  obtain ⟨S, hS⟩ : ∃ S, decide (0 < x) = S := ⟨_, rfl⟩
  rw [hS]
  have hk4 : (k : Int) + 1 - 1 = (k : Int) := by omega
  rw [hn] at hc
  replace hv := Lib.hid hv
  by_cases hlt : k < n
  · obtain ⟨b, off, rfl, hb, hcell⟩ := hA (by omega)
    have c1 := hcell k (by omega)
    obtain ⟨y, hy⟩ : ∃ y, m.getD k false = y := ⟨_, rfl⟩
    rw [hy] at c1 ⊢
    have d1 : (k : Int) + 1 ≤ (n : Int) := by omega
    have d2 : decide ((k : Int) + 1 ≤ (n : Int)) = true := by rw [decide_eq_true_iff]; omega
    clear hcell hA hk hk2 hn hx hy
    go_enter Tryd.func22, Tryd.ntmps22
    go_wp2_with fail
    (with_reducible refine hv.out.mono ?_)
    rintro e w1 ⟨rfl, hw1⟩
    have hw1 := hw1.symm
    subst hw1
    go_wp2_with fail
    go_ret
    exact ⟨by cases y <;> cases S <;> simp_all, Below.refl _ _⟩
  · have hg : m.getD k false = false := by rw [List.getD_eq_getElem?_getD, List.getElem?_eq_none (by omega)]; rfl
    rw [hg]
    have d1 : ¬ (k : Int) + 1 ≤ (n : Int) := by omega
    have d2 : decide ((k : Int) + 1 ≤ (n : Int)) = false := by rw [decide_eq_false_iff_not]; omega
    clear hA hk hk2 hn hx hg
    go_enter Tryd.func22, Tryd.ntmps22
    go_wp2_with fail
    (with_reducible refine hv.out.mono ?_)
    rintro e w1 ⟨rfl, hw1⟩
    have hw1 := hw1.symm
    subst hw1
    go_wp2_with fail
    go_ret
    exact ⟨by cases S <;> simp_all, Below.refl _ _⟩
end Go.Proofs.YtgnmehkklmklnaaDoor
