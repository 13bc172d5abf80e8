/-
  Is; the graph's values; the fixed fact.
-/
import Derived.Test.YtinfkjflomdhbaaGm
namespace Go.Proofs.Ytinfkjflomdhbaa
open Go.RowKit Go.Lib Go.Maps
/-- A slice of bools reads as l. -/
def BL (w : World) (A : Option Addr) (l : List Bool) : Prop := 0 < l.length → ∃ b o : Nat, A = some ⟨b, o, none⟩ ∧ b < w.heap.size ∧ ∀ j, j < l.length → w.cell? ⟨b, o + j, none⟩ = some (.bool (l.getD j false))
theorem BL.over {w w' : World} {A : Option Addr} {l : List Bool} (h : BL w A l) (k : Below w.heap.size w w') : BL w' A l := fun h0 => by
  obtain ⟨b, off, e, hb, hc⟩ := h h0
  exact ⟨b, off, e, Nat.lt_of_lt_of_le hb k.size, fun j hj => (k.cell (p := ⟨b, off + j, none⟩) hb).trans (hc j hj)⟩
def dnq (w : World) (v : Value) (e : Ending) (w' : World) : Prop := e = .returned v ∧ ∃ q, w' = w.drewN q
set_option maxRecDepth 100000 in
theorem Is_t (A : Option Addr) (c : Nat) (l : List Bool) (a : Nat) (w : World) (hA : BL w A l) (hn : l.length ≤ 1000000) (ha : a < 1000000) :
    Calls Try.prog 13 #[.slice A l.length c, .int .i64 (a : Int)] w (dnq w (.bool (isV l a))) := by
  have hd := fun W => node_t a W (by omega)
  have hq := fun W => isNeg_t a W ha
  unfold RW at hd hq
  have d0 : decide ((a : Int) < 0) = false := by simp
  have g0 : ¬ (a : Int) < 0 := by omega
  unfold isV
  obtain ⟨r, hr⟩ : ∃ r, a / 2 = r := ⟨_, rfl⟩
  obtain ⟨ng, hng⟩ : ∃ ng, (a % 2 == 1) = ng := ⟨_, rfl⟩
  rw [hr] at hd ⊢
  rw [hng] at hq ⊢
  obtain ⟨n, hnn⟩ : ∃ n, l.length = n := ⟨_, rfl⟩
  by_cases h : r < l.length
  · rw [if_pos h]
    obtain ⟨b, o, rfl, hb, hc⟩ := hA (by omega)
    have c0 := hc r h
    obtain ⟨x, hx⟩ : ∃ x, l.getD r false = x := ⟨_, rfl⟩
    rw [hx] at c0 ⊢
    rw [hnn] at h hn ⊢
    have d1 : decide ((n : Int) ≤ (r : Int)) = false := by simp; omega
    replace hd := Lib.hid hd
    replace hq := Lib.hid hq
    clear hA hc hx hr hng hnn hn
    go_enter Try.func13, Try.ntmps13
    go_wp2_with fail
    (with_reducible refine (hd.out _).mono ?_)
    rintro e w1 ⟨rfl, hw1⟩
    subst hw1
    go_wp2_with fail
    go_quiet ((first | (go_at_call 27; (with_reducible refine (hd.out _).mono ?_); exact (fun e w1 ⟨he, hw1⟩ => ⟨he, _, hw1.symm⟩)) | (go_at_call 28; (with_reducible refine (hq.out _).mono ?_); exact (fun e w1 ⟨he, hw1⟩ => ⟨he, _, hw1.symm⟩))))
    go_wp2_with fail
    go_ret
    exact ⟨rfl, _, rfl⟩
  · rw [if_neg h]
    rw [hnn] at h hn ⊢
    have d1 : decide ((n : Int) ≤ (r : Int)) = true := by simp; omega
    replace hd := Lib.hid hd
    clear hA hr hng hnn hn hq
    go_enter Try.func13, Try.ntmps13
    go_wp2_with fail
    (with_reducible refine (hd.out _).mono ?_)
    rintro e w1 ⟨rfl, hw1⟩
    subst hw1
    go_wp2_with fail
    go_ret
    exact ⟨rfl, 0, rfl⟩
set_option maxRecDepth 100000 in
theorem Is_neg (A : Option Addr) (n c : Nat) (w : World) : Calls Try.prog 13 #[.slice A n c, .int .i64 (-1)] w (dnq w (.bool false)) := by
  go_enter Try.func13, Try.ntmps13
  go_wp2_with fail
  go_ret
  exact ⟨rfl, 0, rfl⟩
end Go.Proofs.Ytinfkjflomdhbaa
