/-
  The walks of the smallest functions of src: the test on a rune, cmp's Compare and Or, Less and the statements' own order; what each call returns and what it does to memory.
-/
import Derived.Test.YtegoldihcchfdaaProg
import Derived.WalkKit
import Derived.WalkSpells
import Derived.WalkLawsBesides
import Derived.StillTailTactics
import Derived.BigQuiet
import Derived.Deep.QuietTactic
import Derived.Lib.Hide
import Derived.Handy
import Derived.Below
namespace Go.Proofs.Ytegoldihcchfdaa
open Go.RowKit

/-- What a call that returns v and touches nothing that was there leaves. -/
def RV (w : World) (v : Value) (e : Ending) (w' : World) : Prop := e = .returned v ∧ Below w.heap.size w w'
theorem below_call {w W w1 : World} (h : Below W.heap.size W w1) (h0 : Below w.heap.size w W) : Below w.heap.size w w1 := h0.trans (h.mono h0.size)
theorem bcell {W w1 : World} (hb : Below W.heap.size W w1) : (∀ b o, b < W.heap.size → w1.cell? ⟨b, o, none⟩ = W.cell? ⟨b, o, none⟩) ∧ (∀ b o, b < W.heap.size → w1.frozen? ⟨b, o, none⟩ = W.frozen? ⟨b, o, none⟩) :=
  ⟨fun b o h => hb.cell (p := ⟨b, o, none⟩) h, fun b o h => hb.frozen (p := ⟨b, o, none⟩) h⟩

/-- May this byte or rune not stand in a name? -/
def forB (r : Nat) : Bool := !((decide (97 ≤ r) && decide (r ≤ 122)) || (decide (65 ≤ r) && decide (r ≤ 90)) || (decide (48 ≤ r) && decide (r ≤ 57)) || r == 95 || r == 45 || r == 46)
theorem forB_no {r : Nat} (h : (97 ≤ r ∧ r ≤ 122) ∨ (65 ≤ r ∧ r ≤ 90) ∨ (48 ≤ r ∧ r ≤ 57) ∨ r = 95 ∨ r = 45 ∨ r = 46) : forB r = false := by
  unfold forB; simp; omega
theorem forB_yes {r : Nat} (h : ¬ ((97 ≤ r ∧ r ≤ 122) ∨ (65 ≤ r ∧ r ≤ 90) ∨ (48 ≤ r ∧ r ≤ 57) ∨ r = 95 ∨ r = 45 ∨ r = 46)) : forB r = true := by
  unfold forB; simp; omega
theorem ret_bool {a b : Bool} (h : a = b) : Ending.returned (.bool a) = Ending.returned (.bool b) := by rw [h]
theorem beq_no {r : Nat} {k : Nat} (h : r ≠ k) : ((r : Int) == (k : Int)) = false ∧ ((r : Int) != (k : Int)) = true := by
  constructor <;> simp <;> omega

set_option maxHeartbeats 800000 in
theorem foreign_t (r : Nat) (w : World) :
    Calls Try.prog 40 #[.int .i32 (r : Int)] w fun e w' => e = .returned (.bool (forB r)) ∧ w = w' := by
  have hc : (97 ≤ r ∧ r ≤ 122) ∨ (65 ≤ r ∧ r ≤ 90) ∨ (48 ≤ r ∧ r ≤ 57) ∨ r = 95 ∨ r = 45 ∨ r = 46 ∨ 122 < r ∨ (r < 97 ∧ 90 < r ∧ r ≠ 95) ∨ (r < 65 ∧ 57 < r) ∨ (r < 48 ∧ r ≠ 45 ∧ r ≠ 46) := by omega
  rcases hc with ⟨h1, h2⟩ | ⟨h1, h2⟩ | ⟨h1, h2⟩ | rfl | rfl | rfl | h1 | ⟨h1, h2, h3⟩ | ⟨h1, h2⟩ | ⟨h1, h2, h3⟩
  · have e := Lib.hid (forB_no (r := r) (by omega))
    go_enter Try.func40, Try.ntmps40
    go_wp2
    go_ret
    exact ⟨by rw [e.out]; rfl, rfl⟩
  · have e := Lib.hid (forB_no (r := r) (by omega))
    go_enter Try.func40, Try.ntmps40
    go_wp2
    go_ret
    exact ⟨by rw [e.out]; rfl, rfl⟩
  · have e := Lib.hid (forB_no (r := r) (by omega))
    go_enter Try.func40, Try.ntmps40
    go_wp2
    go_ret
    exact ⟨by rw [e.out]; rfl, rfl⟩
  · go_enter Try.func40, Try.ntmps40
    go_wp2
    go_ret
    exact ⟨rfl, rfl⟩
  · go_enter Try.func40, Try.ntmps40
    go_wp2
    go_ret
    exact ⟨rfl, rfl⟩
  · go_enter Try.func40, Try.ntmps40
    go_wp2
    go_ret
    exact ⟨rfl, rfl⟩
  all_goals
    have e := Lib.hid (forB_yes (r := r) (by omega))
    obtain ⟨n1, m1⟩ := beq_no (r := r) (k := 95) (by omega)
    obtain ⟨n2, m2⟩ := beq_no (r := r) (k := 45) (by omega)
    obtain ⟨n3, m3⟩ := beq_no (r := r) (k := 46) (by omega)
    go_enter Try.func40, Try.ntmps40
    go_wp2
    go_ret
    exact ⟨by rw [e.out]; exact ret_bool (by simp; omega), rfl⟩

/-- cmp.Compare. -/
def cmpI (a b : Int) : Int := if a < b then -1 else if b < a then 1 else 0
set_option maxHeartbeats 400000 in
theorem nan_t (a : Int) (w : World) : Calls Try.prog 39 #[.int .i64 a] w fun e w' => e = .returned (.bool false) ∧ w' = w := by
  go_enter Try.func39, Try.ntmps39
  go_wp2
  go_ret
  exact ⟨by simp, rfl⟩
set_option maxHeartbeats 400000 in
theorem compare_t (a b : Int) (w : World) : Calls Try.prog 32 #[.int .i64 a, .int .i64 b] w fun e w' => e = .returned (.int .i64 (cmpI a b)) ∧ w' = w := by
  have hc : a < b ∨ b < a ∨ a = b := by omega
  rcases hc with h | h | h
  · have e := Lib.hid (show cmpI a b = -1 from if_pos h)
    go_enter Try.func32, Try.ntmps32
    go_wp2_with (go_at_call 39; (with_reducible refine (nan_t _ _).mono ?_); rintro e w' ⟨rfl, rfl⟩)
    go_ret
    exact ⟨by rw [e.out]; rfl, rfl⟩
  · have e := Lib.hid (show cmpI a b = 1 from by unfold cmpI; rw [if_neg (by omega), if_pos h])
    have n : ¬ a < b := by omega
    go_enter Try.func32, Try.ntmps32
    go_wp2_with (go_at_call 39; (with_reducible refine (nan_t _ _).mono ?_); rintro e w' ⟨rfl, rfl⟩)
    go_ret
    exact ⟨by rw [e.out]; rfl, rfl⟩
  · subst h
    have e := Lib.hid (show cmpI a a = 0 from by unfold cmpI; rw [if_neg (by omega), if_neg (by omega)])
    go_enter Try.func32, Try.ntmps32
    go_wp2_with (go_at_call 39; (with_reducible refine (nan_t _ _).mono ?_); rintro e w' ⟨rfl, rfl⟩)
    go_ret
    exact ⟨by rw [e.out]; rfl, rfl⟩
end Go.Proofs.Ytegoldihcchfdaa
