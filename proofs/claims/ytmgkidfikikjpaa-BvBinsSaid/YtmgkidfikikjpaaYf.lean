/-
  The walk of bv's Of where it refuses; the six numbers of BvMakes; what the walk of BvMakes asks of New and Of, for every input.
-/
import Derived.Test.YtmgkidfikikjpaaYe
import Derived.Test.YtmgkidfikikjpaaWx
namespace Go.Proofs.Ytmgkidfikikjpaa
open Go.RowKit
set_option maxHeartbeats 400000 in
theorem Of_bad (n c : Nat) (A : Option Addr) (w : World) (h : n < 1 ∨ 128 < n) :
    Calls Try.prog 25 #[.slice A n c] w (RV w (.tuple #[vv 0 0, .int .i64 2])) := by
  have hF := fun w => fits_t (n : Int) w
  have e : fitsB (n : Int) = false := by unfold fitsB; simp; omega
  rw [e] at hF
  clear e h
  replace hF := Lib.hid hF
  go_enter Try.func25, Try.ntmps25
  go_wp2_with (go_at_call 55; (with_reducible refine (hF.out _).mono ?_); rintro e w0 ⟨rfl, rfl⟩)
  refine bodyPost_ret (v := .tuple #[.agg #[.int .i64 0, .int .u64 0, .int .u64 0], .int .i64 2]) (by simp [results, Try.results25, go_sem]) rfl ⟨rfl, ?_⟩
  go_grown
def cstN : Nat → Nat
  | 0 => 0 | 1 => 0 | 2 => 1 | 3 => 7 | 4 => 1000 | _ => 4611686018427387904
def cst (j : Nat) : Int := if j = 0 then -1 else (cstN j : Int)
theorem cstN_lt (j : Nat) : cstN j < 2 ^ 63 := by unfold cstN; split <;> decide
theorem Num_c (n x j : Nat) (w : World) : Calls Try.prog 29 #[vv n x, .int .i64 (cst j)] w (RV w (.int .i64 ((min x (cstN j) : Nat) : Int))) := by
  by_cases hj : j = 0
  · subst hj
    have h := Num_neg n x w
    have e : min x (cstN 0) = 0 := Nat.min_zero x
    rw [e]
    exact h
  · have h := Num_v n x (cstN j) w (cstN_lt j)
    unfold cst
    rw [if_neg hj]
    exact h
theorem refNum_c (n c j : Nat) (A : Option Addr) (f : Nat → Bool) (w : World) (hn : n ≤ 128) (hA : RB w A n f) :
    Calls Try.prog 32 #[.slice A n c, .int .i64 (cst j)] w fun e w' => e = .returned (.int .i64 ((min (valB f n) (cstN j) : Nat) : Int)) ∧ w' = w := by
  by_cases hj : j = 0
  · subst hj
    have h := refNum_neg n c A f w hn hA
    have e : min (valB f n) (cstN 0) = 0 := Nat.min_zero _
    rw [e]
    exact h
  · have h := refNum_nat n c (cstN j) (cstN_lt j) A f w hn hA
    unfold cst
    rw [if_neg hj]
    exact h
theorem RU_words {w : World} {g n x : Nat} (h : w.rowIs g 25 n (wcell x)) : RU w (some ⟨g, 0, none⟩) n (wordN x) := fun _ => ⟨⟨g, 0, none⟩, rfl, World.rowIs.lt h, fun j hj => by
  have e : (⟨g, 0, none⟩ : Addr).add j = ⟨g, j, none⟩ := by unfold Addr.add; split <;> simp_all
  rw [e]
  exact World.rowIs.cell h hj⟩
theorem trim_words (n x : Nat) (hn : n ≤ 128) (hx : x < 2 ^ n) : trimN n (wd (wordN x) (wN n) 0) (wd (wordN x) (wN n) 1) = x := by
  unfold trimN
  by_cases h : 64 < n
  · have e : wN n = 2 := by unfold wN; omega
    rw [e]
    have : wd (wordN x) 2 0 + 2 ^ 64 * wd (wordN x) 2 1 = x := by unfold wd wordN; simp; exact lo_hi x
    rw [this, Nat.mod_eq_of_lt hx]
  · have hx64 : x < 2 ^ 64 := Nat.lt_of_lt_of_le hx (Nat.pow_le_pow_right (by decide) (by omega))
    by_cases h0 : n = 0
    · subst h0
      have : x = 0 := by simpa using hx
      subst this
      simp [Nat.mod_one]
    · have e : wN n = 1 := by unfold wN; omega
      rw [e]
      have : wd (wordN x) 1 0 + 2 ^ 64 * wd (wordN x) 1 1 = x := by unfold wd wordN; simp; unfold lo; exact Nat.mod_eq_of_lt hx64
      rw [this, Nat.mod_eq_of_lt hx]
end Go.Proofs.Ytmgkidfikikjpaa
