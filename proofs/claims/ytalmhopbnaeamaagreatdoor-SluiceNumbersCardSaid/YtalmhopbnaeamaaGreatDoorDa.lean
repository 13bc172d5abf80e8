/-
  bv's Put, wherever the bits go; the facts on numbers that BvSplits asks.
-/
import Derived.Test.YtalmhopbnaeamaaGreatDoorWz
import Derived.Test.YtalmhopbnaeamaaGreatDoorWo
namespace Go.Proofs.YtalmhopbnaeamaaGreatDoor
open Go.RowKit
theorem resized_n (n m x : Nat) (w : World) (hn : n ≤ 128) (hm : m ≤ 128) (hx : x < 2 ^ n) :
    Calls Tryz.prog 48 #[vv n x, .int .i64 (m : Int)] w (RV w (vv m (x % 2 ^ m))) := by
  have h := resized_w n m (lo x) (hi x) w hm (lo_lt _) (hi_lt hx hn)
  have e : trimN m (lo x) (hi x) = x % 2 ^ m := by unfold trimN; rw [lo_hi]
  rw [e] at h
  exact h
/-- The number with the bits of another one from bit l on. -/
def putN (n x l m y : Nat) : Nat := (x &&& (2 ^ 128 - 1 - ((2 ^ m - 1) * 2 ^ l % 2 ^ n))) ||| (y * 2 ^ l % 2 ^ n)
theorem put_split (n k x : Nat) (hk : k ≤ n) (hn : n ≤ 128) (hx : x < 2 ^ n) : putN n x k (n - k) (x / 2 ^ k) = x := by
  unfold putN
  have e : 2 ^ (n - k) * 2 ^ k = 2 ^ n := by rw [← Nat.pow_add]; congr 1; omega
  have hp : 0 < 2 ^ k := Nat.pow_pos (by decide)
  have hH : (2 ^ (n - k) - 1) * 2 ^ k < 2 ^ n := by
    rw [Nat.sub_mul, e, Nat.one_mul]
    have : 0 < 2 ^ n := Nat.pow_pos (by decide)
    omega
  have hm : x / 2 ^ k * 2 ^ k < 2 ^ n := Nat.lt_of_le_of_lt (Nat.div_mul_le_self _ _) hx
  have h128 : (2 ^ (n - k) - 1) * 2 ^ k < 2 ^ 128 := Nat.lt_of_lt_of_le hH (Nat.pow_le_pow_right (by decide) hn)
  rw [Nat.mod_eq_of_lt hH, Nat.mod_eq_of_lt hm, Nat.sub_sub, Nat.add_comm 1]
  refine Nat.eq_of_testBit_eq fun i => ?_
  rw [Nat.testBit_or, Nat.testBit_and, Nat.testBit_two_pow_sub_succ h128, ← Nat.shiftLeft_eq, ← Nat.shiftLeft_eq, Nat.testBit_shiftLeft, Nat.testBit_shiftLeft, Nat.testBit_two_pow_sub_one, Nat.testBit_div_two_pow]
  by_cases h : k ≤ i
  · rw [show i - k + k = i by omega]
    by_cases hb : x.testBit i = true
    · have hin : i < n := by
        rcases Nat.lt_or_ge i n with h2 | h2
        · exact h2
        · have := Nat.testBit_lt_two_pow (Nat.lt_of_lt_of_le hx (Nat.pow_le_pow_right (show 0 < 2 by decide) h2))
          rw [hb] at this; cases this
      simp [h, hb]
    · simp at hb; simp [h, hb]
  · by_cases hb : x.testBit i = true
    · have hin : i < 128 := by omega
      simp [h, hb, hin]
    · simp at hb; simp [h, hb]
theorem cat_split (n k x : Nat) (hk : k ≤ n) (hx : x < 2 ^ n) : (x / 2 ^ k * 2 ^ k) ||| (x % 2 ^ k) = x := by
  refine Nat.eq_of_testBit_eq fun i => ?_
  rw [Nat.testBit_or, ← Nat.shiftLeft_eq, Nat.testBit_shiftLeft, Nat.testBit_div_two_pow, Nat.testBit_mod_two_pow]
  by_cases h : k ≤ i
  · rw [show i - k + k = i by omega]; simp [h]
  · simp [h]; intro _; omega
end Go.Proofs.YtalmhopbnaeamaaGreatDoor
