/-
  Plain arithmetic of bit vectors held in two words of 64 bits; nothing here speaks of the program.
-/
import Derived.WalkKit
import Derived.Laws.BitsAllLaws
import Derived.Laws.Bits64b
import Derived.Laws.Bits64
namespace Go.Proofs.YtbmdnmjgijblpaaDoor
open Go

def lo (n : Nat) : Nat := n % 2 ^ 64
def hi (n : Nat) : Nat := n / 2 ^ 64
/-- The value of type Vec that holds the number n < 2^w in w bits. -/
abbrev vv (w n : Nat) : Value := .agg #[.int .i64 (w : Int), .int .u64 ((lo n : Nat) : Int), .int .u64 ((hi n : Nat) : Int)]
theorem lo_lt (n : Nat) : lo n < 2 ^ 64 := Nat.mod_lt _ (by decide)
theorem hi_lt {n w : Nat} (h : n < 2 ^ w) (hw : w ≤ 128) : hi n < 2 ^ 64 := by
  unfold hi
  rw [Nat.div_lt_iff_lt_mul (by decide)]
  exact Nat.lt_of_lt_of_le h (by rw [← Nat.pow_add]; exact Nat.pow_le_pow_right (by decide) hw)
theorem lo_hi (n : Nat) : lo n + 2 ^ 64 * hi n = n := Nat.mod_add_div n _
def mask (k : Int) : Nat := 2 ^ min k.toNat 64 - 1
theorem mask_lt (k : Int) : mask k < 2 ^ 64 := by
  unfold mask
  have : 2 ^ min k.toNat 64 ≤ 2 ^ 64 := Nat.pow_le_pow_right (by decide) (Nat.min_le_right _ _)
  have h2 : 0 < 2 ^ min k.toNat 64 := Nat.pow_pos (by decide)
  omega
theorem wrap_mask (k : Int) : IntKind.u64.wrap (IntKind.u64.wrap (2 ^ min k.toNat 64) - 1) = ((mask k : Nat) : Int) := by
  have e : ((2 : Int) ^ min k.toNat 64) = ((2 ^ min k.toNat 64 : Nat) : Int) := by simp
  rw [e, IntKind.wrap_u64, IntKind.wrap_u64]
  unfold mask
  have h2 : 0 < 2 ^ min k.toNat 64 := Nat.pow_pos (by decide)
  have h1 : 2 ^ min k.toNat 64 ≤ 2 ^ 64 := Nat.pow_le_pow_right (by decide) (Nat.min_le_right _ _)
  generalize 2 ^ min k.toNat 64 = x at *
  omega
theorem mask_neg (k : Int) (h : k < 0) : mask k = 0 := by
  unfold mask
  rw [show k.toNat = 0 from by omega]; rfl
def trimN (w x0 x1 : Nat) : Nat := (x0 + 2 ^ 64 * x1) % 2 ^ w
theorem and_mask (x : Nat) (k : Int) : x &&& mask k = x % 2 ^ min k.toNat 64 := by
  unfold mask; exact Nat.and_two_pow_sub_one_eq_mod _ _
theorem lo_trim (w x0 x1 : Nat) : lo (trimN w x0 x1) = x0 &&& mask (w : Int) := by
  rw [and_mask]
  unfold lo trimN
  simp only [Int.toNat_natCast]
  by_cases h : w ≤ 64
  · rw [Nat.min_eq_left h, Nat.mod_eq_of_lt (a := (x0 + 2 ^ 64 * x1) % 2 ^ w) (Nat.lt_of_lt_of_le (Nat.mod_lt _ (Nat.pow_pos (by decide))) (Nat.pow_le_pow_right (by decide) h))]
    obtain ⟨d, hd⟩ := Nat.le.dest h
    rw [← hd, Nat.pow_add, Nat.mul_assoc, Nat.add_mul_mod_self_left]
  · rw [Nat.min_eq_right (by omega), Nat.mod_mod_of_dvd _ (Nat.pow_dvd_pow 2 (by omega)), Nat.add_mul_mod_self_left]
theorem hi_trim (w x0 x1 : Nat) (h0 : x0 < 2 ^ 64) (hw : w ≤ 128) : hi (trimN w x0 x1) = x1 &&& mask ((w : Int) - 64) := by
  rw [and_mask]
  unfold hi trimN
  by_cases h : w ≤ 64
  · rw [show ((w : Int) - 64).toNat = 0 from by omega, Nat.zero_min, Nat.pow_zero, Nat.mod_one]
    exact Nat.div_eq_of_lt (Nat.lt_of_lt_of_le (Nat.mod_lt _ (Nat.pow_pos (by decide))) (Nat.pow_le_pow_right (by decide) h))
  · obtain ⟨k, rfl⟩ : ∃ k, w = 64 + k := ⟨w - 64, by omega⟩
    rw [show (((64 + k : Nat) : Int) - 64).toNat = k from by omega, Nat.min_eq_left (by omega), Nat.pow_add, Nat.mod_mul, Nat.add_mul_mod_self_left,
      Nat.mod_eq_of_lt h0, Nat.add_mul_div_left _ _ (by decide), Nat.add_mul_div_left _ _ (by decide), Nat.div_eq_of_lt h0, Nat.zero_add, Nat.zero_add]
theorem bits_and_mask (x : Nat) (k : Int) (h : x < 2 ^ 64) : bits .and .u64 (x : Int) ((mask k : Nat) : Int) = ((x &&& mask k : Nat) : Int) :=
  bits_and_u64_nat x (mask k) h (mask_lt k)
theorem bits_and_one (x : Nat) (h : x < 2 ^ 64) : bits .and .u64 (x : Int) 1 = ((x % 2 : Nat) : Int) := by
  have := u64_and_nat x 1 h (by decide)
  rw [Nat.and_one_is_mod] at this
  exact this
theorem testBit_word (x i : Nat) (h : x < 2 ^ 64) : (bits .and .u64 ((x : Int) / 2 ^ i) 1 == 1) = x.testBit i := by
  have e : ((x : Int) / 2 ^ i) = ((x / 2 ^ i : Nat) : Int) := by simp
  rw [e, bits_and_one _ (Nat.lt_of_le_of_lt (Nat.div_le_self _ _) h), Nat.testBit_eq_decide_div_mod_eq, Bool.eq_iff_iff]
  simp; omega
theorem testBit_lo (n i : Nat) (h : i < 64) : (lo n).testBit i = n.testBit i := by
  unfold lo; rw [Nat.testBit_mod_two_pow]; simp [h]
theorem testBit_hi (n i : Nat) : (hi n).testBit i = n.testBit (64 + i) := by
  unfold hi; rw [Nat.testBit_div_two_pow, Nat.add_comm]
/-- Bit i of the number x held in w bits; none beyond. -/
def bitI (w x : Nat) (i : Int) : Bool := decide (0 ≤ i ∧ i < w) && x.testBit i.toNat
theorem vv_inj (w n w' n' : Nat) : ((w : Int) == w' && ((lo n : Nat) : Int) == lo n' && ((hi n : Nat) : Int) == hi n') = (w == w' && n == n') := by
  rw [Bool.eq_iff_iff]
  simp only [Bool.and_eq_true, beq_iff_eq]
  constructor
  · rintro ⟨⟨a, b⟩, c⟩
    have hb : lo n = lo n' := by omega
    have hc : hi n = hi n' := by omega
    refine ⟨by omega, ?_⟩
    rw [← lo_hi n, ← lo_hi n', hb, hc]
  · rintro ⟨rfl, rfl⟩
    simp
end Go.Proofs.YtbmdnmjgijblpaaDoor
