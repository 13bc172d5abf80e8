/-
  Plain arithmetic of bit vectors held in two words of 64 bits; nothing here speaks of the program.
  Plain arithmetic of sums, differences, products, shifts and comparisons of numbers held in two words; nothing here speaks of the program.
  Plain arithmetic of shifts and comparisons of numbers held in two words; nothing here speaks of the program.
  Plain arithmetic of long division; and words for memory: a block that is known whole.
  Plain arithmetic of the ring laws and of division with and without signs; nothing here speaks of the program.
-/
import Derived.WalkKit
import Derived.Laws.BitsAllLaws
import Derived.Laws.Bits64b
import Derived.Laws.Bits64
import Derived.Laws.MathBits
import Derived.Laws.Externs
import Derived.Below
import Derived.Laws.OwnMore
import Derived.Deep.Draws
import Derived.Laws.Rows
import Derived.Deep.OwnRows
namespace Go.Proofs.YtdjaikglkgabdaaGreatDoor
open Go

def lo (n : Nat) : Nat := n % 2 ^ 64
def hi (n : Nat) : Nat := n / 2 ^ 64
/-- The value of type Vec that holds the number n < 2^w in w bits. -/
abbrev vv (w n : Nat) : Value := .agg #[.int .i64 (w : Int), .int .u64 ((lo n : Nat) : Int), .int .u64 ((hi n : Nat) : Int)]

theorem lo_lt (n : Nat) : lo n < 2 ^ 64 := Nat.mod_lt _ (by decide)
theorem hi_lt {n w : Nat} (h : n < 2 ^ w) (hw : w ≤ 128) : hi n < 2 ^ 64 := by
  unfold hi
  rw [Nat.div_lt_iff_lt_mul (by decide)]
  exact Nat.lt_of_lt_of_le h (by rw [← Nat.pow_add]; exact Nat.pow_le_pow_right (by decide) hw)
theorem lo_hi (n : Nat) : lo n + 2 ^ 64 * hi n = n := Nat.mod_add_div n _
theorem lo_of (x0 x1 : Nat) (h : x0 < 2 ^ 64) : lo (x0 + 2 ^ 64 * x1) = x0 := by
  unfold lo; rw [Nat.add_mul_mod_self_left, Nat.mod_eq_of_lt h]
theorem hi_of (x0 x1 : Nat) (h : x0 < 2 ^ 64) : hi (x0 + 2 ^ 64 * x1) = x1 := by
  unfold hi; rw [Nat.add_mul_div_left _ _ (by decide), Nat.div_eq_of_lt h, Nat.zero_add]

def mask (k : Int) : Nat := 2 ^ min k.toNat 64 - 1
theorem mask_lt (k : Int) : mask k < 2 ^ 64 := by
  unfold mask
  have : 2 ^ min k.toNat 64 ≤ 2 ^ 64 := Nat.pow_le_pow_right (by decide) (Nat.min_le_right _ _)
  have h2 : 0 < 2 ^ min k.toNat 64 := Nat.pow_pos (by decide)
  omega
theorem wrap_mask (k : Int) : IntKind.u64.wrap (IntKind.u64.wrap (2 ^ min k.toNat 64) - 1) = ((mask k : Nat) : Int) := by
  have e : ((2 : Int) ^ min k.toNat 64) = ((2 ^ min k.toNat 64 : Nat) : Int) := by simp
  rw [e, IntKind.wrap_u64, IntKind.wrap_u64]
  unfold mask
  have h2 : 0 < 2 ^ min k.toNat 64 := Nat.pow_pos (by decide)
  have h1 : 2 ^ min k.toNat 64 ≤ 2 ^ 64 := Nat.pow_le_pow_right (by decide) (Nat.min_le_right _ _)
  generalize 2 ^ min k.toNat 64 = x at *
  omega
theorem mask_neg (k : Int) (h : k < 0) : mask k = 0 := by
  unfold mask
  rw [show k.toNat = 0 from by omega]; rfl

def trimN (w x0 x1 : Nat) : Nat := (x0 + 2 ^ 64 * x1) % 2 ^ w
theorem trimN_lt (w x0 x1 : Nat) : trimN w x0 x1 < 2 ^ w := Nat.mod_lt _ (Nat.pow_pos (by decide))
theorem and_mask (x : Nat) (k : Int) : x &&& mask k = x % 2 ^ min k.toNat 64 := by
  unfold mask; exact Nat.and_two_pow_sub_one_eq_mod _ _
theorem lo_trim (w x0 x1 : Nat) : lo (trimN w x0 x1) = x0 &&& mask (w : Int) := by
  rw [and_mask]
  unfold lo trimN
  simp only [Int.toNat_natCast]
  by_cases h : w ≤ 64
  · rw [Nat.min_eq_left h, Nat.mod_eq_of_lt (a := (x0 + 2 ^ 64 * x1) % 2 ^ w) (Nat.lt_of_lt_of_le (Nat.mod_lt _ (Nat.pow_pos (by decide))) (Nat.pow_le_pow_right (by decide) h))]
    obtain ⟨d, hd⟩ := Nat.le.dest h
    rw [← hd, Nat.pow_add, Nat.mul_assoc, Nat.add_mul_mod_self_left]
  · rw [Nat.min_eq_right (by omega), Nat.mod_mod_of_dvd _ (Nat.pow_dvd_pow 2 (by omega)), Nat.add_mul_mod_self_left]
theorem hi_trim (w x0 x1 : Nat) (h0 : x0 < 2 ^ 64) (hw : w ≤ 128) : hi (trimN w x0 x1) = x1 &&& mask ((w : Int) - 64) := by
  rw [and_mask]
  unfold hi trimN
  by_cases h : w ≤ 64
  · rw [show ((w : Int) - 64).toNat = 0 from by omega, Nat.zero_min, Nat.pow_zero, Nat.mod_one]
    exact Nat.div_eq_of_lt (Nat.lt_of_lt_of_le (Nat.mod_lt _ (Nat.pow_pos (by decide))) (Nat.pow_le_pow_right (by decide) h))
  · obtain ⟨k, rfl⟩ : ∃ k, w = 64 + k := ⟨w - 64, by omega⟩
    rw [show (((64 + k : Nat) : Int) - 64).toNat = k from by omega, Nat.min_eq_left (by omega), Nat.pow_add, Nat.mod_mul, Nat.add_mul_mod_self_left,
      Nat.mod_eq_of_lt h0, Nat.add_mul_div_left _ _ (by decide), Nat.add_mul_div_left _ _ (by decide), Nat.div_eq_of_lt h0, Nat.zero_add, Nat.zero_add]
theorem bits_and_mask (x : Nat) (k : Int) (h : x < 2 ^ 64) : bits .and .u64 (x : Int) ((mask k : Nat) : Int) = ((x &&& mask k : Nat) : Int) :=
  bits_and_u64_nat x (mask k) h (mask_lt k)
theorem trimN_small (w n : Nat) (h : n < 2 ^ w) : trimN w (lo n) (hi n) = n := by
  unfold trimN; rw [lo_hi, Nat.mod_eq_of_lt h]

theorem bits_and_one (x : Nat) (h : x < 2 ^ 64) : bits .and .u64 (x : Int) 1 = ((x % 2 : Nat) : Int) := by
  have := u64_and_nat x 1 h (by decide)
  rw [Nat.and_one_is_mod] at this
  exact this
theorem testBit_word (x i : Nat) (h : x < 2 ^ 64) : (bits .and .u64 ((x : Int) / 2 ^ i) 1 == 1) = x.testBit i := by
  have e : ((x : Int) / 2 ^ i) = ((x / 2 ^ i : Nat) : Int) := by simp
  rw [e, bits_and_one _ (Nat.lt_of_le_of_lt (Nat.div_le_self _ _) h), Nat.testBit_eq_decide_div_mod_eq, Bool.eq_iff_iff]
  simp; omega
theorem testBit_lo (n i : Nat) (h : i < 64) : (lo n).testBit i = n.testBit i := by
  unfold lo; rw [Nat.testBit_mod_two_pow]; simp [h]
theorem testBit_hi (n i : Nat) : (hi n).testBit i = n.testBit (64 + i) := by
  unfold hi; rw [Nat.testBit_div_two_pow, Nat.add_comm]
/-- Bit i of the number x held in w bits; none beyond. -/
def bitI (w x : Nat) (i : Int) : Bool := decide (0 ≤ i ∧ i < w) && x.testBit i.toNat
theorem vv_inj (w n w' n' : Nat) : ((w : Int) == w' && ((lo n : Nat) : Int) == lo n' && ((hi n : Nat) : Int) == hi n') = (w == w' && n == n') := by
  rw [Bool.eq_iff_iff]
  simp only [Bool.and_eq_true, beq_iff_eq]
  constructor
  · rintro ⟨⟨a, b⟩, c⟩
    have hb : lo n = lo n' := by omega
    have hc : hi n = hi n' := by omega
    refine ⟨by omega, ?_⟩
    rw [← lo_hi n, ← lo_hi n', hb, hc]
  · rintro ⟨rfl, rfl⟩
    simp

theorem lo_and (x y : Nat) : lo (x &&& y) = lo x &&& lo y := by unfold lo; exact Nat.and_mod_two_pow
theorem hi_and (x y : Nat) : hi (x &&& y) = hi x &&& hi y := by unfold hi; exact Nat.and_div_two_pow
theorem lo_or (x y : Nat) : lo (x ||| y) = lo x ||| lo y := by unfold lo; exact Nat.or_mod_two_pow
theorem hi_or (x y : Nat) : hi (x ||| y) = hi x ||| hi y := by unfold hi; exact Nat.or_div_two_pow
theorem lo_xor (x y : Nat) : lo (x ^^^ y) = lo x ^^^ lo y := by unfold lo; exact Nat.xor_mod_two_pow
theorem hi_xor (x y : Nat) : hi (x ^^^ y) = hi x ^^^ hi y := by unfold hi; exact Nat.xor_div_two_pow
theorem lo_not (y : Nat) (h : y < 2 ^ 128) : lo (2 ^ 128 - 1 - y) = 18446744073709551615 - lo y := by unfold lo; omega
theorem hi_not (y : Nat) (h : y < 2 ^ 128) : hi (2 ^ 128 - 1 - y) = 18446744073709551615 - hi y := by unfold hi; omega
theorem u64_max_xor (x : Nat) (h : x < 2 ^ 64) : bits .xor .u64 IntKind.u64.max (x : Int) = ((18446744073709551615 - x : Nat) : Int) := by
  have h1 := u64_xor_nat 18446744073709551615 x (by decide) h
  have e : (18446744073709551615 ^^^ x : Nat) = 18446744073709551615 - x := by
    have h2 : (BitVec.allOnes 64 ^^^ BitVec.ofNat 64 x).toNat = (~~~ BitVec.ofNat 64 x).toNat := by rw [BitVec.allOnes_xor]
    rw [BitVec.toNat_xor, BitVec.toNat_not, BitVec.toNat_allOnes, BitVec.toNat_ofNat, Nat.mod_eq_of_lt h] at h2
    exact h2
  rw [e] at h1
  exact h1
theorem trim_not (n x : Nat) (hn : n ≤ 128) (hx : x < 2 ^ n) : trimN n (lo (2 ^ 128 - 1 - x)) (hi (2 ^ 128 - 1 - x)) = 2 ^ n - 1 - x := by
  unfold trimN
  rw [lo_hi]
  obtain ⟨d, hd⟩ := Nat.le.dest hn
  have e : 2 ^ 128 = 2 ^ n * 2 ^ d := by rw [← Nat.pow_add, hd]
  have hd1 : 0 < 2 ^ d := Nat.pow_pos (by decide)
  rw [e]
  generalize 2 ^ n = a at *
  generalize 2 ^ d = b at *
  obtain ⟨c, rfl⟩ : ∃ c, b = c + 1 := ⟨b - 1, by omega⟩
  rw [Nat.mul_add, Nat.mul_one, show a * c + a - 1 - x = (a - 1 - x) + a * c from by omega, Nat.add_mul_mod_self_left, Nat.mod_eq_of_lt (by omega)]
end Go.Proofs.YtdjaikglkgabdaaGreatDoor
namespace Go.Proofs.YtdjaikglkgabdaaGreatDoor
open Go

def sumLo (x y c : Nat) : Nat := (x + y + c) % 2 ^ 64
def carryN (x y c : Nat) : Nat := (x + y + c) / 2 ^ 64
theorem sumLo_lt (x y c : Nat) : sumLo x y c < 2 ^ 64 := Nat.mod_lt _ (by decide)
theorem carryN_le (x y c : Nat) (hx : x < 2 ^ 64) (hy : y < 2 ^ 64) (hc : c ≤ 1) : carryN x y c ≤ 1 := by unfold carryN; omega
theorem dvd_pow128 {n : Nat} (h : n ≤ 128) : 2 ^ n ∣ 2 ^ 128 := Nat.pow_dvd_pow 2 h
theorem sum_eq (n x y c : Nat) (hn : n ≤ 128) : trimN n (sumLo (lo x) (lo y) c) (sumLo (hi x) (hi y) (carryN (lo x) (lo y) c)) = (x + y + c) % 2 ^ n := by
  unfold trimN
  have e : sumLo (lo x) (lo y) c + 2 ^ 64 * sumLo (hi x) (hi y) (carryN (lo x) (lo y) c) = (x + y + c) % 2 ^ 128 := by
    unfold sumLo carryN lo hi; omega
  rw [e, Nat.mod_mod_of_dvd _ (dvd_pow128 hn)]
theorem diff_eq (n x y : Nat) (hy : y < 2 ^ n) : (x + (2 ^ n - 1 - y) + 1) % 2 ^ n = (x + 2 ^ n - y) % 2 ^ n := by congr 1; omega

def mulLo (x y : Nat) : Nat := x * y % 2 ^ 64
def mulHi (x y : Nat) : Nat := x * y / 2 ^ 64
theorem wand_low (z : Int) : bits .and .u64 (IntKind.u64.wrap z) 4294967295 = (z % 18446744073709551616) % 4294967296 := by
  rw [IntKind.wrap_u64]
  exact and_low32 _ (Int.emod_nonneg _ (by decide)) (Int.emod_lt_of_pos _ (by decide))
theorem mul64_form (x y : Nat) (hx : x < 2 ^ 64) (hy : y < 2 ^ 64) :
    IntKind.u64.wrap
      (IntKind.u64.wrap
          (IntKind.u64.wrap ((x : Int) / 4294967296 * ((y : Int) / 4294967296)) +
            IntKind.u64.wrap (IntKind.u64.wrap ((x : Int) / 4294967296 * bits .and .u64 (y : Int) 4294967295) + IntKind.u64.wrap (bits .and .u64 (x : Int) 4294967295 * bits .and .u64 (y : Int) 4294967295) / 4294967296) / 4294967296) +
        IntKind.u64.wrap
            (bits .and .u64 (IntKind.u64.wrap (IntKind.u64.wrap ((x : Int) / 4294967296 * bits .and .u64 (y : Int) 4294967295) + IntKind.u64.wrap (bits .and .u64 (x : Int) 4294967295 * bits .and .u64 (y : Int) 4294967295) / 4294967296)) 4294967295 +
              IntKind.u64.wrap (bits .and .u64 (x : Int) 4294967295 * ((y : Int) / 4294967296))) /
          4294967296) = ((mulHi x y : Nat) : Int) := by
  have hx' : (x : Int) < 18446744073709551616 := by omega
  have hy' : (y : Int) < 18446744073709551616 := by omega
  rw [wand_low, and_low32 (x : Int) (by omega) hx', and_low32 (y : Int) (by omega) hy']
  simp only [IntKind.wrap_u64]
  rw [mul64_arith (x : Int) (y : Int) (by omega) hx' (by omega) hy']
  unfold mulHi
  simp
theorem mulLo_form (x y : Nat) : IntKind.u64.wrap ((x : Int) * (y : Int)) = ((mulLo x y : Nat) : Int) := by
  unfold mulLo
  rw [IntKind.wrap_u64]
  simp
def prodHi (x0 x1 y0 y1 : Nat) : Nat := (mulHi x0 y0 + (x0 * y1 + x1 * y0)) % 2 ^ 64
theorem prodHi_form (x0 x1 y0 y1 : Nat) : IntKind.u64.wrap (((mulHi x0 y0 : Nat) : Int) + IntKind.u64.wrap (IntKind.u64.wrap ((x0 : Int) * (y1 : Int)) + IntKind.u64.wrap ((x1 : Int) * (y0 : Int)))) = ((prodHi x0 x1 y0 y1 : Nat) : Int) := by
  unfold prodHi
  simp only [IntKind.wrap_u64]
  simp
theorem prod_eq (n x y : Nat) (hn : n ≤ 128) : trimN n (mulLo (lo x) (lo y)) (prodHi (lo x) (hi x) (lo y) (hi y)) = x * y % 2 ^ n := by
  unfold trimN
  have e : (mulLo (lo x) (lo y) + 2 ^ 64 * prodHi (lo x) (hi x) (lo y) (hi y)) = x * y % 2 ^ 128 := by
    have hx := lo_hi x
    have hy := lo_hi y
    unfold mulLo prodHi mulHi
    generalize lo x = a at *
    generalize hi x = b at *
    generalize lo y = c at *
    generalize hi y = d at *
    rw [← hx, ← hy]
    have e2 : (a + 2 ^ 64 * b) * (c + 2 ^ 64 * d) = a * c + 2 ^ 64 * (a * d + b * c) + 2 ^ 128 * (b * d) := by grind
    rw [e2]
    generalize a * c = p
    generalize a * d + b * c = q
    generalize b * d = r
    omega
  rw [e, Nat.mod_mod_of_dvd _ (dvd_pow128 hn)]

theorem pow_cast (k : Nat) : ((2 : Int) ^ k) = ((2 ^ k : Nat) : Int) := by simp
end Go.Proofs.YtdjaikglkgabdaaGreatDoor
namespace Go.Proofs.YtdjaikglkgabdaaGreatDoor
open Go

def shlN (x k : Nat) : Nat := x * 2 ^ k % 2 ^ 64
theorem shlN_lt (x k : Nat) : shlN x k < 2 ^ 64 := Nat.mod_lt _ (by decide)
theorem shl_form (x k : Nat) : IntKind.u64.wrap ((x : Int) * 2 ^ k) = ((shlN x k : Nat) : Int) := by
  rw [pow_cast, IntKind.wrap_u64]; unfold shlN; simp
theorem shr_form (x k : Nat) : ((x : Int) / 2 ^ k) = ((x / 2 ^ k : Nat) : Int) := by simp
theorem pow64 (k : Nat) (h : k ≤ 64) : 2 ^ 64 = 2 ^ k * 2 ^ (64 - k) := by rw [← Nat.pow_add]; congr 1; omega
theorem shl_hi_lt (x k : Nat) (hx : x < 2 ^ 64) (hk : k ≤ 64) : x / 2 ^ (64 - k) < 2 ^ k := by
  rw [Nat.div_lt_iff_lt_mul (Nat.pow_pos (by decide)), ← pow64 k hk]; exact hx
theorem shlN_dvd (x k : Nat) (hk : k ≤ 64) : shlN x k % 2 ^ k = 0 := by
  unfold shlN
  rw [Nat.mod_mod_of_dvd _ (Nat.pow_dvd_pow 2 hk), Nat.mul_mod_left]
theorem or_up (x y k : Nat) (hy : y < 2 ^ 64) (hk : k ≤ 64) : shlN x k ||| y / 2 ^ (64 - k) = shlN x k + y / 2 ^ (64 - k) :=
  nat_join k _ _ (shlN_dvd x k hk) (shl_hi_lt y k hy hk)
theorem or_lt (x y k : Nat) (hy : y < 2 ^ 64) : shlN x k ||| y / 2 ^ (64 - k) < 2 ^ 64 :=
  Nat.or_lt_two_pow (shlN_lt _ _) (Nat.lt_of_le_of_lt (Nat.div_le_self _ _) hy)
theorem or_up_form (x y k : Nat) (hy : y < 2 ^ 64) : bits .or .u64 (IntKind.u64.wrap ((x : Int) * 2 ^ k)) ((y : Int) / 2 ^ (64 - k)) = ((shlN x k ||| y / 2 ^ (64 - k) : Nat) : Int) := by
  rw [shl_form, shr_form]
  exact u64_or_nat _ _ (shlN_lt _ _) (Nat.lt_of_le_of_lt (Nat.div_le_self _ _) hy)
theorem up_eq (n x k : Nat) (hn : n ≤ 128) (hk : k ≤ 64) :
    trimN n (shlN (lo x) k) (shlN (hi x) k ||| lo x / 2 ^ (64 - k)) = x * 2 ^ k % 2 ^ n := by
  have hlt := or_lt (hi x) (lo x) k (lo_lt x)
  rw [or_up _ _ _ (lo_lt x) hk] at hlt ⊢
  unfold trimN
  have e : shlN (lo x) k + 2 ^ 64 * (shlN (hi x) k + lo x / 2 ^ (64 - k)) = x * 2 ^ k % 2 ^ 128 := by
    have h1 : lo x * 2 ^ k / 2 ^ 64 = lo x / 2 ^ (64 - k) := by
      rw [pow64 k hk, Nat.mul_comm (2 ^ k), Nat.mul_div_mul_right _ _ (Nat.pow_pos (by decide))]
    have hx := lo_hi x
    have h2 : x * 2 ^ k = lo x * 2 ^ k + 2 ^ 64 * (hi x * 2 ^ k) := by
      have h3 : (lo x + 2 ^ 64 * hi x) * 2 ^ k = lo x * 2 ^ k + 2 ^ 64 * (hi x * 2 ^ k) := by grind
      rw [hx] at h3; exact h3
    rw [h2]
    rw [← h1] at hlt ⊢
    unfold shlN at hlt ⊢
    generalize lo x * 2 ^ k = a at *
    generalize hi x * 2 ^ k = b at *
    omega
  rw [e, Nat.mod_mod_of_dvd _ (dvd_pow128 hn)]
theorem up_eq_hi (n x j : Nat) (hn : n ≤ 128) : trimN n 0 (shlN (lo x) j) = x * 2 ^ (64 + j) % 2 ^ n := by
  unfold trimN
  have e : 0 + 2 ^ 64 * shlN (lo x) j = x * 2 ^ (64 + j) % 2 ^ 128 := by
    have hx := lo_hi x
    have h2 : x * 2 ^ (64 + j) = 2 ^ 64 * (lo x * 2 ^ j) + 2 ^ 128 * (hi x * 2 ^ j) := by
      have h3 : (lo x + 2 ^ 64 * hi x) * (2 ^ 64 * 2 ^ j) = 2 ^ 64 * (lo x * 2 ^ j) + 2 ^ 128 * (hi x * 2 ^ j) := by grind
      rw [hx, ← Nat.pow_add] at h3; exact h3
    rw [h2]
    unfold shlN
    generalize lo x * 2 ^ j = a at *
    generalize hi x * 2 ^ j = b at *
    omega
  rw [e, Nat.mod_mod_of_dvd _ (dvd_pow128 hn)]
theorem or_down_form (x y k : Nat) (hx : x < 2 ^ 64) : bits .or .u64 ((x : Int) / 2 ^ k) (IntKind.u64.wrap ((y : Int) * 2 ^ (64 - k))) = ((x / 2 ^ k ||| shlN y (64 - k) : Nat) : Int) := by
  rw [shl_form, shr_form]
  exact u64_or_nat _ _ (Nat.lt_of_le_of_lt (Nat.div_le_self _ _) hx) (shlN_lt _ _)
theorem down_join (x k : Nat) (hk : k ≤ 64) : (lo x / 2 ^ k ||| shlN (hi x) (64 - k)) = lo x / 2 ^ k + shlN (hi x) (64 - k) := by
  rw [Nat.or_comm, nat_join (64 - k) _ _ (shlN_dvd _ _ (by omega)) ?_, Nat.add_comm]
  have := shl_hi_lt (lo x) (64 - k) (lo_lt x) (by omega)
  rwa [show 64 - (64 - k) = k from by omega] at this
theorem down_split (x k : Nat) (hk : k ≤ 64) : x / 2 ^ k = lo x / 2 ^ k + hi x * 2 ^ (64 - k) := by
  have hx := lo_hi x
  have h : (lo x + 2 ^ 64 * hi x) / 2 ^ k = lo x / 2 ^ k + hi x * 2 ^ (64 - k) := by
    rw [pow64 k hk, Nat.mul_assoc, Nat.add_mul_div_left _ _ (Nat.pow_pos (by decide)), Nat.mul_comm (hi x)]
  rw [hx] at h; exact h
theorem lo_down (x k : Nat) (hk : k ≤ 64) : lo (x / 2 ^ k) = (lo x / 2 ^ k ||| shlN (hi x) (64 - k)) := by
  have hlt : (lo x / 2 ^ k ||| shlN (hi x) (64 - k)) < 2 ^ 64 := Nat.or_lt_two_pow (Nat.lt_of_le_of_lt (Nat.div_le_self _ _) (lo_lt x)) (shlN_lt _ _)
  rw [down_join x k hk] at hlt ⊢
  rw [down_split x k hk]
  unfold shlN at hlt ⊢
  unfold lo at hlt ⊢
  generalize x % 2 ^ 64 / 2 ^ k = a at *
  generalize hi x * 2 ^ (64 - k) = b at *
  omega
theorem hi_down (x k : Nat) : hi (x / 2 ^ k) = hi x / 2 ^ k := by
  unfold hi; rw [Nat.div_div_eq_div_mul, Nat.div_div_eq_div_mul, Nat.mul_comm]
theorem lo_down_hi (x j : Nat) (hx : x < 2 ^ 128) : lo (x / 2 ^ (64 + j)) = hi x / 2 ^ j := by
  unfold lo hi
  rw [Nat.pow_add, ← Nat.div_div_eq_div_mul]
  refine Nat.mod_eq_of_lt (Nat.lt_of_le_of_lt (Nat.div_le_self _ _) ?_)
  omega
theorem hi_down_hi (x j : Nat) (hx : x < 2 ^ 128) : hi (x / 2 ^ (64 + j)) = 0 := by
  unfold hi
  rw [Nat.pow_add, ← Nat.div_div_eq_div_mul]
  refine Nat.div_eq_of_lt (Nat.lt_of_le_of_lt (Nat.div_le_self _ _) ?_)
  omega

/-- The borrow of a difference, word by word. -/
def borrowN (x y b : Nat) : Nat := if x < y + b then 1 else 0
def subLo (x y b : Nat) : Nat := (x + 18446744073709551616 - y - b) % 18446744073709551616
theorem borrowN_le (x y b : Nat) : borrowN x y b ≤ 1 := by unfold borrowN; split <;> omega
theorem borrow_eq (x y : Nat) : (((borrowN (hi x) (hi y) (borrowN (lo x) (lo y) 0) : Nat) : Int) == 1) = decide (x < y) := by
  have hx := lo_hi x
  have hy := lo_hi y
  have h1 := lo_lt x
  have h2 := lo_lt y
  rw [Bool.eq_iff_iff]
  simp only [beq_iff_eq, decide_eq_true_eq]
  unfold borrowN
  split <;> split at * <;> omega
end Go.Proofs.YtdjaikglkgabdaaGreatDoor
namespace Go.Proofs.YtdjaikglkgabdaaGreatDoor
open Go Go.RowKit

def quoK (n x y k : Nat) : Nat := x / 2 ^ (n - k) / y
def remK (n x y k : Nat) : Nat := x / 2 ^ (n - k) % y
def bitK (n x k : Nat) : Nat := (x.testBit (n - 1 - k)).toNat
theorem bitK_le (n x k : Nat) : bitK n x k ≤ 1 := by unfold bitK; cases x.testBit (n - 1 - k) <;> simp
theorem top_step (n x k : Nat) (hk : k < n) : x / 2 ^ (n - (k + 1)) = 2 * (x / 2 ^ (n - k)) + bitK n x k := by
  have e : n - k = (n - (k + 1)) + 1 := by omega
  rw [e, Nat.pow_succ, ← Nat.div_div_eq_div_mul]
  unfold bitK
  rw [Nat.testBit_eq_decide_div_mod_eq, show n - 1 - k = n - (k + 1) from by omega]
  generalize x / 2 ^ (n - (k + 1)) = a
  by_cases h : a % 2 = 1
  · simp [h]; omega
  · simp [h]; omega
theorem top_lt (n x k : Nat) (hx : x < 2 ^ n) (hk : k ≤ n) : x / 2 ^ (n - k) < 2 ^ k := by
  rw [Nat.div_lt_iff_lt_mul (Nat.pow_pos (by decide)), ← Nat.pow_add, show k + (n - k) = n from by omega]; exact hx
theorem quoK_lt (n x y k : Nat) (hx : x < 2 ^ n) (hk : k ≤ n) : quoK n x y k < 2 ^ k := Nat.lt_of_le_of_lt (Nat.div_le_self _ _) (top_lt n x k hx hk)
theorem remK_lt (n x y k : Nat) (hy : 0 < y) : remK n x y k < y := Nat.mod_lt _ hy
theorem quoK_zero (n x y : Nat) (hx : x < 2 ^ n) : quoK n x y 0 = 0 := by
  unfold quoK; rw [Nat.sub_zero, Nat.div_eq_of_lt hx, Nat.zero_div]
theorem remK_zero (n x y : Nat) (hx : x < 2 ^ n) : remK n x y 0 = 0 := by
  unfold remK; rw [Nat.sub_zero, Nat.div_eq_of_lt hx, Nat.zero_mod]
theorem quoK_end (n x y : Nat) : quoK n x y n = x / y := by unfold quoK; rw [Nat.sub_self, Nat.pow_zero, Nat.div_one]
theorem remK_end (n x y : Nat) : remK n x y n = x % y := by unfold remK; rw [Nat.sub_self, Nat.pow_zero, Nat.div_one]
theorem two_step (A y b : Nat) (hy : 0 < y) (hb : b ≤ 1) :
    (2 * A + b) / y = 2 * (A / y) + (if 2 * (A % y) + b < y then 0 else 1) ∧ (2 * A + b) % y = 2 * (A % y) + b - (if 2 * (A % y) + b < y then 0 else y) := by
  have h := Nat.div_add_mod A y
  have hr := Nat.mod_lt A hy
  generalize A / y = q at *
  generalize A % y = r at *
  have e : 2 * A + b = y * (2 * q) + (2 * r + b) := by
    rw [← h]
    have : 2 * (y * q + r) + b = y * (2 * q) + (2 * r + b) := by grind
    exact this
  rw [e, Nat.mul_add_div hy, Nat.mul_add_mod]
  split
  · rename_i hlt
    rw [Nat.div_eq_of_lt hlt, Nat.mod_eq_of_lt hlt]; omega
  · rename_i hge
    have h1 : (2 * r + b) / y = 1 := by rw [Nat.div_eq_iff hy]; omega
    have h2 : (2 * r + b) % y = 2 * r + b - y := by
      have := Nat.div_add_mod (2 * r + b) y
      rw [h1] at this; omega
    rw [h1, h2]; omega
theorem top_bit (n r : Nat) (hr : r < 2 ^ n) (hn : 1 ≤ n) : r.testBit (n - 1) = decide (2 ^ (n - 1) ≤ r) := by
  have e : 2 ^ n = 2 * 2 ^ (n - 1) := by rw [← Nat.pow_succ']; congr 1; omega
  rw [Nat.testBit_eq_decide_div_mod_eq, Bool.eq_iff_iff]
  simp only [decide_eq_true_eq]
  have hp : 0 < 2 ^ (n - 1) := Nat.pow_pos (by decide)
  rw [e] at hr
  have h1 : r / 2 ^ (n - 1) < 2 := by rw [Nat.div_lt_iff_lt_mul hp]; exact hr
  constructor
  · intro h
    have : 1 ≤ r / 2 ^ (n - 1) := by
      generalize r / 2 ^ (n - 1) = d at *
      omega
    rw [Nat.le_div_iff_mul_le hp] at this; omega
  · intro h
    have : 1 ≤ r / 2 ^ (n - 1) := by rw [Nat.le_div_iff_mul_le hp]; omega
    generalize r / 2 ^ (n - 1) = d at *
    omega
/-- What a round makes of the rest before it subtracts. -/
def remM (n x y k : Nat) : Nat := (remK n x y k + remK n x y k + bitK n x k) % 2 ^ n
theorem remM_lt (n x y k : Nat) : remM n x y k < 2 ^ n := Nat.mod_lt _ (Nat.pow_pos (by decide))
theorem quo_shift (n x y k : Nat) (hx : x < 2 ^ n) (hk : k < n) : quoK n x y k * 2 ^ 1 % 2 ^ n = 2 * quoK n x y k := by
  have h := quoK_lt n x y k hx (by omega)
  have h2 : 2 ^ (k + 1) ≤ 2 ^ n := Nat.pow_le_pow_right (by decide) hk
  rw [Nat.pow_succ] at h2
  rw [Nat.mod_eq_of_lt (by omega)]; omega
/-- The round that subtracts. -/
theorem step_yes (n x y k : Nat) (hy : 0 < y) (hyn : y < 2 ^ n) (hk : k < n) (h : (remK n x y k).testBit (n - 1) = true ∨ ¬ remM n x y k < y) :
    (remM n x y k + 2 ^ n - y) % 2 ^ n = remK n x y (k + 1) ∧ 2 * quoK n x y k + 1 = quoK n x y (k + 1) := by
  have hr := remK_lt n x y k hy
  have hb := bitK_le n x k
  obtain ⟨s1, s2⟩ := two_step (x / 2 ^ (n - k)) y (bitK n x k) hy hb
  rw [← top_step n x k hk] at s1 s2
  rw [top_bit n _ (by omega) (by omega)] at h
  have e : 2 ^ n = 2 * 2 ^ (n - 1) := by rw [← Nat.pow_succ']; congr 1; omega
  change quoK n x y (k + 1) = 2 * quoK n x y k + (if 2 * remK n x y k + bitK n x k < y then 0 else 1) at s1
  change remK n x y (k + 1) = 2 * remK n x y k + bitK n x k - (if 2 * remK n x y k + bitK n x k < y then 0 else y) at s2
  unfold remM at *
  have hge : ¬ 2 * remK n x y k + bitK n x k < y := by
    rcases h with h | h
    · simp only [decide_eq_true_eq] at h; omega
    · intro hlt
      rw [Nat.mod_eq_of_lt (by omega)] at h
      omega
  rw [if_neg hge] at s1 s2
  refine ⟨?_, s1.symm⟩
  rw [s2]
  have hlt : 2 * remK n x y k + bitK n x k - y < 2 ^ n := by omega
  by_cases hov : 2 * remK n x y k + bitK n x k < 2 ^ n
  · rw [Nat.mod_eq_of_lt (show remK n x y k + remK n x y k + bitK n x k < 2 ^ n by omega), show remK n x y k + remK n x y k + bitK n x k + 2 ^ n - y = (2 * remK n x y k + bitK n x k - y) + 2 ^ n by omega, Nat.add_mod_right, Nat.mod_eq_of_lt hlt]
  · have h3 : (remK n x y k + remK n x y k + bitK n x k) % 2 ^ n = 2 * remK n x y k + bitK n x k - 2 ^ n := by
      rw [Nat.mod_eq_sub_mod (by omega), Nat.mod_eq_of_lt (by omega)]; omega
    rw [h3, show 2 * remK n x y k + bitK n x k - 2 ^ n + 2 ^ n - y = 2 * remK n x y k + bitK n x k - y by omega, Nat.mod_eq_of_lt hlt]
theorem step_no (n x y k : Nat) (hy : 0 < y) (hyn : y < 2 ^ n) (hk : k < n) (h1 : (remK n x y k).testBit (n - 1) = false) (h2 : remM n x y k < y) :
    remM n x y k = remK n x y (k + 1) ∧ 2 * quoK n x y k = quoK n x y (k + 1) := by
  have hr := remK_lt n x y k hy
  have hb := bitK_le n x k
  obtain ⟨s1, s2⟩ := two_step (x / 2 ^ (n - k)) y (bitK n x k) hy hb
  rw [← top_step n x k hk] at s1 s2
  rw [top_bit n _ (by omega) (by omega)] at h1
  simp only [decide_eq_false_iff_not] at h1
  have e : 2 ^ n = 2 * 2 ^ (n - 1) := by rw [← Nat.pow_succ']; congr 1; omega
  change quoK n x y (k + 1) = 2 * quoK n x y k + (if 2 * remK n x y k + bitK n x k < y then 0 else 1) at s1
  change remK n x y (k + 1) = 2 * remK n x y k + bitK n x k - (if 2 * remK n x y k + bitK n x k < y then 0 else y) at s2
  unfold remM at *
  rw [Nat.mod_eq_of_lt (by omega)] at h2 ⊢
  rw [if_pos (by omega)] at s1 s2
  omega
theorem or_one_form (q : Nat) : bits .or .u64 ((lo (2 * q) : Nat) : Int) 1 = ((lo (2 * q + 1) : Nat) : Int) := by
  have h := u64_or_nat (lo (2 * q)) 1 (lo_lt _) (by decide)
  have e : lo (2 * q) ||| 1 = lo (2 * q + 1) := by
    have h2 := nat_join 1 (lo (2 * q)) 1 (by unfold lo; omega) (by decide)
    rw [h2]; unfold lo; omega
  rw [e] at h
  exact h
theorem hi_even (q : Nat) : hi (2 * q) = hi (2 * q + 1) := by unfold hi; omega
theorem bitI_top_k (n x k : Nat) (hk : k < n) : (bitI n x ((n : Int) - 1 - (k : Int))).toNat = bitK n x k := by
  unfold bitI bitK
  rw [show ((n : Int) - 1 - (k : Int)).toNat = n - 1 - k from by omega]
  congr 1
  simp; omega

/-- The three cells of a vector. -/
def vcell (n x : Nat) : Nat → Value
  | 0 => .int .i64 (n : Int)
  | 1 => .int .u64 ((lo x : Nat) : Int)
  | _ => .int .u64 ((hi x : Nat) : Int)
/-- Block b of memory is a variable that holds the vector x of n bits. -/
def HV (t : TypeId) (w : World) (b n x : Nat) : Prop := w.rowIs b t 3 (vcell n x)
section
variable {t : TypeId} {w w' : World} {b n x : Nat}
theorem HV.c0 (h : HV t w b n x) : w.cell? ⟨b, 0, none⟩ = some (.int .i64 (n : Int)) := World.rowIs.cell h (i := 0) (by decide)
theorem HV.c1 (h : HV t w b n x) : w.cell? ⟨b, 1, none⟩ = some (.int .u64 ((lo x : Nat) : Int)) := World.rowIs.cell h (i := 1) (by decide)
theorem HV.c2 (h : HV t w b n x) : w.cell? ⟨b, 2, none⟩ = some (.int .u64 ((hi x : Nat) : Int)) := World.rowIs.cell h (i := 2) (by decide)
theorem HV.fz (h : HV t w b n x) : ∀ i, w.frozen? ⟨b, i, none⟩ = false := World.rowIs.frozen h
theorem HV.all (h : HV t w b n x) : w.cell? ⟨b, 0, none⟩ = some (.int .i64 (n : Int)) ∧ w.cell? ⟨b, 1, none⟩ = some (.int .u64 ((lo x : Nat) : Int)) ∧ w.cell? ⟨b, 2, none⟩ = some (.int .u64 ((hi x : Nat) : Int)) ∧ ∀ i, w.frozen? ⟨b, i, none⟩ = false := ⟨h.c0, h.c1, h.c2, h.fz⟩
theorem HV.lt (h : HV t w b n x) : b < w.heap.size := World.rowIs.lt h
theorem HV.over (h : HV t w b n x) (hb : Below w.heap.size w w') : HV t w' b n x := World.rowIs.of_block h (hb.block b h.lt)
theorem HV.drew (h : HV t w b n x) : HV t w.drew b n x := h
theorem HV.drewN (h : HV t w b n x) (k : Nat) : HV t (w.drewN k) b n x := h
theorem HV.alloc (h : HV t w b n x) (o : Obj) : HV t (w.alloc o) b n x := World.rowIs.alloc h o
theorem HV.far (h : HV t w b n x) {p : Addr} (hp : b ≠ p.block) (u : Value) : HV t (w.setCell p u) b n x := World.rowIs.setOther h hp u
theorem HV.far3 (h : HV t w b n x) {d i j k : Nat} {u v z : Value} (hd : b ≠ d) : HV t (((w.setCell ⟨d, i, none⟩ u).setCell ⟨d, j, none⟩ v).setCell ⟨d, k, none⟩ z) b n x :=
  ((h.far (p := ⟨d, i, none⟩) hd u).far (p := ⟨d, j, none⟩) hd v).far (p := ⟨d, k, none⟩) hd z
theorem HV.keep3 (h : HV t w b n x) : w.cell? ⟨b, 0, none⟩ = some (.int .i64 (n : Int)) ∧ w.cell? ⟨b, 1, none⟩ = some (.int .u64 ((lo x : Nat) : Int)) ∧ w.cell? ⟨b, 2, none⟩ = some (.int .u64 ((hi x : Nat) : Int)) := ⟨h.c0, h.c1, h.c2⟩
theorem HV.set3 (h : HV t w b n x) (m y : Nat) : HV t (((w.setCell ⟨b, 0, none⟩ (.int .i64 (m : Int))).setCell ⟨b, 1, none⟩ (.int .u64 ((lo y : Nat) : Int))).setCell ⟨b, 2, none⟩ (.int .u64 ((hi y : Nat) : Int))) b m y := by
  refine World.rowIs.congr (((World.rowIs.set h 0 _).set 1 _).set 2 _) fun i hi => ?_
  match i, hi with
  | 0, _ => rfl
  | 1, _ => rfl
  | 2, _ => rfl
theorem HV.set1 (h : HV t w b n x) (y : Nat) (hy : hi x = hi y) : HV t (w.setCell ⟨b, 1, none⟩ (.int .u64 ((lo y : Nat) : Int))) b n y := by
  refine World.rowIs.congr (World.rowIs.set h 1 _) fun i hi => ?_
  match i, hi with
  | 0, _ => rfl
  | 1, _ => rfl
  | 2, _ => simp [vcell, hy]
theorem HV.made {cs : Array Value} (h : w.heap[b]? = some (.cells cs t (0, 0))) (hc : cs = #[.int .i64 (n : Int), .int .u64 ((lo x : Nat) : Int), .int .u64 ((hi x : Nat) : Int)]) : HV t w b n x := by
  subst hc
  refine ⟨_, h, rfl, fun i hi => ?_⟩
  match i, hi with
  | 0, _ => rfl
  | 1, _ => rfl
  | 2, _ => rfl
theorem HV.new (w : World) (t : TypeId) (n x : Nat) : HV t (w.alloc (.cells #[.int .i64 (n : Int), .int .u64 ((lo x : Nat) : Int), .int .u64 ((hi x : Nat) : Int)] t)) w.heap.size n x := HV.made (heap_alloc_new w _) rfl
end
/-- The cells of a vector, as an array. -/
abbrev vcs (n x : Nat) : Array Value := #[.int .i64 (n : Int), .int .u64 ((lo x : Nat) : Int), .int .u64 ((hi x : Nat) : Int)]
abbrev zcs : Array Value := #[.int .i64 0, .int .u64 0, .int .u64 0]
theorem HV.zero (w : World) (t : TypeId) : HV t (w.alloc (.cells zcs t)) w.heap.size 0 0 := HV.new w t 0 0
/-- Four new variables, then a call. -/
theorem start4 {t : TypeId} {w w1 : World} {n x m y : Nat}
    (hb : Below ((((w.alloc (.cells (vcs n x) t)).alloc (.cells (vcs m y) t)).alloc (.cells zcs t)).alloc (.cells zcs t)).heap.size ((((w.alloc (.cells (vcs n x) t)).alloc (.cells (vcs m y) t)).alloc (.cells zcs t)).alloc (.cells zcs t)) w1) :
    HV t w1 w.heap.size n x ∧ HV t w1 (w.heap.size + 1) m y ∧ HV t w1 (w.heap.size + 1 + 1) 0 0 ∧ HV t w1 (w.heap.size + 1 + 1 + 1) 0 0 ∧ Below w.heap.size w w1 := by
  have a := ((((HV.new w t n x).alloc (.cells (vcs m y) t)).alloc (.cells zcs t)).alloc (.cells zcs t)).over hb
  have b := (((HV.new (w.alloc (.cells (vcs n x) t)) t m y).alloc (.cells zcs t)).alloc (.cells zcs t)).over hb
  have q := ((HV.zero ((w.alloc (.cells (vcs n x) t)).alloc (.cells (vcs m y) t)) t).alloc (.cells zcs t)).over hb
  have r := (HV.zero (((w.alloc (.cells (vcs n x) t)).alloc (.cells (vcs m y) t)).alloc (.cells zcs t)) t).over hb
  have z : Below w.heap.size w ((((w.alloc (.cells (vcs n x) t)).alloc (.cells (vcs m y) t)).alloc (.cells zcs t)).alloc (.cells zcs t)) :=
    ((((Below.refl _ _).alloc (Nat.le_refl _) _).alloc (by simp) _).alloc (by simp; omega) _).alloc (by simp; omega) _
  simp only [World.size_alloc] at b q r
  exact ⟨a, b, q, r, z.trans (hb.mono z.size)⟩
end Go.Proofs.YtdjaikglkgabdaaGreatDoor
namespace Go.Proofs.YtdjaikglkgabdaaGreatDoor
open Go
theorem ring_sub (P x y : Nat) (hx : x < P) (hy : y < P) : ((x + y) % P + P - y) % P = x := by
  by_cases h : x + y < P
  · rw [Nat.mod_eq_of_lt h, show x + y + P - y = x + P by omega, Nat.add_mod_right, Nat.mod_eq_of_lt hx]
  · have e : (x + y) % P = x + y - P := by rw [Nat.mod_eq_sub_mod (by omega), Nat.mod_eq_of_lt (by omega)]
    rw [e, show x + y - P + P - y = x by omega, Nat.mod_eq_of_lt hx]
theorem neg_cases (P y : Nat) (hy : y < P) : (y = 0 ∧ (0 + P - y) % P = 0) ∨ (0 < y ∧ (0 + P - y) % P = P - y) := by
  rcases Nat.eq_zero_or_pos y with h | h
  · left; subst h; simp
  · right; exact ⟨h, by rw [Nat.zero_add, Nat.mod_eq_of_lt (by omega)]⟩
theorem ring_neg (P x y : Nat) (hy : y < P) : (x + (0 + P - y) % P) % P = (x + P - y) % P := by
  rcases neg_cases P y hy with ⟨rfl, h⟩ | ⟨h0, h⟩
  · rw [h, Nat.sub_zero, Nat.add_zero, Nat.add_mod_right]
  · rw [h]; congr 1; omega
theorem ring_assoc (P x y z : Nat) : ((x + y) % P + z) % P = (x + (y + z) % P) % P := by
  rw [Nat.mod_add_mod, Nat.add_mod_mod, Nat.add_assoc]
theorem ring_distr (P x y z : Nat) : (x + y) % P * z % P = (x * z % P + y * z % P) % P := by
  rw [Nat.mod_mul_mod, Nat.add_mul, ← Nat.add_mod]

/-- The absolute value of a signed number of n bits. -/
def magN (n x : Nat) : Nat := if x.testBit (n - 1) then (0 + 2 ^ n - x) % 2 ^ n else x
/-- Turned where the sign asks it. -/
def sgnN (n : Nat) (b : Bool) (x : Nat) : Nat := if b then (0 + 2 ^ n - x) % 2 ^ n else x
def sdivN (n x y : Nat) : Nat := sgnN n (x.testBit (n - 1) != y.testBit (n - 1)) (magN n x / magN n y)
def sremN (n x y : Nat) : Nat := sgnN n (x.testBit (n - 1)) (magN n x % magN n y)
theorem sgnN_lt (n : Nat) (b : Bool) (x : Nat) (hx : x < 2 ^ n) : sgnN n b x < 2 ^ n := by
  unfold sgnN; split
  · exact Nat.mod_lt _ (Nat.pow_pos (by decide))
  · exact hx
theorem magN_eq (n x : Nat) : magN n x = sgnN n (x.testBit (n - 1)) x := rfl
theorem magN_lt (n x : Nat) (hx : x < 2 ^ n) : magN n x < 2 ^ n := sgnN_lt n _ x hx
theorem two_half (n : Nat) (hn : 1 ≤ n) : 2 ^ n = 2 * 2 ^ (n - 1) := by rw [← Nat.pow_succ']; congr 1; omega
theorem magN_le (n x : Nat) (hn : 1 ≤ n) (hx : x < 2 ^ n) : magN n x ≤ 2 ^ (n - 1) := by
  have e := two_half n hn
  have ht := top_bit n x hx hn
  unfold magN
  rw [ht]
  have hp : 0 < 2 ^ (n - 1) := Nat.pow_pos (by decide)
  by_cases h : 2 ^ (n - 1) ≤ x
  · simp only [h, decide_true, if_true]
    rw [Nat.zero_add, Nat.mod_eq_of_lt (by omega)]; omega
  · simp only [h, decide_false, Bool.false_eq_true, if_false]; omega
theorem magN_pos (n x : Nat) (hx : x < 2 ^ n) (h0 : 0 < x) : 0 < magN n x := by
  unfold magN; split
  · rw [Nat.zero_add, Nat.mod_eq_of_lt (by omega)]; omega
  · exact h0
/-- The sign as a number. -/
def sg (b : Bool) : Int := if b then -1 else 1
theorem sgnN_int (n : Nat) (b : Bool) (x : Nat) (hx : x < 2 ^ n) : ∃ k : Int, ((sgnN n b x : Nat) : Int) = sg b * (x : Int) + ((2 ^ n : Nat) : Int) * k := by
  unfold sgnN sg
  cases b
  · exact ⟨0, by simp⟩
  · simp only [if_true]
    rcases neg_cases (2 ^ n) x hx with ⟨rfl, h⟩ | ⟨h0, h⟩
    · exact ⟨0, by rw [h]; simp⟩
    · refine ⟨1, ?_⟩
      rw [h]
      omega
theorem magN_int (n : Nat) (x : Nat) (hx : x < 2 ^ n) : ∃ k : Int, (x : Int) = sg (x.testBit (n - 1)) * ((magN n x : Nat) : Int) + ((2 ^ n : Nat) : Int) * k := by
  obtain ⟨k, hk⟩ := sgnN_int n (x.testBit (n - 1)) x hx
  rw [← magN_eq] at hk
  generalize x.testBit (n - 1) = b at *
  unfold sg at *
  cases b
  · simp only [Bool.false_eq_true, if_false] at *
    refine ⟨-k, ?_⟩
    generalize ((2 ^ n : Nat) : Int) = P at *
    grind
  · simp only [if_true] at *
    refine ⟨k, ?_⟩
    generalize ((2 ^ n : Nat) : Int) = P at *
    grind
theorem sg_xor (a b : Bool) : sg (a != b) = sg a * sg b := by cases a <;> cases b <;> rfl
theorem sg_sq (a : Bool) : sg a * sg a = 1 := by cases a <;> rfl
theorem comb (P s t X Y Q M mx my q r kx ky kq km : Int) (ht : t * t = 1) (hx : X = s * mx + P * kx) (hy : Y = t * my + P * ky) (hq : Q = s * t * q + P * kq) (hm : M = s * r + P * km) (hd : mx = my * q + r) :
    Q * Y + M - X = P * (s * t * q * ky + kq * (t * my) + P * (kq * ky) + km - kx) := by
  subst hx hy hq hm hd
  have e : s * t * q * (t * my) = s * (my * q) := by
    have : s * t * q * (t * my) = (t * t) * (s * (my * q)) := by grind
    rw [this, ht]; grind
  grind
/-- The dividend is the quotient times the divisor and the rest, with signs. -/
theorem sdiv_ok (n x y : Nat) (hx : x < 2 ^ n) (hy : y < 2 ^ n) : (sdivN n x y * y % 2 ^ n + sremN n x y) % 2 ^ n = x := by
  have hmx := magN_lt n x hx
  obtain ⟨kx, ex⟩ := magN_int n x hx
  obtain ⟨ky, ey⟩ := magN_int n y hy
  obtain ⟨kq, eq⟩ := sgnN_int n (x.testBit (n - 1) != y.testBit (n - 1)) (magN n x / magN n y) (Nat.lt_of_le_of_lt (Nat.div_le_self _ _) hmx)
  obtain ⟨km, em⟩ := sgnN_int n (x.testBit (n - 1)) (magN n x % magN n y) (Nat.lt_of_le_of_lt (Nat.mod_le _ _) hmx)
  change ((sdivN n x y : Nat) : Int) = _ at eq
  change ((sremN n x y : Nat) : Int) = _ at em
  rw [sg_xor] at eq
  have hd : ((magN n x : Nat) : Int) = (magN n y : Nat) * ((magN n x / magN n y : Nat) : Int) + ((magN n x % magN n y : Nat) : Int) := by
    have := Nat.div_add_mod (magN n x) (magN n y)
    exact_mod_cast this.symm
  have hc := comb _ _ _ _ _ _ _ _ _ _ _ kx ky kq km (sg_sq _) ex ey eq em hd
  have hdv : ((2 ^ n : Nat) : Int) ∣ ((sdivN n x y * y + sremN n x y : Nat) : Int) - (x : Int) := ⟨_, by push_cast; push_cast at hc; exact hc⟩
  rw [Nat.mod_add_mod]
  have h2 : (((sdivN n x y * y + sremN n x y : Nat) : Int)) % ((2 ^ n : Nat) : Int) = (x : Int) % ((2 ^ n : Nat) : Int) := Int.emod_eq_emod_iff_emod_sub_eq_zero.2 (Int.emod_eq_zero_of_dvd hdv)
  have h3 : (sdivN n x y * y + sremN n x y) % 2 ^ n = x % 2 ^ n := by exact_mod_cast h2
  rw [h3, Nat.mod_eq_of_lt hx]
/-- The sign of the rest is that of the dividend. -/
theorem srem_sign (n x y : Nat) (hn : 1 ≤ n) (hy : y < 2 ^ n) (h0 : 0 < y) (hm : sremN n x y ≠ 0) : (sremN n x y).testBit (n - 1) = x.testBit (n - 1) := by
  have e := two_half n hn
  have hp : 0 < 2 ^ (n - 1) := Nat.pow_pos (by decide)
  have hmy := magN_pos n y hy h0
  have hle := magN_le n y hn hy
  have hr := Nat.mod_lt (magN n x) hmy
  have hlt : sremN n x y < 2 ^ n := sgnN_lt n _ _ (by omega)
  rw [top_bit n _ hlt hn]
  unfold sremN sgnN at *
  generalize magN n x % magN n y = r at *
  cases hb : x.testBit (n - 1)
  · simp only [hb, Bool.false_eq_true, if_false] at *
    simp; omega
  · simp only [hb, if_true] at *
    rcases neg_cases (2 ^ n) r (by omega) with ⟨rfl, h⟩ | ⟨h1, h⟩
    · exact absurd h hm
    · rw [h]; simp; omega
end Go.Proofs.YtdjaikglkgabdaaGreatDoor
