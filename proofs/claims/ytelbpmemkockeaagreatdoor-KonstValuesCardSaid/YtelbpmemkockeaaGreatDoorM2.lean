/-
  Plain arithmetic of sums, differences, products, shifts and comparisons of numbers held in two words; nothing here speaks of the program.
  Plain arithmetic of shifts and comparisons of numbers held in two words; nothing here speaks of the program.
-/
import Derived.Test.YtelbpmemkockeaaGreatDoorM
import Derived.Laws.MathBits
import Derived.Laws.Externs
namespace Go.Proofs.YtelbpmemkockeaaGreatDoor
open Go

def sumLo (x y c : Nat) : Nat := (x + y + c) % 2 ^ 64
def carryN (x y c : Nat) : Nat := (x + y + c) / 2 ^ 64
theorem sumLo_lt (x y c : Nat) : sumLo x y c < 2 ^ 64 := Nat.mod_lt _ (by decide)
theorem carryN_le (x y c : Nat) (hx : x < 2 ^ 64) (hy : y < 2 ^ 64) (hc : c ≤ 1) : carryN x y c ≤ 1 := by unfold carryN; omega
theorem dvd_pow128 {n : Nat} (h : n ≤ 128) : 2 ^ n ∣ 2 ^ 128 := Nat.pow_dvd_pow 2 h
theorem sum_eq (n x y c : Nat) (hn : n ≤ 128) : trimN n (sumLo (lo x) (lo y) c) (sumLo (hi x) (hi y) (carryN (lo x) (lo y) c)) = (x + y + c) % 2 ^ n := by
  unfold trimN
  have e : sumLo (lo x) (lo y) c + 2 ^ 64 * sumLo (hi x) (hi y) (carryN (lo x) (lo y) c) = (x + y + c) % 2 ^ 128 := by
    unfold sumLo carryN lo hi; omega
  rw [e, Nat.mod_mod_of_dvd _ (dvd_pow128 hn)]
theorem diff_eq (n x y : Nat) (hy : y < 2 ^ n) : (x + (2 ^ n - 1 - y) + 1) % 2 ^ n = (x + 2 ^ n - y) % 2 ^ n := by congr 1; omega

def mulLo (x y : Nat) : Nat := x * y % 2 ^ 64
def mulHi (x y : Nat) : Nat := x * y / 2 ^ 64
theorem wand_low (z : Int) : bits .and .u64 (IntKind.u64.wrap z) 4294967295 = (z % 18446744073709551616) % 4294967296 := by
  rw [IntKind.wrap_u64]
  exact and_low32 _ (Int.emod_nonneg _ (by decide)) (Int.emod_lt_of_pos _ (by decide))
theorem mul64_form (x y : Nat) (hx : x < 2 ^ 64) (hy : y < 2 ^ 64) :
    IntKind.u64.wrap
      (IntKind.u64.wrap
          (IntKind.u64.wrap ((x : Int) / 4294967296 * ((y : Int) / 4294967296)) +
            IntKind.u64.wrap (IntKind.u64.wrap ((x : Int) / 4294967296 * bits .and .u64 (y : Int) 4294967295) + IntKind.u64.wrap (bits .and .u64 (x : Int) 4294967295 * bits .and .u64 (y : Int) 4294967295) / 4294967296) / 4294967296) +
        IntKind.u64.wrap
            (bits .and .u64 (IntKind.u64.wrap (IntKind.u64.wrap ((x : Int) / 4294967296 * bits .and .u64 (y : Int) 4294967295) + IntKind.u64.wrap (bits .and .u64 (x : Int) 4294967295 * bits .and .u64 (y : Int) 4294967295) / 4294967296)) 4294967295 +
              IntKind.u64.wrap (bits .and .u64 (x : Int) 4294967295 * ((y : Int) / 4294967296))) /
          4294967296) = ((mulHi x y : Nat) : Int) := by
  have hx' : (x : Int) < 18446744073709551616 := by omega
  have hy' : (y : Int) < 18446744073709551616 := by omega
  rw [wand_low, and_low32 (x : Int) (by omega) hx', and_low32 (y : Int) (by omega) hy']
  simp only [IntKind.wrap_u64]
  rw [mul64_arith (x : Int) (y : Int) (by omega) hx' (by omega) hy']
  unfold mulHi
  simp
theorem mulLo_form (x y : Nat) : IntKind.u64.wrap ((x : Int) * (y : Int)) = ((mulLo x y : Nat) : Int) := by
  unfold mulLo
  rw [IntKind.wrap_u64]
  simp
def prodHi (x0 x1 y0 y1 : Nat) : Nat := (mulHi x0 y0 + (x0 * y1 + x1 * y0)) % 2 ^ 64
theorem prodHi_form (x0 x1 y0 y1 : Nat) : IntKind.u64.wrap (((mulHi x0 y0 : Nat) : Int) + IntKind.u64.wrap (IntKind.u64.wrap ((x0 : Int) * (y1 : Int)) + IntKind.u64.wrap ((x1 : Int) * (y0 : Int)))) = ((prodHi x0 x1 y0 y1 : Nat) : Int) := by
  unfold prodHi
  simp only [IntKind.wrap_u64]
  simp
theorem prod_eq (n x y : Nat) (hn : n ≤ 128) : trimN n (mulLo (lo x) (lo y)) (prodHi (lo x) (hi x) (lo y) (hi y)) = x * y % 2 ^ n := by
  unfold trimN
  have e : (mulLo (lo x) (lo y) + 2 ^ 64 * prodHi (lo x) (hi x) (lo y) (hi y)) = x * y % 2 ^ 128 := by
    have hx := lo_hi x
    have hy := lo_hi y
    unfold mulLo prodHi mulHi
    generalize lo x = a at *
    generalize hi x = b at *
    generalize lo y = c at *
    generalize hi y = d at *
    rw [← hx, ← hy]
    have e2 : (a + 2 ^ 64 * b) * (c + 2 ^ 64 * d) = a * c + 2 ^ 64 * (a * d + b * c) + 2 ^ 128 * (b * d) := by grind
    rw [e2]
    generalize a * c = p
    generalize a * d + b * c = q
    generalize b * d = r
    omega
  rw [e, Nat.mod_mod_of_dvd _ (dvd_pow128 hn)]

theorem pow_cast (k : Nat) : ((2 : Int) ^ k) = ((2 ^ k : Nat) : Int) := by simp
end Go.Proofs.YtelbpmemkockeaaGreatDoor
namespace Go.Proofs.YtelbpmemkockeaaGreatDoor
open Go

def shlN (x k : Nat) : Nat := x * 2 ^ k % 2 ^ 64
theorem shlN_lt (x k : Nat) : shlN x k < 2 ^ 64 := Nat.mod_lt _ (by decide)
theorem shl_form (x k : Nat) : IntKind.u64.wrap ((x : Int) * 2 ^ k) = ((shlN x k : Nat) : Int) := by
  rw [pow_cast, IntKind.wrap_u64]; unfold shlN; simp
theorem shr_form (x k : Nat) : ((x : Int) / 2 ^ k) = ((x / 2 ^ k : Nat) : Int) := by simp
theorem pow64 (k : Nat) (h : k ≤ 64) : 2 ^ 64 = 2 ^ k * 2 ^ (64 - k) := by rw [← Nat.pow_add]; congr 1; omega
theorem shl_hi_lt (x k : Nat) (hx : x < 2 ^ 64) (hk : k ≤ 64) : x / 2 ^ (64 - k) < 2 ^ k := by
  rw [Nat.div_lt_iff_lt_mul (Nat.pow_pos (by decide)), ← pow64 k hk]; exact hx
theorem shlN_dvd (x k : Nat) (hk : k ≤ 64) : shlN x k % 2 ^ k = 0 := by
  unfold shlN
  rw [Nat.mod_mod_of_dvd _ (Nat.pow_dvd_pow 2 hk), Nat.mul_mod_left]
theorem or_up (x y k : Nat) (hy : y < 2 ^ 64) (hk : k ≤ 64) : shlN x k ||| y / 2 ^ (64 - k) = shlN x k + y / 2 ^ (64 - k) :=
  nat_join k _ _ (shlN_dvd x k hk) (shl_hi_lt y k hy hk)
theorem or_lt (x y k : Nat) (hy : y < 2 ^ 64) : shlN x k ||| y / 2 ^ (64 - k) < 2 ^ 64 :=
  Nat.or_lt_two_pow (shlN_lt _ _) (Nat.lt_of_le_of_lt (Nat.div_le_self _ _) hy)
theorem or_up_form (x y k : Nat) (hy : y < 2 ^ 64) : bits .or .u64 (IntKind.u64.wrap ((x : Int) * 2 ^ k)) ((y : Int) / 2 ^ (64 - k)) = ((shlN x k ||| y / 2 ^ (64 - k) : Nat) : Int) := by
  rw [shl_form, shr_form]
  exact u64_or_nat _ _ (shlN_lt _ _) (Nat.lt_of_le_of_lt (Nat.div_le_self _ _) hy)
theorem up_eq (n x k : Nat) (hn : n ≤ 128) (hk : k ≤ 64) :
    trimN n (shlN (lo x) k) (shlN (hi x) k ||| lo x / 2 ^ (64 - k)) = x * 2 ^ k % 2 ^ n := by
  have hlt := or_lt (hi x) (lo x) k (lo_lt x)
  rw [or_up _ _ _ (lo_lt x) hk] at hlt ⊢
  unfold trimN
  have e : shlN (lo x) k + 2 ^ 64 * (shlN (hi x) k + lo x / 2 ^ (64 - k)) = x * 2 ^ k % 2 ^ 128 := by
    have h1 : lo x * 2 ^ k / 2 ^ 64 = lo x / 2 ^ (64 - k) := by
      rw [pow64 k hk, Nat.mul_comm (2 ^ k), Nat.mul_div_mul_right _ _ (Nat.pow_pos (by decide))]
    have hx := lo_hi x
    have h2 : x * 2 ^ k = lo x * 2 ^ k + 2 ^ 64 * (hi x * 2 ^ k) := by
      have h3 : (lo x + 2 ^ 64 * hi x) * 2 ^ k = lo x * 2 ^ k + 2 ^ 64 * (hi x * 2 ^ k) := by grind
      rw [hx] at h3; exact h3
    rw [h2]
    rw [← h1] at hlt ⊢
    unfold shlN at hlt ⊢
    generalize lo x * 2 ^ k = a at *
    generalize hi x * 2 ^ k = b at *
    omega
  rw [e, Nat.mod_mod_of_dvd _ (dvd_pow128 hn)]
theorem up_eq_hi (n x j : Nat) (hn : n ≤ 128) : trimN n 0 (shlN (lo x) j) = x * 2 ^ (64 + j) % 2 ^ n := by
  unfold trimN
  have e : 0 + 2 ^ 64 * shlN (lo x) j = x * 2 ^ (64 + j) % 2 ^ 128 := by
    have hx := lo_hi x
    have h2 : x * 2 ^ (64 + j) = 2 ^ 64 * (lo x * 2 ^ j) + 2 ^ 128 * (hi x * 2 ^ j) := by
      have h3 : (lo x + 2 ^ 64 * hi x) * (2 ^ 64 * 2 ^ j) = 2 ^ 64 * (lo x * 2 ^ j) + 2 ^ 128 * (hi x * 2 ^ j) := by grind
      rw [hx, ← Nat.pow_add] at h3; exact h3
    rw [h2]
    unfold shlN
    generalize lo x * 2 ^ j = a at *
    generalize hi x * 2 ^ j = b at *
    omega
  rw [e, Nat.mod_mod_of_dvd _ (dvd_pow128 hn)]
theorem or_down_form (x y k : Nat) (hx : x < 2 ^ 64) : bits .or .u64 ((x : Int) / 2 ^ k) (IntKind.u64.wrap ((y : Int) * 2 ^ (64 - k))) = ((x / 2 ^ k ||| shlN y (64 - k) : Nat) : Int) := by
  rw [shl_form, shr_form]
  exact u64_or_nat _ _ (Nat.lt_of_le_of_lt (Nat.div_le_self _ _) hx) (shlN_lt _ _)
theorem down_join (x k : Nat) (hk : k ≤ 64) : (lo x / 2 ^ k ||| shlN (hi x) (64 - k)) = lo x / 2 ^ k + shlN (hi x) (64 - k) := by
  rw [Nat.or_comm, nat_join (64 - k) _ _ (shlN_dvd _ _ (by omega)) ?_, Nat.add_comm]
  have := shl_hi_lt (lo x) (64 - k) (lo_lt x) (by omega)
  rwa [show 64 - (64 - k) = k from by omega] at this
theorem down_split (x k : Nat) (hk : k ≤ 64) : x / 2 ^ k = lo x / 2 ^ k + hi x * 2 ^ (64 - k) := by
  have hx := lo_hi x
  have h : (lo x + 2 ^ 64 * hi x) / 2 ^ k = lo x / 2 ^ k + hi x * 2 ^ (64 - k) := by
    rw [pow64 k hk, Nat.mul_assoc, Nat.add_mul_div_left _ _ (Nat.pow_pos (by decide)), Nat.mul_comm (hi x)]
  rw [hx] at h; exact h
theorem lo_down (x k : Nat) (hk : k ≤ 64) : lo (x / 2 ^ k) = (lo x / 2 ^ k ||| shlN (hi x) (64 - k)) := by
  have hlt : (lo x / 2 ^ k ||| shlN (hi x) (64 - k)) < 2 ^ 64 := Nat.or_lt_two_pow (Nat.lt_of_le_of_lt (Nat.div_le_self _ _) (lo_lt x)) (shlN_lt _ _)
  rw [down_join x k hk] at hlt ⊢
  rw [down_split x k hk]
  unfold shlN at hlt ⊢
  unfold lo at hlt ⊢
  generalize x % 2 ^ 64 / 2 ^ k = a at *
  generalize hi x * 2 ^ (64 - k) = b at *
  omega
theorem hi_down (x k : Nat) : hi (x / 2 ^ k) = hi x / 2 ^ k := by
  unfold hi; rw [Nat.div_div_eq_div_mul, Nat.div_div_eq_div_mul, Nat.mul_comm]
theorem lo_down_hi (x j : Nat) (hx : x < 2 ^ 128) : lo (x / 2 ^ (64 + j)) = hi x / 2 ^ j := by
  unfold lo hi
  rw [Nat.pow_add, ← Nat.div_div_eq_div_mul]
  refine Nat.mod_eq_of_lt (Nat.lt_of_le_of_lt (Nat.div_le_self _ _) ?_)
  omega
theorem hi_down_hi (x j : Nat) (hx : x < 2 ^ 128) : hi (x / 2 ^ (64 + j)) = 0 := by
  unfold hi
  rw [Nat.pow_add, ← Nat.div_div_eq_div_mul]
  refine Nat.div_eq_of_lt (Nat.lt_of_le_of_lt (Nat.div_le_self _ _) ?_)
  omega

/-- The borrow of a difference, word by word. -/
def borrowN (x y b : Nat) : Nat := if x < y + b then 1 else 0
def subLo (x y b : Nat) : Nat := (x + 18446744073709551616 - y - b) % 18446744073709551616
theorem borrowN_le (x y b : Nat) : borrowN x y b ≤ 1 := by unfold borrowN; split <;> omega
theorem borrow_eq (x y : Nat) : (((borrowN (hi x) (hi y) (borrowN (lo x) (lo y) 0) : Nat) : Int) == 1) = decide (x < y) := by
  have hx := lo_hi x
  have hy := lo_hi y
  have h1 := lo_lt x
  have h2 := lo_lt y
  rw [Bool.eq_iff_iff]
  simp only [beq_iff_eq, decide_eq_true_eq]
  unfold borrowN
  split <;> split at * <;> omega
end Go.Proofs.YtelbpmemkockeaaGreatDoor
