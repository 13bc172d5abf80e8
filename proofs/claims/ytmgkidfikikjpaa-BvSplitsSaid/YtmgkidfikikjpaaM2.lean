/-
  Plain arithmetic of sums, differences, products, shifts and comparisons of numbers held in two words; nothing here speaks of the program.
-/
import Derived.Test.YtmgkidfikikjpaaM
import Derived.Laws.MathBits
import Derived.Laws.Externs
namespace Go.Proofs.Ytmgkidfikikjpaa
open Go

def sumLo (x y c : Nat) : Nat := (x + y + c) % 2 ^ 64
def carryN (x y c : Nat) : Nat := (x + y + c) / 2 ^ 64
theorem sumLo_lt (x y c : Nat) : sumLo x y c < 2 ^ 64 := Nat.mod_lt _ (by decide)
theorem carryN_le (x y c : Nat) (hx : x < 2 ^ 64) (hy : y < 2 ^ 64) (hc : c ≤ 1) : carryN x y c ≤ 1 := by unfold carryN; omega
theorem dvd_pow128 {n : Nat} (h : n ≤ 128) : 2 ^ n ∣ 2 ^ 128 := Nat.pow_dvd_pow 2 h
theorem sum_eq (n x y c : Nat) (hn : n ≤ 128) : trimN n (sumLo (lo x) (lo y) c) (sumLo (hi x) (hi y) (carryN (lo x) (lo y) c)) = (x + y + c) % 2 ^ n := by
  unfold trimN
  have e : sumLo (lo x) (lo y) c + 2 ^ 64 * sumLo (hi x) (hi y) (carryN (lo x) (lo y) c) = (x + y + c) % 2 ^ 128 := by
    unfold sumLo carryN lo hi; omega
  rw [e, Nat.mod_mod_of_dvd _ (dvd_pow128 hn)]
theorem diff_eq (n x y : Nat) (hy : y < 2 ^ n) : (x + (2 ^ n - 1 - y) + 1) % 2 ^ n = (x + 2 ^ n - y) % 2 ^ n := by congr 1; omega

def mulLo (x y : Nat) : Nat := x * y % 2 ^ 64
def mulHi (x y : Nat) : Nat := x * y / 2 ^ 64
theorem wand_low (z : Int) : bits .and .u64 (IntKind.u64.wrap z) 4294967295 = (z % 18446744073709551616) % 4294967296 := by
  rw [IntKind.wrap_u64]
  exact and_low32 _ (Int.emod_nonneg _ (by decide)) (Int.emod_lt_of_pos _ (by decide))
theorem mul64_form (x y : Nat) (hx : x < 2 ^ 64) (hy : y < 2 ^ 64) :
    IntKind.u64.wrap
      (IntKind.u64.wrap
          (IntKind.u64.wrap ((x : Int) / 4294967296 * ((y : Int) / 4294967296)) +
            IntKind.u64.wrap (IntKind.u64.wrap ((x : Int) / 4294967296 * bits .and .u64 (y : Int) 4294967295) + IntKind.u64.wrap (bits .and .u64 (x : Int) 4294967295 * bits .and .u64 (y : Int) 4294967295) / 4294967296) / 4294967296) +
        IntKind.u64.wrap
            (bits .and .u64 (IntKind.u64.wrap (IntKind.u64.wrap ((x : Int) / 4294967296 * bits .and .u64 (y : Int) 4294967295) + IntKind.u64.wrap (bits .and .u64 (x : Int) 4294967295 * bits .and .u64 (y : Int) 4294967295) / 4294967296)) 4294967295 +
              IntKind.u64.wrap (bits .and .u64 (x : Int) 4294967295 * ((y : Int) / 4294967296))) /
          4294967296) = ((mulHi x y : Nat) : Int) := by
  have hx' : (x : Int) < 18446744073709551616 := by omega
  have hy' : (y : Int) < 18446744073709551616 := by omega
  rw [wand_low, and_low32 (x : Int) (by omega) hx', and_low32 (y : Int) (by omega) hy']
  simp only [IntKind.wrap_u64]
  rw [mul64_arith (x : Int) (y : Int) (by omega) hx' (by omega) hy']
  unfold mulHi
  simp
theorem mulLo_form (x y : Nat) : IntKind.u64.wrap ((x : Int) * (y : Int)) = ((mulLo x y : Nat) : Int) := by
  unfold mulLo
  rw [IntKind.wrap_u64]
  simp
def prodHi (x0 x1 y0 y1 : Nat) : Nat := (mulHi x0 y0 + (x0 * y1 + x1 * y0)) % 2 ^ 64
theorem prodHi_form (x0 x1 y0 y1 : Nat) : IntKind.u64.wrap (((mulHi x0 y0 : Nat) : Int) + IntKind.u64.wrap (IntKind.u64.wrap ((x0 : Int) * (y1 : Int)) + IntKind.u64.wrap ((x1 : Int) * (y0 : Int)))) = ((prodHi x0 x1 y0 y1 : Nat) : Int) := by
  unfold prodHi
  simp only [IntKind.wrap_u64]
  simp
theorem prod_eq (n x y : Nat) (hn : n ≤ 128) : trimN n (mulLo (lo x) (lo y)) (prodHi (lo x) (hi x) (lo y) (hi y)) = x * y % 2 ^ n := by
  unfold trimN
  have e : (mulLo (lo x) (lo y) + 2 ^ 64 * prodHi (lo x) (hi x) (lo y) (hi y)) = x * y % 2 ^ 128 := by
    have hx := lo_hi x
    have hy := lo_hi y
    unfold mulLo prodHi mulHi
    generalize lo x = a at *
    generalize hi x = b at *
    generalize lo y = c at *
    generalize hi y = d at *
    rw [← hx, ← hy]
    have e2 : (a + 2 ^ 64 * b) * (c + 2 ^ 64 * d) = a * c + 2 ^ 64 * (a * d + b * c) + 2 ^ 128 * (b * d) := by grind
    rw [e2]
    generalize a * c = p
    generalize a * d + b * c = q
    generalize b * d = r
    omega
  rw [e, Nat.mod_mod_of_dvd _ (dvd_pow128 hn)]

theorem pow_cast (k : Nat) : ((2 : Int) ^ k) = ((2 ^ k : Nat) : Int) := by simp
end Go.Proofs.Ytmgkidfikikjpaa
