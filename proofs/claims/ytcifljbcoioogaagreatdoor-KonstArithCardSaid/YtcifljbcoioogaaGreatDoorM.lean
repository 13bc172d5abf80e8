/-
  Plain arithmetic of bit vectors held in two words of 64 bits; nothing here speaks of the program.
  Plain arithmetic of sums, differences, products, shifts and comparisons of numbers held in two words; nothing here speaks of the program.
  Plain arithmetic of shifts and comparisons of numbers held in two words; nothing here speaks of the program.
  Plain arithmetic of long division; and words for memory: a block that is known whole.
  Plain arithmetic of the ring laws and of division with and without signs; nothing here speaks of the program.
-/
import Derived.WalkKit
import Derived.Laws.BitsAllLaws
import Derived.Laws.Bits64b
import Derived.Laws.Bits64
import Derived.Laws.MathBits
import Derived.Laws.Externs
import Derived.Below
import Derived.Laws.OwnMore
import Derived.Deep.Draws
import Derived.Laws.Rows
import Derived.Deep.OwnRows
namespace Go.Proofs.YtcifljbcoioogaaGreatDoor
open Go

def lo (n : Nat) : Nat := n % 2 ^ 64
def hi (n : Nat) : Nat := n / 2 ^ 64
/-- The value of type Vec that holds the number n < 2^w in w bits. -/
abbrev vv (w n : Nat) : Value := .agg #[.int .i64 (w : Int), .int .u64 ((lo n : Nat) : Int), .int .u64 ((hi n : Nat) : Int)]
theorem lo_lt (n : Nat) : lo n < 2 ^ 64 := Nat.mod_lt _ (by decide)
theorem hi_lt {n w : Nat} (h : n < 2 ^ w) (hw : w ≤ 128) : hi n < 2 ^ 64 := by
  unfold hi
  rw [Nat.div_lt_iff_lt_mul (by decide)]
  exact Nat.lt_of_lt_of_le h (by rw [← Nat.pow_add]; exact Nat.pow_le_pow_right (by decide) hw)
theorem lo_hi (n : Nat) : lo n + 2 ^ 64 * hi n = n := Nat.mod_add_div n _
def mask (k : Int) : Nat := 2 ^ min k.toNat 64 - 1
theorem mask_lt (k : Int) : mask k < 2 ^ 64 := by
  unfold mask
  have : 2 ^ min k.toNat 64 ≤ 2 ^ 64 := Nat.pow_le_pow_right (by decide) (Nat.min_le_right _ _)
  have h2 : 0 < 2 ^ min k.toNat 64 := Nat.pow_pos (by decide)
  omega
theorem wrap_mask (k : Int) : IntKind.u64.wrap (IntKind.u64.wrap (2 ^ min k.toNat 64) - 1) = ((mask k : Nat) : Int) := by
  have e : ((2 : Int) ^ min k.toNat 64) = ((2 ^ min k.toNat 64 : Nat) : Int) := by simp
  rw [e, IntKind.wrap_u64, IntKind.wrap_u64]
  unfold mask
  have h2 : 0 < 2 ^ min k.toNat 64 := Nat.pow_pos (by decide)
  have h1 : 2 ^ min k.toNat 64 ≤ 2 ^ 64 := Nat.pow_le_pow_right (by decide) (Nat.min_le_right _ _)
  generalize 2 ^ min k.toNat 64 = x at *
  omega
theorem mask_neg (k : Int) (h : k < 0) : mask k = 0 := by
  unfold mask
  rw [show k.toNat = 0 from by omega]; rfl
def trimN (w x0 x1 : Nat) : Nat := (x0 + 2 ^ 64 * x1) % 2 ^ w
theorem and_mask (x : Nat) (k : Int) : x &&& mask k = x % 2 ^ min k.toNat 64 := by
  unfold mask; exact Nat.and_two_pow_sub_one_eq_mod _ _
theorem lo_trim (w x0 x1 : Nat) : lo (trimN w x0 x1) = x0 &&& mask (w : Int) := by
  rw [and_mask]
  unfold lo trimN
  simp only [Int.toNat_natCast]
  by_cases h : w ≤ 64
  · rw [Nat.min_eq_left h, Nat.mod_eq_of_lt (a := (x0 + 2 ^ 64 * x1) % 2 ^ w) (Nat.lt_of_lt_of_le (Nat.mod_lt _ (Nat.pow_pos (by decide))) (Nat.pow_le_pow_right (by decide) h))]
    obtain ⟨d, hd⟩ := Nat.le.dest h
    rw [← hd, Nat.pow_add, Nat.mul_assoc, Nat.add_mul_mod_self_left]
  · rw [Nat.min_eq_right (by omega), Nat.mod_mod_of_dvd _ (Nat.pow_dvd_pow 2 (by omega)), Nat.add_mul_mod_self_left]
theorem hi_trim (w x0 x1 : Nat) (h0 : x0 < 2 ^ 64) (hw : w ≤ 128) : hi (trimN w x0 x1) = x1 &&& mask ((w : Int) - 64) := by
  rw [and_mask]
  unfold hi trimN
  by_cases h : w ≤ 64
  · rw [show ((w : Int) - 64).toNat = 0 from by omega, Nat.zero_min, Nat.pow_zero, Nat.mod_one]
    exact Nat.div_eq_of_lt (Nat.lt_of_lt_of_le (Nat.mod_lt _ (Nat.pow_pos (by decide))) (Nat.pow_le_pow_right (by decide) h))
  · obtain ⟨k, rfl⟩ : ∃ k, w = 64 + k := ⟨w - 64, by omega⟩
    rw [show (((64 + k : Nat) : Int) - 64).toNat = k from by omega, Nat.min_eq_left (by omega), Nat.pow_add, Nat.mod_mul, Nat.add_mul_mod_self_left,
      Nat.mod_eq_of_lt h0, Nat.add_mul_div_left _ _ (by decide), Nat.add_mul_div_left _ _ (by decide), Nat.div_eq_of_lt h0, Nat.zero_add, Nat.zero_add]
theorem bits_and_mask (x : Nat) (k : Int) (h : x < 2 ^ 64) : bits .and .u64 (x : Int) ((mask k : Nat) : Int) = ((x &&& mask k : Nat) : Int) :=
  bits_and_u64_nat x (mask k) h (mask_lt k)
theorem bits_and_one (x : Nat) (h : x < 2 ^ 64) : bits .and .u64 (x : Int) 1 = ((x % 2 : Nat) : Int) := by
  have := u64_and_nat x 1 h (by decide)
  rw [Nat.and_one_is_mod] at this
  exact this
theorem testBit_word (x i : Nat) (h : x < 2 ^ 64) : (bits .and .u64 ((x : Int) / 2 ^ i) 1 == 1) = x.testBit i := by
  have e : ((x : Int) / 2 ^ i) = ((x / 2 ^ i : Nat) : Int) := by simp
  rw [e, bits_and_one _ (Nat.lt_of_le_of_lt (Nat.div_le_self _ _) h), Nat.testBit_eq_decide_div_mod_eq, Bool.eq_iff_iff]
  simp; omega
theorem testBit_lo (n i : Nat) (h : i < 64) : (lo n).testBit i = n.testBit i := by
  unfold lo; rw [Nat.testBit_mod_two_pow]; simp [h]
theorem testBit_hi (n i : Nat) : (hi n).testBit i = n.testBit (64 + i) := by
  unfold hi; rw [Nat.testBit_div_two_pow, Nat.add_comm]
/-- Bit i of the number x held in w bits; none beyond. -/
def bitI (w x : Nat) (i : Int) : Bool := decide (0 ≤ i ∧ i < w) && x.testBit i.toNat
theorem lo_not (y : Nat) (h : y < 2 ^ 128) : lo (2 ^ 128 - 1 - y) = 18446744073709551615 - lo y := by unfold lo; omega
theorem hi_not (y : Nat) (h : y < 2 ^ 128) : hi (2 ^ 128 - 1 - y) = 18446744073709551615 - hi y := by unfold hi; omega
theorem u64_max_xor (x : Nat) (h : x < 2 ^ 64) : bits .xor .u64 IntKind.u64.max (x : Int) = ((18446744073709551615 - x : Nat) : Int) := by
  have h1 := u64_xor_nat 18446744073709551615 x (by decide) h
  have e : (18446744073709551615 ^^^ x : Nat) = 18446744073709551615 - x := by
    have h2 : (BitVec.allOnes 64 ^^^ BitVec.ofNat 64 x).toNat = (~~~ BitVec.ofNat 64 x).toNat := by rw [BitVec.allOnes_xor]
    rw [BitVec.toNat_xor, BitVec.toNat_not, BitVec.toNat_allOnes, BitVec.toNat_ofNat, Nat.mod_eq_of_lt h] at h2
    exact h2
  rw [e] at h1
  exact h1
theorem trim_not (n x : Nat) (hn : n ≤ 128) (hx : x < 2 ^ n) : trimN n (lo (2 ^ 128 - 1 - x)) (hi (2 ^ 128 - 1 - x)) = 2 ^ n - 1 - x := by
  unfold trimN
  rw [lo_hi]
  obtain ⟨d, hd⟩ := Nat.le.dest hn
  have e : 2 ^ 128 = 2 ^ n * 2 ^ d := by rw [← Nat.pow_add, hd]
  have hd1 : 0 < 2 ^ d := Nat.pow_pos (by decide)
  rw [e]
  generalize 2 ^ n = a at *
  generalize 2 ^ d = b at *
  obtain ⟨c, rfl⟩ : ∃ c, b = c + 1 := ⟨b - 1, by omega⟩
  rw [Nat.mul_add, Nat.mul_one, show a * c + a - 1 - x = (a - 1 - x) + a * c from by omega, Nat.add_mul_mod_self_left, Nat.mod_eq_of_lt (by omega)]
end Go.Proofs.YtcifljbcoioogaaGreatDoor
namespace Go.Proofs.YtcifljbcoioogaaGreatDoor
open Go

def sumLo (x y c : Nat) : Nat := (x + y + c) % 2 ^ 64
def carryN (x y c : Nat) : Nat := (x + y + c) / 2 ^ 64
theorem sumLo_lt (x y c : Nat) : sumLo x y c < 2 ^ 64 := Nat.mod_lt _ (by decide)
theorem carryN_le (x y c : Nat) (hx : x < 2 ^ 64) (hy : y < 2 ^ 64) (hc : c ≤ 1) : carryN x y c ≤ 1 := by unfold carryN; omega
theorem dvd_pow128 {n : Nat} (h : n ≤ 128) : 2 ^ n ∣ 2 ^ 128 := Nat.pow_dvd_pow 2 h
theorem sum_eq (n x y c : Nat) (hn : n ≤ 128) : trimN n (sumLo (lo x) (lo y) c) (sumLo (hi x) (hi y) (carryN (lo x) (lo y) c)) = (x + y + c) % 2 ^ n := by
  unfold trimN
  have e : sumLo (lo x) (lo y) c + 2 ^ 64 * sumLo (hi x) (hi y) (carryN (lo x) (lo y) c) = (x + y + c) % 2 ^ 128 := by
    unfold sumLo carryN lo hi; omega
  rw [e, Nat.mod_mod_of_dvd _ (dvd_pow128 hn)]
def mulLo (x y : Nat) : Nat := x * y % 2 ^ 64
def mulHi (x y : Nat) : Nat := x * y / 2 ^ 64
theorem wand_low (z : Int) : bits .and .u64 (IntKind.u64.wrap z) 4294967295 = (z % 18446744073709551616) % 4294967296 := by
  rw [IntKind.wrap_u64]
  exact and_low32 _ (Int.emod_nonneg _ (by decide)) (Int.emod_lt_of_pos _ (by decide))
theorem mul64_form (x y : Nat) (hx : x < 2 ^ 64) (hy : y < 2 ^ 64) :
    IntKind.u64.wrap
      (IntKind.u64.wrap
          (IntKind.u64.wrap ((x : Int) / 4294967296 * ((y : Int) / 4294967296)) +
            IntKind.u64.wrap (IntKind.u64.wrap ((x : Int) / 4294967296 * bits .and .u64 (y : Int) 4294967295) + IntKind.u64.wrap (bits .and .u64 (x : Int) 4294967295 * bits .and .u64 (y : Int) 4294967295) / 4294967296) / 4294967296) +
        IntKind.u64.wrap
            (bits .and .u64 (IntKind.u64.wrap (IntKind.u64.wrap ((x : Int) / 4294967296 * bits .and .u64 (y : Int) 4294967295) + IntKind.u64.wrap (bits .and .u64 (x : Int) 4294967295 * bits .and .u64 (y : Int) 4294967295) / 4294967296)) 4294967295 +
              IntKind.u64.wrap (bits .and .u64 (x : Int) 4294967295 * ((y : Int) / 4294967296))) /
          4294967296) = ((mulHi x y : Nat) : Int) := by
  have hx' : (x : Int) < 18446744073709551616 := by omega
  have hy' : (y : Int) < 18446744073709551616 := by omega
  rw [wand_low, and_low32 (x : Int) (by omega) hx', and_low32 (y : Int) (by omega) hy']
  simp only [IntKind.wrap_u64]
  rw [mul64_arith (x : Int) (y : Int) (by omega) hx' (by omega) hy']
  unfold mulHi
  simp
theorem mulLo_form (x y : Nat) : IntKind.u64.wrap ((x : Int) * (y : Int)) = ((mulLo x y : Nat) : Int) := by
  unfold mulLo
  rw [IntKind.wrap_u64]
  simp
def prodHi (x0 x1 y0 y1 : Nat) : Nat := (mulHi x0 y0 + (x0 * y1 + x1 * y0)) % 2 ^ 64
theorem prodHi_form (x0 x1 y0 y1 : Nat) : IntKind.u64.wrap (((mulHi x0 y0 : Nat) : Int) + IntKind.u64.wrap (IntKind.u64.wrap ((x0 : Int) * (y1 : Int)) + IntKind.u64.wrap ((x1 : Int) * (y0 : Int)))) = ((prodHi x0 x1 y0 y1 : Nat) : Int) := by
  unfold prodHi
  simp only [IntKind.wrap_u64]
  simp
theorem prod_eq (n x y : Nat) (hn : n ≤ 128) : trimN n (mulLo (lo x) (lo y)) (prodHi (lo x) (hi x) (lo y) (hi y)) = x * y % 2 ^ n := by
  unfold trimN
  have e : (mulLo (lo x) (lo y) + 2 ^ 64 * prodHi (lo x) (hi x) (lo y) (hi y)) = x * y % 2 ^ 128 := by
    have hx := lo_hi x
    have hy := lo_hi y
    unfold mulLo prodHi mulHi
    generalize lo x = a at *
    generalize hi x = b at *
    generalize lo y = c at *
    generalize hi y = d at *
    rw [← hx, ← hy]
    have e2 : (a + 2 ^ 64 * b) * (c + 2 ^ 64 * d) = a * c + 2 ^ 64 * (a * d + b * c) + 2 ^ 128 * (b * d) := by grind
    rw [e2]
    generalize a * c = p
    generalize a * d + b * c = q
    generalize b * d = r
    omega
  rw [e, Nat.mod_mod_of_dvd _ (dvd_pow128 hn)]
end Go.Proofs.YtcifljbcoioogaaGreatDoor
namespace Go.Proofs.YtcifljbcoioogaaGreatDoor
open Go

end Go.Proofs.YtcifljbcoioogaaGreatDoor
namespace Go.Proofs.YtcifljbcoioogaaGreatDoor
open Go Go.RowKit

/-- The three cells of a vector. -/
def vcell (n x : Nat) : Nat → Value
  | 0 => .int .i64 (n : Int)
  | 1 => .int .u64 ((lo x : Nat) : Int)
  | _ => .int .u64 ((hi x : Nat) : Int)
/-- Block b of memory is a variable that holds the vector x of n bits. -/
def HV (t : TypeId) (w : World) (b n x : Nat) : Prop := w.rowIs b t 3 (vcell n x)
section
variable {t : TypeId} {w w' : World} {b n x : Nat}
theorem HV.c0 (h : HV t w b n x) : w.cell? ⟨b, 0, none⟩ = some (.int .i64 (n : Int)) := World.rowIs.cell h (i := 0) (by decide)
theorem HV.c1 (h : HV t w b n x) : w.cell? ⟨b, 1, none⟩ = some (.int .u64 ((lo x : Nat) : Int)) := World.rowIs.cell h (i := 1) (by decide)
theorem HV.c2 (h : HV t w b n x) : w.cell? ⟨b, 2, none⟩ = some (.int .u64 ((hi x : Nat) : Int)) := World.rowIs.cell h (i := 2) (by decide)
theorem HV.fz (h : HV t w b n x) : ∀ i, w.frozen? ⟨b, i, none⟩ = false := World.rowIs.frozen h
theorem HV.all (h : HV t w b n x) : w.cell? ⟨b, 0, none⟩ = some (.int .i64 (n : Int)) ∧ w.cell? ⟨b, 1, none⟩ = some (.int .u64 ((lo x : Nat) : Int)) ∧ w.cell? ⟨b, 2, none⟩ = some (.int .u64 ((hi x : Nat) : Int)) ∧ ∀ i, w.frozen? ⟨b, i, none⟩ = false := ⟨h.c0, h.c1, h.c2, h.fz⟩
theorem HV.lt (h : HV t w b n x) : b < w.heap.size := World.rowIs.lt h
theorem HV.over (h : HV t w b n x) (hb : Below w.heap.size w w') : HV t w' b n x := World.rowIs.of_block h (hb.block b h.lt)
theorem HV.drew (h : HV t w b n x) : HV t w.drew b n x := h
theorem HV.alloc (h : HV t w b n x) (o : Obj) : HV t (w.alloc o) b n x := World.rowIs.alloc h o
theorem HV.far (h : HV t w b n x) {p : Addr} (hp : b ≠ p.block) (u : Value) : HV t (w.setCell p u) b n x := World.rowIs.setOther h hp u
theorem HV.far3 (h : HV t w b n x) {d i j k : Nat} {u v z : Value} (hd : b ≠ d) : HV t (((w.setCell ⟨d, i, none⟩ u).setCell ⟨d, j, none⟩ v).setCell ⟨d, k, none⟩ z) b n x :=
  ((h.far (p := ⟨d, i, none⟩) hd u).far (p := ⟨d, j, none⟩) hd v).far (p := ⟨d, k, none⟩) hd z
theorem HV.keep3 (h : HV t w b n x) : w.cell? ⟨b, 0, none⟩ = some (.int .i64 (n : Int)) ∧ w.cell? ⟨b, 1, none⟩ = some (.int .u64 ((lo x : Nat) : Int)) ∧ w.cell? ⟨b, 2, none⟩ = some (.int .u64 ((hi x : Nat) : Int)) := ⟨h.c0, h.c1, h.c2⟩
theorem HV.set3 (h : HV t w b n x) (m y : Nat) : HV t (((w.setCell ⟨b, 0, none⟩ (.int .i64 (m : Int))).setCell ⟨b, 1, none⟩ (.int .u64 ((lo y : Nat) : Int))).setCell ⟨b, 2, none⟩ (.int .u64 ((hi y : Nat) : Int))) b m y := by
  refine World.rowIs.congr (((World.rowIs.set h 0 _).set 1 _).set 2 _) fun i hi => ?_
  match i, hi with
  | 0, _ => rfl
  | 1, _ => rfl
  | 2, _ => rfl
theorem HV.made {cs : Array Value} (h : w.heap[b]? = some (.cells cs t (0, 0))) (hc : cs = #[.int .i64 (n : Int), .int .u64 ((lo x : Nat) : Int), .int .u64 ((hi x : Nat) : Int)]) : HV t w b n x := by
  subst hc
  refine ⟨_, h, rfl, fun i hi => ?_⟩
  match i, hi with
  | 0, _ => rfl
  | 1, _ => rfl
  | 2, _ => rfl
theorem HV.new (w : World) (t : TypeId) (n x : Nat) : HV t (w.alloc (.cells #[.int .i64 (n : Int), .int .u64 ((lo x : Nat) : Int), .int .u64 ((hi x : Nat) : Int)] t)) w.heap.size n x := HV.made (heap_alloc_new w _) rfl
end
/-- The cells of a vector, as an array. -/
abbrev vcs (n x : Nat) : Array Value := #[.int .i64 (n : Int), .int .u64 ((lo x : Nat) : Int), .int .u64 ((hi x : Nat) : Int)]
abbrev zcs : Array Value := #[.int .i64 0, .int .u64 0, .int .u64 0]
theorem HV.zero (w : World) (t : TypeId) : HV t (w.alloc (.cells zcs t)) w.heap.size 0 0 := HV.new w t 0 0
end Go.Proofs.YtcifljbcoioogaaGreatDoor
namespace Go.Proofs.YtcifljbcoioogaaGreatDoor
open Go
/-- The sign as a number. -/
def sg (b : Bool) : Int := if b then -1 else 1
end Go.Proofs.YtcifljbcoioogaaGreatDoor
