/-
  Arithmetic of konst: the bits of a number as the document takes them, operators on bits, division and shifts as the document writes them. Nothing here is walked.
-/
import Derived.Test.YtdjaikglkgabdaaGreatDoorXa
import Derived.Test.YtdjaikglkgabdaaGreatDoorZa
import Derived.Test.YtdjaikglkgabdaaGreatDoorBa
namespace Go.Proofs.YtdjaikglkgabdaaGreatDoor
open Go.RowKit Go.Lib
def bF (a : Int) (i : Nat) : Bool := decide ((a / 2 ^ i) % 2 = 1)
theorem bF_tb (a : Int) (i : Nat) (hi : i < 33) : bF a i = tb (BitVec.ofInt 33 a).toNat i := by
  unfold bF tb
  rw [BitVec.toNat_ofInt, Nat.testBit_eq_decide_div_mod_eq]
  have hM : (2 : Int) ^ 33 = 2 ^ i * (2 * 2 ^ (32 - i)) := by
    rw [← Int.pow_succ', ← Int.pow_add]; congr 1; omega
  have hp : (2 : Int) ^ i ≠ 0 := Int.ne_of_gt (Int.pow_pos (by decide))
  obtain ⟨r, hr⟩ : ∃ r, r = a % ((2 ^ 33 : Nat) : Int) := ⟨_, rfl⟩
  have h0 : 0 ≤ r := by rw [hr]; exact Int.emod_nonneg _ (by decide)
  have ha : a = r + 2 ^ i * (2 * (2 ^ (32 - i) * (a / ((2 ^ 33 : Nat) : Int)))) := by
    have := Int.emod_add_mul_ediv a ((2 ^ 33 : Nat) : Int)
    rw [← hr] at this
    rw [show ((2 ^ 33 : Nat) : Int) = 2 ^ 33 from rfl, hM] at this ⊢
    simp only [Int.mul_assoc] at this ⊢
    exact this.symm
  obtain ⟨K, hK⟩ : ∃ K, K = 2 ^ (32 - i) * (a / ((2 ^ 33 : Nat) : Int)) := ⟨_, rfl⟩
  rw [← hr]
  rw [← hK] at ha
  have e : a / 2 ^ i = r / 2 ^ i + 2 * K := by rw [ha, Int.add_mul_ediv_left _ _ hp]
  have e2 : ((r.toNat / 2 ^ i : Nat) : Int) = r / 2 ^ i := by
    rw [Int.natCast_ediv, Int.toNat_of_nonneg h0]
    rfl
  rw [e, ← e2]
  generalize r.toNat / 2 ^ i = m
  rw [decide_eq_decide]
  omega
/-- The number of 33 bits. -/
def nmF (f : Nat → Bool) : Int := (valB f 32 : Int) - (if f 32 then 4294967296 else 0)
theorem nmF_congr {f g : Nat → Bool} (h : ∀ j, j < 33 → f j = g j) : nmF f = nmF g := by
  unfold nmF
  rw [valB_congr 32 (fun j hj => h j (by omega)), h 32 (by decide)]
theorem nmF_bv (v : BitVec 33) : nmF (tb v.toNat) = v.toInt := by
  unfold nmF
  rw [valB_tb, BitVec.toInt_eq_toNat_cond]
  have h := v.isLt
  unfold tb
  rw [Nat.testBit_eq_decide_div_mod_eq]
  by_cases hc : 2 * v.toNat < 2 ^ 33
  · rw [if_pos hc, if_neg (by simp; omega)]; omega
  · rw [if_neg hc, if_pos (by simp; omega)]; omega
theorem nmF_not (f : Nat → Bool) : nmF (fun j => !f j) = -1 - nmF f := by
  have h := valB_not f 32
  unfold nmF
  generalize valB (fun j => !f j) 32 = x at h ⊢
  cases hf : f 32
  · simp only [hf, Bool.not_false, if_true, Bool.false_eq_true, if_false]; omega
  · simp only [hf, Bool.not_true, if_true, Bool.false_eq_true, if_false]; omega
theorem sx33 (a : Int) (h : InR a) : (BitVec.ofInt 33 a).signExtend 64 = BitVec.ofInt 64 a := by
  apply BitVec.eq_of_toInt_eq
  rw [BitVec.toInt_signExtend_of_le (by decide), BitVec.toInt_ofInt, BitVec.toInt_ofInt]
  unfold InR at h
  simp only [Int.bmod_def]
  omega
theorem bw_and (a b : Int) (ha : InR a) (hb : InR b) : nmF (fun j => bF a j && bF b j) = bw (· &&& ·) a b := by
  unfold bw
  rw [← sx33 a ha, ← sx33 b hb]
  simp only []
  rw [← BitVec.signExtend_and, BitVec.toInt_signExtend_of_le (by decide), ← nmF_bv]
  refine nmF_congr fun j hj => ?_
  rw [bF_tb a j hj, bF_tb b j hj]
  simp [tb, BitVec.toNat_and, Nat.testBit_and]
theorem bw_or (a b : Int) (ha : InR a) (hb : InR b) : nmF (fun j => bF a j || bF b j) = bw (· ||| ·) a b := by
  unfold bw
  rw [← sx33 a ha, ← sx33 b hb]
  simp only []
  rw [← BitVec.signExtend_or, BitVec.toInt_signExtend_of_le (by decide), ← nmF_bv]
  refine nmF_congr fun j hj => ?_
  rw [bF_tb a j hj, bF_tb b j hj]
  simp [tb, BitVec.toNat_or, Nat.testBit_or]
theorem bw_xor (a b : Int) (ha : InR a) (hb : InR b) : nmF (fun j => bF a j != bF b j) = bw (· ^^^ ·) a b := by
  unfold bw
  rw [← sx33 a ha, ← sx33 b hb]
  simp only []
  rw [← BitVec.signExtend_xor, BitVec.toInt_signExtend_of_le (by decide), ← nmF_bv]
  refine nmF_congr fun j hj => ?_
  rw [bF_tb a j hj, bF_tb b j hj]
  simp [tb, BitVec.toNat_xor, Nat.testBit_xor]
theorem bw_xnor (a b : Int) (ha : InR a) (hb : InR b) : nmF (fun j => bF a j == bF b j) = -1 - bw (· ^^^ ·) a b := by
  rw [← bw_xor a b ha hb, ← nmF_not]
  refine nmF_congr fun j _ => ?_
  cases bF a j <;> cases bF b j <;> rfl
theorem bw_in (a b : Int) (f : BitVec 64 → BitVec 64 → BitVec 64) : -9223372036854775808 ≤ bw f a b ∧ bw f a b ≤ 9223372036854775807 := by
  have h1 := BitVec.toInt_lt (x := f (BitVec.ofInt 64 a) (BitVec.ofInt 64 b))
  have h2 := BitVec.le_toInt (x := f (BitVec.ofInt 64 a) (BitVec.ofInt 64 b))
  unfold bw
  omega
/-- The bits of a number, one behind the other. -/
theorem bF_zero (a : Int) : bF a 0 = decide (a % 2 = 1) := by unfold bF; simp
theorem bF_half (a : Int) (i : Nat) : bF (a / 2) i = bF a (i + 1) := by
  unfold bF
  rw [Int.ediv_ediv_of_nonneg (by decide), Int.pow_succ']
/-- Division by truncation, as the document writes it. -/
theorem quo_eq (a b q : Int) (hq : q = (a.natAbs / b.natAbs : Nat)) : (if (decide (a < 0)) != (decide (b < 0)) then -q else q) = a.tdiv b := by
  subst hq
  cases a with
  | ofNat m => cases b with
    | ofNat n => simp [Int.tdiv]; intro h; exfalso; omega
    | negSucc n => simp [Int.tdiv, Int.natAbs]
  | negSucc m => cases b with
    | ofNat n => simp [Int.tdiv, Int.natAbs]
    | negSucc n => simp [Int.tdiv, Int.natAbs]
theorem rem_eq (a b : Int) : a - a.tdiv b * b = a.tmod b := by
  have := Int.tmod_add_mul_tdiv a b
  rw [Int.mul_comm] at this
  omega
/-- Floor division by a power, as the document writes it. -/
theorem shr_eq (a p q : Int) (hp : 0 < p) (hq : q = a.tdiv p) : (if a < q * p then q - 1 else q) = a / p := by
  subst hq
  have h2 := Int.mul_ediv_add_emod a p
  have h3 := Int.emod_nonneg a (Int.ne_of_gt hp)
  have h4 := Int.emod_lt_of_pos a hp
  rw [Int.mul_comm] at h2
  rw [Int.tdiv_eq_ediv]
  split
  · rw [Int.add_zero, if_neg (by omega)]
  · rw [Int.sign_eq_one_of_pos hp, Int.add_mul, if_pos (by omega)]; omega
end Go.Proofs.YtdjaikglkgabdaaGreatDoor
