/-
  Plain facts for BvBins: a number as a list of bits; long division of the reference, a bit at a time; the operations bit by bit. Nothing here is a walk.
-/
import Derived.Test.YtmgkidfikikjpaaZi
import Derived.Test.YtmgkidfikikjpaaWr
import Derived.Test.YtmgkidfikikjpaaWq
namespace Go.Proofs.Ytmgkidfikikjpaa
open Go.RowKit
/-- The bits of a number. -/
def tb (x : Nat) (j : Nat) : Bool := x.testBit j
theorem RB.as {w : World} {A : Option Addr} {n : Nat} {f g : Nat → Bool} (h : RB w A n f) (e : ∀ j, j < n → f j = g j) : RB w A n g := fun h0 => by
  obtain ⟨b, off, e1, hl, hc⟩ := h h0
  exact ⟨b, off, e1, hl, fun j hj => by rw [hc j hj, e j hj]⟩
theorem valB_tb (x n : Nat) : valB (tb x) n = x % 2 ^ n := by
  refine Nat.eq_of_testBit_eq fun j => ?_
  rw [valB_testBit, Nat.testBit_mod_two_pow]; rfl
theorem valB_tbl (x n : Nat) (h : x < 2 ^ n) : valB (tb x) n = x := by rw [valB_tb, Nat.mod_eq_of_lt h]
theorem tb_val (f : Nat → Bool) (n j : Nat) (h : j < n) : f j = tb (valB f n) j := by unfold tb; rw [bit_row f n j h]
/-- A new slice of n bits, those of the number x. -/
def GN (w : World) (n x : Nat) (e : Ending) (w' : World) : Prop := ∃ A c, e = .returned (.slice A n c) ∧ RB w' A n (tb x) ∧ Below w.heap.size w w'
theorem GS.num {w : World} {n x : Nat} {h : Nat → Bool} {e : Ending} {w' : World} (g : GS w n h e w') (hx : valB h n = x % 2 ^ n) : GN w n x e w' := by
  obtain ⟨A, c, rfl, R, hb⟩ := g
  refine ⟨A, c, rfl, R.as fun j hj => ?_, hb⟩
  rw [tb_val h n j hj, hx]
  unfold tb
  rw [Nat.testBit_mod_two_pow]; simp [hj]
/-- The same with an error. -/
def LN (w : World) (n x : Nat) (e0 : Int) (e : Ending) (w' : World) : Prop := LB w n (tb x) e0 e w'
theorem mv_one (r n j : Nat) (b : Bool) (hj : j < n) : mvB (tb r) n 1 b j = tb (2 * r + b.toNat) j := by
  unfold mvB tb
  by_cases h : 1 ≤ j
  · rw [if_pos (by omega)]
    obtain ⟨q, rfl⟩ : ∃ q, j = q + 1 := ⟨j - 1, by omega⟩
    have e : (((q + 1 : Nat) : Int) - 1).toNat = q := by omega
    rw [e, Nat.testBit_succ]
    congr 1
    cases b <;> simp <;> omega
  · obtain rfl : j = 0 := by omega
    rw [if_neg (by omega)]
    cases b <;> simp <;> omega
theorem div_two (x s : Nat) : x / 2 ^ s = 2 * (x / 2 ^ (s + 1)) + (x.testBit s).toNat := by
  rw [Nat.pow_succ, ← Nat.div_div_eq_div_mul]
  have h := Nat.mod_two_eq_one_iff_testBit_zero (x := x / 2 ^ s)
  rw [Nat.testBit_div_two_pow, Nat.zero_add] at h
  cases hf : x.testBit s <;> rw [hf] at h <;> simp at h ⊢ <;> omega
theorem split_bit (x y s : Nat) : (x / y).testBit s = decide ((x / 2 ^ s) / y % 2 = 1) := by
  have h : x / y / 2 ^ s = x / 2 ^ s / y := by rw [Nat.div_div_eq_div_mul, Nat.div_div_eq_div_mul, Nat.mul_comm]
  rw [Nat.testBit_eq_decide_div_mod_eq, h]
theorem split_no (x y s : Nat) (hy : 0 < y) (h : 2 * (x / 2 ^ (s + 1) % y) + (x.testBit s).toNat < y) :
    (x / y).testBit s = false ∧ x / 2 ^ s % y = 2 * (x / 2 ^ (s + 1) % y) + (x.testBit s).toNat := by
  have hd := div_two x s
  rw [split_bit]
  generalize x / 2 ^ (s + 1) = a at *
  generalize (x.testBit s).toNat = b at *
  have ha := Nat.div_add_mod a y
  generalize a / y = k at *
  generalize a % y = r at *
  have e : x / 2 ^ s = y * (2 * k) + (2 * r + b) := by rw [hd, ← ha, Nat.mul_add, Nat.mul_left_comm]; omega
  rw [e, Nat.mul_add_div hy, Nat.mul_add_mod y, Nat.div_eq_of_lt h, Nat.mod_eq_of_lt h]
  simp
theorem split_yes (x y s : Nat) (hy : 0 < y) (h : y ≤ 2 * (x / 2 ^ (s + 1) % y) + (x.testBit s).toNat) :
    (x / y).testBit s = true ∧ x / 2 ^ s % y = 2 * (x / 2 ^ (s + 1) % y) + (x.testBit s).toNat - y := by
  have hd := div_two x s
  have hr := Nat.mod_lt (x / 2 ^ (s + 1)) hy
  have hb := Bool.toNat_le (x.testBit s)
  rw [split_bit]
  generalize x / 2 ^ (s + 1) = a at *
  generalize (x.testBit s).toNat = b at *
  have ha := Nat.div_add_mod a y
  generalize a / y = k at *
  generalize a % y = r at *
  obtain ⟨d, hd2⟩ : ∃ d, 2 * r + b = y + d := ⟨2 * r + b - y, by omega⟩
  have hdy : d < y := by omega
  have e : x / 2 ^ s = y * (2 * k + 1) + d := by rw [hd, ← ha, Nat.mul_add, Nat.mul_add, Nat.mul_left_comm]; omega
  rw [e, Nat.mul_add_div hy, Nat.mul_add_mod y, Nat.div_eq_of_lt hdy, Nat.mod_eq_of_lt hdy]
  exact ⟨by simp, by omega⟩
/-- The rest, less the divisor: with one bit more than both have. -/
theorem minus_val (r y n : Nat) (h1 : y ≤ r) (h2 : r < 2 ^ n) : (r + (2 ^ n - 1 - y) + 1) % 2 ^ n = r - y := by
  have e : r + (2 ^ n - 1 - y) + 1 = (r - y) + 2 ^ n := by omega
  rw [e, Nat.add_mod_right, Nat.mod_eq_of_lt (by omega)]
theorem valB_and (f g : Nat → Bool) (n : Nat) : valB (fun j => f j && g j) n = valB f n &&& valB g n := by
  refine Nat.eq_of_testBit_eq fun j => ?_
  rw [Nat.testBit_and, valB_testBit, valB_testBit, valB_testBit]
  cases decide (j < n) <;> simp
theorem valB_or (f g : Nat → Bool) (n : Nat) : valB (fun j => f j || g j) n = valB f n ||| valB g n := by
  refine Nat.eq_of_testBit_eq fun j => ?_
  rw [Nat.testBit_or, valB_testBit, valB_testBit, valB_testBit]
  cases decide (j < n) <;> simp
theorem valB_xor (f g : Nat → Bool) (n : Nat) : valB (fun j => f j != g j) n = valB f n ^^^ valB g n := by
  refine Nat.eq_of_testBit_eq fun j => ?_
  rw [Nat.testBit_xor, valB_testBit, valB_testBit, valB_testBit]
  cases decide (j < n) <;> simp
/-- Shifted down; with the sign put in. -/
theorem mv_down (f : Nat → Bool) (n k : Nat) : valB (mvB f n (-(k : Int)) false) n = valB f n / 2 ^ k := by
  refine Nat.eq_of_testBit_eq fun j => ?_
  rw [valB_testBit, Nat.testBit_div_two_pow, valB_testBit]
  unfold mvB
  by_cases hj : j + k < n
  · rw [if_pos (by omega), show ((j : Int) - -(k : Int)).toNat = j + k by omega]
    have : j < n := by omega
    simp [hj, this]
  · rw [if_neg (by omega)]; simp [hj]
theorem mv_ones (f : Nat → Bool) (n k : Nat) : valB (mvB f n (-(k : Int)) true) n = 2 ^ n - 1 - (2 ^ n - 1 - valB f n) / 2 ^ k := by
  have h1 := valB_not f n
  have h2 := valB_not (mvB f n (-(k : Int)) true) n
  have h3 := mv_down (fun j => !f j) n k
  have e : valB (fun j => !mvB f n (-(k : Int)) true j) n = valB (mvB (fun j => !f j) n (-(k : Int)) false) n := by
    congr 1
    funext j
    unfold mvB
    split <;> simp
  rw [e, h3] at h2
  have e2 : valB (fun j => !f j) n = 2 ^ n - 1 - valB f n := by omega
  rw [e2] at h2
  omega
theorem mv_sar (f : Nat → Bool) (n k : Nat) (h : 1 ≤ n) : valB (mvB f n (-(k : Int)) (f (n - 1))) n = sarN n (valB f n) k := by
  unfold sarN
  rw [bit_row f n (n - 1) (by omega)]
  cases f (n - 1)
  · rw [mv_down]; rfl
  · rw [mv_ones]; rfl
/-- The highest bit turned. -/
def flip (f : Nat → Bool) (n j : Nat) : Bool := if j = n - 1 then !f j else f j
theorem flip_less (f g : Nat → Bool) (n : Nat) (h : 1 ≤ n) : decide (valB (flip f n) n < valB (flip g n) n) = sltN n (valB f n) (valB g n) := by
  obtain ⟨m, rfl⟩ : ∃ m, n = m + 1 := ⟨n - 1, by omega⟩
  unfold sltN
  simp only [Nat.add_sub_cancel]
  rw [bit_row f (m + 1) m (by omega), bit_row g (m + 1) m (by omega)]
  have c : ∀ f : Nat → Bool, valB (flip f (m + 1)) m = valB f m := fun f => valB_congr m fun j hj => by unfold flip; rw [if_neg (by omega)]
  have d : ∀ f : Nat → Bool, flip f (m + 1) m = !f m := fun f => by unfold flip; rw [if_pos (by omega)]
  simp only [valB, c, d]
  have h1 := valB_lt f m
  have h2 := valB_lt g m
  have hf : f m = true ∨ f m = false := by cases f m <;> simp
  have hg : g m = true ∨ g m = false := by cases g m <;> simp
  rcases hf with hf | hf <;> rcases hg with hg | hg <;> simp [hf, hg] <;> omega
end Go.Proofs.Ytmgkidfikikjpaa
