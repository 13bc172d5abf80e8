/-
  Plain facts on the bits of a list as a number: its digits, its words; nothing here is a walk.
-/
import Derived.Test.YtdjaikglkgabdaaGreatDoorWu
import Derived.Test.YtdjaikglkgabdaaGreatDoorWt
namespace Go.Proofs.YtdjaikglkgabdaaGreatDoor
open Go.RowKit
theorem valB_testBit (f : Nat → Bool) : ∀ n i, (valB f n).testBit i = (decide (i < n) && f i)
  | 0, i => by simp [valB]
  | n + 1, i => by
    have hl := valB_lt f n
    have ih := valB_testBit f n i
    have h1 := valB_lt f (n + 1)
    rcases Nat.lt_trichotomy i n with h | h | h
    · have e : (valB f (n + 1)).testBit i = (valB f n).testBit i := by
        rw [valB]
        cases f n
        · simp
        · rw [Bool.toNat_true, Nat.one_mul, Nat.add_comm, Nat.testBit_two_pow_add_gt h]
      rw [e, ih]; simp [h, Nat.lt_succ_of_lt h]
    · subst h
      have h0 : (valB f i).testBit i = false := Nat.testBit_lt_two_pow hl
      rw [valB]
      cases hf : f i
      · simp [h0]
      · rw [Bool.toNat_true, Nat.one_mul, Nat.add_comm, Nat.testBit_two_pow_add_eq, h0]; simp
    · have h2 : (valB f (n + 1)).testBit i = false := Nat.testBit_lt_two_pow (Nat.lt_of_lt_of_le h1 (Nat.pow_le_pow_right (by decide) h))
      rw [h2]; simp; omega
/-- The digits of a list of bits, the highest first. -/
def rtx (f : Nat → Bool) : Nat → ByteArray
  | 0 => ⟨#[]⟩
  | k + 1 => ⟨#[if f k then 49 else 48]⟩ ++ rtx f k
theorem rtx_list (f : Nat → Bool) : ∀ n, (rtx f n).data.toList = (List.range n).map fun j => if f (n - 1 - j) then (49 : UInt8) else 48
  | 0 => rfl
  | n + 1 => by
    rw [rtx, ByteArray.data_append, Array.toList_append, rtx_list f n, List.range_succ_eq_map, List.map_cons, List.map_map]
    simp only [List.cons_append, List.nil_append, Nat.add_sub_cancel, Nat.sub_zero, List.cons.injEq, true_and]
    refine List.map_congr_left fun j hj => ?_
    rw [List.mem_range] at hj
    show _ = if f (n - (j + 1)) then (49 : UInt8) else 48
    rw [show n - 1 - j = n - (j + 1) by omega]
theorem rtx_size (f : Nat → Bool) : ∀ n, (rtx f n).size = n
  | 0 => rfl
  | n + 1 => by
    have h : (rtx f (n + 1)).size = (rtx f (n + 1)).data.toList.length := by simp
    rw [h, rtx_list]; simp
theorem push_list : ∀ (l : List Int) (r : ByteArray), (l.foldl (fun r n => r.push (UInt8.ofNat n.toNat)) r).data.toList = r.data.toList ++ l.map fun n => UInt8.ofNat n.toNat
  | [], r => by simp
  | a :: l, r => by
    rw [List.foldl_cons, push_list l]
    show (r.data.push _).toList ++ _ = _
    rw [Array.toList_push]; simp
theorem txt_rtx (f : Nat → Bool) (n : Nat) : txt n (valB f n) = rtx f n := by
  have h : (txt n (valB f n)).data.toList = (rtx f n).data.toList := by
    unfold txt
    rw [push_list, rtx_list, List.map_map]
    show [] ++ _ = _
    rw [List.nil_append]
    refine List.map_congr_left fun j hj => ?_
    rw [List.mem_range] at hj
    show UInt8.ofNat (dgt n (valB f n) j).toNat = _
    unfold dgt
    rw [valB_testBit]
    have e : decide (n - 1 - j < n) = true := by simp; omega
    rw [e, Bool.true_and]
    cases f (n - 1 - j) <;> rfl
  generalize txt n (valB f n) = a at h
  generalize rtx f n = b at h
  cases a with | mk a => cases b with | mk b => simp at h; rw [h]
/-- Word j of a number. -/
def wordN (x j : Nat) : Nat := if j = 0 then lo x else hi x
theorem word_no (f : Nat → Bool) (k j : Nat) (h : f k = false) : wordN (valB f (k + 1)) j = wordN (valB f k) j := by rw [valB_no f k h]
theorem word_lo (f : Nat → Bool) (k : Nat) (h : k < 64) (hf : f k = true) : lo (valB f (k + 1)) = lo (valB f k) + 2 ^ k ∧ hi (valB f (k + 1)) = hi (valB f k) ∧ lo (valB f k) + 2 ^ k < 2 ^ 64 := by
  have hl := valB_lt f k
  have hp : 2 ^ (k + 1) ≤ 2 ^ 64 := Nat.pow_le_pow_right (by decide) (by omega)
  rw [Nat.pow_succ] at hp
  have e1 : lo (valB f k) = valB f k := Nat.mod_eq_of_lt (by omega)
  have e2 : valB f (k + 1) = valB f k + 2 ^ k := by rw [valB, hf]; simp
  have e3 : lo (valB f (k + 1)) = valB f k + 2 ^ k := by rw [e2]; exact Nat.mod_eq_of_lt (by omega)
  refine ⟨by rw [e3, e1], ?_, by omega⟩
  unfold hi; rw [e2, Nat.div_eq_of_lt (by omega), Nat.div_eq_of_lt (by omega)]
theorem word_hi (f : Nat → Bool) (j : Nat) (h : j < 64) (hf : f (64 + j) = true) : hi (valB f (64 + j + 1)) = hi (valB f (64 + j)) + 2 ^ j ∧ lo (valB f (64 + j + 1)) = lo (valB f (64 + j)) ∧ hi (valB f (64 + j)) + 2 ^ j < 2 ^ 64 := by
  have hl := valB_lt f (64 + j)
  have hp : 2 ^ (j + 1) ≤ 2 ^ 64 := Nat.pow_le_pow_right (by decide) (by omega)
  rw [Nat.pow_succ] at hp
  have hp2 : 2 ^ (64 + j) = 2 ^ 64 * 2 ^ j := Nat.pow_add _ _ _
  have e2 : valB f (64 + j + 1) = valB f (64 + j) + 2 ^ 64 * 2 ^ j := by rw [valB, hf, hp2]; simp
  have hh : hi (valB f (64 + j)) < 2 ^ j := by unfold hi; rw [Nat.div_lt_iff_lt_mul (by decide), Nat.mul_comm, ← hp2]; exact hl
  refine ⟨by unfold hi; rw [e2, Nat.add_mul_div_left _ _ (by decide)], by unfold lo; rw [e2, Nat.add_mul_mod_self_left], by omega⟩
theorem wrap_sum (a k : Nat) (h : a + 2 ^ k < 2 ^ 64) : IntKind.u64.wrap ((a : Int) + IntKind.u64.wrap ((2 : Int) ^ k)) = ((a + 2 ^ k : Nat) : Int) := by
  have hk : k < 64 := by
    rcases Nat.lt_or_ge k 64 with h1 | h1
    · exact h1
    · have := Nat.pow_le_pow_right (show 0 < 2 by decide) h1; omega
  rw [wrap_pow k hk, IntKind.wrap_u64]
  generalize 2 ^ k = z at *
  omega
end Go.Proofs.YtdjaikglkgabdaaGreatDoor
