/-
  What the walk of BvParts asks of the program and the reference: Slice, Put, Cat, Ext, Equal, for every two lists and every three integers.
-/
import Derived.Test.YtmgkidfikikjpaaEc
import Derived.Test.YtmgkidfikikjpaaEa
import Derived.Test.YtmgkidfikikjpaaCd
import Derived.Test.YtmgkidfikikjpaaDc
namespace Go.Proofs.Ytmgkidfikikjpaa
open Go.RowKit
theorem sub_val (f : Nat → Bool) (n l m : Nat) (h : l + m ≤ n) : valB (fun j => f (l + j)) m = valB f n / 2 ^ l % 2 ^ m := by
  refine Nat.eq_of_testBit_eq fun j => ?_
  rw [valB_testBit, Nat.testBit_mod_two_pow, Nat.testBit_div_two_pow, valB_testBit]
  by_cases hj : j < m
  · have : j + l < n := by omega
    rw [Nat.add_comm l j]
    simp [hj, this]
  · simp [hj]
theorem put_val (f g : Nat → Bool) (n l m : Nat) (h : l + m ≤ n) (hn : n ≤ 128) : valB (putB f g l m) n = putN n (valB f n) l m (valB g m) := by
  have e : 2 ^ m * 2 ^ l ≤ 2 ^ n := by rw [← Nat.pow_add]; exact Nat.pow_le_pow_right (by decide) (by omega)
  have hp := Nat.two_pow_pos l
  have hH : (2 ^ m - 1) * 2 ^ l < 2 ^ n := by
    rw [Nat.sub_mul, Nat.one_mul]
    have := Nat.two_pow_pos n
    omega
  have hG : valB g m * 2 ^ l < 2 ^ n := Nat.lt_of_lt_of_le (Nat.mul_lt_mul_of_lt_of_le (valB_lt g m) (Nat.le_refl _) hp) e
  have h128 : (2 ^ m - 1) * 2 ^ l < 2 ^ 128 := Nat.lt_of_lt_of_le hH (Nat.pow_le_pow_right (by decide) hn)
  unfold putN
  rw [Nat.mod_eq_of_lt hH, Nat.mod_eq_of_lt hG, Nat.sub_sub, Nat.add_comm 1]
  refine Nat.eq_of_testBit_eq fun i => ?_
  rw [Nat.testBit_or, Nat.testBit_and, Nat.testBit_two_pow_sub_succ h128, ← Nat.shiftLeft_eq, ← Nat.shiftLeft_eq, Nat.testBit_shiftLeft, Nat.testBit_shiftLeft, Nat.testBit_two_pow_sub_one, valB_testBit, valB_testBit, valB_testBit]
  unfold putB
  by_cases h1 : l ≤ i ∧ i < l + m
  · rw [if_pos h1]
    have a1 : i < n := by omega
    have a2 : i - l < m := by omega
    simp [h1.1, a1, a2]
  · rw [if_neg h1]
    by_cases h2 : l ≤ i
    · have a2 : ¬ i - l < m := by omega
      have a3 : m ≤ i - l := by omega
      by_cases h3 : i < n
      · have a4 : i < 128 := by omega
        simp [h2, a2, a3, h3, a4]
      · simp [h2, a2, a3, h3]
    · by_cases h3 : i < n
      · have a4 : i < 128 := by omega
        simp [h2, h3, a4]
      · simp [h2, h3]
theorem ext_val (f : Nat → Bool) (n m : Nat) (s : Bool) : valB (extB f n s) m = if s then 2 ^ m - 1 - (2 ^ n - 1 - valB f n) % 2 ^ m else valB f n % 2 ^ m := by
  cases s
  · simp only [Bool.false_eq_true, if_false]
    refine Nat.eq_of_testBit_eq fun i => ?_
    rw [valB_testBit, Nat.testBit_mod_two_pow, valB_testBit]
    unfold extB
    by_cases h : i < n <;> simp [h]
  · simp only [if_true]
    have h1 := valB_not (extB f n true) m
    have h2 : valB (fun j => !extB f n true j) m = valB (fun j => !f j) n % 2 ^ m := by
      refine Nat.eq_of_testBit_eq fun i => ?_
      rw [valB_testBit, Nat.testBit_mod_two_pow, valB_testBit]
      unfold extB
      by_cases h : i < n <;> simp [h]
    rw [h2, not_val] at h1
    omega
theorem parts_slice (n c : Nat) (lo wi : Int) (A : Option Addr) (f : Nat → Bool) (hn : n ≤ 128) (hc : n ≤ c) :
    ∃ (nk : Nat) (hk : Nat → Bool) (ek : Int), nk ≤ 128 ∧ (∀ w, Calls Try.prog 12 #[vv n (valB f n), .int .i64 lo, .int .i64 wi] w (RV w (.tuple #[vv nk (valB hk nk), .int .i64 ek]))) ∧
      (∀ w, RB w A n f → Calls Try.prog 13 #[.slice A n c, .int .i64 lo, .int .i64 wi] w (LB w nk hk ek)) := by
  by_cases h : 0 ≤ lo ∧ 1 ≤ wi ∧ lo + wi ≤ (n : Int)
  · obtain ⟨l, rfl⟩ : ∃ l : Nat, lo = (l : Int) := ⟨lo.toNat, by omega⟩
    obtain ⟨m, rfl⟩ : ∃ m : Nat, wi = (m : Int) := ⟨wi.toNat, by omega⟩
    exact ⟨m, fun j => f (l + j), 0, by omega, fun w => by rw [sub_val f n l m (by omega)]; exact Slice_ok n _ l m w hn (valB_lt f n) (by omega) (by omega), fun w hA => refSlice_ok n l m c A f w (by omega) hc (by omega) (by omega) hA⟩
  · exact ⟨0, fun _ => false, 3, by omega, fun w => Slice_bad n _ lo wi w hn (by omega), fun w _ => refSlice_bad n c lo wi A _ w (by omega) (by omega)⟩
theorem parts_put (n m c1 c2 : Nat) (lo : Int) (A B : Option Addr) (f g : Nat → Bool) (hn : n ≤ 128) (hm : m ≤ 128) (hc : n ≤ c1) :
    ∃ (nk : Nat) (hk : Nat → Bool) (ek : Int), nk ≤ 128 ∧ (∀ w, Calls Try.prog 14 #[vv n (valB f n), .int .i64 lo, vv m (valB g m)] w (RV w (.tuple #[vv nk (valB hk nk), .int .i64 ek]))) ∧
      (∀ w, RB w A n f → RB w B m g → Calls Try.prog 15 #[.slice A n c1, .int .i64 lo, .slice B m c2] w (LB w nk hk ek)) := by
  by_cases h : 0 ≤ lo ∧ 1 ≤ m ∧ lo + (m : Int) ≤ (n : Int)
  · obtain ⟨l, rfl⟩ : ∃ l : Nat, lo = (l : Int) := ⟨lo.toNat, by omega⟩
    exact ⟨n, putB f g l m, 0, hn, fun w => by rw [put_val f g n l m (by omega) hn]; exact Put_v n _ l m _ w hn (valB_lt f n) (valB_lt g m) (by omega) (by omega), fun w hA hB => refPut_ok n l m c1 c2 A B f g w (by omega) hc (by omega) (by omega) hA hB⟩
  · exact ⟨0, fun _ => false, 3, by omega, fun w => Put_bad n _ m _ lo w hn hm (by omega), fun w _ _ => refPut_bad n m c1 c2 lo A B _ w (by omega) (by omega)⟩
theorem parts_ext (n c : Nat) (wi : Int) (b : Bool) (A : Option Addr) (f : Nat → Bool) (hn : n ≤ 128) :
    ∃ (nk : Nat) (hk : Nat → Bool) (ek : Int), nk ≤ 128 ∧ (∀ w, Calls Try.prog 18 #[vv n (valB f n), .int .i64 wi, .bool b] w (RV w (.tuple #[vv nk (valB hk nk), .int .i64 ek]))) ∧
      (∀ w, RB w A n f → Calls Try.prog 19 #[.slice A n c, .int .i64 wi, .bool b] w (LB w nk hk ek)) := by
  by_cases h : 1 ≤ wi ∧ wi ≤ 128
  · by_cases h0 : n = 0
    · subst h0
      exact ⟨0, fun _ => false, 2, by omega, fun w => Ext_none _ wi b w h, fun w _ => refExt_bad 0 c wi A b _ w (by omega)⟩
    · obtain ⟨m, rfl⟩ : ∃ m : Nat, wi = (m : Int) := ⟨wi.toNat, by omega⟩
      refine ⟨m, extB f n (b && f (n - 1)), 0, by omega, fun w => ?_, fun w hA => refExt_ok n m c A f b w (by omega) (by omega) (by omega) (by omega) hA⟩
      rw [ext_val]
      cases b
      · simp only [Bool.false_and, Bool.false_eq_true, if_false]
        exact Ext_u n _ m w (by omega) hn (valB_lt f n) (by omega) (by omega)
      · rw [Bool.true_and]
        exact Ext_s n _ m (f (n - 1)) w (by omega) hn (valB_lt f n) (by omega) (by omega) (by rw [valB_testBit]; simp; omega)
  · exact ⟨0, fun _ => false, 2, by omega, fun w => Ext_width n _ wi b w (by omega), fun w _ => refExt_bad n c wi A b _ w (by omega)⟩
theorem catR_lt (nn xx : Nat → Nat) (hx : ∀ j, xx j < 2 ^ nn j) (len : Nat) : (catR nn xx len).1 ≤ 128 ∧ (catR nn xx len).2.1 < 2 ^ (catR nn xx len).1 := by
  unfold catR
  cases h : catS nn xx (dn len len) with
  | none => exact (show (0 : Nat) ≤ 128 ∧ (0 : Nat) < 2 ^ 0 by decide)
  | some p =>
    obtain ⟨m, v⟩ := p
    obtain ⟨h1, h2⟩ := catS_lt nn xx hx _ m v h
    by_cases hm : m = 0
    · simp only [hm, if_true]
      decide
    · simp only [hm, if_false]
      exact ⟨h1, h2⟩
def thr {α : Type} (z a b : α) (j : Nat) : α := if j = 0 then a else if j = 1 then b else if j = 2 then a else z
theorem RV3_thr (w : World) (g n1 x1 n2 x2 : Nat) (hg : g = w.heap.size) : RV3 (w.alloc (.cells #[.int .i64 (n1 : Int), .int .u64 ((lo x1 : Nat) : Int), .int .u64 ((hi x1 : Nat) : Int), .int .i64 (n2 : Int), .int .u64 ((lo x2 : Nat) : Int), .int .u64 ((hi x2 : Nat) : Int), .int .i64 (n1 : Int), .int .u64 ((lo x1 : Nat) : Int), .int .u64 ((hi x1 : Nat) : Int)] 28)) (some ⟨g, 0, none⟩) 3 (thr 0 n1 n2) (thr 0 x1 x2) := fun _ => by
  subst hg
  have hc : ∀ j, (w.alloc (.cells #[.int .i64 (n1 : Int), .int .u64 ((lo x1 : Nat) : Int), .int .u64 ((hi x1 : Nat) : Int), .int .i64 (n2 : Int), .int .u64 ((lo x2 : Nat) : Int), .int .u64 ((hi x2 : Nat) : Int), .int .i64 (n1 : Int), .int .u64 ((lo x1 : Nat) : Int), .int .u64 ((hi x1 : Nat) : Int)] 28)).cell? ⟨w.heap.size, j, none⟩ = _ := fun j => cell_of_row _ _ j _ _ _ (heap_alloc_new w _)
  refine ⟨w.heap.size, 0, rfl, by rw [World.size_alloc]; omega, fun j hj => ?_⟩
  rw [hc, hc, hc]
  obtain rfl | rfl | rfl : j = 0 ∨ j = 1 ∨ j = 2 := by omega
  · exact ⟨rfl, rfl, rfl⟩
  · exact ⟨rfl, rfl, rfl⟩
  · exact ⟨rfl, rfl, rfl⟩
theorem RL_thr (w : World) (g n1 c1 n2 c2 : Nat) (A B : Option Addr) (f1 f2 : Nat → Bool) (hg : g = w.heap.size) (hA : RB w A n1 f1) (hB : RB w B n2 f2) : RL (w.alloc (.cells #[.slice A n1 c1, .slice B n2 c2, .slice A n1 c1] 22)) (some ⟨g, 0, none⟩) 3 (thr 0 n1 n2) (thr 0 c1 c2) (thr none A B) (thr (fun _ => false) f1 f2) := fun _ => by
  subst hg
  have hc : ∀ j, (w.alloc (.cells #[.slice A n1 c1, .slice B n2 c2, .slice A n1 c1] 22)).cell? ⟨w.heap.size, j, none⟩ = _ := fun j => cell_of_row _ _ j _ _ _ (heap_alloc_new w _)
  have hb : Below w.heap.size w (w.alloc (.cells #[.slice A n1 c1, .slice B n2 c2, .slice A n1 c1] 22)) := by go_grown
  refine ⟨w.heap.size, 0, rfl, by rw [World.size_alloc]; omega, fun j hj => ?_⟩
  rw [hc]
  obtain rfl | rfl | rfl : j = 0 ∨ j = 1 ∨ j = 2 := by omega
  · exact ⟨rfl, hA.keep hb⟩
  · exact ⟨rfl, hB.keep hb⟩
  · exact ⟨rfl, hA.keep hb⟩
theorem parts_cat (n m c1 c2 : Nat) (A B : Option Addr) (f g : Nat → Bool) (hn : n ≤ 128) (hm : m ≤ 128) :
    ∃ (nk : Nat) (hk : Nat → Bool) (ek : Int), nk ≤ 128 ∧
      (∀ (w : World) (b : Nat), b = w.heap.size → Calls Try.prog 16 #[.slice (some ⟨b, 0, none⟩) 3 3] (w.alloc (.cells #[.int .i64 (n : Int), .int .u64 ((lo (valB f n) : Nat) : Int), .int .u64 ((hi (valB f n) : Nat) : Int), .int .i64 (m : Int), .int .u64 ((lo (valB g m) : Nat) : Int), .int .u64 ((hi (valB g m) : Nat) : Int), .int .i64 (n : Int), .int .u64 ((lo (valB f n) : Nat) : Int), .int .u64 ((hi (valB f n) : Nat) : Int)] 28))
        (RV (w.alloc (.cells #[.int .i64 (n : Int), .int .u64 ((lo (valB f n) : Nat) : Int), .int .u64 ((hi (valB f n) : Nat) : Int), .int .i64 (m : Int), .int .u64 ((lo (valB g m) : Nat) : Int), .int .u64 ((hi (valB g m) : Nat) : Int), .int .i64 (n : Int), .int .u64 ((lo (valB f n) : Nat) : Int), .int .u64 ((hi (valB f n) : Nat) : Int)] 28)) (.tuple #[vv nk (valB hk nk), .int .i64 ek]))) ∧
      (∀ (w : World) (b : Nat), b = w.heap.size → RB w A n f → RB w B m g → Calls Try.prog 17 #[.slice (some ⟨b, 0, none⟩) 3 3] (w.alloc (.cells #[.slice A n c1, .slice B m c2, .slice A n c1] 22)) (LB (w.alloc (.cells #[.slice A n c1, .slice B m c2, .slice A n c1] 22)) nk hk ek)) := by
  have hx : ∀ j, thr 0 (valB f n) (valB g m) j < 2 ^ thr 0 n m j := fun j => by
    unfold thr
    split
    · exact valB_lt f n
    · split
      · exact valB_lt g m
      · split
        · exact valB_lt f n
        · decide
  obtain ⟨h1, h2⟩ := catR_lt (thr 0 n m) (thr 0 (valB f n) (valB g m)) hx 3
  refine ⟨(catR (thr 0 n m) (thr 0 (valB f n) (valB g m)) 3).1, tb (catR (thr 0 n m) (thr 0 (valB f n) (valB g m)) 3).2.1, (catR (thr 0 n m) (thr 0 (valB f n) (valB g m)) 3).2.2, h1, fun w b hb => ?_, fun w b hb hA hB => ?_⟩
  · rw [valB_tbl _ _ h2]
    exact Cat_ok 3 3 (some ⟨b, 0, none⟩) _ _ _ hx (by omega) (RV3_thr w b n (valB f n) m (valB g m) hb)
  · have e : (fun j => valB (thr (fun _ => false) f g j) (thr 0 n m j)) = thr 0 (valB f n) (valB g m) := by
      funext j
      unfold thr
      split
      · rfl
      · split
        · rfl
        · split <;> rfl
    have k := refCat_ok 3 3 (some ⟨b, 0, none⟩) (thr 0 n m) (thr 0 c1 c2) (thr none A B) (thr (fun _ => false) f g) _ (by omega) (fun j => by unfold thr; split; omega; split; omega; split <;> omega) (RL_thr w b n c1 m c2 A B f g hb hA hB)
    rw [e] at k
    exact k
theorem Cat_no (w : World) : Calls Try.prog 16 #[.slice none 0 0] w (RV w (.tuple #[vv 0 0, .int .i64 2])) :=
  Cat_ok 0 0 none (fun _ => 0) (fun _ => 0) w (fun _ => by decide) (by omega) (fun h => absurd h (by omega))
theorem parts_equal (n m c1 c2 : Nat) (A B : Option Addr) (f g : Nat → Bool) (hn : n ≤ 128) (hm : m ≤ 128) :
    ∃ b : Bool, (∀ w, Calls Try.prog 21 #[vv n (valB f n), vv m (valB g m)] w (RV w (.bool b))) ∧
      (∀ w, RB w A n f → RB w B m g → Calls Try.prog 22 #[.slice A n c1, .slice B m c2] w (RV w (.bool b))) := by
  by_cases h : n = m
  · subst h
    refine ⟨decide (valB f n = valB g n), fun w => ?_, fun w hA hB => refEqual_ok n c1 c2 A B f g w (by omega) hA hB⟩
    have k := Equal_v n (valB f n) n (valB g n) w
    rw [show eqB n (valB f n) n (valB g n) = decide (valB f n = valB g n) by unfold eqB; rw [Bool.eq_iff_iff]; simp] at k
    exact k
  · refine ⟨false, fun w => ?_, fun w _ _ => refEqual_ne n m c1 c2 A B w h⟩
    have k := Equal_v n (valB f n) m (valB g m) w
    rw [show eqB n (valB f n) m (valB g m) = false by unfold eqB; simp [h]] at k
    exact k
end Go.Proofs.Ytmgkidfikikjpaa
