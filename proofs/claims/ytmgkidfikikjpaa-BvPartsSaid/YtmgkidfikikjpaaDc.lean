/-
  BvSplits, at every slice of bits and every place.
-/
import Derived.Test.YtmgkidfikikjpaaDb
import Derived.Test.YtmgkidfikikjpaaWv
namespace Go.Proofs.Ytmgkidfikikjpaa
open Go.RowKit
set_option maxRecDepth 100000 in
set_option maxHeartbeats 400000 in
theorem Splits_none (n c : Nat) (A : Option Addr) (b : Int) (w : World) (h : n < 2) : Calls Try.prog 5 #[.slice A n c, .int .i64 b] w (RV w (.bool true)) := by
  have hS := Lib.hid (fun w => short_le n c A w (by omega))
  have n2 : (n : Int) < 2 := by omega
  go_enter Try.func5, Try.ntmps5
  go_wp2_with fail
  (with_reducible refine (awake_t _).mono ?_)
  rintro e w1 ⟨rfl, hbw1⟩
  go_wp2_with fail
  (with_reducible refine (hS.out _).mono ?_)
  rintro e w1 ⟨rfl, rfl⟩
  go_wp2_with fail
  go_ret
  exact ⟨rfl, hbw1⟩
set_option maxRecDepth 100000 in
set_option maxHeartbeats 400000 in
theorem Splits_long (n c : Nat) (A : Option Addr) (b : Int) (w : World) (h : 128 < n) (hn : n ≤ 140) : Calls Try.prog 5 #[.slice A n c, .int .i64 b] w (RV w (.bool true)) := by
  have hS := Lib.hid (fun w => short_le n c A w (by omega))
  have n2 : ¬ (n : Int) < 2 := by omega
  have n128 : decide (128 < (n : Int)) = true := by simp; omega
  go_enter Try.func5, Try.ntmps5
  go_wp2_with fail
  (with_reducible refine (awake_t _).mono ?_)
  rintro e w1 ⟨rfl, hbw1⟩
  go_wp2_with fail
  (with_reducible refine (hS.out _).mono ?_)
  rintro e w1 ⟨rfl, rfl⟩
  go_wp2_with fail
  go_ret
  exact ⟨rfl, hbw1⟩
set_option maxRecDepth 100000 in
set_option maxHeartbeats 400000 in
theorem Splits_cut (n c g off : Nat) (b : Int) (w : World) (h : 140 < n) (hc : n ≤ c) : Calls Try.prog 5 #[.slice (some ⟨g, off, none⟩) n c, .int .i64 b] w (RV w (.bool true)) := by
  have hS := Lib.hid (fun w => short_gt n c g off w h hc)
  go_enter Try.func5, Try.ntmps5
  go_wp2_with fail
  (with_reducible refine (awake_t _).mono ?_)
  rintro e w1 ⟨rfl, hbw1⟩
  go_wp2_with fail
  (with_reducible refine (hS.out _).mono ?_)
  rintro e w1 ⟨rfl, rfl⟩
  go_wp2_with fail
  go_ret
  exact ⟨rfl, hbw1⟩
theorem eqB_same (n x : Nat) : eqB n x n x = true := by unfold eqB; simp
/-- Two vectors that the call lays side by side. -/
def two (a b j : Nat) : Nat := if j = 0 then a else if j = 1 then b else 0
theorem RV3_two (w : World) (g n1 x1 n2 x2 : Nat) (hg : g = w.heap.size) : RV3 (w.alloc (.cells #[.int .i64 (n1 : Int), .int .u64 ((lo x1 : Nat) : Int), .int .u64 ((hi x1 : Nat) : Int), .int .i64 (n2 : Int), .int .u64 ((lo x2 : Nat) : Int), .int .u64 ((hi x2 : Nat) : Int)] 28)) (some ⟨g, 0, none⟩) 2 (two n1 n2) (two x1 x2) := fun _ => by
  subst hg
  have hc : ∀ j, (w.alloc (.cells #[.int .i64 (n1 : Int), .int .u64 ((lo x1 : Nat) : Int), .int .u64 ((hi x1 : Nat) : Int), .int .i64 (n2 : Int), .int .u64 ((lo x2 : Nat) : Int), .int .u64 ((hi x2 : Nat) : Int)] 28)).cell? ⟨w.heap.size, j, none⟩ = _ := fun j => cell_of_row _ _ j _ _ _ (heap_alloc_new w _)
  refine ⟨w.heap.size, 0, rfl, by rw [World.size_alloc]; omega, fun j hj => ?_⟩
  rw [hc, hc, hc]
  obtain rfl | rfl : j = 0 ∨ j = 1 := by omega
  · exact ⟨rfl, rfl, rfl⟩
  · exact ⟨rfl, rfl, rfl⟩
theorem two_lt (n1 x1 n2 x2 : Nat) (h1 : x1 < 2 ^ n1) (h2 : x2 < 2 ^ n2) (j : Nat) : two x1 x2 j < 2 ^ two n1 n2 j := by
  unfold two
  split
  · exact h1
  · split
    · exact h2
    · decide
theorem catR_two (n1 x1 n2 x2 : Nat) (h1 : 1 ≤ n1) (h2 : 1 ≤ n2) (h : n1 + n2 ≤ 128) : catR (two n1 n2) (two x1 x2) 2 = (n2 + n1, x1 * 2 ^ n2 ||| x2, 0) := by
  have e : catS (two n1 n2) (two x1 x2) (dn 2 2) = some (n2 + n1, x1 * 2 ^ n2 ||| x2) := by
    show catT _ _ (catT _ _ (some (0, 0)) 1) 0 = _
    have s1 : catT (two n1 n2) (two x1 x2) (some (0, 0)) 1 = some (n2, x2) := by
      unfold catT two
      simp
      omega
    rw [s1]
    unfold catT two
    simp
    omega
  unfold catR
  rw [e]
  simp
  omega
theorem at_of (n : Nat) (b : Int) (h : 2 ≤ n) : ∃ (r : Int) (q : Nat), b.tmod ((n : Int) - 1) = r ∧ -(n : Int) + 1 < r ∧ r < (n : Int) - 1 ∧ (r + (n : Int) - 1).tmod ((n : Int) - 1) = (q : Int) ∧ (r + (n : Int) - 1) % ((n : Int) - 1) = (q : Int) ∧ q + 1 < n := by
  obtain ⟨d, hd⟩ : ∃ d : Int, (n : Int) - 1 = d := ⟨_, rfl⟩
  rw [hd]
  have hd1 : 1 ≤ d := by omega
  have h1 := Int.tmod_lt_of_pos b (show 0 < d by omega)
  have h2 : -d < b.tmod d := by
    rw [← Int.neg_lt_neg_iff, Int.neg_neg, ← Int.neg_tmod]
    exact Int.tmod_lt_of_pos (-b) (by omega)
  refine ⟨b.tmod d, ((b.tmod d + (n : Int) - 1) % d).toNat, rfl, by omega, h1, ?_, ?_, ?_⟩
  · rw [Int.tmod_eq_emod_of_nonneg (by omega), Int.toNat_of_nonneg (Int.emod_nonneg _ (by omega))]
  · rw [Int.toNat_of_nonneg (Int.emod_nonneg _ (by omega))]
  · have := Int.emod_lt_of_pos (b.tmod d + (n : Int) - 1) (show 0 < d by omega)
    have := Int.emod_nonneg (b.tmod d + (n : Int) - 1) (show d ≠ 0 by omega)
    omega
theorem Splits_all (n c : Nat) (b : Int) (A : Option Addr) (f : Nat → Bool) (w : World) (hA : RB w A n f) (hc : n ≤ c) :
    Calls Try.prog 5 #[.slice A n c, .int .i64 b] w (RV w (.bool true)) := by
  by_cases h2 : n < 2
  · exact Splits_none n c A b w h2
  by_cases hn : n ≤ 128
  case neg =>
    by_cases h140 : n ≤ 140
    · exact Splits_long n c A b w (by omega) h140
    · obtain ⟨g, off, rfl, _⟩ := hA (by omega)
      exact Splits_cut n c g off b w (by omega) hc
  obtain ⟨r, q, e1, r1, r2, e2, e2', hq⟩ := at_of n b (by omega)
  obtain ⟨k, hk⟩ : ∃ k, q + 1 = k := ⟨_, rfl⟩
  have h1 : 1 ≤ n := by omega
  have hx := valB_lt f n
  have hO := fun w (h : RB w A n f) => Own_ok n c A f w h1 hn h
  generalize valB f n = x at hx hO
  have hk1 : 1 ≤ k := by omega
  have hkn : k < n := by omega
  have hlw : x % 2 ^ k < 2 ^ k := Nat.mod_lt _ (Nat.two_pow_pos _)
  have en : 2 ^ (n - k) * 2 ^ k = 2 ^ n := by rw [← Nat.pow_add]; congr 1; omega
  have hhg : x / 2 ^ k < 2 ^ (n - k) := by rw [Nat.div_lt_iff_lt_mul (Nat.two_pow_pos _), en]; exact hx
  have hkl : 2 ^ k ≤ 2 ^ n := Nat.pow_le_pow_right (by decide) (by omega)
  have hnl : 2 ^ (n - k) ≤ 2 ^ n := Nat.pow_le_pow_right (by decide) (by omega)
  have hmv : x / 2 ^ k * 2 ^ k < 2 ^ n := Nat.lt_of_le_of_lt (Nat.div_mul_le_self _ _) hx
  have hLo := fun w => Slice_ok n x 0 k w hn hx hk1 (by omega)
  rw [Nat.pow_zero, Nat.div_one] at hLo
  have hHi := fun w => Slice_ok n x k (n - k) w hn hx (by omega) (by omega)
  rw [Nat.mod_eq_of_lt hhg, show ((n - k : Nat) : Int) = (n : Int) - (k : Int) by omega] at hHi
  have hC := fun (w : World) (g : Nat) (hg : g = w.heap.size) => Cat_ok 2 2 (some ⟨g, 0, none⟩) (two (n - k) k) (two (x / 2 ^ k) (x % 2 ^ k)) _ (two_lt _ _ _ _ hhg hlw) (by omega) (RV3_two w g (n - k) (x / 2 ^ k) k (x % 2 ^ k) hg)
  rw [catR_two (n - k) (x / 2 ^ k) k (x % 2 ^ k) (by omega) hk1 (by omega), cat_split n k x (by omega) hx, show k + (n - k) = n by omega] at hC
  have hP := fun w => Put_v n x k (n - k) (x / 2 ^ k) w hn hx hhg (by omega) (by omega)
  rw [put_split n k x (by omega) hn hx] at hP
  have hX1 := fun w => Ext_u k (x % 2 ^ k) n w hk1 (by omega) hlw h1 hn
  rw [Nat.mod_eq_of_lt (show x % 2 ^ k < 2 ^ n by omega)] at hX1
  have hX2 := fun w => Ext_u (n - k) (x / 2 ^ k) n w (by omega) (by omega) hhg h1 hn
  rw [Nat.mod_eq_of_lt (show x / 2 ^ k < 2 ^ n by omega)] at hX2
  have hKp : k < 2 ^ n := Nat.lt_of_lt_of_le hkn (Nat.le_of_lt Nat.lt_two_pow_self)
  have hN := fun (w : World) (g : Nat) (hg : g = w.heap.size) => New_one n k w g hg h1 hn (by omega)
  rw [Nat.mod_eq_of_lt hKp] at hN
  have hM := fun w => Bin_10 n (x / 2 ^ k) k w h1 hn
  rw [Nat.min_eq_left (Nat.le_of_lt hkn), Nat.mod_eq_of_lt hmv] at hM
  have hS2 := fun w => Bin_8 n (x / 2 ^ k * 2 ^ k) (x % 2 ^ k) w h1 hn hmv (by omega)
  rw [cat_split n k x (by omega) hx] at hS2
  have hE := fun w => Equal_v n x n x w
  rw [eqB_same] at hE
  exact Splits_t n c k q x (x % 2 ^ k) (x / 2 ^ k) _ b r A f w hn hA hk1 hkn e1 r1 r2 e2 e2' (by omega) hO hLo hHi hC hP hX1 hX2 hN hM hS2 hE
end Go.Proofs.Ytmgkidfikikjpaa
