/-
  The walk of the statement BvOrders, at every two slices of bits.
-/
import Derived.Test.YtknbnpbmgbnlfaaOa
import Derived.Test.YtknbnpbmgbnlfaaOb
import Derived.Test.YtknbnpbmgbnlfaaOc
import Derived.Test.YtknbnpbmgbnlfaaLv
import Derived.Test.YtknbnpbmgbnlfaaM5
namespace Go.Proofs.Ytknbnpbmgbnlfaa
open Go.RowKit
/-- The highest bit turned. -/
theorem flip_low (m x : Nat) (h : x < 2 ^ m) : x ^^^ 2 ^ m = 2 ^ m + x := by
  refine Nat.eq_of_testBit_eq fun i => ?_
  rw [Nat.testBit_xor, Nat.testBit_two_pow]
  rcases Nat.lt_trichotomy i m with hi | hi | hi
  · rw [Nat.testBit_two_pow_add_gt hi, show decide (m = i) = false from by simp; omega]; simp
  · subst hi
    rw [Nat.testBit_two_pow_add_eq]; simp
  · have h1 : x < 2 ^ i := Nat.lt_trans h (Nat.pow_lt_pow_right (by decide) hi)
    have h2 : 2 ^ m + x < 2 ^ i := by
      have := Nat.pow_le_pow_right (n := 2) (by decide) (show m + 1 ≤ i from hi)
      rw [Nat.pow_succ] at this
      omega
    rw [Nat.testBit_lt_two_pow h1, Nat.testBit_lt_two_pow h2, show decide (m = i) = false from by simp; omega]; rfl
theorem flip_high (m x : Nat) (h : x < 2 ^ m) : (2 ^ m + x) ^^^ 2 ^ m = x := by
  rw [← flip_low m x h, Nat.xor_assoc, Nat.xor_self, Nat.xor_zero]
theorem flip_lt (n x : Nat) (hn : 1 ≤ n) (hx : x < 2 ^ n) : x ^^^ 2 ^ (n - 1) < 2 ^ n :=
  Nat.xor_lt_two_pow hx (Nat.pow_lt_pow_right (by decide) (by omega))
theorem slt_flip (n x y : Nat) (hn : 1 ≤ n) (hx : x < 2 ^ n) (hy : y < 2 ^ n) : sltN n x y = decide (x ^^^ 2 ^ (n - 1) < y ^^^ 2 ^ (n - 1)) := by
  have e := two_half n hn
  unfold sltN
  rw [top_bit n x hx hn, top_bit n y hy hn]
  generalize hH : 2 ^ (n - 1) = H at *
  have low := fun z (h : z < H) => by have := flip_low (n - 1) z (by rw [hH]; exact h); rw [hH] at this; exact this
  have high := fun z (h : H ≤ z) (h2 : z < 2 * H) => by have := flip_high (n - 1) (z - H) (by rw [hH]; omega); rw [hH, show H + (z - H) = z by omega] at this; exact this
  by_cases a : H ≤ x <;> by_cases b : H ≤ y
  · rw [high x a (by omega), high y b (by omega)]; simp [a, b]; omega
  · rw [high x a (by omega), low y (by omega)]; simp [a, b]; omega
  · rw [low x (by omega), high y b (by omega)]; simp [a, b]; omega
  · rw [low x (by omega), low y (by omega)]; simp [a, b]
theorem is_bool (op : Int) (n x y : Nat) (b : Bool) (v : Nat) (hv : b.toNat = v) (w : World)
    (hC : ∀ w, Calls Try.prog 26 #[.int .i64 op, vv n x, vv n y] w (RV w (.tuple #[vv 1 b.toNat, .int .i64 0]))) :
    Calls Try.prog 42 #[.int .i64 op, vv n x, vv n y] w (RV w (.int .i64 (v : Int))) := by
  subst hv
  refine is_op op n x y 1 b.toNat w hC (fun w => ?_)
  have h := Num_v 1 b.toNat 9 w (by decide)
  rw [Nat.min_eq_left (by cases b <;> decide)] at h
  exact h
set_option maxHeartbeats 400000 in
theorem Ord_none (ca mb cb : Nat) (A B : Option Addr) (w : World) : Calls Try.prog 10 #[.slice A 0 ca, .slice B mb cb] w (RV w (.bool true)) := by
  have hS := Lib.hid (fun w => short_le 0 ca A w (by omega))
  go_enter Try.func10, Try.ntmps10
  go_wp2_with fail
  (with_reducible refine (awake_t _).mono ?_)
  rintro e w1 ⟨rfl, hbw1⟩
  go_wp2_with fail
  (with_reducible refine (hS.out _).mono ?_)
  rintro e w0 ⟨rfl, rfl⟩
  go_wp2_with fail
  go_ret
  exact ⟨rfl, hbw1⟩
set_option maxHeartbeats 400000 in
theorem Ord_long (n ca mb cb : Nat) (A B : Option Addr) (w : World) (h : 128 < n) (hn : n ≤ 140) : Calls Try.prog 10 #[.slice A n ca, .slice B mb cb] w (RV w (.bool true)) := by
  have hS := Lib.hid (fun w => short_le n ca A w (by omega))
  have n0 : ((n : Int) == 0) = false := by simp; omega
  go_enter Try.func10, Try.ntmps10
  go_wp2_with fail
  (with_reducible refine (awake_t _).mono ?_)
  rintro e w1 ⟨rfl, hbw1⟩
  go_wp2_with fail
  (with_reducible refine (hS.out _).mono ?_)
  rintro e w0 ⟨rfl, rfl⟩
  go_wp2_with fail
  go_ret
  exact ⟨rfl, hbw1⟩
set_option maxHeartbeats 400000 in
theorem Ord_cut (n ca g off mb cb : Nat) (B : Option Addr) (w : World) (h : 140 < n) (hc : n ≤ ca) : Calls Try.prog 10 #[.slice (some ⟨g, off, none⟩) n ca, .slice B mb cb] w (RV w (.bool true)) := by
  have hS := Lib.hid (fun w => short_gt n ca g off w h hc)
  go_enter Try.func10, Try.ntmps10
  go_wp2_with fail
  (with_reducible refine (awake_t _).mono ?_)
  rintro e w1 ⟨rfl, hbw1⟩
  go_wp2_with fail
  (with_reducible refine (hS.out _).mono ?_)
  rintro e w0 ⟨rfl, rfl⟩
  go_wp2_with fail
  go_ret
  exact ⟨rfl, hbw1⟩
theorem resized_v (n m x : Nat) (w : World) (hn : n ≤ 128) (hm : m ≤ 128) (hx : x < 2 ^ n) :
    Calls Try.prog 71 #[vv n x, .int .i64 (m : Int)] w (RV w (vv m (x % 2 ^ m))) := by
  have h := resized_w n m (lo x) (hi x) w hm (lo_lt _) (hi_lt hx hn)
  have e : trimN m (lo x) (hi x) = x % 2 ^ m := by unfold trimN; rw [lo_hi]
  rw [e] at h
  exact h
theorem put_top (n : Nat) (w : World) (h1 : 1 ≤ n) (hn : n ≤ 128) :
    Calls Try.prog 32 #[vv n 0, .int .i64 ((n : Int) - 1), vv 1 1] w (RV w (.tuple #[vv n (2 ^ (n - 1)), .int .i64 0])) := by
  have hp : 1 < 2 ^ n := Nat.one_lt_two_pow (by omega)
  have hH : 2 ^ (n - 1) < 2 ^ n := Nat.pow_lt_pow_right (by decide) (by omega)
  have hR := fun w => resized_v 1 n 1 w (by decide) hn (by decide)
  rw [Nat.mod_eq_of_lt hp] at hR
  have hU := fun w => shiftUp_v n 1 (n - 1) w hn (by omega)
  rw [Nat.one_mul, Nat.mod_eq_of_lt hH] at hU
  have hK := fun w => bitwise_andNot n n 0 (2 ^ (n - 1)) w hn (by omega) hH
  rw [Nat.zero_and] at hK
  have hL := fun w => logic_8 n 0 (2 ^ (n - 1)) w hn (by omega) hH
  rw [Nat.zero_or] at hL
  have h := Put_w n 0 (n - 1) 1 1 1 1 _ 1 _ 0 _ w (fun w => contains_yes n 0 (n - 1) 1 w hn (by decide) (by omega)) (fun w => ones_v 1 w (by decide)) hR hU hR hU hK hL
  rw [show ((n - 1 : Nat) : Int) = (n : Int) - 1 by omega] at h
  exact h
theorem Ord_all (n ca mb cb : Nat) (A : Option Addr) (f : Nat → Bool) (B : Option Addr) (g : Nat → Bool) (w : World)
    (hA : RB w A n f) (hca : n ≤ ca) (hB : RB w B mb g) (_ : mb ≤ cb) :
    Calls Try.prog 10 #[.slice A n ca, .slice B mb cb] w (RV w (.bool true)) := by
  rcases Nat.eq_zero_or_pos n with rfl | h1
  · exact Ord_none ca mb cb A B w
  by_cases hn : n ≤ 128
  case neg =>
    by_cases h140 : n ≤ 140
    · exact Ord_long n ca mb cb A B w (by omega) h140
    · obtain ⟨b, off, rfl, _⟩ := hA h1
      exact Ord_cut n ca b off mb cb B w (by omega) hca
  have hx := valB_lt f n
  have hy := valB_lt (fun j => decide (j < mb) && g j) n
  have hOx := fun w (h : RB w A n f) => Own_ok n ca A f w h1 hn h
  have hOy := fun w b (h : RB w (some ⟨b, 0, none⟩) n (fun j => decide (j < mb) && g j)) => Own_ok n n (some ⟨b, 0, none⟩) _ w h1 hn h
  generalize valB f n = x at hx hOx
  generalize valB (fun j => decide (j < mb) && g j) n = y at hy hOy
  have hH : 2 ^ (n - 1) < 2 ^ n := Nat.pow_lt_pow_right (by decide) (by omega)
  have hN0 : ∀ (w : World) (g : Nat), g = w.heap.size → Calls Try.prog 15 #[.int .i64 (n : Int), .slice (some ⟨g, 0, none⟩) 1 1] (w.alloc (.cells #[.int .u64 0] 26)) (RV (w.alloc (.cells #[.int .u64 0] 26)) (.tuple #[vv n 0, .int .i64 0])) := fun w g hg => by
    have h := New_one n 0 w g hg h1 hn (by decide)
    rw [Nat.zero_mod] at h
    exact h
  have hN1 : ∀ (w : World) (g : Nat), g = w.heap.size → Calls Try.prog 15 #[.int .i64 1, .slice (some ⟨g, 0, none⟩) 1 1] (w.alloc (.cells #[.int .u64 1] 26)) (RV (w.alloc (.cells #[.int .u64 1] 26)) (.tuple #[vv 1 1, .int .i64 0])) := fun w g hg => New_one 1 1 w g hg (by decide) (by decide) (by decide)
  have hX := fun w => Bin_9 n x (2 ^ (n - 1)) w h1 hn hx hH
  have hY := fun w => Bin_9 n y (2 ^ (n - 1)) w h1 hn hy hH
  have c6 := fun w => is_bool 17 n x y (sltN n x y) _ rfl w (fun w => Bin_17 n x y w h1 hn hx hy)
  have c7 := fun w => is_bool 15 n (x ^^^ 2 ^ (n - 1)) (y ^^^ 2 ^ (n - 1)) _ _ (congrArg Bool.toNat (slt_flip n x y h1 hx hy).symm) w (fun w => Bin_15 n _ _ w h1)
  have c8 := fun w => is_bool 18 n x y (!(sltN n y x)) _ rfl w (fun w => Bin_18 n x y w h1 hn hx hy)
  have c9 := fun w => is_bool 16 n (x ^^^ 2 ^ (n - 1)) (y ^^^ 2 ^ (n - 1)) _ _ (congrArg (fun b => (!b).toNat) (slt_flip n y x h1 hy hx).symm) w (fun w => Bin_16 n _ _ w h1)
  rcases Nat.lt_trichotomy x y with h | h | h
  · have k1 : decide (x < y) = true := by simp [h]
    have k2 : decide (y < x) = false := by simp; omega
    have k3 : eqB n x n y = false := by simp [eqB]; omega
    exact Orders_lt n ca cb mb x y _ _ _ _ _ A B f g w h1 hn hA hB hOx hOy hN0 hN1 (fun w => put_top n w h1 hn) hX hY
      (fun w => is_bool 15 n x y _ 1 (by rw [k1]; rfl) w (fun w => Bin_15 n x y w h1)) (fun w => is_bool 15 n y x _ 0 (by rw [k2]; rfl) w (fun w => Bin_15 n y x w h1)) (fun w => is_bool 13 n x y _ 0 (by rw [k3]; rfl) w (fun w => Bin_13 n x y w h1))
      (fun w => is_bool 16 n x y _ 1 (by rw [k2]; rfl) w (fun w => Bin_16 n x y w h1)) (fun w => is_bool 14 n x y _ 1 (by rw [k3]; rfl) w (fun w => Bin_14 n x y w h1)) c6 c7 c8 c9
  · have k1 : decide (x < y) = false := by simp; omega
    have k2 : decide (y < x) = false := by simp; omega
    have k3 : eqB n x n y = true := by simp [eqB, h]
    exact Orders_eq n ca cb mb x y _ _ _ _ _ A B f g w h1 hn hA hB hOx hOy hN0 hN1 (fun w => put_top n w h1 hn) hX hY
      (fun w => is_bool 15 n x y _ 0 (by rw [k1]; rfl) w (fun w => Bin_15 n x y w h1)) (fun w => is_bool 15 n y x _ 0 (by rw [k2]; rfl) w (fun w => Bin_15 n y x w h1)) (fun w => is_bool 13 n x y _ 1 (by rw [k3]; rfl) w (fun w => Bin_13 n x y w h1))
      (fun w => is_bool 16 n x y _ 1 (by rw [k2]; rfl) w (fun w => Bin_16 n x y w h1)) (fun w => is_bool 14 n x y _ 0 (by rw [k3]; rfl) w (fun w => Bin_14 n x y w h1)) c6 c7 c8 c9
  · have k1 : decide (x < y) = false := by simp; omega
    have k2 : decide (y < x) = true := by simp [h]
    have k3 : eqB n x n y = false := by simp [eqB]; omega
    exact Orders_gt n ca cb mb x y _ _ _ _ _ A B f g w h1 hn hA hB hOx hOy hN0 hN1 (fun w => put_top n w h1 hn) hX hY
      (fun w => is_bool 15 n x y _ 0 (by rw [k1]; rfl) w (fun w => Bin_15 n x y w h1)) (fun w => is_bool 15 n y x _ 1 (by rw [k2]; rfl) w (fun w => Bin_15 n y x w h1)) (fun w => is_bool 13 n x y _ 0 (by rw [k3]; rfl) w (fun w => Bin_13 n x y w h1))
      (fun w => is_bool 16 n x y _ 0 (by rw [k2]; rfl) w (fun w => Bin_16 n x y w h1)) (fun w => is_bool 14 n x y _ 1 (by rw [k3]; rfl) w (fun w => Bin_14 n x y w h1)) c6 c7 c8 c9
end Go.Proofs.Ytknbnpbmgbnlfaa
