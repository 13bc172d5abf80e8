/-
  The walk of the statement BvRing, at every three slices of bits.
-/
import Derived.Test.YtknbnpbmgbnlfaaLr
import Derived.Test.YtknbnpbmgbnlfaaM5
namespace Go.Proofs.Ytknbnpbmgbnlfaa
open Go.RowKit
theorem eq_self (n v : Nat) (w : World) : Calls Try.prog 24 #[vv n v, vv n v] w (RV w (.bool true)) := by
  have h := Equal_v n v n v w
  have e : eqB n v n v = true := by simp [eqB]
  rw [e] at h
  exact h
set_option maxHeartbeats 400000 in
theorem Ring_none (ca mb cb mc cc : Nat) (A B C : Option Addr) (w : World) : Calls Try.prog 8 #[.slice A 0 ca, .slice B mb cb, .slice C mc cc] w (RV w (.bool true)) := by
  have hS := Lib.hid (fun w => short_le 0 ca A w (by omega))
  go_enter Try.func8, Try.ntmps8
  go_wp2_with fail
  (with_reducible refine (awake_t _).mono ?_)
  rintro e w1 ⟨rfl, hbw1⟩
  go_wp2_with fail
  (with_reducible refine (hS.out _).mono ?_)
  rintro e w0 ⟨rfl, rfl⟩
  go_wp2_with fail
  go_ret
  exact ⟨rfl, hbw1⟩
set_option maxHeartbeats 400000 in
theorem Ring_long (n ca mb cb mc cc : Nat) (A B C : Option Addr) (w : World) (h : 128 < n) (hn : n ≤ 140) : Calls Try.prog 8 #[.slice A n ca, .slice B mb cb, .slice C mc cc] w (RV w (.bool true)) := by
  have hS := Lib.hid (fun w => short_le n ca A w (by omega))
  have n0 : ((n : Int) == 0) = false := by simp; omega
  go_enter Try.func8, Try.ntmps8
  go_wp2_with fail
  (with_reducible refine (awake_t _).mono ?_)
  rintro e w1 ⟨rfl, hbw1⟩
  go_wp2_with fail
  (with_reducible refine (hS.out _).mono ?_)
  rintro e w0 ⟨rfl, rfl⟩
  go_wp2_with fail
  go_ret
  exact ⟨rfl, hbw1⟩
set_option maxHeartbeats 400000 in
theorem Ring_cut (n ca g off mb cb mc cc : Nat) (B C : Option Addr) (w : World) (h : 140 < n) (hc : n ≤ ca) : Calls Try.prog 8 #[.slice (some ⟨g, off, none⟩) n ca, .slice B mb cb, .slice C mc cc] w (RV w (.bool true)) := by
  have hS := Lib.hid (fun w => short_gt n ca g off w h hc)
  go_enter Try.func8, Try.ntmps8
  go_wp2_with fail
  (with_reducible refine (awake_t _).mono ?_)
  rintro e w1 ⟨rfl, hbw1⟩
  go_wp2_with fail
  (with_reducible refine (hS.out _).mono ?_)
  rintro e w0 ⟨rfl, rfl⟩
  go_wp2_with fail
  go_ret
  exact ⟨rfl, hbw1⟩
theorem Ring_all (n ca mb cb mc cc : Nat) (A : Option Addr) (f : Nat → Bool) (B : Option Addr) (g : Nat → Bool) (C : Option Addr) (h : Nat → Bool) (w : World)
    (hA : RB w A n f) (hca : n ≤ ca) (hB : RB w B mb g) (_ : mb ≤ cb) (hC : RB w C mc h) (_ : mc ≤ cc) :
    Calls Try.prog 8 #[.slice A n ca, .slice B mb cb, .slice C mc cc] w (RV w (.bool true)) := by
  rcases Nat.eq_zero_or_pos n with rfl | h1
  · exact Ring_none ca mb cb mc cc A B C w
  by_cases hn : n ≤ 128
  case neg =>
    by_cases h140 : n ≤ 140
    · exact Ring_long n ca mb cb mc cc A B C w (by omega) h140
    · obtain ⟨b, off, rfl, _⟩ := hA h1
      exact Ring_cut n ca b off mb cb mc cc B C w (by omega) hca
  have hx := valB_lt f n
  have hy := valB_lt (fun j => decide (j < mb) && g j) n
  have hOx := fun w (h : RB w A n f) => Own_ok n ca A f w h1 hn h
  have hOy := fun w b (h : RB w (some ⟨b, 0, none⟩) n (fun j => decide (j < mb) && g j)) => Own_ok n n (some ⟨b, 0, none⟩) _ w h1 hn h
  have hOz := fun w b (hh : RB w (some ⟨b, 0, none⟩) n (fun j => decide (j < mc) && h j)) => Own_ok n n (some ⟨b, 0, none⟩) _ w h1 hn hh
  generalize valB f n = x at hx hOx
  generalize valB (fun j => decide (j < mb) && g j) n = y at hy hOy
  generalize valB (fun j => decide (j < mc) && h j) n = z at hOz
  have hs := fun w => ring_op 0 n x y _ w (fun w => Bin_0 n x y w h1 hn)
  have hp := fun w => ring_op 2 n x y _ w (fun w => Bin_2 n x y w h1 hn)
  have hA2 := fun w => ring_op 0 n y x _ w (fun w => Bin_0 n y x w h1 hn)
  rw [Nat.add_comm y x] at hA2
  have hM2 := fun w => ring_op 2 n y x _ w (fun w => Bin_2 n y x w h1 hn)
  rw [Nat.mul_comm y x] at hM2
  have hD2 := fun w => ring_op 1 n ((x + y) % 2 ^ n) y _ w (fun w => Bin_1 n ((x + y) % 2 ^ n) y w h1 hn hy)
  rw [ring_sub (2 ^ n) x y hx hy] at hD2
  have hG1 := fun w => ring_op 0 n x ((0 + 2 ^ n - y) % 2 ^ n) _ w (fun w => Bin_0 n x _ w h1 hn)
  rw [ring_neg (2 ^ n) x y hy] at hG1
  have hG2 := fun w => ring_op 1 n x y _ w (fun w => Bin_1 n x y w h1 hn hy)
  have hT1 := fun w => ring_op 0 n ((x + y) % 2 ^ n) z _ w (fun w => Bin_0 n _ z w h1 hn)
  have hT2 := fun w => ring_op 0 n y z _ w (fun w => Bin_0 n y z w h1 hn)
  have hT3 := fun w => ring_op 0 n x ((y + z) % 2 ^ n) _ w (fun w => Bin_0 n x _ w h1 hn)
  rw [← ring_assoc (2 ^ n) x y z] at hT3
  have hU1 := fun w => ring_op 2 n ((x + y) % 2 ^ n) z _ w (fun w => Bin_2 n _ z w h1 hn)
  have hU2 := fun w => ring_op 2 n x z _ w (fun w => Bin_2 n x z w h1 hn)
  have hU3 := fun w => ring_op 2 n y z _ w (fun w => Bin_2 n y z w h1 hn)
  have hU4 := fun w => ring_op 0 n (x * z % 2 ^ n) (y * z % 2 ^ n) _ w (fun w => Bin_0 n _ _ w h1 hn)
  rw [← ring_distr (2 ^ n) x y z] at hU4
  exact Ring_t n ca cb cc mb mc x y z _ _ _ _ _ _ _ _ _ A B C f g h w h1 hn hA hB hC hOx hOy hOz hs hp hA2 hM2 hD2 hG1 hG2 hT1 hT2 hT3 hU1 hU2 hU3 hU4 (fun w => Un_1 n y w h1 hn hy) (eq_self n)
end Go.Proofs.Ytknbnpbmgbnlfaa
