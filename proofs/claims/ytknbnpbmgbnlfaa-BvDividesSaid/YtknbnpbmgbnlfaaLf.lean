/-
  The walk of the statement BvDivides, at every two slices of bits.
-/
import Derived.Test.YtknbnpbmgbnlfaaLe
import Derived.Test.YtknbnpbmgbnlfaaLv
import Derived.Test.YtknbnpbmgbnlfaaM5
namespace Go.Proofs.Ytknbnpbmgbnlfaa
open Go.RowKit
theorem eq_same (n v : Nat) (w : World) : Calls Try.prog 24 #[vv n v, vv n v] w (RV w (.bool true)) := by
  have h := Equal_v n v n v w
  have e : eqB n v n v = true := by simp [eqB]
  rw [e] at h
  exact h
set_option maxHeartbeats 400000 in
theorem Div_none (ca mb cb : Nat) (A B : Option Addr) (w : World) : Calls Try.prog 9 #[.slice A 0 ca, .slice B mb cb] w (RV w (.bool true)) := by
  have hS := Lib.hid (fun w => short_le 0 ca A w (by omega))
  go_enter Try.func9, Try.ntmps9
  go_wp2_with fail
  (with_reducible refine (awake_t _).mono ?_)
  rintro e w1 ⟨rfl, hbw1⟩
  go_wp2_with fail
  (with_reducible refine (hS.out _).mono ?_)
  rintro e w0 ⟨rfl, rfl⟩
  go_wp2_with fail
  go_ret
  exact ⟨rfl, hbw1⟩
set_option maxHeartbeats 400000 in
theorem Div_long (n ca mb cb : Nat) (A B : Option Addr) (w : World) (h : 128 < n) (hn : n ≤ 140) : Calls Try.prog 9 #[.slice A n ca, .slice B mb cb] w (RV w (.bool true)) := by
  have hS := Lib.hid (fun w => short_le n ca A w (by omega))
  have n0 : ((n : Int) == 0) = false := by simp; omega
  go_enter Try.func9, Try.ntmps9
  go_wp2_with fail
  (with_reducible refine (awake_t _).mono ?_)
  rintro e w1 ⟨rfl, hbw1⟩
  go_wp2_with fail
  (with_reducible refine (hS.out _).mono ?_)
  rintro e w0 ⟨rfl, rfl⟩
  go_wp2_with fail
  go_ret
  exact ⟨rfl, hbw1⟩
set_option maxHeartbeats 400000 in
theorem Div_cut (n ca g off mb cb : Nat) (B : Option Addr) (w : World) (h : 140 < n) (hc : n ≤ ca) : Calls Try.prog 9 #[.slice (some ⟨g, off, none⟩) n ca, .slice B mb cb] w (RV w (.bool true)) := by
  have hS := Lib.hid (fun w => short_gt n ca g off w h hc)
  go_enter Try.func9, Try.ntmps9
  go_wp2_with fail
  (with_reducible refine (awake_t _).mono ?_)
  rintro e w1 ⟨rfl, hbw1⟩
  go_wp2_with fail
  (with_reducible refine (hS.out _).mono ?_)
  rintro e w0 ⟨rfl, rfl⟩
  go_wp2_with fail
  go_ret
  exact ⟨rfl, hbw1⟩
theorem top_bit_at (n x : Nat) (w : World) (h1 : 1 ≤ n) (hn : n ≤ 128) (hx : x < 2 ^ n) :
    Calls Try.prog 39 #[vv n x, .int .i64 ((n : Int) - 1)] w (RV w (.bool (x.testBit (n - 1)))) := by
  have h := Bit_v n x ((n : Int) - 1) w hn hx
  have e : bitI n x ((n : Int) - 1) = x.testBit (n - 1) := by
    unfold bitI
    rw [show ((n : Int) - 1).toNat = n - 1 from by omega, show decide (0 ≤ (n : Int) - 1 ∧ (n : Int) - 1 < (n : Int)) = true from by simp; omega]
    simp
  rw [e] at h
  exact h
theorem div_back (P x y : Nat) (hx : x < P) : (x / y * y % P + x % y) % P = x := by
  rw [Nat.mod_add_mod, Nat.mul_comm, Nat.div_add_mod, Nat.mod_eq_of_lt hx]
theorem Div_all (n ca mb cb : Nat) (A : Option Addr) (f : Nat → Bool) (B : Option Addr) (g : Nat → Bool) (w : World)
    (hA : RB w A n f) (hca : n ≤ ca) (hB : RB w B mb g) (_ : mb ≤ cb) :
    Calls Try.prog 9 #[.slice A n ca, .slice B mb cb] w (RV w (.bool true)) := by
  rcases Nat.eq_zero_or_pos n with rfl | h1
  · exact Div_none ca mb cb A B w
  by_cases hn : n ≤ 128
  case neg =>
    by_cases h140 : n ≤ 140
    · exact Div_long n ca mb cb A B w (by omega) h140
    · obtain ⟨b, off, rfl, _⟩ := hA h1
      exact Div_cut n ca b off mb cb B w (by omega) hca
  have hx := valB_lt f n
  have hy := valB_lt (fun j => decide (j < mb) && g j) n
  have hOx := fun w (h : RB w A n f) => Own_ok n ca A f w h1 hn h
  have hOy := fun w b (h : RB w (some ⟨b, 0, none⟩) n (fun j => decide (j < mb) && g j)) => Own_ok n n (some ⟨b, 0, none⟩) _ w h1 hn h
  generalize valB f n = x at hx hOx
  generalize valB (fun j => decide (j < mb) && g j) n = y at hy hOy
  have hZ := fun w => Un_5 n y w h1
  rcases Nat.eq_zero_or_pos y with h0 | h0
  · have ez : (y == 0) = true := by simp [h0]
    rw [ez] at hZ
    have d := fun w => divide_zero n x w hn
    have d' := fun w => divS_zero n x _ _ w d
    subst h0
    have r := fun w => Un_2 n (2 ^ n - 1) w h1 hn
    have er : ((2 ^ n - 1 : Nat) == 2 ^ n - 1) = true := by simp
    rw [er] at r
    exact Div_zero n ca cb mb x 0 (2 ^ n - 1) (2 ^ n - 1) A B f g w h1 hn hA hB hOx hOy hZ (bit_of true) (eq_same n)
      (fun w => Bin_3 n x 0 _ _ w h1 d) (fun w => Bin_4 n x 0 _ _ w h1 d) (fun w => Bin_5 n x 0 _ _ w h1 d') (fun w => Bin_6 n x 0 _ _ w h1 d') r r
  · have ez : (y == 0) = false := by simp; omega
    rw [ez] at hZ
    have d := fun w => divide_pos n x y w hn hx h0 hy
    have d' := fun w => divideSigned_v n x y w hn hx hy
    have eq : qS n x y = sdivN n x y := by unfold qS; rw [if_neg (by omega)]
    have er : rS n x y = sremN n x y := by unfold rS; rw [if_neg (by omega)]
    have hq2 : sdivN n x y < 2 ^ n := by rw [← eq]; exact qS_lt n x y hx
    have hm2 : sremN n x y < 2 ^ n := by rw [← er]; exact rS_lt n x y hx
    rw [eq, er] at d'
    have s1 := fun w => Bin_0 n (x / y * y % 2 ^ n) (x % y) w h1 hn
    rw [div_back (2 ^ n) x y hx] at s1
    have s2 := fun w => Bin_0 n (sdivN n x y * y % 2 ^ n) (sremN n x y) w h1 hn
    rw [sdiv_ok n x y hx hy] at s2
    have u1 := fun w => Bin_15 n (x % y) y w h1
    rw [show decide (x % y < y) = true from by simp [Nat.mod_lt _ h0]] at u1
    have z2 := fun w => Un_5 n (sremN n x y) w h1
    have vx := fun w => top_bit_at n x w h1 hn hx
    by_cases hm : sremN n x y = 0
    · rw [show (sremN n x y == 0) = true from by simp [hm]] at z2
      exact Div_pos0 n ca cb mb x y _ _ _ _ _ _ _ _ true A B f g w h1 hn hA hB hOx hOy hZ (bit_of false) (eq_same n)
        (fun w => Bin_3 n x y _ _ w h1 d) (fun w => Bin_4 n x y _ _ w h1 d) (fun w => Bin_5 n x y _ _ w h1 d') (fun w => Bin_6 n x y _ _ w h1 d')
        (fun w => Bin_2 n _ y w h1 hn) s1 u1 (fun w => Un_5 n _ w h1) (fun w => Bin_2 n _ y w h1 hn) s2 (fun w => Bin_15 n _ y w h1) z2 (bit_of true)
    · rw [show (sremN n x y == 0) = false from by simp [hm]] at z2
      have vb := fun w => top_bit_at n (sremN n x y) w h1 hn hm2
      rw [srem_sign n x y h1 hy h0 hm] at vb
      exact Div_pos1 n ca cb mb x y _ _ _ _ _ _ _ _ _ A B f g w h1 hn hA hB hOx hOy hZ (bit_of false) (eq_same n)
        (fun w => Bin_3 n x y _ _ w h1 d) (fun w => Bin_4 n x y _ _ w h1 d) (fun w => Bin_5 n x y _ _ w h1 d') (fun w => Bin_6 n x y _ _ w h1 d')
        (fun w => Bin_2 n _ y w h1 hn) s1 u1 (fun w => Un_5 n _ w h1) (fun w => Bin_2 n _ y w h1 hn) s2 (fun w => Bin_15 n _ y w h1) z2 (bit_of true) vb vx
end Go.Proofs.Ytknbnpbmgbnlfaa
