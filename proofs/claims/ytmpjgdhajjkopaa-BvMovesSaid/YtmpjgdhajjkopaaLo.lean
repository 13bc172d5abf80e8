/-
  The walk of the statement BvMoves, at every slice of bits and every shift.
-/
import Derived.Test.YtmpjgdhajjkopaaLm
import Derived.Test.YtmpjgdhajjkopaaLn
namespace Go.Proofs.Ytmpjgdhajjkopaa
open Go.RowKit
set_option maxHeartbeats 400000 in
theorem Moves_none (c : Nat) (A : Option Addr) (b : Int) (w : World) : Calls Try.prog 12 #[.slice A 0 c, .int .i64 b] w (RV w (.bool true)) := by
  have hS := Lib.hid (fun w => short_le 0 c A w (by omega))
  go_enter Try.func12, Try.ntmps12
  go_wp2_with fail
  (with_reducible refine (awake_t _).mono ?_)
  rintro e w1 ⟨rfl, hbw1⟩
  go_wp2_with fail
  (with_reducible refine (hS.out _).mono ?_)
  rintro e w0 ⟨rfl, rfl⟩
  go_wp2_with fail
  go_ret
  exact ⟨rfl, hbw1⟩
set_option maxHeartbeats 400000 in
theorem Moves_long (n c : Nat) (A : Option Addr) (b : Int) (w : World) (h : 128 < n) (hn : n ≤ 140) : Calls Try.prog 12 #[.slice A n c, .int .i64 b] w (RV w (.bool true)) := by
  have hS := Lib.hid (fun w => short_le n c A w (by omega))
  have n0 : ((n : Int) == 0) = false := by simp; omega
  go_enter Try.func12, Try.ntmps12
  go_wp2_with fail
  (with_reducible refine (awake_t _).mono ?_)
  rintro e w1 ⟨rfl, hbw1⟩
  go_wp2_with fail
  (with_reducible refine (hS.out _).mono ?_)
  rintro e w0 ⟨rfl, rfl⟩
  go_wp2_with fail
  go_ret
  exact ⟨rfl, hbw1⟩
set_option maxHeartbeats 400000 in
theorem Moves_cut (n c g off : Nat) (b : Int) (w : World) (h : 140 < n) (hc : n ≤ c) : Calls Try.prog 12 #[.slice (some ⟨g, off, none⟩) n c, .int .i64 b] w (RV w (.bool true)) := by
  have hS := Lib.hid (fun w => short_gt n c g off w h hc)
  go_enter Try.func12, Try.ntmps12
  go_wp2_with fail
  (with_reducible refine (awake_t _).mono ?_)
  rintro e w1 ⟨rfl, hbw1⟩
  go_wp2_with fail
  (with_reducible refine (hS.out _).mono ?_)
  rintro e w0 ⟨rfl, rfl⟩
  go_wp2_with fail
  go_ret
  exact ⟨rfl, hbw1⟩
theorem k_of (n : Nat) (b : Int) : ∃ K0 : Nat, K0 ≤ n ∧ ∃ m : Int, (if (n : Int) < b then (n : Int) else b) = m ∧ (if m > 0 then m else 0) = (K0 : Int) := by
  refine ⟨(if (n : Int) < b then (n : Int) else b).toNat, ?_, _, rfl, ?_⟩
  · split <;> omega
  · split <;> split <;> omega
theorem Moves_all (n c : Nat) (b : Int) (A : Option Addr) (f : Nat → Bool) (w : World) (hA : RB w A n f) (hc : n ≤ c) :
    Calls Try.prog 12 #[.slice A n c, .int .i64 b] w (RV w (.bool true)) := by
  rcases Nat.eq_zero_or_pos n with rfl | h1
  · exact Moves_none c A b w
  by_cases hn : n ≤ 128
  case neg =>
    by_cases h140 : n ≤ 140
    · exact Moves_long n c A b w (by omega) h140
    · obtain ⟨g, off, rfl, _⟩ := hA h1
      exact Moves_cut n c g off b w (by omega) hc
  obtain ⟨K0, hK0, hm⟩ := k_of n b
  obtain ⟨K, hK⟩ : ∃ K, K = if n < 8 then min K0 (2 ^ n - 1) else K0 := ⟨_, rfl⟩
  have hk8 : 8 ≤ n → K = K0 := fun h => by rw [hK, if_neg (by omega)]
  have hk7 : n < 8 → K = min K0 (2 ^ n - 1) := fun h => by rw [hK, if_pos h]
  clear hK
  have hq := moves_k n K0 K hk8 hk7
  have hx := valB_lt f n
  have hO := fun w (h : RB w A n f) => Own_ok n c A f w h1 hn h
  generalize valB f n = x at hx hO
  have hKn : K ≤ n := by
    rcases Nat.lt_or_ge n 8 with h | h
    · rw [hk7 h]; omega
    · rw [hk8 h]; exact hK0
  have hKp : K < 2 ^ n := by
    have hp := Nat.pow_pos (n := n) (show 0 < 2 by decide)
    rcases Nat.lt_or_ge n 8 with h | h
    · rw [hk7 h]; omega
    · exact Nat.lt_of_le_of_lt hKn Nat.lt_two_pow_self
  have hKm : K % 2 ^ n = K := Nat.mod_eq_of_lt hKp
  have hmin : min K n = K := Nat.min_eq_left hKn
  have hN := fun (w : World) (g : Nat) (hg : g = w.heap.size) => New_one n K w g hg h1 hn (by omega)
  rw [hKm] at hN
  have hU := fun w => Bin_10 n x K w h1 hn
  rw [hmin] at hU
  have hD := fun w => Bin_11 n (x * 2 ^ K % 2 ^ n) K w h1 hn (Nat.mod_lt _ (Nat.pow_pos (by decide)))
  rw [hmin, up_down n x K hKn] at hD
  obtain ⟨L, hL⟩ : ∃ L, L = max 1 (n - K) := ⟨_, rfl⟩
  have hC := fun w => Slice_ok n x 0 L w hn hx (by omega) (by omega)
  rw [Nat.pow_zero, Nat.div_one] at hC
  have hxl : x % 2 ^ L < 2 ^ L := Nat.mod_lt _ (Nat.pow_pos (by decide))
  have hX := fun w => Ext_u L (x % 2 ^ L) n w (by omega) (by omega) hxl h1 hn
  have hXm : x % 2 ^ L % 2 ^ n = x % 2 ^ L := Nat.mod_eq_of_lt (Nat.lt_of_lt_of_le hxl (Nat.pow_le_pow_right (by decide) (by omega)))
  rw [hXm] at hX
  have hR := fun w => Bin_12 n x K w h1 hn hx
  rw [hmin] at hR
  have hT := fun w => Un_0 n x w h1 hn hx
  have htx : 2 ^ n - 1 - x < 2 ^ n := by omega
  have hR2 := fun w => Bin_12 n (2 ^ n - 1 - x) K w h1 hn htx
  rw [hmin] at hR2
  have hT2 := fun w => Un_0 n (sarN n (2 ^ n - 1 - x) K) w h1 hn (sarN_lt n _ K htx)
  rw [sar_turned n x K h1 hx] at hT2
  have hE2 := fun w => Equal_v n (sarN n x K) n (sarN n x K) w
  rw [eqB_self] at hE2
  rcases Nat.lt_or_ge K n with hlt | hge
  · have hE1 := fun w => Equal_v n (x % 2 ^ (n - K)) n (x % 2 ^ (n - K)) w
    rw [eqB_self] at hE1
    have hLe : L = n - K := by omega
    rw [hLe] at hX hC
    exact Moves_lt n c K0 K (n - K) x _ _ _ _ _ _ _ b A f w h1 hn hA hm hK0 hq (by omega) hlt hO hN hU hD hC hX hR hT hR2 hT2 hE1 hE2
  · have hKe : K = n := by omega
    have h0 : x % 2 ^ (n - K) = 0 := by rw [hKe, Nat.sub_self, Nat.pow_zero, Nat.mod_one]
    rw [h0] at hD
    have hE1 := fun w => Equal_v n 0 n 0 w
    rw [eqB_self] at hE1
    exact Moves_eq n c K0 K L x _ _ _ _ _ _ _ b A f w h1 hn hA hm hK0 hq hL hKe hO hN hU hD hC hX hR hT hR2 hT2 hE1 hE2
end Go.Proofs.Ytmpjgdhajjkopaa
