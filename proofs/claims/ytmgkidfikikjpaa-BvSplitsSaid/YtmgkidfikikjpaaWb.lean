/-
  The walks of small functions of bv over a vector: resized, Bit, isNegative, isZero, Equal, bitOf, truth: what each returns, for every vector whose bits beyond the width are 0.
-/
import Derived.Test.YtmgkidfikikjpaaWa
namespace Go.Proofs.Ytmgkidfikikjpaa
open Go.RowKit

set_option maxHeartbeats 800000 in
theorem resized_w (n m x0 x1 : Nat) (w : World) (hn : m ≤ 128) (h0 : x0 < 2 ^ 64) (h1 : x1 < 2 ^ 64) :
    Calls Try.prog 48 #[.agg #[.int .i64 (n : Int), .int .u64 (x0 : Int), .int .u64 (x1 : Int)], .int .i64 (m : Int)] w (RV w (vv m (trimN m x0 x1))) := by
  go_enter Try.func48, Try.ntmps48
  go_wp2_with (go_at_call 58; refine (trimmed_w m x0 x1 _ hn h0 h1).mono ?_; rintro e w1 ⟨rfl, hb1⟩; obtain ⟨hc1, hf1⟩ := bcell hb1; have hz1 := hb1.size; simp only [World.size_alloc] at hz1)
  have hbw : Below w.heap.size w w1 := below_call hb1 (by go_grown)
  refine bodyPost_ret (v := vv m (trimN m x0 x1)) (by simp [results, Try.results48, go_sem, hc1]) rfl ⟨rfl, ?_⟩
  clear hb1 hc1 hf1
  go_grown

set_option maxHeartbeats 800000 in
theorem Bit_lo (n i x0 x1 : Nat) (w : World) (hi : i < n) (h : i < 64) :
    Calls Try.prog 46 #[.agg #[.int .i64 (n : Int), .int .u64 (x0 : Int), .int .u64 (x1 : Int)], .int .i64 (i : Int)] w (RV w (.bool (bits .and .u64 ((x0 : Int) / 2 ^ i) 1 == 1))) := by
  have hd : ((i : Int) / 64) = 0 := by omega
  have hm : ((i : Int) % 64) = (i : Int) := by omega
  go_enter Try.func46, Try.ntmps46
  go_wp2
  go_returns
  exact ⟨rfl, by go_grown⟩
set_option maxHeartbeats 800000 in
theorem Bit_hi (n i x0 x1 : Nat) (w : World) (hn : n ≤ 128) (hi : 64 + i < n) :
    Calls Try.prog 46 #[.agg #[.int .i64 (n : Int), .int .u64 (x0 : Int), .int .u64 (x1 : Int)], .int .i64 (64 + (i : Int))] w (RV w (.bool (bits .and .u64 ((x1 : Int) / 2 ^ i) 1 == 1))) := by
  have hd : ((64 + (i : Int)) / 64) = 1 := by omega
  have hm : ((64 + (i : Int)) % 64) = (i : Int) := by omega
  go_enter Try.func46, Try.ntmps46
  go_wp2
  go_returns
  exact ⟨rfl, by go_grown⟩
set_option maxHeartbeats 800000 in
theorem Bit_out (n x0 x1 : Nat) (i : Int) (w : World) (hn : n ≤ 128) (hi : i < 0 ∨ n ≤ i) :
    Calls Try.prog 46 #[.agg #[.int .i64 (n : Int), .int .u64 (x0 : Int), .int .u64 (x1 : Int)], .int .i64 i] w (RV w (.bool false)) := by
  rcases hi with hi | hi
  · go_enter Try.func46, Try.ntmps46
    go_wp2
    go_returns
    exact ⟨rfl, by go_grown⟩
  · have h0 : ¬ i < 0 := by omega
    go_enter Try.func46, Try.ntmps46
    go_wp2
    go_returns
    exact ⟨rfl, by go_grown⟩
theorem Bit_v (n x : Nat) (i : Int) (w : World) (hn : n ≤ 128) (hx : x < 2 ^ n) :
    Calls Try.prog 46 #[vv n x, .int .i64 i] w (RV w (.bool (bitI n x i))) := by
  by_cases h : 0 ≤ i ∧ i < n
  · obtain ⟨k, rfl⟩ := Int.eq_ofNat_of_zero_le h.1
    have e : bitI n x (k : Int) = x.testBit k := by unfold bitI; simp [h]
    rw [e]
    by_cases hk : k < 64
    · rw [← testBit_lo x k hk, ← testBit_word _ _ (lo_lt x)]
      exact Bit_lo n k (lo x) (hi x) w (by omega) hk
    · obtain ⟨j, rfl⟩ : ∃ j, k = 64 + j := ⟨k - 64, by omega⟩
      rw [← testBit_hi x j, ← testBit_word _ _ (hi_lt hx hn)]
      exact Bit_hi n j (lo x) (hi x) w hn (by omega)
  · have e : bitI n x i = false := by unfold bitI; simp [h]
    rw [e]
    exact Bit_out n (lo x) (hi x) i w hn (by omega)

theorem bitI_top (n x : Nat) (hx : x < 2 ^ n) : bitI n x ((n : Int) - 1) = x.testBit (n - 1) := by
  unfold bitI
  by_cases h : 1 ≤ n
  · rw [show ((n : Int) - 1).toNat = n - 1 from by omega]; simp; omega
  · obtain rfl : n = 0 := by omega
    obtain rfl : x = 0 := by simpa using hx
    simp
set_option maxHeartbeats 800000 in
theorem isNegative_v (n x : Nat) (w : World) (hn : n ≤ 128) (hx : x < 2 ^ n) :
    Calls Try.prog 56 #[vv n x] w (RV w (.bool (x.testBit (n - 1)))) := by
  have he := Lib.hid (bitI_top n x hx)
  go_enter Try.func56, Try.ntmps56
  go_wp2_with (go_at_call 46; refine (Bit_v n x _ _ hn hx).mono ?_; rintro e w1 ⟨rfl, hb1⟩)
  have hbw : Below w.heap.size w w1 := below_call hb1 (by go_grown)
  go_returns
  exact ⟨by rw [← he.out]; rfl, hbw⟩
set_option maxHeartbeats 800000 in
theorem bitOf_v (n x : Nat) (i : Int) (w : World) (hn : n ≤ 128) (hx : x < 2 ^ n) :
    Calls Try.prog 77 #[vv n x, .int .i64 i] w (RV w (.int .u64 (((bitI n x i).toNat : Nat) : Int))) := by
  cases hc : bitI n x i with
  | false =>
    have he := Lib.hid hc
    clear hc
    go_enter Try.func77, Try.ntmps77
    go_wp2_with (go_at_call 46; refine (Bit_v n x _ _ hn hx).mono ?_; rw [he.out]; rintro e w1 ⟨rfl, hb1⟩)
    have hbw : Below w.heap.size w w1 := below_call hb1 (by go_grown)
    go_returns
    exact ⟨rfl, hbw⟩
  | true =>
    have he := Lib.hid hc
    clear hc
    go_enter Try.func77, Try.ntmps77
    go_wp2_with (go_at_call 46; refine (Bit_v n x _ _ hn hx).mono ?_; rw [he.out]; rintro e w1 ⟨rfl, hb1⟩)
    have hbw : Below w.heap.size w w1 := below_call hb1 (by go_grown)
    go_returns
    exact ⟨rfl, hbw⟩
set_option maxHeartbeats 800000 in
theorem truth_v (b : Bool) (w : World) : Calls Try.prog 30 #[.bool b] w (RV w (vv 1 b.toNat)) := by
  cases b
  · go_enter Try.func30, Try.ntmps30
    go_wp2
    go_returns
    exact ⟨rfl, by go_grown⟩
  · go_enter Try.func30, Try.ntmps30
    go_wp2
    go_returns
    exact ⟨rfl, by go_grown⟩
end Go.Proofs.Ytmgkidfikikjpaa
