/-
  The walks of bv's shiftUp, shiftDown.
-/
import Derived.Test.YtmgkidfikikjpaaWf
import Derived.Test.YtmgkidfikikjpaaM3
namespace Go.Proofs.Ytmgkidfikikjpaa
open Go.RowKit
set_option maxRecDepth 100000 in
set_option maxHeartbeats 1000000 in
theorem shiftUp_lo (n x k : Nat) (w : World) (hn : n ≤ 128) (hk : k < 64) :
    Calls Try.prog 50 #[vv n x, .int .i64 (k : Int)] w (RV w (vv n (x * 2 ^ k % 2 ^ n))) := by
  have e1 : IntKind.i64.wrap (64 - (k : Int)) = 64 - (k : Int) := IntWalk.i64_in _ (by omega)
  have e2 : (64 - (k : Int)).toNat = 64 - k := by omega
  have ht := fun w => trimmed_w n (shlN (lo x) k) (shlN (hi x) k ||| lo x / 2 ^ (64 - k)) w hn (shlN_lt _ _) (or_lt _ _ _ (lo_lt x))
  rw [up_eq n x k hn (by omega), ← or_up_form _ _ _ (lo_lt x), ← shl_form] at ht
  have ht := Lib.hid ht
  go_enter Try.func50, Try.ntmps50
  go_wp2
  go_quiet (fail)
  go_wp2
  refine wp_region_still_tail 13 (by kernel_rfl) (by kernel_rfl) ?_
  simp only [List.take_succ_cons, List.take_zero, List.drop_succ_cons, List.drop_zero]
  change wpStill _ _ (World.drew _) _ _ _
  repeat still_step
  refine wpStill_nil ?_
  change wpList _ _ _ _ _ (World.drew _)
  go_wp2_with (go_at_call 58; refine (ht.out _).mono ?_; rintro e w1 ⟨rfl, hb1⟩; obtain ⟨hc1, hf1⟩ := bcell hb1)
  have hbw : Below w.heap.size w w1 := below_call hb1 (by refine Below.setCell ?_ (by go_size) _; refine Below.setCell ?_ (by go_size) _; exact below_drewN (by go_grown) _)
  refine bodyPost_ret (v := vv n (x * 2 ^ k % 2 ^ n)) (by simp [results, Try.results50, go_sem, hc1]) rfl ⟨rfl, ?_⟩
  clear hb1 hc1 hf1
  go_grown
set_option maxRecDepth 100000 in
set_option maxHeartbeats 1000000 in
theorem shiftUp_hi (n x j : Nat) (w : World) (hn : n ≤ 128) (hk : j ≤ 64) :
    Calls Try.prog 50 #[vv n x, .int .i64 (64 + (j : Int))] w (RV w (vv n (x * 2 ^ (64 + j) % 2 ^ n))) := by
  have ht := fun w => trimmed_w n 0 (shlN (lo x) j) w hn (by decide) (shlN_lt _ _)
  have e0 : ((0 : Nat) : Int) = 0 := rfl
  rw [up_eq_hi n x j hn, ← shl_form, e0] at ht
  clear e0
  have ht := Lib.hid ht
  go_enter Try.func50, Try.ntmps50
  go_wp2
  go_quiet (fail)
  go_wp2_with (go_at_call 58; refine (ht.out _).mono ?_; rintro e w1 ⟨rfl, hb1⟩; obtain ⟨hc1, hf1⟩ := bcell hb1)
  have hbw : Below w.heap.size w w1 := below_call hb1 (by refine Below.setCell ?_ (by go_size) _; refine Below.setCell ?_ (by go_size) _; exact below_drewN (by go_grown) _)
  refine bodyPost_ret (v := vv n (x * 2 ^ (64 + j) % 2 ^ n)) (by simp [results, Try.results50, go_sem, hc1]) rfl ⟨rfl, ?_⟩
  clear hb1 hc1 hf1
  go_grown
theorem shiftUp_v (n x k : Nat) (w : World) (hn : n ≤ 128) (hk : k ≤ 128) :
    Calls Try.prog 50 #[vv n x, .int .i64 (k : Int)] w (RV w (vv n (x * 2 ^ k % 2 ^ n))) := by
  by_cases h : k < 64
  · exact shiftUp_lo n x k w hn h
  · obtain ⟨j, rfl⟩ : ∃ j, k = 64 + j := ⟨k - 64, by omega⟩
    exact shiftUp_hi n x j w hn (by omega)
end Go.Proofs.Ytmgkidfikikjpaa
