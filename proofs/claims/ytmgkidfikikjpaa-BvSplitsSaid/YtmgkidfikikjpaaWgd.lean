/-
  The walk of bv's shiftDown.
-/
import Derived.Test.YtmgkidfikikjpaaWf
import Derived.Test.YtmgkidfikikjpaaM3
namespace Go.Proofs.Ytmgkidfikikjpaa
open Go.RowKit
set_option maxRecDepth 100000 in
set_option maxHeartbeats 400000 in
theorem shiftDown_lo (n x k : Nat) (w : World) (hk : k < 64) :
    Calls Try.prog 49 #[vv n x, .int .i64 (k : Int)] w (RV w (vv n (x / 2 ^ k))) := by
  have e1 : IntKind.i64.wrap (64 - (k : Int)) = 64 - (k : Int) := IntWalk.i64_in _ (by omega)
  have e2 : (64 - (k : Int)).toNat = 64 - k := by omega
  have hr : vv n (x / 2 ^ k) = .agg #[.int .i64 (n : Int), .int .u64 (bits .or .u64 (((lo x : Nat) : Int) / 2 ^ k) (IntKind.u64.wrap (((hi x : Nat) : Int) * 2 ^ (64 - k)))), .int .u64 (((hi x : Nat) : Int) / 2 ^ k)] := by
    unfold vv
    rw [lo_down x k (by omega), hi_down, ← or_down_form _ _ _ (lo_lt x), ← shr_form]
  rw [hr]
  clear hr
  go_enter Try.func49, Try.ntmps49
  go_wp2
  go_quiet (fail)
  go_wp2
  refine wp_region_still_tail 13 (by kernel_rfl) (by kernel_rfl) ?_
  simp only [List.take_succ_cons, List.take_zero, List.drop_succ_cons, List.drop_zero]
  change wpStill _ _ (World.drew _) _ _ _
  repeat still_step
  refine wpStill_nil ?_
  change wpList _ _ _ _ _ (World.drew _)
  go_wp2
  refine bodyPost_ret (v := .agg #[.int .i64 (n : Int), .int .u64 (bits .or .u64 (((lo x : Nat) : Int) / 2 ^ k) (IntKind.u64.wrap (((hi x : Nat) : Int) * 2 ^ (64 - k)))), .int .u64 (((hi x : Nat) : Int) / 2 ^ k)]) (by simp [results, Try.results49, go_sem]) rfl ⟨rfl, ?_⟩
  repeat' (first | (with_reducible refine Below.setCell ?_ ?_ _) | (with_reducible refine below_drewN ?_ _))
  all_goals go_grown
set_option maxRecDepth 100000 in
set_option maxHeartbeats 400000 in
theorem shiftDown_hi (n x j : Nat) (w : World) (hx : x < 2 ^ 128) (hk : j ≤ 64) :
    Calls Try.prog 49 #[vv n x, .int .i64 (64 + (j : Int))] w (RV w (vv n (x / 2 ^ (64 + j)))) := by
  have hr : vv n (x / 2 ^ (64 + j)) = .agg #[.int .i64 (n : Int), .int .u64 (((hi x : Nat) : Int) / 2 ^ j), .int .u64 0] := by
    unfold vv
    rw [lo_down_hi x j hx, hi_down_hi x j hx, ← shr_form]; rfl
  rw [hr]
  clear hr hx
  go_enter Try.func49, Try.ntmps49
  go_wp2
  go_quiet (fail)
  go_wp2
  refine bodyPost_ret (v := .agg #[.int .i64 (n : Int), .int .u64 (((hi x : Nat) : Int) / 2 ^ j), .int .u64 0]) (by simp [results, Try.results49, go_sem]) rfl ⟨rfl, ?_⟩
  repeat' (first | (with_reducible refine Below.setCell ?_ ?_ _) | (with_reducible refine below_drewN ?_ _))
  all_goals go_grown
theorem shiftDown_v (n x k : Nat) (w : World) (hx : x < 2 ^ 128) (hk : k ≤ 128) :
    Calls Try.prog 49 #[vv n x, .int .i64 (k : Int)] w (RV w (vv n (x / 2 ^ k))) := by
  by_cases h : k < 64
  · exact shiftDown_lo n x k w h
  · obtain ⟨j, rfl⟩ : ∃ j, k = 64 + j := ⟨k - 64, by omega⟩
    exact shiftDown_hi n x j w hx (by omega)
end Go.Proofs.Ytmgkidfikikjpaa
