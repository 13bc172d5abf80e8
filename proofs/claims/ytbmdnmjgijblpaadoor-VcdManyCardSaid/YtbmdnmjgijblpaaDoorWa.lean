/-
  The walks of the smallest functions of bv: lowBits, fits, trimmed. What each call returns and what it does to memory, for every argument in the ranges that stand in each theorem.
-/
import Derived.Test.YtbmdnmjgijblpaaDoorProg
import Derived.Test.YtbmdnmjgijblpaaDoorM
import Derived.WalkKit
import Derived.WalkSpells
import Derived.WalkLawsBesides
import Derived.StillTailTactics
import Derived.BigQuiet
import Derived.Deep.QuietTactic
import Derived.Lib.Hide
import Derived.Handy
namespace Go.Proofs.YtbmdnmjgijblpaaDoor
open Go.RowKit

set_option maxHeartbeats 400000 in
theorem lowBits_t (k : Int) (w : World) (h0 : -1000 ≤ k) (h1 : k ≤ 1000) :
    Calls Tryd.prog 20 #[.int .i64 k] w fun e w' => e = .returned (.int .u64 ((mask k : Nat) : Int)) ∧ w' = w := by
  have hm := Lib.hid (wrap_mask k)
  have hn := Lib.hid (mask_neg k)
  go_enter Tryd.func20, Tryd.ntmps20
  go_wp2
  all_goals go_ret
  · have h : k < 0 := by assumption
    exact ⟨by rw [hn.out h]; rfl, rfl⟩
  · exact ⟨by rw [← hm.out]; rfl, rfl⟩
def fitsB (k : Int) : Bool := decide (1 ≤ k ∧ k ≤ 128)
set_option maxHeartbeats 400000 in
theorem fits_t (k : Int) (w : World)  :
    Calls Tryd.prog 10 #[.int .i64 k] w fun e w' => e = .returned (.bool (fitsB k)) ∧ w' = w := by
  by_cases a : 1 ≤ k
  · have hd := Lib.hid (show fitsB k = decide (k ≤ 128) from by unfold fitsB; simp [a])
    go_enter Tryd.func10, Tryd.ntmps10
    go_wp2
    go_ret
    exact ⟨by rw [hd.out]; rfl, rfl⟩
  · have hd := Lib.hid (show fitsB k = false from by unfold fitsB; simp [a])
    go_enter Tryd.func10, Tryd.ntmps10
    go_wp2
    go_ret
    exact ⟨by rw [hd.out]; rfl, rfl⟩
set_option maxRecDepth 100000 in
set_option maxHeartbeats 800000 in
theorem trimmed_t (n x0 x1 : Nat) (w : World) (hn : n ≤ 128) :
    Calls Tryd.prog 11 #[.agg #[.int .i64 (n : Int), .int .u64 (x0 : Int), .int .u64 (x1 : Int)]] w fun e w' =>
      e = .returned (.agg #[.int .i64 (n : Int), .int .u64 (bits .and .u64 (x0 : Int) ((mask (n : Int) : Nat) : Int)), .int .u64 (bits .and .u64 (x1 : Int) ((mask ((n : Int) - 64) : Nat) : Int))]) ∧ Below w.heap.size w w' := by
  have e0 : IntKind.i64.wrap 0 = 0 := by decide
  have e64 : IntKind.i64.wrap 64 = 64 := by decide
  have en : IntKind.i64.wrap (n : Int) = (n : Int) := IntWalk.i64_in _ (by omega)
  have en64 : IntKind.i64.wrap ((n : Int) - 64) = (n : Int) - 64 := IntWalk.i64_in _ (by omega)
  go_enter Tryd.func11, Tryd.ntmps11
  go_wp2
  refine wp_loop_rounds 3 ?_
  rw [rounds_succ]
  go_wp2
  refine wp_region_still_tail 13 (by kernel_rfl) (by kernel_rfl) ?_
  simp only [List.take_succ_cons, List.take_zero, List.drop_succ_cons, List.drop_zero]
  change wpStill _ _ (World.drew _) _ _ _
  repeat still_step
  still_call (lowBits_t _ _ (by omega) (by omega))
  repeat still_step
  refine wpStill_nil ?_
  change wpList _ _ _ _ _ (World.drew _)
  go_wp2
  rw [rounds_succ]
  go_wp2
  refine wp_region_still_tail 13 (by kernel_rfl) (by kernel_rfl) ?_
  simp only [List.take_succ_cons, List.take_zero, List.drop_succ_cons, List.drop_zero]
  change wpStill _ _ (World.drew _) _ _ _
  repeat still_step
  still_call (lowBits_t _ _ (by omega) (by omega))
  repeat still_step
  refine wpStill_nil ?_
  change wpList _ _ _ _ _ (World.drew _)
  go_wp2
  rw [rounds_succ]
  go_wp2
  go_returns
  exact ⟨rfl, by go_grown⟩
/-- What a call that returns v and touches nothing that was there leaves. -/
def RV (w : World) (v : Value) (e : Ending) (w' : World) : Prop := e = .returned v ∧ Below w.heap.size w w'
theorem trimmed_w (n x0 x1 : Nat) (w : World) (hn : n ≤ 128) (h0 : x0 < 2 ^ 64) (h1 : x1 < 2 ^ 64) :
    Calls Tryd.prog 11 #[.agg #[.int .i64 (n : Int), .int .u64 (x0 : Int), .int .u64 (x1 : Int)]] w (RV w (vv n (trimN n x0 x1))) := by
  refine (trimmed_t n x0 x1 w hn).mono ?_
  rintro e w' ⟨rfl, hb⟩
  refine ⟨?_, hb⟩
  rw [bits_and_mask x0 _ h0, bits_and_mask x1 _ h1, ← lo_trim n x0 x1, ← hi_trim n x0 x1 h0 hn]
theorem below_call {w W w1 : World} (h : Below W.heap.size W w1) (h0 : Below w.heap.size w W) : Below w.heap.size w w1 := h0.trans (h.mono h0.size)
end Go.Proofs.YtbmdnmjgijblpaaDoor
