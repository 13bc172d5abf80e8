/-
  The walks of bv's contains, Slice, Ext and of Un where it turns all bits or negates.
-/
import Derived.Test.YtdjaikglkgabdaaGreatDoorWg
import Derived.Test.YtdjaikglkgabdaaGreatDoorM
namespace Go.Proofs.YtdjaikglkgabdaaGreatDoor
open Go.RowKit
set_option maxHeartbeats 400000 in
theorem Un_0 (n x : Nat) (w : World) (h0 : 1 ≤ n) (hn : n ≤ 128) (hx : x < 2 ^ n) :
    Calls Tryz.prog 101 #[.int .i64 0, vv n x] w (RV w (.tuple #[vv n (2 ^ n - 1 - x), .int .i64 0])) := by
  have hC := Lib.hid (fun w => invert_v n x w hn hx)
  go_enter Tryz.func101, Tryz.ntmps101
  go_wp2_with (go_at_call 113; (with_reducible refine (hC.out _).mono ?_); rintro e w1 ⟨rfl, hb1⟩; obtain ⟨hc1, hf1⟩ := bcell hb1)
  have hbw : Below w.heap.size w w1 := below_call hb1 (by go_grown)
  refine bodyPost_ret (v := .tuple #[vv n (2 ^ n - 1 - x), .int .i64 0]) (by simp [results, Tryz.results101, go_sem, hc1]) rfl ⟨rfl, ?_⟩
  clear hb1 hc1 hf1
  go_grown
set_option maxHeartbeats 400000 in
theorem Un_1 (n x : Nat) (w : World) (h0 : 1 ≤ n) (hn : n ≤ 128) (hx : x < 2 ^ n) :
    Calls Tryz.prog 101 #[.int .i64 1, vv n x] w (RV w (.tuple #[vv n ((0 + 2 ^ n - x) % 2 ^ n), .int .i64 0])) := by
  have hC := Lib.hid (fun w => negate_v n x w hn hx)
  go_enter Tryz.func101, Tryz.ntmps101
  go_wp2_with (go_at_call 114; (with_reducible refine (hC.out _).mono ?_); rintro e w1 ⟨rfl, hb1⟩; obtain ⟨hc1, hf1⟩ := bcell hb1)
  have hbw : Below w.heap.size w w1 := below_call hb1 (by go_grown)
  refine bodyPost_ret (v := .tuple #[vv n ((0 + 2 ^ n - x) % 2 ^ n), .int .i64 0]) (by simp [results, Tryz.results101, go_sem, hc1]) rfl ⟨rfl, ?_⟩
  clear hb1 hc1 hf1
  go_grown
end Go.Proofs.YtdjaikglkgabdaaGreatDoor
