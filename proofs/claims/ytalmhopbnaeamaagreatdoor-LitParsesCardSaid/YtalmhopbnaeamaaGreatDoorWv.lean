/-
  The walks of bv's contains, Slice, Ext and of Un where it turns all bits or negates.
-/
import Derived.Test.YtalmhopbnaeamaaGreatDoorWg
import Derived.Test.YtalmhopbnaeamaaGreatDoorM4
namespace Go.Proofs.YtalmhopbnaeamaaGreatDoor
open Go.RowKit
set_option maxHeartbeats 400000 in
theorem Un_0 (n x : Nat) (w : World) (h0 : 1 ≤ n) (hn : n ≤ 128) (hx : x < 2 ^ n) :
    Calls Tryz.prog 66 #[.int .i64 0, vv n x] w (RV w (.tuple #[vv n (2 ^ n - 1 - x), .int .i64 0])) := by
  have hC := Lib.hid (fun w => invert_v n x w hn hx)
  go_enter Tryz.func66, Tryz.ntmps66
  go_wp2_with (go_at_call 47; (with_reducible refine (hC.out _).mono ?_); rintro e w1 ⟨rfl, hb1⟩; obtain ⟨hc1, hf1⟩ := bcell hb1)
  have hbw : Below w.heap.size w w1 := below_call hb1 (by go_grown)
  refine bodyPost_ret (v := .tuple #[vv n (2 ^ n - 1 - x), .int .i64 0]) (by simp [results, Tryz.results66, go_sem, hc1]) rfl ⟨rfl, ?_⟩
  clear hb1 hc1 hf1
  go_grown
set_option maxHeartbeats 400000 in
theorem Un_1 (n x : Nat) (w : World) (h0 : 1 ≤ n) (hn : n ≤ 128) (hx : x < 2 ^ n) :
    Calls Tryz.prog 66 #[.int .i64 1, vv n x] w (RV w (.tuple #[vv n ((0 + 2 ^ n - x) % 2 ^ n), .int .i64 0])) := by
  have hC := Lib.hid (fun w => negate_v n x w hn hx)
  go_enter Tryz.func66, Tryz.ntmps66
  go_wp2_with (go_at_call 96; (with_reducible refine (hC.out _).mono ?_); rintro e w1 ⟨rfl, hb1⟩; obtain ⟨hc1, hf1⟩ := bcell hb1)
  have hbw : Below w.heap.size w w1 := below_call hb1 (by go_grown)
  refine bodyPost_ret (v := .tuple #[vv n ((0 + 2 ^ n - x) % 2 ^ n), .int .i64 0]) (by simp [results, Tryz.results66, go_sem, hc1]) rfl ⟨rfl, ?_⟩
  clear hb1 hc1 hf1
  go_grown
set_option maxHeartbeats 800000 in
theorem Ext_u (n x m : Nat) (w : World) (h0 : 1 ≤ n) (hn : n ≤ 128) (hx : x < 2 ^ n) (h1 : 1 ≤ m) (hm : m ≤ 128) :
    Calls Tryz.prog 22 #[vv n x, .int .i64 (m : Int), .bool false] w (RV w (.tuple #[vv m (x % 2 ^ m), .int .i64 0])) := by
  have hF := fun w => fits_t (m : Int) w
  have ef : fitsB (m : Int) = true := by unfold fitsB; simp; omega
  rw [ef] at hF
  clear ef
  replace hF := Lib.hid hF
  have hR := fun w => resized_w n m (lo x) (hi x) w hm (lo_lt _) (hi_lt hx hn)
  have e : trimN m (lo x) (hi x) = x % 2 ^ m := by unfold trimN; rw [lo_hi]
  rw [e] at hR
  clear e
  replace hR := Lib.hid hR
  clear hx
  go_enter Tryz.func22, Tryz.ntmps22
  go_wp2_with (first
    | (go_at_call 45; (with_reducible refine (hF.out _).mono ?_); rintro e w0 ⟨rfl, rfl⟩)
    | (go_at_call 48; (with_reducible refine (hR.out _).mono ?_); rintro e w1 ⟨rfl, hb1⟩; have Z1 := (HV.zero (w.alloc (.cells (vcs n x) 26)) 26).over hb1; simp only [World.size_alloc] at Z1; have hbw1 : Below w.heap.size w w1 := below_call hb1 (by go_grown); have z1 := Z1.all; clear hb1))
  refine bodyPost_ret (v := .tuple #[vv m (x % 2 ^ m), .int .i64 0]) (by simp [results, Tryz.results22, go_sem, z1]) rfl ⟨rfl, ?_⟩
  go_grown
end Go.Proofs.YtalmhopbnaeamaaGreatDoor
