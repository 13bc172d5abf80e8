/-
  The walks of bv's contains, Slice, Ext and of Un where it turns all bits or negates.
-/
import Derived.Test.YtmgkidfikikjpaaWg
import Derived.Test.YtmgkidfikikjpaaM4
namespace Go.Proofs.Ytmgkidfikikjpaa
open Go.RowKit
set_option maxHeartbeats 400000 in
/-- contains, where the part lies within the vector. -/
theorem contains_yes (n x l m : Nat) (w : World) (hn : n ≤ 128) (hm : 1 ≤ m) (h : l + m ≤ n) :
    Calls Try.prog 47 #[vv n x, .int .i64 (l : Int), .int .i64 (m : Int)] w (RV w (.bool true)) := by
  have e1 : IntKind.i64.wrap ((n : Int) - (m : Int)) = (n : Int) - (m : Int) := IntWalk.i64_in _ (by omega)
  have d1 : decide ((l : Int) ≤ (n : Int) - (m : Int)) = true := by simp; omega
  have d2 : m ≤ n := by omega
  have d3 : (0 : Int) ≤ (l : Int) := by omega
  go_enter Try.func47, Try.ntmps47
  go_wp2
  go_ret
  exact ⟨rfl, by go_grown⟩
set_option maxHeartbeats 800000 in
theorem Slice_ok (n x l m : Nat) (w : World) (hn : n ≤ 128) (hx : x < 2 ^ n) (hm : 1 ≤ m) (h : l + m ≤ n) :
    Calls Try.prog 12 #[vv n x, .int .i64 (l : Int), .int .i64 (m : Int)] w (RV w (.tuple #[vv m (x / 2 ^ l % 2 ^ m), .int .i64 0])) := by
  have hC := Lib.hid (fun w => contains_yes n x l m w hn hm h)
  have hD := Lib.hid (fun w => shiftDown_v n x l w (Nat.lt_of_lt_of_le hx (Nat.pow_le_pow_right (by decide) hn)) (by omega))
  have hlt : x / 2 ^ l < 2 ^ n := Nat.lt_of_le_of_lt (Nat.div_le_self _ _) hx
  have hR := fun w => resized_w n m (lo (x / 2 ^ l)) (hi (x / 2 ^ l)) w (by omega) (lo_lt _) (hi_lt hlt hn)
  have e : trimN m (lo (x / 2 ^ l)) (hi (x / 2 ^ l)) = x / 2 ^ l % 2 ^ m := by unfold trimN; rw [lo_hi]
  rw [e] at hR
  clear e hlt
  replace hR := Lib.hid hR
  clear hx hm h
  go_enter Try.func12, Try.ntmps12
  go_wp2_with (first
    | (go_at_call 47; (with_reducible refine (hC.out _).mono ?_); rintro e w1 ⟨rfl, hb1⟩; have A1 := ((HV.new w 28 n x).alloc (.cells zcs 28)).over hb1; have Z1 := (HV.zero (w.alloc (.cells (vcs n x) 28)) 28).over hb1; simp only [World.size_alloc] at Z1; have hbw1 : Below w.heap.size w w1 := below_call hb1 (by go_grown); have a1 := A1.all; have z1 := Z1.all; clear hb1)
    | (go_at_call 49; (with_reducible refine (hD.out _).mono ?_); rintro e w2 ⟨rfl, hb2⟩; have Z2 := Z1.over hb2; have hbw2 : Below w.heap.size w w2 := below_call hb2 hbw1; have z2 := Z2.all; clear hb2 a1 z1)
    | (go_at_call 48; (with_reducible refine (hR.out _).mono ?_); rintro e w3 ⟨rfl, hb3⟩; have Z3 := Z2.over hb3; have hbw3 : Below w.heap.size w w3 := below_call hb3 hbw2; have z3 := Z3.all; clear hb3 z2))
  refine bodyPost_ret (v := .tuple #[vv m (x / 2 ^ l % 2 ^ m), .int .i64 0]) (by simp [results, Try.results12, go_sem, z3]) rfl ⟨rfl, ?_⟩
  go_grown
set_option maxHeartbeats 800000 in
theorem Ext_u (n x m : Nat) (w : World) (h0 : 1 ≤ n) (hn : n ≤ 128) (hx : x < 2 ^ n) (h1 : 1 ≤ m) (hm : m ≤ 128) :
    Calls Try.prog 18 #[vv n x, .int .i64 (m : Int), .bool false] w (RV w (.tuple #[vv m (x % 2 ^ m), .int .i64 0])) := by
  have hF := fun w => fits_t (m : Int) w
  have ef : fitsB (m : Int) = true := by unfold fitsB; simp; omega
  rw [ef] at hF
  clear ef
  replace hF := Lib.hid hF
  have hR := fun w => resized_w n m (lo x) (hi x) w hm (lo_lt _) (hi_lt hx hn)
  have e : trimN m (lo x) (hi x) = x % 2 ^ m := by unfold trimN; rw [lo_hi]
  rw [e] at hR
  clear e
  replace hR := Lib.hid hR
  clear hx
  go_enter Try.func18, Try.ntmps18
  go_wp2_with (first
    | (go_at_call 55; (with_reducible refine (hF.out _).mono ?_); rintro e w0 ⟨rfl, rfl⟩)
    | (go_at_call 48; (with_reducible refine (hR.out _).mono ?_); rintro e w1 ⟨rfl, hb1⟩; have Z1 := (HV.zero (w.alloc (.cells (vcs n x) 28)) 28).over hb1; simp only [World.size_alloc] at Z1; have hbw1 : Below w.heap.size w w1 := below_call hb1 (by go_grown); have z1 := Z1.all; clear hb1))
  refine bodyPost_ret (v := .tuple #[vv m (x % 2 ^ m), .int .i64 0]) (by simp [results, Try.results18, go_sem, z1]) rfl ⟨rfl, ?_⟩
  go_grown
end Go.Proofs.Ytmgkidfikikjpaa
