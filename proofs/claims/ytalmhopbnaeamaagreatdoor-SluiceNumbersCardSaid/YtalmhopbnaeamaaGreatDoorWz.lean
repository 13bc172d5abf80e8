/-
  The walks of bv's Un for tests of all bits, of Put, and of the closure of BvOrders.
-/
import Derived.Test.YtalmhopbnaeamaaGreatDoorWv
import Derived.Test.YtalmhopbnaeamaaGreatDoorWp
import Derived.Test.YtalmhopbnaeamaaGreatDoorWo
import Derived.Test.YtalmhopbnaeamaaGreatDoorRt
import Derived.Deep.RegionHeld3
import Derived.Deep.DeepCutAuto
namespace Go.Proofs.YtalmhopbnaeamaaGreatDoor
open Go.RowKit
set_option maxHeartbeats 800000 in
theorem Un_5 (n x : Nat) (w : World) (h0 : 1 ≤ n) :
    Calls Tryz.prog 66 #[.int .i64 5, vv n x] w (RV w (.tuple #[vv 1 (x == 0).toNat, .int .i64 0])) := by
  have hC := fun w => isZero_v n x w
  generalize (x == 0) = b at *
  replace hC := Lib.hid hC
  have hT := Lib.hid (fun w => truth_v b w)
  go_enter Tryz.func66, Tryz.ntmps66
  go_wp2_with (first
    | (go_at_call 98; (with_reducible refine (hC.out _).mono ?_); rintro e w1 ⟨rfl, hb1⟩; obtain ⟨hc1, hf1⟩ := bcell hb1; have hz1 := less2 (size_le hb1 (w.heap.size + 2) (by go_size)))
    | (go_at_call 52; (with_reducible refine (hT.out _).mono ?_); rintro e w2 ⟨rfl, hb2⟩; obtain ⟨hc2, hf2⟩ := bcell hb2))
  have hbw1 : Below w.heap.size w w1 := below_call hb1 (by go_grown)
  have hbw : Below w.heap.size w w2 := below_call hb2 (by go_grown)
  refine bodyPost_ret (v := .tuple #[vv 1 b.toNat, .int .i64 0]) (by simp [results, Tryz.results66, go_sem, hc1, hc2, hz1]) rfl ⟨rfl, ?_⟩
  clear hb1 hc1 hf1 hb2 hc2 hf2
  go_grown
set_option maxHeartbeats 800000 in
theorem Un_3 (n x : Nat) (w : World) (h0 : 1 ≤ n) :
    Calls Tryz.prog 66 #[.int .i64 3, vv n x] w (RV w (.tuple #[vv 1 (!(x == 0)).toNat, .int .i64 0])) := by
  have hC := fun w => isZero_v n x w
  generalize (x == 0) = b at *
  replace hC := Lib.hid hC
  have hT := Lib.hid (fun w => truth_v (!b) w)
  go_enter Tryz.func66, Tryz.ntmps66
  go_wp2_with (first
    | (go_at_call 98; (with_reducible refine (hC.out _).mono ?_); rintro e w1 ⟨rfl, hb1⟩; obtain ⟨hc1, hf1⟩ := bcell hb1; have hz1 := less2 (size_le hb1 (w.heap.size + 2) (by go_size)))
    | (go_at_call 52; (with_reducible refine (hT.out _).mono ?_); rintro e w2 ⟨rfl, hb2⟩; obtain ⟨hc2, hf2⟩ := bcell hb2))
  have hbw1 : Below w.heap.size w w1 := below_call hb1 (by go_grown)
  have hbw : Below w.heap.size w w2 := below_call hb2 (by go_grown)
  refine bodyPost_ret (v := .tuple #[vv 1 (!b).toNat, .int .i64 0]) (by simp [results, Tryz.results66, go_sem, hc1, hc2, hz1]) rfl ⟨rfl, ?_⟩
  clear hb1 hc1 hf1 hb2 hc2 hf2
  go_grown
set_option maxRecDepth 100000 in
set_option maxHeartbeats 800000 in
theorem Un_2 (n x : Nat) (w : World) (h0 : 1 ≤ n) (hn : n ≤ 128) :
    Calls Tryz.prog 66 #[.int .i64 2, vv n x] w (RV w (.tuple #[vv 1 (x == 2 ^ n - 1).toNat, .int .i64 0])) := by
  have hO := fun w => ones_v n w hn
  generalize 2 ^ n - 1 = y at *
  have he := vv_inj n x n y
  have hq := eql_vec n (lo x) (hi x) n (lo y) (hi y)
  have e1 : (n == n && x == y) = (x == y) := by simp
  rw [he, e1] at hq
  clear he e1
  generalize (x == y) = b at *
  replace hO := Lib.hid hO
  have hg := guard_vec
  have hT := Lib.hid (fun w => truth_v b w)
  go_enter Tryz.func66, Tryz.ntmps66
  go_wp2_with fail
  have A1 := (HV.new w 26 n x).alloc (.cells zcs 26)
  have Z1 := HV.zero (w.alloc (.cells (vcs n x) 26)) 26
  simp only [World.size_alloc] at Z1
  have hbw1 : Below w.heap.size w ((w.alloc (.cells (vcs n x) 26)).alloc (.cells zcs 26)) := by go_grown
  go_region_held3 (fun w' => (w'.cell? ⟨w.heap.size, 0, none⟩ = some (.int .i64 (n : Int)) ∧ w'.cell? ⟨w.heap.size, 1, none⟩ = some (.int .u64 ((lo x : Nat) : Int)) ∧ w'.cell? ⟨w.heap.size, 2, none⟩ = some (.int .u64 ((hi x : Nat) : Int))))
    (first | (with_reducible exact A1.drew.keep3) | (with_reducible exact A2.keep3) | (with_reducible exact A3.keep3) | (with_reducible exact (A3.far3 (by omega)).keep3))
    (first
      | (go_at_call 97; (with_reducible refine (hO.out _).mono ?_); rintro e w2 ⟨rfl, hb2⟩; have A2 := A1.drew.over hb2; have Z2 := Z1.drew.over hb2; have hbw2 : Below w.heap.size w w2 := below_call hb2 hbw1.drew; have z2 := Z2.all)
      | (go_at_call 52; (with_reducible refine (hT.out _).mono ?_); rintro e w3 ⟨rfl, hb3⟩; have A3 := A2.over hb3; have Z3 := Z2.over hb3; have hbw3 : Below w.heap.size w w3 := below_call hb3 hbw2; have z3 := Z3.all; clear z2))
  go_wp2
  refine bodyPost_ret (v := .tuple #[vv 1 b.toNat, .int .i64 0]) (by simp [results, Tryz.results66, go_sem, z3]) rfl ⟨rfl, ?_⟩
  repeat' (first | (with_reducible refine Below.drew ?_) | (with_reducible refine Below.setCell ?_ ?_ _))
  all_goals (first | exact hbw3 | (show w.heap.size ≤ _ + 1; omega))
end Go.Proofs.YtalmhopbnaeamaaGreatDoor
