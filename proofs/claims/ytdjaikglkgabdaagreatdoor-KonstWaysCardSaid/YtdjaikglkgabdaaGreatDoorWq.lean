/-
  The walks of bv's holds, and of Bin for shifts and comparisons.
-/
import Derived.Test.YtdjaikglkgabdaaGreatDoorWp
import Derived.Test.YtdjaikglkgabdaaGreatDoorWo
namespace Go.Proofs.YtdjaikglkgabdaaGreatDoor
open Go.RowKit

set_option maxHeartbeats 400000 in
theorem holds_13 (n x y : Nat) (w : World) :
    Calls Tryz.prog 123 #[.int .i64 13, vv n x, vv n y] w (RV w (.bool (eqB n x n y))) := by
  have he := Lib.hid (show (((lo x : Nat) : Int) == lo y && ((hi x : Nat) : Int) == hi y) = eqB n x n y from by have h := vv_inj n x n y; simpa [eqB] using h)
  have hq := eql_vec n (lo x) (hi x) n (lo y) (hi y)
  have hg := guard_vec
  go_enter Tryz.func123, Tryz.ntmps123
  go_wp2
  go_ret
  exact ⟨by rw [← he.out]; rfl, by go_grown⟩

set_option maxHeartbeats 400000 in
theorem holds_14 (n x y : Nat) (w : World) :
    Calls Tryz.prog 123 #[.int .i64 14, vv n x, vv n y] w (RV w (.bool (!(eqB n x n y)))) := by
  have he := Lib.hid (show (!((lo x : Nat) : Int) == lo y || !((hi x : Nat) : Int) == hi y) = !(eqB n x n y) from by have h := vv_inj n x n y; rw [← Bool.not_and]; congr 1; simpa [eqB] using h)
  have hq := neq_vec n (lo x) (hi x) n (lo y) (hi y)
  have hg := guard_vec
  go_enter Tryz.func123, Tryz.ntmps123
  go_wp2
  go_ret
  exact ⟨by rw [← he.out]; rfl, by go_grown⟩

set_option maxHeartbeats 400000 in
theorem holds_15 (n x y : Nat) (w : World) :
    Calls Tryz.prog 123 #[.int .i64 15, vv n x, vv n y] w (RV w (.bool (decide (x < y)))) := by
  have hC := fun w => less_v n n x y w
  generalize decide (x < y) = b at *
  replace hC := Lib.hid hC
  go_enter Tryz.func123, Tryz.ntmps123
  go_wp2_with (go_at_call 138; (with_reducible refine (hC.out _).mono ?_); rintro e w1 ⟨rfl, hb1⟩)
  have hbw : Below w.heap.size w w1 := below_call hb1 (by go_grown)
  go_ret
  exact ⟨rfl, hbw⟩

set_option maxHeartbeats 400000 in
theorem holds_16 (n x y : Nat) (w : World) :
    Calls Tryz.prog 123 #[.int .i64 16, vv n x, vv n y] w (RV w (.bool (!decide (y < x)))) := by
  have hC := fun w => less_v n n y x w
  generalize decide (y < x) = b at *
  replace hC := Lib.hid hC
  go_enter Tryz.func123, Tryz.ntmps123
  go_wp2_with (go_at_call 138; (with_reducible refine (hC.out _).mono ?_); rintro e w1 ⟨rfl, hb1⟩)
  have hbw : Below w.heap.size w w1 := below_call hb1 (by go_grown)
  go_ret
  exact ⟨rfl, hbw⟩

set_option maxHeartbeats 400000 in
theorem holds_17 (n x y : Nat) (w : World) (hn : n ≤ 128) (hx : x < 2 ^ n) (hy : y < 2 ^ n) :
    Calls Tryz.prog 123 #[.int .i64 17, vv n x, vv n y] w (RV w (.bool (sltN n x y))) := by
  have hC := fun w => lessSigned_v n x y w hn hx hy
  generalize sltN n x y = b at *
  replace hC := Lib.hid hC
  go_enter Tryz.func123, Tryz.ntmps123
  go_wp2_with (go_at_call 139; (with_reducible refine (hC.out _).mono ?_); rintro e w1 ⟨rfl, hb1⟩)
  have hbw : Below w.heap.size w w1 := below_call hb1 (by go_grown)
  go_ret
  exact ⟨rfl, hbw⟩

set_option maxHeartbeats 400000 in
theorem holds_18 (n x y : Nat) (w : World) (hn : n ≤ 128) (hx : x < 2 ^ n) (hy : y < 2 ^ n) :
    Calls Tryz.prog 123 #[.int .i64 18, vv n x, vv n y] w (RV w (.bool (!(sltN n y x)))) := by
  have hC := fun w => lessSigned_v n y x w hn hy hx
  generalize (sltN n y x) = b at *
  replace hC := Lib.hid hC
  go_enter Tryz.func123, Tryz.ntmps123
  go_wp2_with (go_at_call 139; (with_reducible refine (hC.out _).mono ?_); rintro e w1 ⟨rfl, hb1⟩)
  have hbw : Below w.heap.size w w1 := below_call hb1 (by go_grown)
  go_ret
  exact ⟨rfl, hbw⟩

set_option maxHeartbeats 1000000 in
theorem Bin_10 (n x y : Nat) (w : World) (h0 : 1 ≤ n) (hn : n ≤ 128) :
    Calls Tryz.prog 112 #[.int .i64 10, vv n x, vv n y] w (RV w (.tuple #[vv n (x * 2 ^ min y n % 2 ^ n), .int .i64 0])) := by
  have hM := Lib.hid (fun w => Num_v n y n w (by omega))
  have hC := fun w => shift_10 n x (min y n) w hn (by omega)
  replace hC := Lib.hid hC
  have A0 := Lib.hid (((HV.new w 106 n x).alloc (.cells (vcs n y) 106)).alloc (.cells zcs 106))
  have B0 := Lib.hid (((HV.new (w.alloc (.cells (vcs n x) 106)) 106 n y).alloc (.cells zcs 106)))
  have Z0 := Lib.hid (HV.zero ((w.alloc (.cells (vcs n x) 106)).alloc (.cells (vcs n y) 106)) 106)
  have s1 : (w.alloc (.cells (vcs n x) 106)).heap.size = w.heap.size + 1 := World.size_alloc _ _
  have s2 : ((w.alloc (.cells (vcs n x) 106)).alloc (.cells (vcs n y) 106)).heap.size = w.heap.size + 1 + 1 := by rw [World.size_alloc, s1]
  rw [s1] at B0
  rw [s2] at Z0
  clear s1 s2
  go_enter Tryz.func112, Tryz.ntmps112
  go_wp2
  go_region_held3 (fun w' => (w'.cell? ⟨w.heap.size, 0, none⟩ = some (.int .i64 (n : Int)) ∧ w'.cell? ⟨w.heap.size, 1, none⟩ = some (.int .u64 ((lo x : Nat) : Int)) ∧ w'.cell? ⟨w.heap.size, 2, none⟩ = some (.int .u64 ((hi x : Nat) : Int))) ∧ (w'.cell? ⟨w.heap.size + 1, 0, none⟩ = some (.int .i64 (n : Int)) ∧ w'.cell? ⟨w.heap.size + 1, 1, none⟩ = some (.int .u64 ((lo y : Nat) : Int)) ∧ w'.cell? ⟨w.heap.size + 1, 2, none⟩ = some (.int .u64 ((hi y : Nat) : Int))))
    (first | (with_reducible exact ⟨(A2.far3 (by omega)).keep3, (B2.far3 (by omega)).keep3⟩) | (with_reducible exact ⟨A2.keep3, B2.keep3⟩) | (with_reducible exact ⟨A1.keep3, B1.keep3⟩) | (with_reducible exact ⟨A0.out.drew.keep3, B0.out.drew.keep3⟩))
    (first
      | (go_at_call 75; (with_reducible refine (hM.out _).mono ?_); rintro e w1 ⟨rfl, hb1⟩; have A1 := A0.out.drew.over hb1; have B1 := B0.out.drew.over hb1; have Z1 := Z0.out.drew.over hb1; have hbw1 : Below w.heap.size w w1 := below_call hb1 (by go_grown); clear hb1)
      | (go_at_call 122; (with_reducible refine (hC.out _).mono ?_); rintro e w2 ⟨rfl, hb2⟩; have A2 := A1.over hb2; have B2 := B1.over hb2; have Z2 := Z1.over hb2; have hbw2 : Below w.heap.size w w2 := below_call hb2 hbw1; have z2 := Z2.all; clear hb2))
  go_wp2
  refine bodyPost_ret (v := .tuple #[vv n (x * 2 ^ min y n % 2 ^ n), .int .i64 0]) (by simp [results, Tryz.results112, go_sem, z2]) rfl ⟨rfl, ?_⟩
  go_grown

set_option maxHeartbeats 1000000 in
theorem Bin_11 (n x y : Nat) (w : World) (h0 : 1 ≤ n) (hn : n ≤ 128) (hx : x < 2 ^ n) :
    Calls Tryz.prog 112 #[.int .i64 11, vv n x, vv n y] w (RV w (.tuple #[vv n (x / 2 ^ min y n), .int .i64 0])) := by
  have hM := Lib.hid (fun w => Num_v n y n w (by omega))
  have hC := fun w => shift_11 n x (min y n) w hn hx (by omega)
  replace hC := Lib.hid hC
  have A0 := Lib.hid (((HV.new w 106 n x).alloc (.cells (vcs n y) 106)).alloc (.cells zcs 106))
  have B0 := Lib.hid (((HV.new (w.alloc (.cells (vcs n x) 106)) 106 n y).alloc (.cells zcs 106)))
  have Z0 := Lib.hid (HV.zero ((w.alloc (.cells (vcs n x) 106)).alloc (.cells (vcs n y) 106)) 106)
  have s1 : (w.alloc (.cells (vcs n x) 106)).heap.size = w.heap.size + 1 := World.size_alloc _ _
  have s2 : ((w.alloc (.cells (vcs n x) 106)).alloc (.cells (vcs n y) 106)).heap.size = w.heap.size + 1 + 1 := by rw [World.size_alloc, s1]
  rw [s1] at B0
  rw [s2] at Z0
  clear s1 s2
  go_enter Tryz.func112, Tryz.ntmps112
  go_wp2
  go_region_held3 (fun w' => (w'.cell? ⟨w.heap.size, 0, none⟩ = some (.int .i64 (n : Int)) ∧ w'.cell? ⟨w.heap.size, 1, none⟩ = some (.int .u64 ((lo x : Nat) : Int)) ∧ w'.cell? ⟨w.heap.size, 2, none⟩ = some (.int .u64 ((hi x : Nat) : Int))) ∧ (w'.cell? ⟨w.heap.size + 1, 0, none⟩ = some (.int .i64 (n : Int)) ∧ w'.cell? ⟨w.heap.size + 1, 1, none⟩ = some (.int .u64 ((lo y : Nat) : Int)) ∧ w'.cell? ⟨w.heap.size + 1, 2, none⟩ = some (.int .u64 ((hi y : Nat) : Int))))
    (first | (with_reducible exact ⟨(A2.far3 (by omega)).keep3, (B2.far3 (by omega)).keep3⟩) | (with_reducible exact ⟨A2.keep3, B2.keep3⟩) | (with_reducible exact ⟨A1.keep3, B1.keep3⟩) | (with_reducible exact ⟨A0.out.drew.keep3, B0.out.drew.keep3⟩))
    (first
      | (go_at_call 75; (with_reducible refine (hM.out _).mono ?_); rintro e w1 ⟨rfl, hb1⟩; have A1 := A0.out.drew.over hb1; have B1 := B0.out.drew.over hb1; have Z1 := Z0.out.drew.over hb1; have hbw1 : Below w.heap.size w w1 := below_call hb1 (by go_grown); clear hb1)
      | (go_at_call 122; (with_reducible refine (hC.out _).mono ?_); rintro e w2 ⟨rfl, hb2⟩; have A2 := A1.over hb2; have B2 := B1.over hb2; have Z2 := Z1.over hb2; have hbw2 : Below w.heap.size w w2 := below_call hb2 hbw1; have z2 := Z2.all; clear hb2))
  go_wp2
  refine bodyPost_ret (v := .tuple #[vv n (x / 2 ^ min y n), .int .i64 0]) (by simp [results, Tryz.results112, go_sem, z2]) rfl ⟨rfl, ?_⟩
  go_grown

set_option maxHeartbeats 1000000 in
theorem Bin_12 (n x y : Nat) (w : World) (h0 : 1 ≤ n) (hn : n ≤ 128) (hx : x < 2 ^ n) :
    Calls Tryz.prog 112 #[.int .i64 12, vv n x, vv n y] w (RV w (.tuple #[vv n (sarN n x (min y n)), .int .i64 0])) := by
  have hM := Lib.hid (fun w => Num_v n y n w (by omega))
  have hC := fun w => shift_12 n x (min y n) w hn hx (by omega)
  replace hC := Lib.hid hC
  have A0 := Lib.hid (((HV.new w 106 n x).alloc (.cells (vcs n y) 106)).alloc (.cells zcs 106))
  have B0 := Lib.hid (((HV.new (w.alloc (.cells (vcs n x) 106)) 106 n y).alloc (.cells zcs 106)))
  have Z0 := Lib.hid (HV.zero ((w.alloc (.cells (vcs n x) 106)).alloc (.cells (vcs n y) 106)) 106)
  have s1 : (w.alloc (.cells (vcs n x) 106)).heap.size = w.heap.size + 1 := World.size_alloc _ _
  have s2 : ((w.alloc (.cells (vcs n x) 106)).alloc (.cells (vcs n y) 106)).heap.size = w.heap.size + 1 + 1 := by rw [World.size_alloc, s1]
  rw [s1] at B0
  rw [s2] at Z0
  clear s1 s2
  go_enter Tryz.func112, Tryz.ntmps112
  go_wp2
  go_region_held3 (fun w' => (w'.cell? ⟨w.heap.size, 0, none⟩ = some (.int .i64 (n : Int)) ∧ w'.cell? ⟨w.heap.size, 1, none⟩ = some (.int .u64 ((lo x : Nat) : Int)) ∧ w'.cell? ⟨w.heap.size, 2, none⟩ = some (.int .u64 ((hi x : Nat) : Int))) ∧ (w'.cell? ⟨w.heap.size + 1, 0, none⟩ = some (.int .i64 (n : Int)) ∧ w'.cell? ⟨w.heap.size + 1, 1, none⟩ = some (.int .u64 ((lo y : Nat) : Int)) ∧ w'.cell? ⟨w.heap.size + 1, 2, none⟩ = some (.int .u64 ((hi y : Nat) : Int))))
    (first | (with_reducible exact ⟨(A2.far3 (by omega)).keep3, (B2.far3 (by omega)).keep3⟩) | (with_reducible exact ⟨A2.keep3, B2.keep3⟩) | (with_reducible exact ⟨A1.keep3, B1.keep3⟩) | (with_reducible exact ⟨A0.out.drew.keep3, B0.out.drew.keep3⟩))
    (first
      | (go_at_call 75; (with_reducible refine (hM.out _).mono ?_); rintro e w1 ⟨rfl, hb1⟩; have A1 := A0.out.drew.over hb1; have B1 := B0.out.drew.over hb1; have Z1 := Z0.out.drew.over hb1; have hbw1 : Below w.heap.size w w1 := below_call hb1 (by go_grown); clear hb1)
      | (go_at_call 122; (with_reducible refine (hC.out _).mono ?_); rintro e w2 ⟨rfl, hb2⟩; have A2 := A1.over hb2; have B2 := B1.over hb2; have Z2 := Z1.over hb2; have hbw2 : Below w.heap.size w w2 := below_call hb2 hbw1; have z2 := Z2.all; clear hb2))
  go_wp2
  refine bodyPost_ret (v := .tuple #[vv n (sarN n x (min y n)), .int .i64 0]) (by simp [results, Tryz.results112, go_sem, z2]) rfl ⟨rfl, ?_⟩
  go_grown

set_option maxHeartbeats 400000 in
theorem Bin_13 (n x y : Nat) (w : World) (h0 : 1 ≤ n) :
    Calls Tryz.prog 112 #[.int .i64 13, vv n x, vv n y] w (RV w (.tuple #[vv 1 (eqB n x n y).toNat, .int .i64 0])) := by
  have hC := fun w => holds_13 n x y w
  generalize (eqB n x n y) = b at *
  replace hC := Lib.hid hC
  have hT := Lib.hid (fun w => truth_v b w)
  go_enter Tryz.func112, Tryz.ntmps112
  go_wp2_with (first
    | (go_at_call 123; (with_reducible refine (hC.out _).mono ?_); rintro e w1 ⟨rfl, hb1⟩; obtain ⟨hc1, hf1⟩ := bcell hb1; have hz1 := less3 (size_le hb1 (w.heap.size + 3) (by go_size)))
    | (go_at_call 115; (with_reducible refine (hT.out _).mono ?_); rintro e w2 ⟨rfl, hb2⟩; obtain ⟨hc2, hf2⟩ := bcell hb2))
  have hbw1 : Below w.heap.size w w1 := below_call hb1 (by go_grown)
  have hbw : Below w.heap.size w w2 := below_call hb2 (by go_grown)
  refine bodyPost_ret (v := .tuple #[vv 1 b.toNat, .int .i64 0]) (by simp [results, Tryz.results112, go_sem, hc1, hc2, hz1]) rfl ⟨rfl, ?_⟩
  clear hb1 hc1 hf1 hb2 hc2 hf2
  go_grown

set_option maxHeartbeats 400000 in
theorem Bin_14 (n x y : Nat) (w : World) (h0 : 1 ≤ n) :
    Calls Tryz.prog 112 #[.int .i64 14, vv n x, vv n y] w (RV w (.tuple #[vv 1 (!(eqB n x n y)).toNat, .int .i64 0])) := by
  have hC := fun w => holds_14 n x y w
  generalize (!(eqB n x n y)) = b at *
  replace hC := Lib.hid hC
  have hT := Lib.hid (fun w => truth_v b w)
  go_enter Tryz.func112, Tryz.ntmps112
  go_wp2_with (first
    | (go_at_call 123; (with_reducible refine (hC.out _).mono ?_); rintro e w1 ⟨rfl, hb1⟩; obtain ⟨hc1, hf1⟩ := bcell hb1; have hz1 := less3 (size_le hb1 (w.heap.size + 3) (by go_size)))
    | (go_at_call 115; (with_reducible refine (hT.out _).mono ?_); rintro e w2 ⟨rfl, hb2⟩; obtain ⟨hc2, hf2⟩ := bcell hb2))
  have hbw1 : Below w.heap.size w w1 := below_call hb1 (by go_grown)
  have hbw : Below w.heap.size w w2 := below_call hb2 (by go_grown)
  refine bodyPost_ret (v := .tuple #[vv 1 b.toNat, .int .i64 0]) (by simp [results, Tryz.results112, go_sem, hc1, hc2, hz1]) rfl ⟨rfl, ?_⟩
  clear hb1 hc1 hf1 hb2 hc2 hf2
  go_grown

set_option maxHeartbeats 400000 in
theorem Bin_15 (n x y : Nat) (w : World) (h0 : 1 ≤ n) :
    Calls Tryz.prog 112 #[.int .i64 15, vv n x, vv n y] w (RV w (.tuple #[vv 1 (decide (x < y)).toNat, .int .i64 0])) := by
  have hC := fun w => holds_15 n x y w
  generalize (decide (x < y)) = b at *
  replace hC := Lib.hid hC
  have hT := Lib.hid (fun w => truth_v b w)
  go_enter Tryz.func112, Tryz.ntmps112
  go_wp2_with (first
    | (go_at_call 123; (with_reducible refine (hC.out _).mono ?_); rintro e w1 ⟨rfl, hb1⟩; obtain ⟨hc1, hf1⟩ := bcell hb1; have hz1 := less3 (size_le hb1 (w.heap.size + 3) (by go_size)))
    | (go_at_call 115; (with_reducible refine (hT.out _).mono ?_); rintro e w2 ⟨rfl, hb2⟩; obtain ⟨hc2, hf2⟩ := bcell hb2))
  have hbw1 : Below w.heap.size w w1 := below_call hb1 (by go_grown)
  have hbw : Below w.heap.size w w2 := below_call hb2 (by go_grown)
  refine bodyPost_ret (v := .tuple #[vv 1 b.toNat, .int .i64 0]) (by simp [results, Tryz.results112, go_sem, hc1, hc2, hz1]) rfl ⟨rfl, ?_⟩
  clear hb1 hc1 hf1 hb2 hc2 hf2
  go_grown

set_option maxHeartbeats 400000 in
theorem Bin_16 (n x y : Nat) (w : World) (h0 : 1 ≤ n) :
    Calls Tryz.prog 112 #[.int .i64 16, vv n x, vv n y] w (RV w (.tuple #[vv 1 (!decide (y < x)).toNat, .int .i64 0])) := by
  have hC := fun w => holds_16 n x y w
  generalize (!decide (y < x)) = b at *
  replace hC := Lib.hid hC
  have hT := Lib.hid (fun w => truth_v b w)
  go_enter Tryz.func112, Tryz.ntmps112
  go_wp2_with (first
    | (go_at_call 123; (with_reducible refine (hC.out _).mono ?_); rintro e w1 ⟨rfl, hb1⟩; obtain ⟨hc1, hf1⟩ := bcell hb1; have hz1 := less3 (size_le hb1 (w.heap.size + 3) (by go_size)))
    | (go_at_call 115; (with_reducible refine (hT.out _).mono ?_); rintro e w2 ⟨rfl, hb2⟩; obtain ⟨hc2, hf2⟩ := bcell hb2))
  have hbw1 : Below w.heap.size w w1 := below_call hb1 (by go_grown)
  have hbw : Below w.heap.size w w2 := below_call hb2 (by go_grown)
  refine bodyPost_ret (v := .tuple #[vv 1 b.toNat, .int .i64 0]) (by simp [results, Tryz.results112, go_sem, hc1, hc2, hz1]) rfl ⟨rfl, ?_⟩
  clear hb1 hc1 hf1 hb2 hc2 hf2
  go_grown

set_option maxHeartbeats 400000 in
theorem Bin_17 (n x y : Nat) (w : World) (h0 : 1 ≤ n) (hn : n ≤ 128) (hx : x < 2 ^ n) (hy : y < 2 ^ n) :
    Calls Tryz.prog 112 #[.int .i64 17, vv n x, vv n y] w (RV w (.tuple #[vv 1 (sltN n x y).toNat, .int .i64 0])) := by
  have hC := fun w => holds_17 n x y w hn hx hy
  generalize (sltN n x y) = b at *
  replace hC := Lib.hid hC
  have hT := Lib.hid (fun w => truth_v b w)
  go_enter Tryz.func112, Tryz.ntmps112
  go_wp2_with (first
    | (go_at_call 123; (with_reducible refine (hC.out _).mono ?_); rintro e w1 ⟨rfl, hb1⟩; obtain ⟨hc1, hf1⟩ := bcell hb1; have hz1 := less3 (size_le hb1 (w.heap.size + 3) (by go_size)))
    | (go_at_call 115; (with_reducible refine (hT.out _).mono ?_); rintro e w2 ⟨rfl, hb2⟩; obtain ⟨hc2, hf2⟩ := bcell hb2))
  have hbw1 : Below w.heap.size w w1 := below_call hb1 (by go_grown)
  have hbw : Below w.heap.size w w2 := below_call hb2 (by go_grown)
  refine bodyPost_ret (v := .tuple #[vv 1 b.toNat, .int .i64 0]) (by simp [results, Tryz.results112, go_sem, hc1, hc2, hz1]) rfl ⟨rfl, ?_⟩
  clear hb1 hc1 hf1 hb2 hc2 hf2
  go_grown

set_option maxHeartbeats 400000 in
theorem Bin_18 (n x y : Nat) (w : World) (h0 : 1 ≤ n) (hn : n ≤ 128) (hx : x < 2 ^ n) (hy : y < 2 ^ n) :
    Calls Tryz.prog 112 #[.int .i64 18, vv n x, vv n y] w (RV w (.tuple #[vv 1 (!(sltN n y x)).toNat, .int .i64 0])) := by
  have hC := fun w => holds_18 n x y w hn hx hy
  generalize (!(sltN n y x)) = b at *
  replace hC := Lib.hid hC
  have hT := Lib.hid (fun w => truth_v b w)
  go_enter Tryz.func112, Tryz.ntmps112
  go_wp2_with (first
    | (go_at_call 123; (with_reducible refine (hC.out _).mono ?_); rintro e w1 ⟨rfl, hb1⟩; obtain ⟨hc1, hf1⟩ := bcell hb1; have hz1 := less3 (size_le hb1 (w.heap.size + 3) (by go_size)))
    | (go_at_call 115; (with_reducible refine (hT.out _).mono ?_); rintro e w2 ⟨rfl, hb2⟩; obtain ⟨hc2, hf2⟩ := bcell hb2))
  have hbw1 : Below w.heap.size w w1 := below_call hb1 (by go_grown)
  have hbw : Below w.heap.size w w2 := below_call hb2 (by go_grown)
  refine bodyPost_ret (v := .tuple #[vv 1 b.toNat, .int .i64 0]) (by simp [results, Tryz.results112, go_sem, hc1, hc2, hz1]) rfl ⟨rfl, ?_⟩
  clear hb1 hc1 hf1 hb2 hc2 hf2
  go_grown

end Go.Proofs.YtdjaikglkgabdaaGreatDoor
