/-
  make of slices of known length, as equations; newAssignment, newOrder, newNotes for two variables.
-/
import Derived.Test.YtpkmpbnedoldlaaGreatS3
import Derived.Laws.MakeOwn
import Derived.OwnWalk
namespace Go.Proofs.YtpkmpbnedoldlaaGreat
open Go.RowKit Go.Lib
theorem mk_b2 (W : World) : (Instr.makeSlice 29 (.int .i64 2) (.int .i64 2)).run Tryz.prog W = .ok (.slice (some ⟨W.heap.size, 0, none⟩) 2 2) (W.alloc (.cells #[.bool false, .bool false] 4)) := by
  obtain ⟨i0, hi, hz0, hz1, hz2⟩ := info_parts (show (Tryz.prog.info? 4).map (fun i => (i.zero, i.size, i.bytes)) = some (some (.bool false), 1, 1) by kernel_rfl)
  have h := run_make (P := Tryz.prog) W 29 4 i0 (.bool false) Tryz.underlying29 hi hz0 .i64 .i64 2 2 (by decide) (by decide) (by rw [hz2]; decide) (by decide)
  rw [hz1, show Int.toNat 2 = 2 from rfl, show madeCells (Value.cells (.bool false)) (2 * 1) = #[.bool false, .bool false] by apply Array.toList_inj.1; first | rfl | decide | (simp [madeCells, Value.cells, List.range, List.range.loop])] at h
  exact h
theorem mk_i2 (W : World) : (Instr.makeSlice 35 (.int .i64 2) (.int .i64 2)).run Tryz.prog W = .ok (.slice (some ⟨W.heap.size, 0, none⟩) 2 2) (W.alloc (.cells #[.int .i64 0, .int .i64 0] 3)) := by
  obtain ⟨i0, hi, hz0, hz1, hz2⟩ := info_parts (show (Tryz.prog.info? 3).map (fun i => (i.zero, i.size, i.bytes)) = some (some (.int .i64 0), 1, 8) by kernel_rfl)
  have h := run_make (P := Tryz.prog) W 35 3 i0 (.int .i64 0) Tryz.underlying35 hi hz0 .i64 .i64 2 2 (by decide) (by decide) (by rw [hz2]; decide) (by decide)
  rw [hz1, show Int.toNat 2 = 2 from rfl, show madeCells (Value.cells (.int .i64 0)) (2 * 1) = #[.int .i64 0, .int .i64 0] by apply Array.toList_inj.1; first | rfl | decide | (simp [madeCells, Value.cells, List.range, List.range.loop])] at h
  exact h
theorem mk_i3 (W : World) : (Instr.makeSlice 35 (.int .i64 3) (.int .i64 3)).run Tryz.prog W = .ok (.slice (some ⟨W.heap.size, 0, none⟩) 3 3) (W.alloc (.cells #[.int .i64 0, .int .i64 0, .int .i64 0] 3)) := by
  obtain ⟨i0, hi, hz0, hz1, hz2⟩ := info_parts (show (Tryz.prog.info? 3).map (fun i => (i.zero, i.size, i.bytes)) = some (some (.int .i64 0), 1, 8) by kernel_rfl)
  have h := run_make (P := Tryz.prog) W 35 3 i0 (.int .i64 0) Tryz.underlying35 hi hz0 .i64 .i64 3 3 (by decide) (by decide) (by rw [hz2]; decide) (by decide)
  rw [hz1, show Int.toNat 3 = 3 from rfl, show madeCells (Value.cells (.int .i64 0)) (3 * 1) = #[.int .i64 0, .int .i64 0, .int .i64 0] by apply Array.toList_inj.1; first | rfl | decide | (simp [madeCells, Value.cells, List.range, List.range.loop])] at h
  exact h
theorem mk_v4 (W : World) : (Instr.makeSlice 49 (.int .i64 4) (.int .i64 4)).run Tryz.prog W = .ok (.slice (some ⟨W.heap.size, 0, none⟩) 4 4) (W.alloc (.cells #[.int .i8 0, .int .i8 0, .int .i8 0, .int .i8 0] 112)) := by
  obtain ⟨i0, hi, hz0, hz1, hz2⟩ := info_parts (show (Tryz.prog.info? 112).map (fun i => (i.zero, i.size, i.bytes)) = some (some (.int .i8 0), 1, 1) by kernel_rfl)
  have h := run_make (P := Tryz.prog) W 49 112 i0 (.int .i8 0) Tryz.underlying49 hi hz0 .i64 .i64 4 4 (by decide) (by decide) (by rw [hz2]; decide) (by decide)
  rw [hz1, show Int.toNat 4 = 4 from rfl, show madeCells (Value.cells (.int .i8 0)) (4 * 1) = #[.int .i8 0, .int .i8 0, .int .i8 0, .int .i8 0] by apply Array.toList_inj.1; first | rfl | decide | (simp [madeCells, Value.cells, List.range, List.range.loop])] at h
  exact h
theorem mk_r2 (W : World) : (Instr.makeSlice 50 (.int .i64 2) (.int .i64 2)).run Tryz.prog W = .ok (.slice (some ⟨W.heap.size, 0, none⟩) 2 2) (W.alloc (.cells #[.pointer none, .pointer none] 75)) := by
  obtain ⟨i0, hi, hz0, hz1, hz2⟩ := info_parts (show (Tryz.prog.info? 75).map (fun i => (i.zero, i.size, i.bytes)) = some (some (.pointer none), 1, 8) by kernel_rfl)
  have h := run_make (P := Tryz.prog) W 50 75 i0 (.pointer none) Tryz.underlying50 hi hz0 .i64 .i64 2 2 (by decide) (by decide) (by rw [hz2]; decide) (by decide)
  rw [hz1, show Int.toNat 2 = 2 from rfl, show madeCells (Value.cells (.pointer none)) (2 * 1) = #[.pointer none, .pointer none] by apply Array.toList_inj.1; first | rfl | decide | (simp [madeCells, Value.cells, List.range, List.range.loop])] at h
  exact h
theorem mk_w4 (W : World) : (Instr.makeSlice 53 (.int .i64 4) (.int .i64 4)).run Tryz.prog W = .ok (.slice (some ⟨W.heap.size, 0, none⟩) 4 4) (W.alloc (.cells #[.slice none 0 0, .slice none 0 0, .slice none 0 0, .slice none 0 0] 106)) := by
  obtain ⟨i0, hi, hz0, hz1, hz2⟩ := info_parts (show (Tryz.prog.info? 106).map (fun i => (i.zero, i.size, i.bytes)) = some (some (.slice none 0 0), 1, 24) by kernel_rfl)
  have h := run_make (P := Tryz.prog) W 53 106 i0 (.slice none 0 0) Tryz.underlying53 hi hz0 .i64 .i64 4 4 (by decide) (by decide) (by rw [hz2]; decide) (by decide)
  rw [hz1, show Int.toNat 4 = 4 from rfl, show madeCells (Value.cells (.slice none 0 0)) (4 * 1) = #[.slice none 0 0, .slice none 0 0, .slice none 0 0, .slice none 0 0] by apply Array.toList_inj.1; first | rfl | decide | (simp [madeCells, Value.cells, List.range, List.range.loop])] at h
  exact h
theorem mk_m2 (W : World) : (Instr.makeSlice 56 (.int .i64 2) (.int .i64 2)).run Tryz.prog W = .ok (.slice (some ⟨W.heap.size, 0, none⟩) 2 2) (W.alloc (.cells #[.int .u8 0, .int .u8 0] 119)) := by
  obtain ⟨i0, hi, hz0, hz1, hz2⟩ := info_parts (show (Tryz.prog.info? 119).map (fun i => (i.zero, i.size, i.bytes)) = some (some (.int .u8 0), 1, 1) by kernel_rfl)
  have h := run_make (P := Tryz.prog) W 56 119 i0 (.int .u8 0) Tryz.underlying56 hi hz0 .i64 .i64 2 2 (by decide) (by decide) (by rw [hz2]; decide) (by decide)
  rw [hz1, show Int.toNat 2 = 2 from rfl, show madeCells (Value.cells (.int .u8 0)) (2 * 1) = #[.int .u8 0, .int .u8 0] by apply Array.toList_inj.1; first | rfl | decide | (simp [madeCells, Value.cells, List.range, List.range.loop])] at h
  exact h
theorem mk_l1 (W : World) : (Instr.makeSlice 48 (.int .i64 1) (.int .i64 1)).run Tryz.prog W = .ok (.slice (some ⟨W.heap.size, 0, none⟩) 1 1) (W.alloc (.cells #[.int .i32 0] 81)) := by
  obtain ⟨i0, hi, hz0, hz1, hz2⟩ := info_parts (show (Tryz.prog.info? 81).map (fun i => (i.zero, i.size, i.bytes)) = some (some (.int .i32 0), 1, 4) by kernel_rfl)
  have h := run_make (P := Tryz.prog) W 48 81 i0 (.int .i32 0) Tryz.underlying48 hi hz0 .i64 .i64 1 1 (by decide) (by decide) (by rw [hz2]; decide) (by decide)
  rw [hz1, show Int.toNat 1 = 1 from rfl, show madeCells (Value.cells (.int .i32 0)) (1 * 1) = #[.int .i32 0] by apply Array.toList_inj.1; first | rfl | decide | (simp [madeCells, Value.cells, List.range, List.range.loop])] at h
  exact h
theorem mk_l2 (W : World) : (Instr.makeSlice 48 (.int .i64 2) (.int .i64 2)).run Tryz.prog W = .ok (.slice (some ⟨W.heap.size, 0, none⟩) 2 2) (W.alloc (.cells #[.int .i32 0, .int .i32 0] 81)) := by
  obtain ⟨i0, hi, hz0, hz1, hz2⟩ := info_parts (show (Tryz.prog.info? 81).map (fun i => (i.zero, i.size, i.bytes)) = some (some (.int .i32 0), 1, 4) by kernel_rfl)
  have h := run_make (P := Tryz.prog) W 48 81 i0 (.int .i32 0) Tryz.underlying48 hi hz0 .i64 .i64 2 2 (by decide) (by decide) (by rw [hz2]; decide) (by decide)
  rw [hz1, show Int.toNat 2 = 2 from rfl, show madeCells (Value.cells (.int .i32 0)) (2 * 1) = #[.int .i32 0, .int .i32 0] by apply Array.toList_inj.1; first | rfl | decide | (simp [madeCells, Value.cells, List.range, List.range.loop])] at h
  exact h
end Go.Proofs.YtpkmpbnedoldlaaGreat
