/-
  The walks of bv's Width, Bits and Words, and of the reference's Text and Words.
  The walks of bv's Words and of the reference's Words: a number's bits in words of 64.
  The walk of the statements' own Is: a vector and a list of the same bits.
-/
import Derived.Test.YtalmhopbnaeamaaGreatDoorYa
import Derived.Test.YtalmhopbnaeamaaGreatDoorWy
import Derived.Laws.CopyOwn
import Derived.Deep.RegionHeld3
import Derived.Deep.DrawnRows
namespace Go.Proofs.YtalmhopbnaeamaaGreatDoor
open Go.RowKit
set_option maxHeartbeats 400000 in
theorem Width_v (n x : Nat) (w : World) : Calls Tryz.prog 19 #[vv n x] w (RV w (.int .i64 (n : Int))) := by
  go_enter Tryz.func19, Tryz.ntmps19
  go_wp2
  go_ret
  exact ⟨rfl, by go_grown⟩
/-- A new slice of the bits of a number. -/
def BS (w : World) (n x : Nat) (e : Ending) (w' : World) : Prop := ∃ g : Nat, e = .returned (.slice (some ⟨g, 0, none⟩) n n) ∧ w'.rowIs g 4 n (fun j => .bool (x.testBit j)) ∧ Below w.heap.size w w'
def bitC (x k j : Nat) : Value := .bool (decide (j < k) && x.testBit j)
set_option maxRecDepth 100000 in
set_option maxHeartbeats 1000000 in
theorem Bits_v (n x : Nat) (w : World) (hn : n ≤ 128) (hx : x < 2 ^ n) : Calls Tryz.prog 33 #[vv n x] w (BS w n x) := by
  have hB := Lib.hid (fun (i : Int) w => Bit_v n x i w hn hx)
  have hmk := run_make_row' 32 4 (.bool false) 1 Tryz.underlying32 info_bool rfl .i64 .i64 n (by omega) (by omega)
  have V0 := Lib.hid ((HV.new w 26 n x).alloc (.cells (madeCells #[.bool false] n) 4))
  have R0 := World.rowIs_made (w.alloc (.cells (vcs n x) 26)) (.bool false) n 4
  rw [World.size_alloc] at R0
  replace R0 := Lib.hid R0
  clear hx
  go_enter Tryz.func33, Tryz.ntmps33
  go_wp2
  go_loopw [10] (fun i wr => ∃ k : Nat, k ≤ n ∧ i = .int .i64 (k : Int) ∧ HV 26 wr w.heap.size n x ∧ wr.rowIs (w.heap.size + 1) 4 n (bitC x k) ∧ Below w.heap.size w wr) (fun i _ => n - (intOf i).toNat)
  case atStart => exact ⟨0, Nat.zero_le _, rfl, V0.out, World.rowIs.congr R0.out fun j hj => by unfold bitC; simp, by go_grown⟩
  case round =>
    obtain ⟨k, hk, rfl, V, R, hbw⟩ := hrel
    clear V0 R0 hmk
    have v := V.all
    by_cases hlt : k < n
    · have hc : wr.cell? ⟨w.heap.size + 1, k, none⟩ = some (.bool false) := by rw [World.rowIs.cell R hlt]; unfold bitC; simp
      have hf := World.rowIs.frozen R
      have hb := fun w => hB.out (k : Int) w
      have hbk : bitI n x (k : Int) = x.testBit k := by unfold bitI; simp; omega
      rw [hbk] at hb
      replace hb := Lib.hid hb
      clear hbk
      go_wp2_with (go_at_call 34; (with_reducible refine (hb.out _).mono ?_); rintro e w1 ⟨rfl, hb1⟩; have V1 := V.over hb1; have R1 := World.rowIs.of_block R (hb1.block _ (World.rowIs.lt R)); have hbw1 : Below w.heap.size w w1 := below_call hb1 hbw; have hc1 := World.rowIs.cell R1 (i := k) hlt; have hf1 := World.rowIs.frozen R1; clear hb1 v hc hf V R hbw)
      go_roundw
      case rel =>
        clear hf1 hc1
        refine ⟨k + 1, by omega, by go_num, V1.far (p := ⟨w.heap.size + 1, k, none⟩) (by simp) _, World.rowIs.congr (World.rowIs.set R1 k _) fun j hj => ?_, hbw1.setCell (by simp) _⟩
        by_cases hj1 : j = k
        · subst hj1
          rw [if_pos rfl]; unfold bitC; simp
        · rw [if_neg hj1]; unfold bitC
          congr 2
          rw [Bool.eq_iff_iff]; simp; omega
      case measure => simp [intOf]; omega
    · obtain rfl : k = n := by omega
      go_wp2
      go_ret
      exact ⟨w.heap.size + 1, rfl, World.rowIs.congr R fun j hj => by unfold bitC; simp [hj], hbw⟩
end Go.Proofs.YtalmhopbnaeamaaGreatDoor
namespace Go.Proofs.YtalmhopbnaeamaaGreatDoor
open Go.RowKit
/-- As many words as n bits need. -/
def wN (n : Nat) : Nat := (n + 63) / 64
theorem wN_le {n : Nat} (h : n ≤ 128) : wN n ≤ 2 := by unfold wN; omega
def wcell (x : Nat) (j : Nat) : Value := .int .u64 ((wordN x j : Nat) : Int)
def wsrc (x m : Nat) : List Value := (List.range m).map (wcell x)
theorem wsrc_len (x m : Nat) : (wsrc x m).length = m := by simp [wsrc]
theorem wsrc_get (x m j : Nat) (h : j < m) : (wsrc x m)[j]? = some (wcell x j) := by simp [wsrc, h]
theorem info_word : (Tryz.prog.info? 23).map (fun i => (i.zero, i.size, i.bytes)) = some (some (.int .u64 0), 1, 8) := by kernel_rfl
/-- A new slice of the words of a number. -/
def WS (w : World) (n x : Nat) (e : Ending) (w' : World) : Prop := ∃ g : Nat, e = .returned (.slice (some ⟨g, 0, none⟩) (wN n) (wN n)) ∧ w'.rowIs g 23 (wN n) (wcell x) ∧ Below w.heap.size w w'
set_option maxRecDepth 100000 in
set_option maxHeartbeats 800000 in
theorem Words_v (n x : Nat) (w : World) (hn : n ≤ 128) : Calls Tryz.prog 38 #[vv n x] w (WS w n x) := by
  unfold WS
  obtain ⟨m, hm⟩ : ∃ m, wN n = m := ⟨_, rfl⟩
  have hm2 : m ≤ 2 := by rw [← hm]; exact wN_le hn
  rw [hm]
  have hmk := run_make_row' 65 23 (.int .u64 0) 8 Tryz.underlying65 info_word rfl .i64 .i64 m (by omega) (by omega)
  have hcs : (madeCells #[Value.int .u64 0] m) = (List.replicate m (Value.int .u64 0)).toArray := by
    apply Array.ext_getElem?
    intro i
    by_cases hi : i < m
    · simp [madeCells, hi, Nat.mod_one]
    · rw [Array.getElem?_eq_none (by rw [size_madeCells]; omega), Array.getElem?_eq_none (by simp; omega)]
  rw [hcs] at hmk
  have e1 : ((n : Int) + 64 - 1) / 64 = (m : Int) := by rw [← hm]; unfold wN; omega
  have e2 : ((n : Int) + 63) / 64 = (m : Int) := by rw [← hm]; unfold wN; omega
  clear hm hcs
  go_enter Tryz.func38, Tryz.ntmps38
  go_wp2_with (with_reducible refine wpList_copy_splice rfl (.tmp 10) (.tmp 12) 65 65 rfl 23 Tryz.underlying65 info_u64 (some ⟨w.heap.size + 1, 0, none⟩) (some ⟨w.heap.size, 1, none⟩) m m 2 2 rfl rfl (w.heap.size + 1) 0 (List.replicate m (Value.int .u64 0)) 23 ?g1 (wsrc x m) ?g2 ?g3 ?g4 ?g5 (w.heap.size + 1) _ (Below.refl _ _) (Nat.le_refl _) ?g6)
  case g1 => exact heap_alloc2_new _ _ _
  case g2 => rw [wsrc_len]; exact (Nat.min_eq_right hm2).symm
  case g3 =>
    intro hl
    rw [wsrc_len] at hl
    intro j v hj
    have hjm : j < m := by
      rcases Nat.lt_or_ge j m with h' | h'
      · exact h'
      · rw [List.getElem?_eq_none (by rw [wsrc_len]; exact h')] at hj; cases hj
    rw [wsrc_get x m j hjm] at hj
    rw [← hj]
    have h2 : j = 0 ∨ j = 1 := by omega
    rcases h2 with rfl | rfl <;> rfl
  case g4 => rw [wsrc_len]; simp
  case g5 =>
    intro v hv
    simp only [wsrc, List.mem_map] at hv
    obtain ⟨j, _, rfl⟩ := hv
    rfl
  case g6 =>
    intro w2 hg hb2
    have hbw : Below w.heap.size w w2 := Below.trans (b := (w.alloc (.cells (vcs n x) 26)).alloc (.cells (List.replicate m (Value.int .u64 0)).toArray 23)) (by go_grown) (hb2.mono (by omega))
    have hR : w2.rowIs (w.heap.size + 1) 23 m (wcell x) := ⟨_, hg.out, by simp [splice, wsrc_len], fun i hi => by
      unfold splice
      simp only [List.take_zero, List.nil_append, Nat.zero_add, wsrc_len]
      rw [List.drop_eq_nil_of_le (by simp), List.append_nil]
      simpa using wsrc_get x m i hi⟩
    replace hR := Lib.hid hR
    clear hb2 hg
    go_wp2
    go_ret
    exact ⟨w.heap.size + 1, rfl, hR.out, hbw⟩
end Go.Proofs.YtalmhopbnaeamaaGreatDoor
namespace Go.Proofs.YtalmhopbnaeamaaGreatDoor
open Go.RowKit
attribute [local go_sem ↓] Go.wp_at_zero Go.wp_at_succ
theorem bit_row (f : Nat → Bool) (n k : Nat) (h : k < n) : (valB f n).testBit k = f k := by rw [valB_testBit]; simp [h]
theorem bitI_row (f : Nat → Bool) (n k : Nat) (h : k < n) : bitI n (valB f n) (k : Int) = f k := by unfold bitI; simp [h, bit_row]
theorem bitI_neg (n x : Nat) : bitI n x (-1) = false := by unfold bitI; simp
theorem bitI_out (n x : Nat) : bitI n x (n : Int) = false := by unfold bitI; simp
theorem keepI {w : World} {B n x b : Nat} {o : Nat} {v : Bool} (V : HV 26 w B n x) (hc : w.cell? ⟨b, o, none⟩ = some (.bool v)) : (w.cell? ⟨B, 0, none⟩ = some (.int .i64 (n : Int)) ∧ w.cell? ⟨B, 1, none⟩ = some (.int .u64 ((lo x : Nat) : Int)) ∧ w.cell? ⟨B, 2, none⟩ = some (.int .u64 ((hi x : Nat) : Int))) ∧ w.cell? ⟨b, o, none⟩ = some (.bool v) := ⟨V.keep3, hc⟩
theorem cellB {w w' : World} {a : Addr} {v : Value} (h : w.cell? a = some v) (hb : Below w.heap.size w w') : w'.cell? a = some v := (hb.cell (World.block_lt_of_cell? w a h)).trans h
end Go.Proofs.YtalmhopbnaeamaaGreatDoor
