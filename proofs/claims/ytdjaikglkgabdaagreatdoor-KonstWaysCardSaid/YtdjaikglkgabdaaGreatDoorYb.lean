/-
  The walks of bv's Width, Bits and Words, and of the reference's Text and Words.
  The walks of bv's Words and of the reference's Words: a number's bits in words of 64.
  The walk of the statements' own Is: a vector and a list of the same bits.
-/
import Derived.Test.YtdjaikglkgabdaaGreatDoorYa
import Derived.Test.YtdjaikglkgabdaaGreatDoorWy
import Derived.Laws.CopyOwn
import Derived.Deep.RegionHeld3
import Derived.Deep.DrawnRows
namespace Go.Proofs.YtdjaikglkgabdaaGreatDoor
open Go.RowKit
set_option maxHeartbeats 400000 in
theorem Width_v (n x : Nat) (w : World) : Calls Tryz.prog 72 #[vv n x] w (RV w (.int .i64 (n : Int))) := by
  go_enter Tryz.func72, Tryz.ntmps72
  go_wp2
  go_ret
  exact ⟨rfl, by go_grown⟩
/-- A new slice of the bits of a number. -/
def BS (w : World) (n x : Nat) (e : Ending) (w' : World) : Prop := ∃ g : Nat, e = .returned (.slice (some ⟨g, 0, none⟩) n n) ∧ w'.rowIs g 4 n (fun j => .bool (x.testBit j)) ∧ Below w.heap.size w w'
def bitC (x k j : Nat) : Value := .bool (decide (j < k) && x.testBit j)
end Go.Proofs.YtdjaikglkgabdaaGreatDoor
namespace Go.Proofs.YtdjaikglkgabdaaGreatDoor
open Go.RowKit
/-- As many words as n bits need. -/
def wN (n : Nat) : Nat := (n + 63) / 64
theorem wN_le {n : Nat} (h : n ≤ 128) : wN n ≤ 2 := by unfold wN; omega
def wcell (x : Nat) (j : Nat) : Value := .int .u64 ((wordN x j : Nat) : Int)
def wsrc (x m : Nat) : List Value := (List.range m).map (wcell x)
theorem wsrc_len (x m : Nat) : (wsrc x m).length = m := by simp [wsrc]
theorem wsrc_get (x m j : Nat) (h : j < m) : (wsrc x m)[j]? = some (wcell x j) := by simp [wsrc, h]
theorem info_word : (Tryz.prog.info? 93).map (fun i => (i.zero, i.size, i.bytes)) = some (some (.int .u64 0), 1, 8) := by kernel_rfl
/-- A new slice of the words of a number. -/
def WS (w : World) (n x : Nat) (e : Ending) (w' : World) : Prop := ∃ g : Nat, e = .returned (.slice (some ⟨g, 0, none⟩) (wN n) (wN n)) ∧ w'.rowIs g 93 (wN n) (wcell x) ∧ Below w.heap.size w w'
end Go.Proofs.YtdjaikglkgabdaaGreatDoor
namespace Go.Proofs.YtdjaikglkgabdaaGreatDoor
open Go.RowKit
attribute [local go_sem ↓] Go.wp_at_zero Go.wp_at_succ
theorem bit_row (f : Nat → Bool) (n k : Nat) (h : k < n) : (valB f n).testBit k = f k := by rw [valB_testBit]; simp [h]
theorem bitI_row (f : Nat → Bool) (n k : Nat) (h : k < n) : bitI n (valB f n) (k : Int) = f k := by unfold bitI; simp [h, bit_row]
theorem bitI_neg (n x : Nat) : bitI n x (-1) = false := by unfold bitI; simp
theorem bitI_out (n x : Nat) : bitI n x (n : Int) = false := by unfold bitI; simp
theorem keepI {w : World} {B n x b : Nat} {o : Nat} {v : Bool} (V : HV 106 w B n x) (hc : w.cell? ⟨b, o, none⟩ = some (.bool v)) : (w.cell? ⟨B, 0, none⟩ = some (.int .i64 (n : Int)) ∧ w.cell? ⟨B, 1, none⟩ = some (.int .u64 ((lo x : Nat) : Int)) ∧ w.cell? ⟨B, 2, none⟩ = some (.int .u64 ((hi x : Nat) : Int))) ∧ w.cell? ⟨b, o, none⟩ = some (.bool v) := ⟨V.keep3, hc⟩
theorem cellB {w w' : World} {a : Addr} {v : Value} (h : w.cell? a = some v) (hb : Below w.heap.size w w') : w'.cell? a = some v := (hb.cell (World.block_lt_of_cell? w a h)).trans h
end Go.Proofs.YtdjaikglkgabdaaGreatDoor
