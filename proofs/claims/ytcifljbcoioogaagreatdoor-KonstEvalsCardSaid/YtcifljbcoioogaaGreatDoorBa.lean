/-
  Plain facts for BvBins: a number as a list of bits; long division of the reference, a bit at a time; the operations bit by bit. Nothing here is a walk.
  The walk of the reference's split: long division, a bit at a time.
-/
import Derived.Test.YtcifljbcoioogaaGreatDoorZa
import Derived.Test.YtcifljbcoioogaaGreatDoorWa
namespace Go.Proofs.YtcifljbcoioogaaGreatDoor
open Go.RowKit
/-- The bits of a number. -/
def tb (x : Nat) (j : Nat) : Bool := x.testBit j
theorem RB.as {w : World} {A : Option Addr} {n : Nat} {f g : Nat → Bool} (h : RB w A n f) (e : ∀ j, j < n → f j = g j) : RB w A n g := fun h0 => by
  obtain ⟨b, off, e1, hl, hc⟩ := h h0
  exact ⟨b, off, e1, hl, fun j hj => by rw [hc j hj, e j hj]⟩
theorem valB_tb (x n : Nat) : valB (tb x) n = x % 2 ^ n := by
  refine Nat.eq_of_testBit_eq fun j => ?_
  rw [valB_testBit, Nat.testBit_mod_two_pow]; rfl
theorem valB_tbl (x n : Nat) (h : x < 2 ^ n) : valB (tb x) n = x := by rw [valB_tb, Nat.mod_eq_of_lt h]
theorem tb_val (f : Nat → Bool) (n j : Nat) (h : j < n) : f j = tb (valB f n) j := by unfold tb; rw [bit_row f n j h]
end Go.Proofs.YtcifljbcoioogaaGreatDoor
namespace Go.Proofs.YtcifljbcoioogaaGreatDoor
open Go.RowKit
set_option maxRecDepth 100000 in
set_option maxHeartbeats 2000000 in
theorem refPlus_at (n c1 m c2 : Nat) (A B : Option Addr) (f g : Nat → Bool) (c : Bool) (w : World) (hn : n ≤ 140) (hm : n ≤ m) (hA : RB w A n f) (hB : RB w B n g) :
    Calls Tryz.prog 49 #[.slice A n c1, .slice B m c2, .bool c] w fun e w' => e = .returned (.slice (some ⟨w.heap.size, 0, none⟩) n n) ∧ w'.rowIs w.heap.size 4 n (fun j => .bool (smB f g c j)) ∧ Below w.heap.size w w' := by
  have hmk := run_make_row' 69 4 (.bool false) 1 Tryz.underlying69 info_bool rfl .i64 .i64 n (by omega) (by omega)
  have R0 := Lib.hid (World.rowIs_made w (.bool false) n 4)
  replace hA := Lib.hid hA
  replace hB := Lib.hid hB
  go_enter Tryz.func49, Tryz.ntmps49
  go_wp2
  go_loopw [2, 8] (fun cv i wr => ∃ k : Nat, k ≤ n ∧ i = .int .i64 (k : Int) ∧ cv = .bool (cyB f g c k) ∧ wr.rowIs w.heap.size 4 n (plusC f g c k) ∧ Below w.heap.size w wr) (fun _ i _ => n - (intOf i).toNat)
  case atStart => exact ⟨0, Nat.zero_le _, rfl, rfl, World.rowIs.congr R0.out fun j hj => by unfold plusC; simp, by go_grown⟩
  case round =>
    obtain ⟨k, hk, rfl, rfl, R, hbw⟩ := hrel
    clear R0 hmk
    by_cases hlt : k < n
    · obtain ⟨b, off, rfl, hb, hc⟩ := (hA.out.keep hbw) (by omega)
      obtain ⟨b2, off2, rfl, hb2, hc2⟩ := (hB.out.keep hbw) (by omega)
      have hck := hc k hlt
      have hck2 := hc2 k hlt
      have hkm : (k : Int) < (m : Int) := by omega
      have hcr : wr.cell? ⟨w.heap.size, k, none⟩ = some (.bool false) := by rw [World.rowIs.cell R hlt]; unfold plusC; simp
      have hf := World.rowIs.frozen R
      clear hc hc2
      obtain ⟨bx, hbx⟩ : ∃ bk, f k = bk := ⟨_, rfl⟩
      obtain ⟨bz, hbz⟩ : ∃ bk, g k = bk := ⟨_, rfl⟩
      obtain ⟨bc, hbc⟩ : ∃ bk, cyB f g c k = bk := ⟨_, rfl⟩
      rw [hbx] at hck
      rw [hbz] at hck2
      rw [hbc]
      have hs : smB f g c k = ((bx != bz) != bc) := by unfold smB; rw [hbx, hbz, hbc]
      have hn1 : cyB f g c (k + 1) = ((bx && bz || bx && bc) || bz && bc) := by rw [← hbx, ← hbz, ← hbc]; rfl
      clear hbx hbz hbc
      replace hs := Lib.hid hs
      replace hn1 := Lib.hid hn1
      cases bx <;> cases bz <;> cases bc
      all_goals
        go_wp2
        go_roundw
        case rel =>
          refine ⟨k + 1, by omega, by go_num, by rw [hn1.out]; rfl, World.rowIs.congr (World.rowIs.set R k _) fun j hj => ?_, hbw.setCell (by simp) _⟩
          by_cases hj1 : j = k
          · subst hj1; rw [if_pos rfl]; unfold plusC; rw [hs.out]; simp
          · rw [if_neg hj1]; unfold plusC
            congr 2
            rw [Bool.eq_iff_iff]; simp; omega
        case measure => simp [intOf]; omega
    · obtain rfl : k = n := by omega
      have R2 : wr.rowIs w.heap.size 4 k (fun j => .bool (smB f g c j)) := World.rowIs.congr R fun j hj => by unfold plusC; simp [hj]
      replace R2 := Lib.hid R2
      clear R
      go_wp2
      go_ret
      exact ⟨rfl, R2.out, hbw⟩
/-- n bits at the beginning of a block. -/
def RA (w : World) (g n x : Nat) : Prop := g < w.heap.size ∧ ∀ j, j < n → w.cell? ⟨g, j, none⟩ = some (.bool (tb x j))
theorem RA.rb {w : World} {g n x : Nat} (h : RA w g n x) : RB w (some ⟨g, 0, none⟩) n (tb x) := fun _ => ⟨g, 0, rfl, h.1, fun j hj => by rw [Nat.zero_add]; exact h.2 j hj⟩
theorem RA.over {w w' : World} {g n x : Nat} (h : RA w g n x) (hb : Below w.heap.size w w') : RA w' g n x := ⟨Nat.lt_of_lt_of_le h.1 hb.size, fun j hj => cellB (h.2 j hj) hb⟩
theorem RA.far {w : World} {g n x : Nat} (h : RA w g n x) {p : Addr} (hp : p.block ≠ g) (v : Value) : RA (w.setCell p v) g n x := ⟨by simp; exact h.1, fun j hj => by rw [World.cell?_setCell_far w p _ v hp]; exact h.2 j hj⟩
theorem RA_row {w : World} {b n x : Nat} {h : Nat → Bool} (R : w.rowIs b 4 n (fun j => .bool (h j))) (e : ∀ j, j < n → h j = tb x j) : RA w b n x := ⟨World.rowIs.lt R, fun j hj => by rw [World.rowIs.cell R hj, e j hj]⟩
/-- A new block of n bits, those of the number x. -/
def GA (w : World) (n x : Nat) (e : Ending) (w' : World) : Prop := e = .returned (.slice (some ⟨w.heap.size, 0, none⟩) n n) ∧ RA w' w.heap.size n x ∧ Below w.heap.size w w'
end Go.Proofs.YtcifljbcoioogaaGreatDoor
