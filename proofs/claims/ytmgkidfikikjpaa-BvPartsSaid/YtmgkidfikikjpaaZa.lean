/-
  The walks of the reference's Not, Plus, Any and one.
-/
import Derived.Test.YtmgkidfikikjpaaYe
namespace Go.Proofs.Ytmgkidfikikjpaa
open Go.RowKit
/-- A new slice of n bits, those of h. -/
def GS (w : World) (n : Nat) (h : Nat → Bool) (e : Ending) (w' : World) : Prop := ∃ A c, e = .returned (.slice A n c) ∧ RB w' A n h ∧ Below w.heap.size w w'
theorem RB_row {w : World} {b n : Nat} {h : Nat → Bool} (R : w.rowIs b 4 n (fun j => .bool (h j))) : RB w (some ⟨b, 0, none⟩) n h := fun _ => ⟨b, 0, rfl, World.rowIs.lt R, fun j hj => by rw [Nat.zero_add, World.rowIs.cell R hj]⟩
def notC (f : Nat → Bool) (k j : Nat) : Value := .bool (decide (j < k) && !f j)
set_option maxRecDepth 100000 in
set_option maxHeartbeats 1000000 in
theorem refNot_ok (n c : Nat) (A : Option Addr) (f : Nat → Bool) (w : World) (hn : n ≤ 140) (hA : RB w A n f) :
    Calls Try.prog 34 #[.slice A n c] w (GS w n (fun j => !f j)) := by
  have hmk := run_make_row' 22 4 (.bool false) 1 Try.underlying22 info_bool rfl .i64 .i64 n (by omega) (by omega)
  have R0 := Lib.hid (World.rowIs_made w (.bool false) n 4)
  replace hA := Lib.hid hA
  go_enter Try.func34, Try.ntmps34
  go_wp2
  go_loopw [4] (fun i wr => ∃ k : Nat, k ≤ n ∧ i = .int .i64 (k : Int) ∧ wr.rowIs w.heap.size 4 n (notC f k) ∧ Below w.heap.size w wr) (fun i _ => n - (intOf i).toNat)
  case atStart => exact ⟨0, Nat.zero_le _, rfl, World.rowIs.congr R0.out fun j hj => by unfold notC; simp, by go_grown⟩
  case round =>
    obtain ⟨k, hk, rfl, R, hbw⟩ := hrel
    clear R0 hmk
    by_cases hlt : k < n
    · obtain ⟨b, off, rfl, hb, hc⟩ := (hA.out.keep hbw) (by omega)
      have hck := hc k hlt
      have hcr : wr.cell? ⟨w.heap.size, k, none⟩ = some (.bool false) := by rw [World.rowIs.cell R hlt]; unfold notC; simp
      have hf := World.rowIs.frozen R
      clear hc
      obtain ⟨bk, hbk⟩ : ∃ bk, f k = bk := ⟨_, rfl⟩
      rw [hbk] at hck
      replace hbk := Lib.hid hbk
      go_wp2
      go_roundw
      case rel =>
        refine ⟨k + 1, by omega, by go_num, World.rowIs.congr (World.rowIs.set R k _) fun j hj => ?_, hbw.setCell (by simp) _⟩
        by_cases hj1 : j = k
        · subst hj1; rw [if_pos rfl]; unfold notC; simp [hbk.out]
        · rw [if_neg hj1]; unfold notC
          congr 2
          rw [Bool.eq_iff_iff]; simp; omega
      case measure => simp [intOf]; omega
    · obtain rfl : k = n := by omega
      have R2 := RB_row (h := fun j => !f j) (World.rowIs.congr R fun j hj => by unfold notC; simp [hj])
      replace R2 := Lib.hid R2
      clear R
      go_wp2
      go_ret
      exact ⟨_, _, rfl, R2.out, hbw⟩
/-- The carry into bit k, and the bit k of the sum. -/
def cyB (f g : Nat → Bool) (c : Bool) : Nat → Bool
  | 0 => c
  | k + 1 => (f k && g k || f k && cyB f g c k) || g k && cyB f g c k
def smB (f g : Nat → Bool) (c : Bool) (k : Nat) : Bool := (f k != g k) != cyB f g c k
def plusC (f g : Nat → Bool) (c : Bool) (k j : Nat) : Value := .bool (decide (j < k) && smB f g c j)
theorem plus_sum (f g : Nat → Bool) (c : Bool) : ∀ k, valB f k + valB g k + c.toNat = valB (smB f g c) k + 2 ^ k * (cyB f g c k).toNat
  | 0 => by simp [valB, cyB]
  | k + 1 => by
    have h := plus_sum f g c k
    simp only [valB]
    rw [Nat.pow_succ]
    have hs : smB f g c k = ((f k != g k) != cyB f g c k) := rfl
    have hc : cyB f g c (k + 1) = ((f k && g k || f k && cyB f g c k) || g k && cyB f g c k) := rfl
    rw [hs, hc]
    cases f k <;> cases g k <;> cases hcy : cyB f g c k <;> rw [hcy] at h <;> simp at h ⊢ <;> omega
theorem plus_val (f g : Nat → Bool) (c : Bool) (n : Nat) : valB (smB f g c) n = (valB f n + valB g n + c.toNat) % 2 ^ n := by
  rw [plus_sum, Nat.add_mul_mod_self_left, Nat.mod_eq_of_lt (valB_lt _ n)]
set_option maxRecDepth 100000 in
set_option maxHeartbeats 2000000 in
theorem refPlus_ok (n c1 m c2 : Nat) (A B : Option Addr) (f g : Nat → Bool) (c : Bool) (w : World) (hn : n ≤ 140) (hm : n ≤ m) (hA : RB w A n f) (hB : RB w B n g) :
    Calls Try.prog 33 #[.slice A n c1, .slice B m c2, .bool c] w (GS w n (smB f g c)) := by
  have hmk := run_make_row' 22 4 (.bool false) 1 Try.underlying22 info_bool rfl .i64 .i64 n (by omega) (by omega)
  have R0 := Lib.hid (World.rowIs_made w (.bool false) n 4)
  replace hA := Lib.hid hA
  replace hB := Lib.hid hB
  go_enter Try.func33, Try.ntmps33
  go_wp2
  go_loopw [2, 8] (fun cv i wr => ∃ k : Nat, k ≤ n ∧ i = .int .i64 (k : Int) ∧ cv = .bool (cyB f g c k) ∧ wr.rowIs w.heap.size 4 n (plusC f g c k) ∧ Below w.heap.size w wr) (fun _ i _ => n - (intOf i).toNat)
  case atStart => exact ⟨0, Nat.zero_le _, rfl, rfl, World.rowIs.congr R0.out fun j hj => by unfold plusC; simp, by go_grown⟩
  case round =>
    obtain ⟨k, hk, rfl, rfl, R, hbw⟩ := hrel
    clear R0 hmk
    by_cases hlt : k < n
    · obtain ⟨b, off, rfl, hb, hc⟩ := (hA.out.keep hbw) (by omega)
      obtain ⟨b2, off2, rfl, hb2, hc2⟩ := (hB.out.keep hbw) (by omega)
      have hck := hc k hlt
      have hck2 := hc2 k hlt
      have hkm : (k : Int) < (m : Int) := by omega
      have hcr : wr.cell? ⟨w.heap.size, k, none⟩ = some (.bool false) := by rw [World.rowIs.cell R hlt]; unfold plusC; simp
      have hf := World.rowIs.frozen R
      clear hc hc2
      obtain ⟨bx, hbx⟩ : ∃ bk, f k = bk := ⟨_, rfl⟩
      obtain ⟨bz, hbz⟩ : ∃ bk, g k = bk := ⟨_, rfl⟩
      obtain ⟨bc, hbc⟩ : ∃ bk, cyB f g c k = bk := ⟨_, rfl⟩
      rw [hbx] at hck
      rw [hbz] at hck2
      rw [hbc]
      have hs : smB f g c k = ((bx != bz) != bc) := by unfold smB; rw [hbx, hbz, hbc]
      have hn1 : cyB f g c (k + 1) = ((bx && bz || bx && bc) || bz && bc) := by rw [← hbx, ← hbz, ← hbc]; rfl
      clear hbx hbz hbc
      replace hs := Lib.hid hs
      replace hn1 := Lib.hid hn1
      cases bx <;> cases bz <;> cases bc
      all_goals
        go_wp2
        go_roundw
        case rel =>
          refine ⟨k + 1, by omega, by go_num, by rw [hn1.out]; rfl, World.rowIs.congr (World.rowIs.set R k _) fun j hj => ?_, hbw.setCell (by simp) _⟩
          by_cases hj1 : j = k
          · subst hj1; rw [if_pos rfl]; unfold plusC; rw [hs.out]; simp
          · rw [if_neg hj1]; unfold plusC
            congr 2
            rw [Bool.eq_iff_iff]; simp; omega
        case measure => simp [intOf]; omega
    · obtain rfl : k = n := by omega
      have R2 := RB_row (h := smB f g c) (World.rowIs.congr R fun j hj => by unfold plusC; simp [hj])
      replace R2 := Lib.hid R2
      clear R
      go_wp2
      go_ret
      exact ⟨_, _, rfl, R2.out, hbw⟩
set_option maxRecDepth 100000 in
set_option maxHeartbeats 1000000 in
theorem refAny_ok (n c : Nat) (A : Option Addr) (f : Nat → Bool) (w : World) (hn : n ≤ 140) (hA : RB w A n f) :
    Calls Try.prog 69 #[.slice A n c] w fun e w' => e = .returned (.bool (!(valB f n == 0))) ∧ w' = w := by
  have hbit := Lib.hid (fun k (h : k < n) => (show (valB f n).testBit k = f k by rw [valB_testBit]; simp [h]))
  replace hA := Lib.hid hA
  go_enter Try.func69, Try.ntmps69
  go_wp2
  go_loop [3] (fun i => ∃ k : Nat, k ≤ n ∧ i = .int .i64 (k : Int) ∧ valB f k = 0) (fun i => n - (intOf i).toNat)
  case atStart => exact ⟨0, Nat.zero_le _, rfl, rfl⟩
  case round =>
    obtain ⟨k, hk, rfl, h0⟩ := hrel
    by_cases hlt : k < n
    · obtain ⟨b, off, rfl, hb, hc⟩ := hA.out (by omega)
      have hck := hc k hlt
      have hbk := hbit.out k hlt
      clear hc
      cases hfk : f k with
      | true =>
        rw [hfk] at hck hbk
        have hne := Lib.hid (show (!(valB f n == 0)) = true by
          cases h : valB f n == 0
          · rfl
          · rw [beq_iff_eq] at h; rw [h] at hbk; simp at hbk)
        clear hfk hbk h0
        go_wp2
        go_ret
        exact ⟨by rw [hne.out]; rfl, rfl⟩
      | false =>
        rw [hfk] at hck
        have h1 := Lib.hid (show valB f (k + 1) = 0 by rw [valB_no f k hfk]; exact h0)
        clear hfk hbk h0
        go_wp2
        go_round
        case rel => exact ⟨k + 1, by omega, by go_num, h1.out⟩
        case measure => simp [intOf]; omega
    · obtain rfl : k = n := by omega
      have hne := Lib.hid (show (!(valB f k == 0)) = false by rw [h0]; rfl)
      clear h0
      go_wp2
      go_ret
      exact ⟨by rw [hne.out]; rfl, rfl⟩
set_option maxHeartbeats 400000 in
theorem refOne_ok (b : Bool) (w : World) : Calls Try.prog 40 #[.bool b] w (GS w 1 (fun _ => b)) := by
  have hg : Below w.heap.size w (w.alloc (.cells #[.bool b] 4)) := by go_grown
  have hr : RB (w.alloc (.cells #[.bool b] 4)) (some ⟨w.heap.size, 0, none⟩) 1 (fun _ => b) := fun _ => ⟨w.heap.size, 0, rfl, by rw [World.size_alloc]; omega, fun j hj => by
    obtain rfl : j = 0 := by omega
    rw [cell_of_row _ _ _ _ _ _ (heap_alloc_new w _)]; rfl⟩
  replace hr := Lib.hid hr
  go_enter Try.func40, Try.ntmps40
  go_wp2
  go_ret
  exact ⟨_, _, rfl, hr.out, hg⟩
end Go.Proofs.Ytmgkidfikikjpaa
