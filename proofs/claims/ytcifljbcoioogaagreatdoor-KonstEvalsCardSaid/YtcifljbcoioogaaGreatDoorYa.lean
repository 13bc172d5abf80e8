/-
  Plain facts on the bits of a list as a number: its digits, its words; nothing here is a walk.
  The walks of bv's Width, Bits and Words, and of the reference's Text and Words.
  The walks of bv's Words and of the reference's Words: a number's bits in words of 64.
  The walk of the statements' own Is: a vector and a list of the same bits.
  The walks of the reference's New, Of and Num, and of bv's Of where it refuses.
-/
import Derived.Test.YtcifljbcoioogaaGreatDoorWa
import Derived.Laws.CopyOwn
import Derived.Deep.RegionHeld3
import Derived.Deep.DrawnRows
import Derived.Deep.AppendLies
import Derived.Laws.OwnMore
namespace Go.Proofs.YtcifljbcoioogaaGreatDoor
open Go.RowKit
theorem valB_testBit (f : Nat → Bool) : ∀ n i, (valB f n).testBit i = (decide (i < n) && f i)
  | 0, i => by simp [valB]
  | n + 1, i => by
    have hl := valB_lt f n
    have ih := valB_testBit f n i
    have h1 := valB_lt f (n + 1)
    rcases Nat.lt_trichotomy i n with h | h | h
    · have e : (valB f (n + 1)).testBit i = (valB f n).testBit i := by
        rw [valB]
        cases f n
        · simp
        · rw [Bool.toNat_true, Nat.one_mul, Nat.add_comm, Nat.testBit_two_pow_add_gt h]
      rw [e, ih]; simp [h, Nat.lt_succ_of_lt h]
    · subst h
      have h0 : (valB f i).testBit i = false := Nat.testBit_lt_two_pow hl
      rw [valB]
      cases hf : f i
      · simp [h0]
      · rw [Bool.toNat_true, Nat.one_mul, Nat.add_comm, Nat.testBit_two_pow_add_eq, h0]; simp
    · have h2 : (valB f (n + 1)).testBit i = false := Nat.testBit_lt_two_pow (Nat.lt_of_lt_of_le h1 (Nat.pow_le_pow_right (by decide) h))
      rw [h2]; simp; omega
end Go.Proofs.YtcifljbcoioogaaGreatDoor
namespace Go.Proofs.YtcifljbcoioogaaGreatDoor
open Go.RowKit
set_option maxHeartbeats 400000 in
theorem Width_v (n x : Nat) (w : World) : Calls Tryz.prog 68 #[vv n x] w (RV w (.int .i64 (n : Int))) := by
  go_enter Tryz.func68, Tryz.ntmps68
  go_wp2
  go_ret
  exact ⟨rfl, by go_grown⟩
end Go.Proofs.YtcifljbcoioogaaGreatDoor
namespace Go.Proofs.YtcifljbcoioogaaGreatDoor
open Go.RowKit
end Go.Proofs.YtcifljbcoioogaaGreatDoor
namespace Go.Proofs.YtcifljbcoioogaaGreatDoor
open Go.RowKit
attribute [local go_sem ↓] Go.wp_at_zero Go.wp_at_succ
theorem bit_row (f : Nat → Bool) (n k : Nat) (h : k < n) : (valB f n).testBit k = f k := by rw [valB_testBit]; simp [h]
theorem cellB {w w' : World} {a : Addr} {v : Value} (h : w.cell? a = some v) (hb : Below w.heap.size w w') : w'.cell? a = some v := (hb.cell (World.block_lt_of_cell? w a h)).trans h
end Go.Proofs.YtcifljbcoioogaaGreatDoor
namespace Go.Proofs.YtcifljbcoioogaaGreatDoor
open Go.RowKit
/-- A slice of words that came in, its block written out. -/
def RW (w : World) (A : Option Addr) (m : Nat) (g : Nat → Nat) : Prop := 0 < m → ∃ b off : Nat, A = some ⟨b, off, none⟩ ∧ b < w.heap.size ∧ ∀ j, j < m → w.cell? ⟨b, off + j, none⟩ = some (.int .u64 ((g j : Nat) : Int))
theorem RW.keep {w w' : World} {A : Option Addr} {m : Nat} {g : Nat → Nat} (h : RW w A m g) (hb : Below w.heap.size w w') : RW w' A m g := fun hm => by
  obtain ⟨b, off, e, hl, hc⟩ := h hm
  exact ⟨b, off, e, Nat.lt_of_lt_of_le hl hb.size, fun j hj => (hb.cell (p := ⟨b, off + j, none⟩) hl).trans (hc j hj)⟩
/-- Bit i of words. -/
def wbit (g : Nat → Nat) (m i : Nat) : Bool := decide (i / 64 < m) && (g (i / 64)).testBit (i % 64)
theorem testBit_mod (x i : Nat) : (((x : Int) / 2 ^ i).tmod 2 == 1) = x.testBit i := by
  have e : ((x : Int) / 2 ^ i) = ((x / 2 ^ i : Nat) : Int) := by simp
  rw [e, Int.tmod_eq_emod_of_nonneg (Int.natCast_nonneg _), Nat.testBit_eq_decide_div_mod_eq, Bool.eq_iff_iff]
  simp; omega
/-- What the reference's New and Of return: a list of n bits, those of h, and the error. -/
def LB (w : World) (n : Nat) (h : Nat → Bool) (e0 : Int) (e : Ending) (w' : World) : Prop := ∃ A c, e = .returned (.tuple #[.slice A n c, .int .i64 e0]) ∧ RB w' A n h ∧ Below w.heap.size w w'
def cutC (h : Nat → Bool) (k j : Nat) : Value := .bool (decide (j < k) && h j)
set_option maxRecDepth 100000 in
set_option maxHeartbeats 1000000 in
theorem refNew_ok (n m c : Nat) (A : Option Addr) (g : Nat → Nat) (w : World) (h1 : 1 ≤ n) (hn : n ≤ 128) (hA : RW w A m g) (hg : ∀ j, j < m → g j < 2 ^ 64) (hm5 : m ≤ 5) :
    Calls Tryz.prog 36 #[.int .i64 (n : Int), .slice A m c] w (LB w n (wbit g m) 0) := by
  have hmk := run_make_row' 69 4 (.bool false) 1 Tryz.underlying69 info_bool rfl .i64 .i64 n (by omega) (by omega)
  have R0 := Lib.hid (World.rowIs_made w (.bool false) n 4)
  have n1 : ¬ (n : Int) < 1 := by omega
  have n2 : decide ((128 : Int) < (n : Int)) = false := by simp; omega
  replace hA := Lib.hid hA
  replace hg := Lib.hid hg
  go_enter Tryz.func36, Tryz.ntmps36
  go_wp2
  go_loopw [7] (fun i wr => ∃ k : Nat, k ≤ n ∧ i = .int .i64 (k : Int) ∧ wr.rowIs w.heap.size 4 n (cutC (wbit g m) k) ∧ Below w.heap.size w wr) (fun i _ => n - (intOf i).toNat)
  case atStart => exact ⟨0, Nat.zero_le _, rfl, World.rowIs.congr R0.out fun j hj => by unfold cutC; simp, by go_grown⟩
  case round =>
    obtain ⟨k, hk, rfl, R, hbw⟩ := hrel
    clear R0 hmk n1 n2
    by_cases hlt : k < n
    · by_cases hm : k / 64 < m
      · obtain ⟨b, off, rfl, hb, hc⟩ := (hA.out.keep hbw) (by omega)
        have hck := hc (k / 64) hm
        have hgk := hg.out (k / 64) hm
        have hcr : wr.cell? ⟨w.heap.size, k, none⟩ = some (.bool false) := by rw [World.rowIs.cell R hlt]; unfold cutC; simp
        have hf := World.rowIs.frozen R
        have hw : wbit g m k = (g (k / 64)).testBit (k % 64) := by unfold wbit; simp [hm]
        obtain ⟨q, hq⟩ : ∃ q, k / 64 = q := ⟨_, rfl⟩
        obtain ⟨r, hr⟩ : ∃ r, k % 64 = r := ⟨_, rfl⟩
        rw [hq] at hck hgk hm hw
        rw [hr] at hw
        generalize g q = gq at hck hgk hw
        have d1 : ((k : Int) / 64) = (q : Int) := by omega
        have d2 : ((k : Int) % 64) = (r : Int) := by omega
        have d3 : (q : Int) < (m : Int) := by omega
        have d4 : r < 64 := by omega
        have d5 : decide ((q : Int) < (m : Int)) = true := by simp; omega
        have tb := testBit_mod gq r
        rw [← hw] at tb
        replace hw := Lib.hid hw
        clear hc hq hr
        go_wp2
        go_roundw
        case rel =>
          refine ⟨k + 1, by omega, by go_num, World.rowIs.congr (World.rowIs.set R k _) fun j hj => ?_, hbw.setCell (by simp) _⟩
          by_cases hj1 : j = k
          · subst hj1; rw [if_pos rfl]; unfold cutC; simp
          · rw [if_neg hj1]; unfold cutC
            congr 2
            rw [Bool.eq_iff_iff]; simp; omega
        case measure => simp [intOf] <;> omega
      · have d5 : decide (((k : Int) / 64) < (m : Int)) = false := by simp; omega
        have R2 : RB wr (some ⟨w.heap.size, 0, none⟩) n (wbit g m) := fun _ => ⟨w.heap.size, 0, rfl, World.rowIs.lt R, fun j hj => by
          rw [Nat.zero_add, World.rowIs.cell R hj]
          unfold cutC
          by_cases hjk : j < k
          · simp [hjk]
          · have : wbit g m j = false := by unfold wbit; simp; omega
            rw [this]; simp⟩
        replace R2 := Lib.hid R2
        clear R
        go_wp2
        go_ret2
        exact ⟨_, _, rfl, R2.out, hbw⟩
    · obtain rfl : k = n := by omega
      have d5 : decide ((k : Int) < (k : Int)) = false := by simp
      have R2 : RB wr (some ⟨w.heap.size, 0, none⟩) k (wbit g m) := fun _ => ⟨w.heap.size, 0, rfl, World.rowIs.lt R, fun j hj => by
        rw [Nat.zero_add, World.rowIs.cell R hj]
        unfold cutC
        simp [hj]⟩
      replace R2 := Lib.hid R2
      clear R
      go_wp2
      go_ret2
      exact ⟨_, _, rfl, R2.out, hbw⟩
/-- The number so far and its next bit. -/
theorem half_step (f : Nat → Bool) (n r : Nat) (hr : r < n) : valB f n / 2 ^ r = 2 * (valB f n / 2 ^ (r + 1)) + (f r).toNat := by
  have hb : (valB f n).testBit r = f r := by rw [valB_testBit]; simp [hr]
  rw [Nat.pow_succ, ← Nat.div_div_eq_div_mul]
  have h := Nat.mod_two_eq_one_iff_testBit_zero (x := valB f n / 2 ^ r)
  rw [Nat.testBit_div_two_pow, Nat.zero_add, hb] at h
  cases hf : f r
  · rw [hf] at h; simp at h; simp; omega
  · rw [hf] at h; simp at h; simp; omega
theorem over_half (x M r : Nat) (h : M < x / 2 ^ r) : min x M = M := by
  have := Nat.div_le_self x (2 ^ r); omega
set_option maxRecDepth 100000 in
set_option maxHeartbeats 800000 in
theorem refNum_nat (n c : Nat) (M : Nat) (hM : M < 2 ^ 63) (A : Option Addr) (f : Nat → Bool) (w : World) (hn : n ≤ 128) (hA : RB w A n f) :
    Calls Tryz.prog 38 #[.slice A n c, .int .i64 (M : Int)] w fun e w' => e = .returned (.int .i64 ((min (valB f n) M : Nat) : Int)) ∧ w' = w := by
  have hx := valB_lt f n
  have hst := Lib.hid (fun r hr => half_step f n r hr)
  have hov := Lib.hid (fun r => over_half (valB f n) M r)
  generalize valB f n = x at *
  replace hA := Lib.hid hA
  go_enter Tryz.func38, Tryz.ntmps38
  go_wp2
  go_loop [5, 6] (fun a i => ∃ r : Nat, r ≤ n ∧ ((r = 0 ∧ i = .int .i64 (-1)) ∨ ∃ s : Nat, r = s + 1 ∧ i = .int .i64 (s : Int)) ∧ a = .int .i64 ((x / 2 ^ r : Nat) : Int) ∧ x / 2 ^ r ≤ M) (fun _ i => (intOf i + 1).toNat)
  case atStart =>
    refine ⟨n, Nat.le_refl _, ?_, by rw [Nat.div_eq_of_lt hx]; rfl, by rw [Nat.div_eq_of_lt hx]; exact Nat.zero_le _⟩
    rcases Nat.eq_zero_or_pos n with h | h
    · exact .inl ⟨h, by rw [h]; rfl⟩
    · exact .inr ⟨n - 1, by omega, by congr 1; omega⟩
  case round =>
    obtain ⟨r, hr, hc, rfl, hle⟩ := hrel
    rcases hc with ⟨rfl, rfl⟩ | ⟨s, rfl, rfl⟩
    · have e := Lib.hid (show (x : Int) = ((min x M : Nat) : Int) by rw [Nat.pow_zero, Nat.div_one] at hle; rw [Nat.min_eq_left hle])
      clear hle
      go_wp2
      go_ret
      exact ⟨by rw [← e.out]; rfl, rfl⟩
    · obtain ⟨b, off, rfl, hb, hcs⟩ := hA.out (by omega)
      have hck := hcs s (by omega)
      have h2 := hst.out s (by omega)
      have h3 := hov.out s
      have hsn : (s : Int) < (n : Int) := by omega
      have hnx : ((s = 0 ∧ Value.int .i64 ((s : Int) - 1) = Value.int .i64 (-1)) ∨ ∃ s' : Nat, s = s' + 1 ∧ Value.int .i64 ((s : Int) - 1) = Value.int .i64 (s' : Int)) := by
        rcases Nat.eq_zero_or_pos s with h | h
        · exact .inl ⟨h, by rw [h]; rfl⟩
        · exact .inr ⟨s - 1, by omega, by congr 1; omega⟩
      replace hnx := Lib.hid hnx
      clear hcs
      obtain ⟨y, hy⟩ : ∃ y, x / 2 ^ (s + 1) = y := ⟨_, rfl⟩
      obtain ⟨z, hz⟩ : ∃ z, x / 2 ^ s = z := ⟨_, rfl⟩
      rw [hy] at h2 hle
      rw [hz] at h2 h3
      rw [hy]
      clear hy
      replace hz := Lib.hid hz
      cases hf : f s with
      | false =>
        rw [hf] at hck h2
        simp only [Bool.toNat_false, Nat.add_zero] at h2
        clear hf
        by_cases q1 : (M : Int) / 2 < (y : Int)
        · have e := Lib.hid (h3 (by omega))
          clear h2 h3
          go_wp2
          go_ret
          exact ⟨by rw [e.out]; rfl, rfl⟩
        · have q0 : decide ((M : Int) / 2 < (y : Int)) = false := decide_eq_false q1
          by_cases hz2 : z ≤ M
          · have d : decide ((M : Int) < 2 * (y : Int)) = false := by simp; omega
            have q4 : ¬ (M : Int) < 2 * (y : Int) := by omega
            have h5 := Lib.hid h2
            clear h2 h3
            go_wp2
            go_round
            case rel => exact ⟨s, by omega, hnx.out, by rw [hz.out, h5.out]; go_num, by rw [hz.out]; exact hz2⟩
            case measure => simp [intOf] <;> omega
          · have e := Lib.hid (h3 (by omega))
            have d : decide ((M : Int) < 2 * (y : Int)) = true := by simp; omega
            have q4 : (M : Int) < 2 * (y : Int) := by omega
            clear h2 h3
            go_wp2
            go_ret
            exact ⟨by rw [e.out]; rfl, rfl⟩
      | true =>
        rw [hf] at hck h2
        simp only [Bool.toNat_true] at h2
        clear hf
        by_cases q1 : (M : Int) / 2 < (y : Int)
        · have e := Lib.hid (h3 (by omega))
          clear h2 h3
          go_wp2
          go_ret
          exact ⟨by rw [e.out]; rfl, rfl⟩
        · have q0 : decide ((M : Int) / 2 < (y : Int)) = false := decide_eq_false q1
          by_cases hz2 : z ≤ M
          · have d : decide ((M : Int) - 1 < 2 * (y : Int)) = false := by simp; omega
            have q4 : ¬ (M : Int) - 1 < 2 * (y : Int) := by omega
            have h5 := Lib.hid h2
            clear h2 h3
            go_wp2
            go_round
            case rel => exact ⟨s, by omega, hnx.out, by rw [hz.out, h5.out]; go_num, by rw [hz.out]; exact hz2⟩
            case measure => simp [intOf] <;> omega
          · have e := Lib.hid (h3 (by omega))
            have d : decide ((M : Int) - 1 < 2 * (y : Int)) = true := by simp; omega
            have q4 : (M : Int) - 1 < 2 * (y : Int) := by omega
            clear h2 h3
            go_wp2
            go_ret
            exact ⟨by rw [e.out]; rfl, rfl⟩
end Go.Proofs.YtcifljbcoioogaaGreatDoor
