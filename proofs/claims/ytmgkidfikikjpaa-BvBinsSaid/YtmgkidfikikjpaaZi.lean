/-
  The walks of the reference's Less, Equal and Move.
-/
import Derived.Test.YtmgkidfikikjpaaZb
import Derived.BigQuiet
namespace Go.Proofs.Ytmgkidfikikjpaa
open Go.RowKit
theorem less_above (f g : Nat → Bool) (r : Nat) : ∀ d, (∀ j, r ≤ j → j < r + d → f j = g j) → ((valB f (r + d) < valB g (r + d)) ↔ (valB f r < valB g r))
  | 0, _ => Iff.rfl
  | d + 1, h => by
    have ih := less_above f g r d fun j h1 h2 => h j h1 (by omega)
    have e := h (r + d) (by omega) (by omega)
    show (valB f (r + d) + (f (r + d)).toNat * 2 ^ (r + d) < valB g (r + d) + (g (r + d)).toNat * 2 ^ (r + d)) ↔ _
    rw [e, Nat.add_lt_add_iff_right]
    exact ih
theorem less_at (f g : Nat → Bool) (r : Nat) (h : f r ≠ g r) : (valB f (r + 1) < valB g (r + 1)) ↔ g r = true := by
  have h1 := valB_lt f r
  have h2 := valB_lt g r
  simp only [valB]
  cases hf : f r <;> cases hg : g r <;> rw [hf, hg] at h <;> simp at h ⊢ <;> omega
theorem less_top (f g : Nat → Bool) (n r : Nat) (hr : r < n) (ha : ∀ j, r < j → j < n → f j = g j) (h : f r ≠ g r) : decide (valB f n < valB g n) = g r := by
  have e := less_above f g (r + 1) (n - (r + 1)) fun j h1 h2 => ha j (by omega) (by omega)
  rw [show r + 1 + (n - (r + 1)) = n by omega, less_at f g r h] at e
  rw [Bool.eq_iff_iff]; simp; exact e
theorem valB_congr {f g : Nat → Bool} : ∀ n, (∀ j, j < n → f j = g j) → valB f n = valB g n
  | 0, _ => rfl
  | n + 1, h => by
    simp only [valB]
    rw [valB_congr n fun j hj => h j (by omega), h n (by omega)]
def mvB (f : Nat → Bool) (n : Nat) (t : Int) (b : Bool) (j : Nat) : Bool := if 0 ≤ (j : Int) - t ∧ (j : Int) - t < (n : Int) then f ((j : Int) - t).toNat else b
def mvC (f : Nat → Bool) (n : Nat) (t : Int) (b : Bool) (k j : Nat) : Value := .bool (decide (j < k) && mvB f n t b j)
set_option maxRecDepth 100000 in
set_option maxHeartbeats 2000000 in
theorem refMove_ok (n c : Nat) (A : Option Addr) (f : Nat → Bool) (t : Int) (b : Bool) (w : World) (hn : n ≤ 140) (t1 : -1000 ≤ t) (t2 : t ≤ 1000) (hA : RB w A n f) :
    Calls Try.prog 38 #[.slice A n c, .int .i64 t, .bool b] w (GS w n (mvB f n t b)) := by
  have hmk := run_make_row' 22 4 (.bool false) 1 Try.underlying22 info_bool rfl .i64 .i64 n (by omega) (by omega)
  have R0 := Lib.hid (World.rowIs_made w (.bool false) n 4)
  replace hA := Lib.hid hA
  go_enter Try.func38, Try.ntmps38
  go_wp2
  go_loopw [8] (fun i wr => ∃ k : Nat, k ≤ n ∧ i = .int .i64 (k : Int) ∧ wr.rowIs w.heap.size 4 n (mvC f n t b k) ∧ Below w.heap.size w wr) (fun i _ => n - (intOf i).toNat)
  case atStart => exact ⟨0, Nat.zero_le _, rfl, World.rowIs.congr R0.out fun j hj => by unfold mvC; simp, by go_grown⟩
  case round =>
    obtain ⟨k, hk, rfl, R, hbw⟩ := hrel
    clear R0 hmk
    by_cases hlt : k < n
    · have hcr : wr.cell? ⟨w.heap.size, k, none⟩ = some (.bool false) := by rw [World.rowIs.cell R hlt]; unfold mvC; simp
      have hf := World.rowIs.frozen R
      have sub : IntKind.i64.wrap ((k : Int) - t) = (k : Int) - t := IntWalk.i64_in _ (by omega)
      by_cases hin : 0 ≤ (k : Int) - t ∧ (k : Int) - t < (n : Int)
      · obtain ⟨q, hq⟩ : ∃ q : Nat, (k : Int) - t = (q : Int) := ⟨((k : Int) - t).toNat, by omega⟩
        have hqn : q < n := by omega
        obtain ⟨bb, off, rfl, hb, hc⟩ := (hA.out.keep hbw) (by omega)
        have hck := hc q hqn
        have hmv : mvB f n t b k = f q := by unfold mvB; rw [if_pos hin, hq]; rfl
        clear hc
        generalize f q = fq at hck hmv
        replace hmv := Lib.hid hmv
        rw [hq] at sub
        have d1 : decide ((q : Int) < (n : Int)) = true := by simp; omega
        have d2 : decide (0 ≤ (q : Int)) = true := by simp
        have hbb : bb ≠ w.heap.size ∨ bb = w.heap.size := by omega
        clear hin
        rcases hA.out (by omega) with ⟨b3, o3, e3, l3, _⟩
        cases e3
        have hne : ¬ bb = w.heap.size := by omega
        have hne2 : ¬ w.heap.size = bb := by omega
        clear hbb
        go_wp2
        go_roundw
        case rel =>
          refine ⟨k + 1, by omega, by go_num, World.rowIs.congr (World.rowIs.set (World.rowIs.set R k _) k _) fun j hj => ?_, (hbw.setCell (by simp) _).setCell (by simp) _⟩
          by_cases hj1 : j = k
          · subst hj1; rw [if_pos rfl]; unfold mvC; simp [hmv.out]
          · rw [if_neg hj1, if_neg hj1]; unfold mvC
            congr 2
            rw [Bool.eq_iff_iff]; simp; omega
        case measure => simp [intOf]; omega
      · have hmv := Lib.hid (show mvB f n t b k = b by unfold mvB; rw [if_neg hin])
        have hcs : (k : Int) - t < 0 ∨ (0 ≤ (k : Int) - t ∧ (n : Int) ≤ (k : Int) - t) := by omega
        clear hin
        rcases hcs with h1 | ⟨h1, h2⟩
        · have d2 : decide (0 ≤ (k : Int) - t) = false := by simp; omega
          have d3 : ¬ t ≤ (k : Int) := by omega
          have d4 : decide (t ≤ (k : Int)) = false := by simp; omega
          go_wp2
          go_roundw
          case rel =>
            refine ⟨k + 1, by omega, by go_num, World.rowIs.congr (World.rowIs.set R k _) fun j hj => ?_, hbw.setCell (by simp) _⟩
            by_cases hj1 : j = k
            · subst hj1; rw [if_pos rfl]; unfold mvC; simp [hmv.out]
            · rw [if_neg hj1]; unfold mvC
              congr 2
              rw [Bool.eq_iff_iff]; simp; omega
          case measure => simp [intOf]; omega
        · have d2 : decide (0 ≤ (k : Int) - t) = true := by simp; omega
          have d1 : decide ((k : Int) - t < (n : Int)) = false := by simp; omega
          have d3 : t ≤ (k : Int) := by omega
          have d4 : decide (t ≤ (k : Int)) = true := by simp; omega
          go_wp2
          go_roundw
          case rel =>
            refine ⟨k + 1, by omega, by go_num, World.rowIs.congr (World.rowIs.set R k _) fun j hj => ?_, hbw.setCell (by simp) _⟩
            by_cases hj1 : j = k
            · subst hj1; rw [if_pos rfl]; unfold mvC; simp [hmv.out]
            · rw [if_neg hj1]; unfold mvC
              congr 2
              rw [Bool.eq_iff_iff]; simp; omega
          case measure => simp [intOf]; omega
    · obtain rfl : k = n := by omega
      have R2 := RB_row (h := mvB f k t b) (World.rowIs.congr R fun j hj => by unfold mvC; simp [hj])
      replace R2 := Lib.hid R2
      clear R
      go_wp2
      go_ret
      exact ⟨_, _, rfl, R2.out, hbw⟩
end Go.Proofs.Ytmgkidfikikjpaa
