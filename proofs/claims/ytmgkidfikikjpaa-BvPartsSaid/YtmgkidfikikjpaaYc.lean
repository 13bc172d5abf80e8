/-
  The walks of bv's Words and of the reference's Words: a number's bits in words of 64.
-/
import Derived.Test.YtmgkidfikikjpaaYb
import Derived.Laws.CopyOwn
namespace Go.Proofs.Ytmgkidfikikjpaa
open Go.RowKit
/-- As many words as n bits need. -/
def wN (n : Nat) : Nat := (n + 63) / 64
theorem wN_le {n : Nat} (h : n ≤ 128) : wN n ≤ 2 := by unfold wN; omega
def wcell (x : Nat) (j : Nat) : Value := .int .u64 ((wordN x j : Nat) : Int)
def wsrc (x m : Nat) : List Value := (List.range m).map (wcell x)
theorem wsrc_len (x m : Nat) : (wsrc x m).length = m := by simp [wsrc]
theorem wsrc_get (x m j : Nat) (h : j < m) : (wsrc x m)[j]? = some (wcell x j) := by simp [wsrc, h]
theorem info_word : (Try.prog.info? 25).map (fun i => (i.zero, i.size, i.bytes)) = some (some (.int .u64 0), 1, 8) := by kernel_rfl
/-- A new slice of the words of a number. -/
def WS (w : World) (n x : Nat) (e : Ending) (w' : World) : Prop := ∃ g : Nat, e = .returned (.slice (some ⟨g, 0, none⟩) (wN n) (wN n)) ∧ w'.rowIs g 25 (wN n) (wcell x) ∧ Below w.heap.size w w'
set_option maxRecDepth 100000 in
set_option maxHeartbeats 800000 in
theorem Words_v (n x : Nat) (w : World) (hn : n ≤ 128) : Calls Try.prog 44 #[vv n x] w (WS w n x) := by
  unfold WS
  obtain ⟨m, hm⟩ : ∃ m, wN n = m := ⟨_, rfl⟩
  have hm2 : m ≤ 2 := by rw [← hm]; exact wN_le hn
  rw [hm]
  have hmk := run_make_row' 69 25 (.int .u64 0) 8 Try.underlying69 info_word rfl .i64 .i64 m (by omega) (by omega)
  have hcs : (madeCells #[Value.int .u64 0] m) = (List.replicate m (Value.int .u64 0)).toArray := by
    apply Array.ext_getElem?
    intro i
    by_cases hi : i < m
    · simp [madeCells, hi, Nat.mod_one]
    · rw [Array.getElem?_eq_none (by rw [size_madeCells]; omega), Array.getElem?_eq_none (by simp; omega)]
  rw [hcs] at hmk
  have e1 : ((n : Int) + 64 - 1) / 64 = (m : Int) := by rw [← hm]; unfold wN; omega
  have e2 : ((n : Int) + 63) / 64 = (m : Int) := by rw [← hm]; unfold wN; omega
  clear hm hcs
  go_enter Try.func44, Try.ntmps44
  go_wp2_with (with_reducible refine wpList_copy_splice rfl (.tmp 10) (.tmp 12) 69 69 rfl 25 Try.underlying69 info_u64 (some ⟨w.heap.size + 1, 0, none⟩) (some ⟨w.heap.size, 1, none⟩) m m 2 2 rfl rfl (w.heap.size + 1) 0 (List.replicate m (Value.int .u64 0)) 25 ?g1 (wsrc x m) ?g2 ?g3 ?g4 ?g5 (w.heap.size + 1) _ (Below.refl _ _) (Nat.le_refl _) ?g6)
  case g1 => exact heap_alloc2_new _ _ _
  case g2 => rw [wsrc_len]; exact (Nat.min_eq_right hm2).symm
  case g3 =>
    intro hl
    rw [wsrc_len] at hl
    intro j v hj
    have hjm : j < m := by
      rcases Nat.lt_or_ge j m with h' | h'
      · exact h'
      · rw [List.getElem?_eq_none (by rw [wsrc_len]; exact h')] at hj; cases hj
    rw [wsrc_get x m j hjm] at hj
    rw [← hj]
    have h2 : j = 0 ∨ j = 1 := by omega
    rcases h2 with rfl | rfl <;> rfl
  case g4 => rw [wsrc_len]; simp
  case g5 =>
    intro v hv
    simp only [wsrc, List.mem_map] at hv
    obtain ⟨j, _, rfl⟩ := hv
    rfl
  case g6 =>
    intro w2 hg hb2
    have hbw : Below w.heap.size w w2 := Below.trans (b := (w.alloc (.cells (vcs n x) 28)).alloc (.cells (List.replicate m (Value.int .u64 0)).toArray 25)) (by go_grown) (hb2.mono (by omega))
    have hR : w2.rowIs (w.heap.size + 1) 25 m (wcell x) := ⟨_, hg.out, by simp [splice, wsrc_len], fun i hi => by
      unfold splice
      simp only [List.take_zero, List.nil_append, Nat.zero_add, wsrc_len]
      rw [List.drop_eq_nil_of_le (by simp), List.append_nil]
      simpa using wsrc_get x m i hi⟩
    replace hR := Lib.hid hR
    clear hb2 hg
    go_wp2
    go_ret
    exact ⟨w.heap.size + 1, rfl, hR.out, hbw⟩
set_option maxRecDepth 100000 in
set_option maxHeartbeats 1000000 in
theorem refWords_t (n c : Nat) (A : Option Addr) (f : Nat → Bool) (w : World) (hn : n ≤ 128) (hA : RB w A n f) :
    Calls Try.prog 45 #[.slice A n c] w (WS w n (valB f n)) := by
  unfold WS
  obtain ⟨m, hm⟩ : ∃ m, wN n = m := ⟨_, rfl⟩
  have hm2 : m ≤ 2 := by rw [← hm]; exact wN_le hn
  have hm3 : n ≤ m * 64 := by rw [← hm]; unfold wN; omega
  rw [hm]
  have hmk := run_make_row' 69 25 (.int .u64 0) 8 Try.underlying69 info_word rfl .i64 .i64 m (by omega) (by omega)
  have e2 : ((n : Int) + 63) / 64 = (m : Int) := by rw [← hm]; unfold wN; omega
  have R0 := Lib.hid (World.rowIs_made w (.int .u64 0) m 25)
  replace hA := Lib.hid hA
  clear hm
  go_enter Try.func45, Try.ntmps45
  go_wp2
  go_loopw [4] (fun i wr => ∃ k : Nat, k ≤ n ∧ i = .int .i64 (k : Int) ∧ wr.rowIs w.heap.size 25 m (wcell (valB f k)) ∧ Below w.heap.size w wr) (fun i _ => n - (intOf i).toNat)
  case atStart => exact ⟨0, Nat.zero_le _, rfl, World.rowIs.congr R0.out fun j hj => by unfold wcell wordN lo hi; simp [valB], by go_grown⟩
  case round =>
    obtain ⟨k, hk, rfl, R, hbw⟩ := hrel
    clear R0 hmk e2
    by_cases hlt : k < n
    · obtain ⟨b, off, rfl, hb, hc⟩ := (hA.out.keep hbw) (by omega)
      have hck := hc k hlt
      have hf := World.rowIs.frozen R
      clear hc
      cases hfk : f k with
      | false =>
        rw [hfk] at hck
        have hno := Lib.hid (fun j => word_no f k j hfk)
        clear hfk
        go_wp2
        go_roundw
        case rel => exact ⟨k + 1, by omega, by go_num, World.rowIs.congr R fun j hj => by unfold wcell; rw [hno.out], hbw⟩
        case measure => simp [intOf]; omega
      | true =>
        rw [hfk] at hck
        by_cases h64 : k < 64
        · obtain ⟨q1, q2, q3⟩ := word_lo f k h64 hfk
          have qs := wrap_sum (lo (valB f k)) k q3
          have hc0 : wr.cell? ⟨w.heap.size, 0, none⟩ = some (.int .u64 ((lo (valB f k) : Nat) : Int)) := World.rowIs.cell R (i := 0) (by omega)
          have d1 : ((k : Int) / 64) = 0 := by omega
          have d2 : ((k : Int) % 64) = (k : Int) := by omega
          have d3 : (0 : Int) < (m : Int) := by omega
          replace q1 := Lib.hid q1
          replace q2 := Lib.hid q2
          clear hfk q3
          go_wp2
          go_roundw
          case rel =>
            refine ⟨k + 1, by omega, by go_num, World.rowIs.congr (World.rowIs.set R 0 _) fun j hj => ?_, hbw.setCell (by simp) _⟩
            have h2 : j = 0 ∨ j = 1 := by omega
            rcases h2 with rfl | rfl
            · rw [if_pos rfl]; unfold wcell wordN; rw [if_pos rfl, q1.out]; simp
            · rw [if_neg (by decide)]; unfold wcell wordN; rw [if_neg (by decide), if_neg (by decide), q2.out]
          case measure => simp [intOf]; omega
        · obtain ⟨j, hj⟩ : ∃ j, k = 64 + j := ⟨k - 64, by omega⟩
          obtain ⟨q1, q2, q3⟩ := word_hi f j (by omega) (by rw [← hj]; exact hfk)
          rw [← hj] at q1 q2 q3
          have qs := wrap_sum (hi (valB f k)) j q3
          have hc0 : wr.cell? ⟨w.heap.size, 1, none⟩ = some (.int .u64 ((hi (valB f k) : Nat) : Int)) := World.rowIs.cell R (i := 1) (by omega)
          have d1 : ((k : Int) / 64) = 1 := by omega
          have d2 : ((k : Int) % 64) = (j : Int) := by omega
          have d3 : (1 : Int) < (m : Int) := by omega
          have d5 : j < 64 := by omega
          replace q1 := Lib.hid q1
          replace q2 := Lib.hid q2
          replace hj := Lib.hid hj
          clear hfk q3
          go_wp2
          go_roundw
          case rel =>
            refine ⟨k + 1, by omega, by go_num, World.rowIs.congr (World.rowIs.set R 1 _) fun j hj => ?_, hbw.setCell (by simp) _⟩
            have h2 : j = 0 ∨ j = 1 := by omega
            rcases h2 with rfl | rfl
            · rw [if_neg (by decide)]; unfold wcell wordN; rw [if_pos rfl, if_pos rfl, q2.out]
            · rw [if_pos rfl]; unfold wcell wordN; rw [if_neg (by decide), q1.out]; simp
          case measure => simp [intOf]; omega
    · obtain rfl : k = n := by omega
      go_wp2
      go_ret
      exact ⟨w.heap.size, rfl, R, hbw⟩
end Go.Proofs.Ytmgkidfikikjpaa
