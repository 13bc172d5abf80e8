/-
  The walks of the reference's Bin: bit by bit; signed comparison; where it refuses. And bv's Bin where it refuses.
-/
import Derived.Test.YtmgkidfikikjpaaBd
namespace Go.Proofs.Ytmgkidfikikjpaa
open Go.RowKit
set_option maxRecDepth 1000000 in
set_option maxHeartbeats 2000000 in
theorem refBin_7 (n c1 c2 x y : Nat) (A B : Option Addr) (w : World) (h1 : 1 ≤ n) (hn : n ≤ 128) (hA : RB w A n (tb x)) (hB : RB w B n (tb y)) (hx : x < 2 ^ n) (hy : y < 2 ^ n) :
    Calls Try.prog 10 #[.int .i64 7, .slice A n c1, .slice B n c2] w (LN w n (x &&& y) 0) := by
  have hmk := run_make_row' 22 4 (.bool false) 1 Try.underlying22 info_bool rfl .i64 .i64 n (by omega) (by omega)
  have cM := fun w (h : RB w B n (tb y)) => refNum_nat n c2 n (by omega) B (tb y) w (by omega) h
  rw [valB_tbl y n hy] at cM
  replace cM := Lib.hid cM
  have n1 : ((n : Int) != (n : Int)) = false := by simp
  have n0 : ((n : Int) == 0) = false := by simp; omega
  have R0 := Lib.hid (World.rowIs_made w (.bool false) n 4)
  have fin := Lib.hid (show ∀ j, j < n → (fun j => tb x j && tb y j) j = tb (x &&& y) j from fun j hj => by
    refine (tb_val (fun j => tb x j && tb y j) n j hj).trans ?_
    rw [valB_and, valB_tbl x n hx, valB_tbl y n hy])
  replace hA := Lib.hid hA
  replace hB := Lib.hid hB
  go_enter Try.func10, Try.ntmps10
  go_wp2_with fail
  (with_reducible refine (cM.out _ (hB.out.keep (by go_grown))).mono ?_)
  rintro e w0 ⟨rfl, rfl⟩
  replace hx := Lib.hid hx
  replace hy := Lib.hid hy
  generalize min y n = mm at *
  go_wp2_with fail
  go_loopw [20] (fun i wr => ∃ k : Nat, k ≤ n ∧ i = .int .i64 (k : Int) ∧ wr.rowIs w.heap.size 4 n (cutC (fun j => tb x j && tb y j) k) ∧ Below w.heap.size w wr) (fun i _ => n - (intOf i).toNat)
  case atStart => exact ⟨0, Nat.zero_le _, rfl, World.rowIs.congr R0.out fun j hj => by unfold cutC; simp, by go_grown⟩
  case round =>
    obtain ⟨k, hk, rfl, R, hbw⟩ := hrel
    clear R0 hmk n1 n0
    by_cases hlt : k < n
    · obtain ⟨b, off, rfl, hb, hc⟩ := (hA.out.keep hbw) (by omega)
      obtain ⟨b2, off2, rfl, hb2, hc2⟩ := (hB.out.keep hbw) (by omega)
      have hck := hc k hlt
      have hck2 := hc2 k hlt
      have hcr : wr.cell? ⟨w.heap.size, k, none⟩ = some (.bool false) := by rw [World.rowIs.cell R hlt]; unfold cutC; simp
      have hf := World.rowIs.frozen R
      have st := Lib.hid (fun v (hv : v = (fun j => tb x j && tb y j) k) j (hj : j < n) => (show (if j = k then Value.bool v else cutC (fun j => tb x j && tb y j) k j) = cutC (fun j => tb x j && tb y j) (k + 1) j from by
        by_cases hj1 : j = k
        · subst hj1; rw [if_pos rfl, hv]; unfold cutC; simp
        · rw [if_neg hj1]; unfold cutC; congr 2; rw [Bool.eq_iff_iff]; simp; omega))
      have hh : (tb x k && tb y k) = (fun j => tb x j && tb y j) k := rfl
      clear hc hc2
      obtain ⟨bx, hbx⟩ : ∃ bk, tb x k = bk := ⟨_, rfl⟩
      obtain ⟨by', hby⟩ : ∃ bk, tb y k = bk := ⟨_, rfl⟩
      rw [hbx] at hck hh
      rw [hby] at hck2 hh
      clear hbx hby
      replace hh := Lib.hid hh
      cases bx <;> cases by'
      all_goals
        go_wp2_with fail
        first | (go_region) | skip
        try go_wp2_with fail
        go_roundw
        case rel => exact ⟨k + 1, by omega, by go_num, World.rowIs.congr (World.rowIs.set R k _) fun j hj => st.out _ (by rw [← hh.out]; rfl) j hj, by go_grown⟩
        case measure => simp [intOf]; omega
    · obtain rfl : k = n := by omega
      have R2 := Lib.hid (RA_row (x := (x &&& y)) (h := (fun j => tb x j && tb y j)) (World.rowIs.congr R fun j hj => by unfold cutC; simp [hj]) fin.out).rb
      clear R
      go_wp2_with fail
      go_ret2
      exact ⟨_, _, rfl, R2.out, hbw⟩
set_option maxRecDepth 1000000 in
set_option maxHeartbeats 2000000 in
theorem refBin_8 (n c1 c2 x y : Nat) (A B : Option Addr) (w : World) (h1 : 1 ≤ n) (hn : n ≤ 128) (hA : RB w A n (tb x)) (hB : RB w B n (tb y)) (hx : x < 2 ^ n) (hy : y < 2 ^ n) :
    Calls Try.prog 10 #[.int .i64 8, .slice A n c1, .slice B n c2] w (LN w n (x ||| y) 0) := by
  have hmk := run_make_row' 22 4 (.bool false) 1 Try.underlying22 info_bool rfl .i64 .i64 n (by omega) (by omega)
  have cM := fun w (h : RB w B n (tb y)) => refNum_nat n c2 n (by omega) B (tb y) w (by omega) h
  rw [valB_tbl y n hy] at cM
  replace cM := Lib.hid cM
  have n1 : ((n : Int) != (n : Int)) = false := by simp
  have n0 : ((n : Int) == 0) = false := by simp; omega
  have R0 := Lib.hid (World.rowIs_made w (.bool false) n 4)
  have fin := Lib.hid (show ∀ j, j < n → (fun j => tb x j || tb y j) j = tb (x ||| y) j from fun j hj => by
    refine (tb_val (fun j => tb x j || tb y j) n j hj).trans ?_
    rw [valB_or, valB_tbl x n hx, valB_tbl y n hy])
  replace hA := Lib.hid hA
  replace hB := Lib.hid hB
  go_enter Try.func10, Try.ntmps10
  go_wp2_with fail
  (with_reducible refine (cM.out _ (hB.out.keep (by go_grown))).mono ?_)
  rintro e w0 ⟨rfl, rfl⟩
  replace hx := Lib.hid hx
  replace hy := Lib.hid hy
  generalize min y n = mm at *
  go_wp2_with fail
  go_loopw [20] (fun i wr => ∃ k : Nat, k ≤ n ∧ i = .int .i64 (k : Int) ∧ wr.rowIs w.heap.size 4 n (cutC (fun j => tb x j || tb y j) k) ∧ Below w.heap.size w wr) (fun i _ => n - (intOf i).toNat)
  case atStart => exact ⟨0, Nat.zero_le _, rfl, World.rowIs.congr R0.out fun j hj => by unfold cutC; simp, by go_grown⟩
  case round =>
    obtain ⟨k, hk, rfl, R, hbw⟩ := hrel
    clear R0 hmk n1 n0
    by_cases hlt : k < n
    · obtain ⟨b, off, rfl, hb, hc⟩ := (hA.out.keep hbw) (by omega)
      obtain ⟨b2, off2, rfl, hb2, hc2⟩ := (hB.out.keep hbw) (by omega)
      have hck := hc k hlt
      have hck2 := hc2 k hlt
      have hcr : wr.cell? ⟨w.heap.size, k, none⟩ = some (.bool false) := by rw [World.rowIs.cell R hlt]; unfold cutC; simp
      have hf := World.rowIs.frozen R
      have st := Lib.hid (fun v (hv : v = (fun j => tb x j || tb y j) k) j (hj : j < n) => (show (if j = k then Value.bool v else cutC (fun j => tb x j || tb y j) k j) = cutC (fun j => tb x j || tb y j) (k + 1) j from by
        by_cases hj1 : j = k
        · subst hj1; rw [if_pos rfl, hv]; unfold cutC; simp
        · rw [if_neg hj1]; unfold cutC; congr 2; rw [Bool.eq_iff_iff]; simp; omega))
      have hh : (tb x k || tb y k) = (fun j => tb x j || tb y j) k := rfl
      clear hc hc2
      obtain ⟨bx, hbx⟩ : ∃ bk, tb x k = bk := ⟨_, rfl⟩
      obtain ⟨by', hby⟩ : ∃ bk, tb y k = bk := ⟨_, rfl⟩
      rw [hbx] at hck hh
      rw [hby] at hck2 hh
      clear hbx hby
      replace hh := Lib.hid hh
      cases bx <;> cases by'
      all_goals
        go_wp2_with fail
        first | (go_region) | skip
        try go_wp2_with fail
        go_roundw
        case rel => exact ⟨k + 1, by omega, by go_num, World.rowIs.congr (World.rowIs.set R k _) fun j hj => st.out _ (by rw [← hh.out]; rfl) j hj, by go_grown⟩
        case measure => simp [intOf]; omega
    · obtain rfl : k = n := by omega
      have R2 := Lib.hid (RA_row (x := (x ||| y)) (h := (fun j => tb x j || tb y j)) (World.rowIs.congr R fun j hj => by unfold cutC; simp [hj]) fin.out).rb
      clear R
      go_wp2_with fail
      go_ret2
      exact ⟨_, _, rfl, R2.out, hbw⟩
set_option maxRecDepth 1000000 in
set_option maxHeartbeats 2000000 in
theorem refBin_9 (n c1 c2 x y : Nat) (A B : Option Addr) (w : World) (h1 : 1 ≤ n) (hn : n ≤ 128) (hA : RB w A n (tb x)) (hB : RB w B n (tb y)) (hx : x < 2 ^ n) (hy : y < 2 ^ n) :
    Calls Try.prog 10 #[.int .i64 9, .slice A n c1, .slice B n c2] w (LN w n (x ^^^ y) 0) := by
  have hmk := run_make_row' 22 4 (.bool false) 1 Try.underlying22 info_bool rfl .i64 .i64 n (by omega) (by omega)
  have cM := fun w (h : RB w B n (tb y)) => refNum_nat n c2 n (by omega) B (tb y) w (by omega) h
  rw [valB_tbl y n hy] at cM
  replace cM := Lib.hid cM
  have n1 : ((n : Int) != (n : Int)) = false := by simp
  have n0 : ((n : Int) == 0) = false := by simp; omega
  have R0 := Lib.hid (World.rowIs_made w (.bool false) n 4)
  have fin := Lib.hid (show ∀ j, j < n → (fun j => tb x j != tb y j) j = tb (x ^^^ y) j from fun j hj => by
    refine (tb_val (fun j => tb x j != tb y j) n j hj).trans ?_
    rw [valB_xor, valB_tbl x n hx, valB_tbl y n hy])
  replace hA := Lib.hid hA
  replace hB := Lib.hid hB
  go_enter Try.func10, Try.ntmps10
  go_wp2_with fail
  (with_reducible refine (cM.out _ (hB.out.keep (by go_grown))).mono ?_)
  rintro e w0 ⟨rfl, rfl⟩
  replace hx := Lib.hid hx
  replace hy := Lib.hid hy
  generalize min y n = mm at *
  go_wp2_with fail
  go_loopw [20] (fun i wr => ∃ k : Nat, k ≤ n ∧ i = .int .i64 (k : Int) ∧ wr.rowIs w.heap.size 4 n (cutC (fun j => tb x j != tb y j) k) ∧ Below w.heap.size w wr) (fun i _ => n - (intOf i).toNat)
  case atStart => exact ⟨0, Nat.zero_le _, rfl, World.rowIs.congr R0.out fun j hj => by unfold cutC; simp, by go_grown⟩
  case round =>
    obtain ⟨k, hk, rfl, R, hbw⟩ := hrel
    clear R0 hmk n1 n0
    by_cases hlt : k < n
    · obtain ⟨b, off, rfl, hb, hc⟩ := (hA.out.keep hbw) (by omega)
      obtain ⟨b2, off2, rfl, hb2, hc2⟩ := (hB.out.keep hbw) (by omega)
      have hck := hc k hlt
      have hck2 := hc2 k hlt
      have hcr : wr.cell? ⟨w.heap.size, k, none⟩ = some (.bool false) := by rw [World.rowIs.cell R hlt]; unfold cutC; simp
      have hf := World.rowIs.frozen R
      have st := Lib.hid (fun v (hv : v = (fun j => tb x j != tb y j) k) j (hj : j < n) => (show (if j = k then Value.bool v else cutC (fun j => tb x j != tb y j) k j) = cutC (fun j => tb x j != tb y j) (k + 1) j from by
        by_cases hj1 : j = k
        · subst hj1; rw [if_pos rfl, hv]; unfold cutC; simp
        · rw [if_neg hj1]; unfold cutC; congr 2; rw [Bool.eq_iff_iff]; simp; omega))
      have hh : (tb x k != tb y k) = (fun j => tb x j != tb y j) k := rfl
      clear hc hc2
      obtain ⟨bx, hbx⟩ : ∃ bk, tb x k = bk := ⟨_, rfl⟩
      obtain ⟨by', hby⟩ : ∃ bk, tb y k = bk := ⟨_, rfl⟩
      rw [hbx] at hck hh
      rw [hby] at hck2 hh
      clear hbx hby
      replace hh := Lib.hid hh
      cases bx <;> cases by'
      all_goals
        go_wp2_with fail
        first | (go_region) | skip
        try go_wp2_with fail
        go_roundw
        case rel => exact ⟨k + 1, by omega, by go_num, World.rowIs.congr (World.rowIs.set R k _) fun j hj => st.out _ (by rw [← hh.out]; rfl) j hj, by go_grown⟩
        case measure => simp [intOf]; omega
    · obtain rfl : k = n := by omega
      have R2 := Lib.hid (RA_row (x := (x ^^^ y)) (h := (fun j => tb x j != tb y j)) (World.rowIs.congr R fun j hj => by unfold cutC; simp [hj]) fin.out).rb
      clear R
      go_wp2_with fail
      go_ret2
      exact ⟨_, _, rfl, R2.out, hbw⟩
end Go.Proofs.Ytmgkidfikikjpaa
