/-
  The walks of the reference's Less, Equal and Move.
  The walks of the reference's Less, Equal and times.
  The walks of the reference's Equal and top.
-/
import Derived.Test.YtmgkidfikikjpaaZb
import Derived.BigQuiet
namespace Go.Proofs.Ytmgkidfikikjpaa
open Go.RowKit
theorem less_above (f g : Nat → Bool) (r : Nat) : ∀ d, (∀ j, r ≤ j → j < r + d → f j = g j) → ((valB f (r + d) < valB g (r + d)) ↔ (valB f r < valB g r))
  | 0, _ => Iff.rfl
  | d + 1, h => by
    have ih := less_above f g r d fun j h1 h2 => h j h1 (by omega)
    have e := h (r + d) (by omega) (by omega)
    show (valB f (r + d) + (f (r + d)).toNat * 2 ^ (r + d) < valB g (r + d) + (g (r + d)).toNat * 2 ^ (r + d)) ↔ _
    rw [e, Nat.add_lt_add_iff_right]
    exact ih
theorem less_at (f g : Nat → Bool) (r : Nat) (h : f r ≠ g r) : (valB f (r + 1) < valB g (r + 1)) ↔ g r = true := by
  have h1 := valB_lt f r
  have h2 := valB_lt g r
  simp only [valB]
  cases hf : f r <;> cases hg : g r <;> rw [hf, hg] at h <;> simp at h ⊢ <;> omega
theorem less_top (f g : Nat → Bool) (n r : Nat) (hr : r < n) (ha : ∀ j, r < j → j < n → f j = g j) (h : f r ≠ g r) : decide (valB f n < valB g n) = g r := by
  have e := less_above f g (r + 1) (n - (r + 1)) fun j h1 h2 => ha j (by omega) (by omega)
  rw [show r + 1 + (n - (r + 1)) = n by omega, less_at f g r h] at e
  rw [Bool.eq_iff_iff]; simp; exact e
theorem valB_congr {f g : Nat → Bool} : ∀ n, (∀ j, j < n → f j = g j) → valB f n = valB g n
  | 0, _ => rfl
  | n + 1, h => by
    simp only [valB]
    rw [valB_congr n fun j hj => h j (by omega), h n (by omega)]
def mvB (f : Nat → Bool) (n : Nat) (t : Int) (b : Bool) (j : Nat) : Bool := if 0 ≤ (j : Int) - t ∧ (j : Int) - t < (n : Int) then f ((j : Int) - t).toNat else b
def mvC (f : Nat → Bool) (n : Nat) (t : Int) (b : Bool) (k j : Nat) : Value := .bool (decide (j < k) && mvB f n t b j)
set_option maxRecDepth 100000 in
set_option maxHeartbeats 2000000 in
theorem refMove_ok (n c : Nat) (A : Option Addr) (f : Nat → Bool) (t : Int) (b : Bool) (w : World) (hn : n ≤ 140) (t1 : -1000 ≤ t) (t2 : t ≤ 1000) (hA : RB w A n f) :
    Calls Try.prog 38 #[.slice A n c, .int .i64 t, .bool b] w (GS w n (mvB f n t b)) := by
  have hmk := run_make_row' 22 4 (.bool false) 1 Try.underlying22 info_bool rfl .i64 .i64 n (by omega) (by omega)
  have R0 := Lib.hid (World.rowIs_made w (.bool false) n 4)
  replace hA := Lib.hid hA
  go_enter Try.func38, Try.ntmps38
  go_wp2
  go_loopw [8] (fun i wr => ∃ k : Nat, k ≤ n ∧ i = .int .i64 (k : Int) ∧ wr.rowIs w.heap.size 4 n (mvC f n t b k) ∧ Below w.heap.size w wr) (fun i _ => n - (intOf i).toNat)
  case atStart => exact ⟨0, Nat.zero_le _, rfl, World.rowIs.congr R0.out fun j hj => by unfold mvC; simp, by go_grown⟩
  case round =>
    obtain ⟨k, hk, rfl, R, hbw⟩ := hrel
    clear R0 hmk
    by_cases hlt : k < n
    · have hcr : wr.cell? ⟨w.heap.size, k, none⟩ = some (.bool false) := by rw [World.rowIs.cell R hlt]; unfold mvC; simp
      have hf := World.rowIs.frozen R
      have sub : IntKind.i64.wrap ((k : Int) - t) = (k : Int) - t := IntWalk.i64_in _ (by omega)
      by_cases hin : 0 ≤ (k : Int) - t ∧ (k : Int) - t < (n : Int)
      · obtain ⟨q, hq⟩ : ∃ q : Nat, (k : Int) - t = (q : Int) := ⟨((k : Int) - t).toNat, by omega⟩
        have hqn : q < n := by omega
        obtain ⟨bb, off, rfl, hb, hc⟩ := (hA.out.keep hbw) (by omega)
        have hck := hc q hqn
        have hmv : mvB f n t b k = f q := by unfold mvB; rw [if_pos hin, hq]; rfl
        clear hc
        generalize f q = fq at hck hmv
        replace hmv := Lib.hid hmv
        rw [hq] at sub
        have d1 : decide ((q : Int) < (n : Int)) = true := by simp; omega
        have d2 : decide (0 ≤ (q : Int)) = true := by simp
        have hbb : bb ≠ w.heap.size ∨ bb = w.heap.size := by omega
        clear hin
        rcases hA.out (by omega) with ⟨b3, o3, e3, l3, _⟩
        cases e3
        have hne : ¬ bb = w.heap.size := by omega
        have hne2 : ¬ w.heap.size = bb := by omega
        clear hbb
        go_wp2
        go_roundw
        case rel =>
          refine ⟨k + 1, by omega, by go_num, World.rowIs.congr (World.rowIs.set (World.rowIs.set R k _) k _) fun j hj => ?_, (hbw.setCell (by simp) _).setCell (by simp) _⟩
          by_cases hj1 : j = k
          · subst hj1; rw [if_pos rfl]; unfold mvC; simp [hmv.out]
          · rw [if_neg hj1, if_neg hj1]; unfold mvC
            congr 2
            rw [Bool.eq_iff_iff]; simp; omega
        case measure => simp [intOf]; omega
      · have hmv := Lib.hid (show mvB f n t b k = b by unfold mvB; rw [if_neg hin])
        have hcs : (k : Int) - t < 0 ∨ (0 ≤ (k : Int) - t ∧ (n : Int) ≤ (k : Int) - t) := by omega
        clear hin
        rcases hcs with h1 | ⟨h1, h2⟩
        · have d2 : decide (0 ≤ (k : Int) - t) = false := by simp; omega
          have d3 : ¬ t ≤ (k : Int) := by omega
          have d4 : decide (t ≤ (k : Int)) = false := by simp; omega
          go_wp2
          go_roundw
          case rel =>
            refine ⟨k + 1, by omega, by go_num, World.rowIs.congr (World.rowIs.set R k _) fun j hj => ?_, hbw.setCell (by simp) _⟩
            by_cases hj1 : j = k
            · subst hj1; rw [if_pos rfl]; unfold mvC; simp [hmv.out]
            · rw [if_neg hj1]; unfold mvC
              congr 2
              rw [Bool.eq_iff_iff]; simp; omega
          case measure => simp [intOf]; omega
        · have d2 : decide (0 ≤ (k : Int) - t) = true := by simp; omega
          have d1 : decide ((k : Int) - t < (n : Int)) = false := by simp; omega
          have d3 : t ≤ (k : Int) := by omega
          have d4 : decide (t ≤ (k : Int)) = true := by simp; omega
          go_wp2
          go_roundw
          case rel =>
            refine ⟨k + 1, by omega, by go_num, World.rowIs.congr (World.rowIs.set R k _) fun j hj => ?_, hbw.setCell (by simp) _⟩
            by_cases hj1 : j = k
            · subst hj1; rw [if_pos rfl]; unfold mvC; simp [hmv.out]
            · rw [if_neg hj1]; unfold mvC
              congr 2
              rw [Bool.eq_iff_iff]; simp; omega
          case measure => simp [intOf]; omega
    · obtain rfl : k = n := by omega
      have R2 := RB_row (h := mvB f k t b) (World.rowIs.congr R fun j hj => by unfold mvC; simp [hj])
      replace R2 := Lib.hid R2
      clear R
      go_wp2
      go_ret
      exact ⟨_, _, rfl, R2.out, hbw⟩
end Go.Proofs.Ytmgkidfikikjpaa
namespace Go.Proofs.Ytmgkidfikikjpaa
open Go.RowKit
set_option maxRecDepth 100000 in
set_option maxHeartbeats 2000000 in
theorem refLess_ok (n c1 c2 : Nat) (A B : Option Addr) (f g : Nat → Bool) (w : World) (hn : n ≤ 140) (hA : RB w A n f) (hB : RB w B n g) :
    Calls Try.prog 41 #[.slice A n c1, .slice B n c2] w (RV w (.bool (decide (valB f n < valB g n)))) := by
  replace hA := Lib.hid hA
  replace hB := Lib.hid hB
  go_enter Try.func41, Try.ntmps41
  go_wp2
  go_loopw [5] (fun i wr => ∃ r : Nat, r ≤ n ∧ ((r = 0 ∧ i = .int .i64 (-1)) ∨ ∃ s : Nat, r = s + 1 ∧ i = .int .i64 (s : Int)) ∧ (∀ j, r ≤ j → j < n → f j = g j) ∧ Below w.heap.size w wr) (fun i _ => (intOf i + 1).toNat)
  case atStart =>
    refine ⟨n, Nat.le_refl _, ?_, fun j h1 h2 => absurd h1 (by omega), by go_grown⟩
    rcases Nat.eq_zero_or_pos n with h | h
    · exact .inl ⟨h, by rw [h]; rfl⟩
    · exact .inr ⟨n - 1, by omega, by congr 1; omega⟩
  case round =>
    obtain ⟨r, hr, hc, hab, hbw⟩ := hrel
    replace hab := Lib.hid hab
    rcases hc with ⟨rfl, rfl⟩ | ⟨s, rfl, rfl⟩
    · have e := Lib.hid (show decide (valB f n < valB g n) = false by rw [valB_congr n fun j hj => hab.out j (Nat.zero_le _) hj]; simp)
      clear hab
      go_wp2
      go_ret
      exact ⟨by rw [e.out]; rfl, hbw⟩
    · obtain ⟨b, off, rfl, hb, hcs⟩ := (hA.out.keep hbw) (by omega)
      obtain ⟨b2, off2, rfl, hb2, hcs2⟩ := (hB.out.keep hbw) (by omega)
      have hck := hcs s (by omega)
      have hck2 := hcs2 s (by omega)
      have hsn : (s : Int) < (n : Int) := by omega
      have hnx : ((s = 0 ∧ Value.int .i64 ((s : Int) - 1) = Value.int .i64 (-1)) ∨ ∃ s' : Nat, s = s' + 1 ∧ Value.int .i64 ((s : Int) - 1) = Value.int .i64 (s' : Int)) := by
        rcases Nat.eq_zero_or_pos s with h | h
        · exact .inl ⟨h, by rw [h]; rfl⟩
        · exact .inr ⟨s - 1, by omega, by congr 1; omega⟩
      replace hnx := Lib.hid hnx
      clear hcs hcs2
      have hlt := Lib.hid (fun (h : f s ≠ g s) => less_top f g n s (by omega) (fun j h1 h2 => hab.out j (by omega) h2) h)
      have heq := Lib.hid (fun (h : f s = g s) (j : Nat) (h1 : s ≤ j) (h2 : j < n) => (show f j = g j from if h3 : j = s then by rw [h3]; exact h else hab.out j (by omega) h2))
      clear hab
      generalize f s = bx at hck hlt heq
      generalize g s = bz at hck2 hlt heq
      by_cases hxz : bx = bz
      · subst hxz
        have heq2 := Lib.hid (heq.out rfl)
        have qq : (bx != bx) = false := by simp
        clear hlt heq
        go_wp2_with fail
        go_quiet (fail)
        have hbn := below_drewN hbw nq
        go_wp2_with fail
        go_roundw
        case rel => exact ⟨s, by omega, hnx.out, heq2.out, hbn⟩
        case measure => simp [intOf] <;> omega
      · have e := Lib.hid (hlt.out hxz)
        have qq : (bx != bz) = true := by simpa using hxz
        have qq2 : (bx == bz) = false := by simpa using hxz
        clear hlt heq hxz
        go_wp2_with fail
        go_quiet (fail)
        have hbn := below_drewN hbw nq
        go_wp2_with fail
        go_ret
        exact ⟨by rw [e.out]; rfl, hbn⟩
/-- The number, shifted up. -/
theorem mv_up (f : Nat → Bool) (n k : Nat) : valB (mvB f n (k : Int) false) n = valB f n * 2 ^ k % 2 ^ n := by
  refine Nat.eq_of_testBit_eq fun j => ?_
  rw [valB_testBit, Nat.testBit_mod_two_pow, Nat.mul_comm, Nat.testBit_two_pow_mul, valB_testBit]
  by_cases hj : j < n
  · simp only [hj, decide_true, Bool.true_and]
    unfold mvB
    by_cases h : k ≤ j
    · rw [if_pos (by omega)]
      have e : ((j : Int) - (k : Int)).toNat = j - k := by omega
      rw [e]
      have : j - k < n := by omega
      simp [h, this]
    · rw [if_neg (by omega)]
      simp [h]
  · simp [hj]
theorem times_step (x y n k : Nat) (b : Bool) (h : y % 2 ^ (k + 1) = y % 2 ^ k + b.toNat * 2 ^ k) : (x * (y % 2 ^ (k + 1))) % 2 ^ n = ((x * (y % 2 ^ k)) % 2 ^ n + b.toNat * (x * 2 ^ k % 2 ^ n)) % 2 ^ n := by
  rw [h, Nat.mul_add]
  cases b
  · simp
  · simp only [Bool.toNat_true, Nat.one_mul]
    rw [← Nat.add_mod]
theorem valB_mod (f : Nat → Bool) (n k : Nat) (h : k ≤ n) : valB f n % 2 ^ k = valB f k := by
  refine Nat.eq_of_testBit_eq fun j => ?_
  rw [Nat.testBit_mod_two_pow, valB_testBit, valB_testBit]
  by_cases hj : j < k
  · have : j < n := by omega
    simp [hj, this]
  · simp [hj]
set_option maxRecDepth 100000 in
set_option maxHeartbeats 2000000 in
theorem refTimes_ok (n c1 c2 : Nat) (A B : Option Addr) (f g : Nat → Bool) (w : World) (hn : n ≤ 140) (hA : RB w A n f) (hB : RB w B n g) :
    Calls Try.prog 35 #[.slice A n c1, .slice B n c2] w fun e w' => ∃ h, valB h n = valB f n * valB g n % 2 ^ n ∧ GS w n h e w' := by
  have hmk := run_make_row' 22 4 (.bool false) 1 Try.underlying22 info_bool rfl .i64 .i64 n (by omega) (by omega)
  have R0 := Lib.hid (RB_zero w n)
  have cM := Lib.hid (fun w (k : Nat) (hk : k < n) (h : RB w A n f) => refMove_ok n c1 A f (k : Int) false w hn (by omega) (by omega) h)
  have cP := Lib.hid (fun w d1 d2 A1 A2 h1 h2 (hA1 : RB w A1 n h1) (hA2 : RB w A2 n h2) => refPlus_ok n d1 n d2 A1 A2 h1 h2 false w hn (Nat.le_refl _) hA1 hA2)
  replace hA := Lib.hid hA
  replace hB := Lib.hid hB
  go_enter Try.func35, Try.ntmps35
  go_wp2_with fail
  go_loopw [5, 6] (fun o i wr => ∃ k : Nat, k ≤ n ∧ i = .int .i64 (k : Int) ∧ (∃ Ao co h, o = .slice Ao n co ∧ RB wr Ao n h ∧ valB h n = valB f n * valB g k % 2 ^ n) ∧ Below w.heap.size w wr) (fun _ i _ => n - (intOf i).toNat)
  case atStart => exact ⟨0, Nat.zero_le _, rfl, ⟨_, _, _, rfl, R0.out, by rw [valB_none]; simp [valB]⟩, by go_grown⟩
  case round =>
    obtain ⟨k, hk, rfl, ⟨Ao, co, h, rfl, Ro, hv⟩, hbw⟩ := hrel
    clear R0 hmk
    replace Ro := Lib.hid Ro
    by_cases hlt : k < n
    · obtain ⟨b2, off2, rfl, hb2, hcs2⟩ := (hB.out.keep hbw) (by omega)
      have hck2 := hcs2 k hlt
      clear hcs2
      have hst := times_step (valB f n) (valB g n) n k (g k) (by rw [valB_mod g n (k + 1) (by omega), valB_mod g n k (by omega)]; rfl)
      rw [valB_mod g n (k + 1) (by omega), valB_mod g n k (by omega), ← hv] at hst
      clear hv
      cases hg : g k with
      | false =>
        rw [hg] at hck2 hst
        have h1 : valB h n = valB f n * valB g (k + 1) % 2 ^ n := by
          rw [hst]; simp [Nat.mod_eq_of_lt (valB_lt h n)]
        replace h1 := Lib.hid h1
        clear hst hg
        go_wp2_with fail
        go_roundw
        case rel => exact ⟨k + 1, by omega, by go_num, ⟨_, _, _, rfl, Ro.out, h1.out⟩, hbw⟩
        case measure => simp [intOf]; omega
      | true =>
        rw [hg] at hck2 hst
        have h1 : valB (smB h (mvB f n (k : Int) false) false) n = valB f n * valB g (k + 1) % 2 ^ n := by
          rw [plus_val, mv_up f n k, hst]; simp
        replace h1 := Lib.hid h1
        clear hst hg
        go_wp2_with fail
        (with_reducible refine (cM.out _ k hlt (hA.out.keep hbw)).mono ?_)
        rintro e w1 ⟨A1, d1, rfl, R1, hb1⟩
        have hbw1 : Below w.heap.size w w1 := below_call hb1 hbw
        have Ro1 := Ro.out.keep hb1
        clear hb1 hbw Ro
        go_wp2_with fail
        (with_reducible refine (cP.out _ _ _ _ _ _ _ Ro1 R1).mono ?_)
        rintro e w2 ⟨A2, d2, rfl, R2, hb2'⟩
        have hbw2 : Below w.heap.size w w2 := below_call hb2' hbw1
        clear hb2' hbw1 Ro1 R1
        replace R2 := Lib.hid R2
        go_wp2_with fail
        go_roundw
        case rel => exact ⟨k + 1, by omega, by go_num, ⟨_, _, _, rfl, R2.out, h1.out⟩, hbw2⟩
        case measure => simp [intOf]; omega
    · obtain rfl : k = n := by omega
      replace hv := Lib.hid hv
      go_wp2_with fail
      go_ret
      exact ⟨h, hv.out, _, _, rfl, Ro.out, hbw⟩
end Go.Proofs.Ytmgkidfikikjpaa
namespace Go.Proofs.Ytmgkidfikikjpaa
open Go.RowKit
theorem valB_ne (f g : Nat → Bool) (n k : Nat) (hk : k < n) (h : f k ≠ g k) : valB f n ≠ valB g n := fun e => h (by
  have h1 : (valB f n).testBit k = f k := by rw [valB_testBit]; simp [hk]
  have h2 : (valB g n).testBit k = g k := by rw [valB_testBit]; simp [hk]
  rw [← h1, ← h2, e])
set_option maxRecDepth 100000 in
set_option maxHeartbeats 2000000 in
theorem refEqual_ok (n c1 c2 : Nat) (A B : Option Addr) (f g : Nat → Bool) (w : World) (hn : n ≤ 140) (hA : RB w A n f) (hB : RB w B n g) :
    Calls Try.prog 22 #[.slice A n c1, .slice B n c2] w (RV w (.bool (decide (valB f n = valB g n)))) := by
  have n0 : ((n : Int) != (n : Int)) = false := by simp
  replace hA := Lib.hid hA
  replace hB := Lib.hid hB
  go_enter Try.func22, Try.ntmps22
  go_wp2
  go_loopw [5] (fun i wr => ∃ k : Nat, k ≤ n ∧ i = .int .i64 (k : Int) ∧ (∀ j, j < k → f j = g j) ∧ Below w.heap.size w wr) (fun i _ => n - (intOf i).toNat)
  case atStart => exact ⟨0, Nat.zero_le _, rfl, fun j h => absurd h (by omega), by go_grown⟩
  case round =>
    obtain ⟨k, hk, rfl, hab, hbw⟩ := hrel
    replace hab := Lib.hid hab
    clear n0
    by_cases hlt : k < n
    · obtain ⟨b, off, rfl, hb, hcs⟩ := (hA.out.keep hbw) (by omega)
      obtain ⟨b2, off2, rfl, hb2, hcs2⟩ := (hB.out.keep hbw) (by omega)
      have hck := hcs k hlt
      have hck2 := hcs2 k hlt
      clear hcs hcs2
      have hne := Lib.hid (fun (h : f k ≠ g k) => valB_ne f g n k hlt h)
      have heq := Lib.hid (fun (h : f k = g k) (j : Nat) (h2 : j < k + 1) => (show f j = g j from if h3 : j = k then by rw [h3]; exact h else hab.out j (by omega)))
      clear hab
      generalize f k = bx at hck hne heq
      generalize g k = bz at hck2 hne heq
      by_cases hxz : bx = bz
      · subst hxz
        have heq2 := Lib.hid (heq.out rfl)
        have qq : (bx != bx) = false := by simp
        clear hne heq
        go_wp2_with fail
        go_quiet (fail)
        have hbn := below_drewN hbw nq
        go_wp2_with fail
        go_roundw
        case rel => exact ⟨k + 1, by omega, by go_num, heq2.out, hbn⟩
        case measure => simp [intOf] <;> omega
      · have e := Lib.hid (show decide (valB f n = valB g n) = false from decide_eq_false (hne.out hxz))
        have qq : (bx != bz) = true := by simpa using hxz
        have qq2 : (bx == bz) = false := by simpa using hxz
        clear hne heq hxz
        go_wp2_with fail
        go_quiet (fail)
        have hbn := below_drewN hbw nq
        go_wp2_with fail
        go_ret
        exact ⟨by rw [e.out]; rfl, hbn⟩
    · obtain rfl : k = n := by omega
      have e := Lib.hid (show decide (valB f k = valB g k) = true from decide_eq_true (valB_congr k hab.out))
      clear hab
      go_wp2_with fail
      go_ret
      exact ⟨by rw [e.out]; rfl, hbw⟩
set_option maxHeartbeats 400000 in
theorem refEqual_ne (n m c1 c2 : Nat) (A B : Option Addr) (w : World) (h : n ≠ m) :
    Calls Try.prog 22 #[.slice A n c1, .slice B m c2] w (RV w (.bool false)) := by
  have n0 : ((n : Int) != (m : Int)) = true := by simp; omega
  have n1 : ((n : Int) == (m : Int)) = false := by simp; omega
  clear h
  go_enter Try.func22, Try.ntmps22
  go_wp2
  go_ret
  exact ⟨rfl, by go_grown⟩
set_option maxHeartbeats 400000 in
theorem refTop_ok (n c : Nat) (A : Option Addr) (f : Nat → Bool) (w : World) (h1 : 1 ≤ n) (hn : n ≤ 140) (hA : RB w A n f) :
    Calls Try.prog 39 #[.slice A n c] w fun e w' => e = .returned (.bool (f (n - 1))) ∧ w' = w := by
  obtain ⟨b, off, rfl, hb, hcs⟩ := hA (by omega)
  obtain ⟨q, rfl⟩ : ∃ q, n = q + 1 := ⟨n - 1, by omega⟩
  have hck := hcs q (by omega)
  have e1 : ((q + 1 : Nat) : Int) - 1 = (q : Int) := by omega
  have e2 : q + 1 - 1 = q := by omega
  rw [e2]
  clear hcs h1 e2
  generalize f q = bq at hck ⊢
  go_enter Try.func39, Try.ntmps39
  go_wp2
  go_ret
  exact ⟨rfl, rfl⟩
end Go.Proofs.Ytmgkidfikikjpaa
