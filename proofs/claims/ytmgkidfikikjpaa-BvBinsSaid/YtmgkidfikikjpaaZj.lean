/-
  The walks of the reference's Less, Equal and times.
-/
import Derived.Test.YtmgkidfikikjpaaZi
namespace Go.Proofs.Ytmgkidfikikjpaa
open Go.RowKit
set_option maxRecDepth 100000 in
set_option maxHeartbeats 2000000 in
theorem refLess_ok (n c1 c2 : Nat) (A B : Option Addr) (f g : Nat → Bool) (w : World) (hn : n ≤ 140) (hA : RB w A n f) (hB : RB w B n g) :
    Calls Try.prog 41 #[.slice A n c1, .slice B n c2] w (RV w (.bool (decide (valB f n < valB g n)))) := by
  replace hA := Lib.hid hA
  replace hB := Lib.hid hB
  go_enter Try.func41, Try.ntmps41
  go_wp2
  go_loopw [5] (fun i wr => ∃ r : Nat, r ≤ n ∧ ((r = 0 ∧ i = .int .i64 (-1)) ∨ ∃ s : Nat, r = s + 1 ∧ i = .int .i64 (s : Int)) ∧ (∀ j, r ≤ j → j < n → f j = g j) ∧ Below w.heap.size w wr) (fun i _ => (intOf i + 1).toNat)
  case atStart =>
    refine ⟨n, Nat.le_refl _, ?_, fun j h1 h2 => absurd h1 (by omega), by go_grown⟩
    rcases Nat.eq_zero_or_pos n with h | h
    · exact .inl ⟨h, by rw [h]; rfl⟩
    · exact .inr ⟨n - 1, by omega, by congr 1; omega⟩
  case round =>
    obtain ⟨r, hr, hc, hab, hbw⟩ := hrel
    replace hab := Lib.hid hab
    rcases hc with ⟨rfl, rfl⟩ | ⟨s, rfl, rfl⟩
    · have e := Lib.hid (show decide (valB f n < valB g n) = false by rw [valB_congr n fun j hj => hab.out j (Nat.zero_le _) hj]; simp)
      clear hab
      go_wp2
      go_ret
      exact ⟨by rw [e.out]; rfl, hbw⟩
    · obtain ⟨b, off, rfl, hb, hcs⟩ := (hA.out.keep hbw) (by omega)
      obtain ⟨b2, off2, rfl, hb2, hcs2⟩ := (hB.out.keep hbw) (by omega)
      have hck := hcs s (by omega)
      have hck2 := hcs2 s (by omega)
      have hsn : (s : Int) < (n : Int) := by omega
      have hnx : ((s = 0 ∧ Value.int .i64 ((s : Int) - 1) = Value.int .i64 (-1)) ∨ ∃ s' : Nat, s = s' + 1 ∧ Value.int .i64 ((s : Int) - 1) = Value.int .i64 (s' : Int)) := by
        rcases Nat.eq_zero_or_pos s with h | h
        · exact .inl ⟨h, by rw [h]; rfl⟩
        · exact .inr ⟨s - 1, by omega, by congr 1; omega⟩
      replace hnx := Lib.hid hnx
      clear hcs hcs2
      have hlt := Lib.hid (fun (h : f s ≠ g s) => less_top f g n s (by omega) (fun j h1 h2 => hab.out j (by omega) h2) h)
      have heq := Lib.hid (fun (h : f s = g s) (j : Nat) (h1 : s ≤ j) (h2 : j < n) => (show f j = g j from if h3 : j = s then by rw [h3]; exact h else hab.out j (by omega) h2))
      clear hab
      generalize f s = bx at hck hlt heq
      generalize g s = bz at hck2 hlt heq
      by_cases hxz : bx = bz
      · subst hxz
        have heq2 := Lib.hid (heq.out rfl)
        have qq : (bx != bx) = false := by simp
        clear hlt heq
        go_wp2_with fail
        go_quiet (fail)
        have hbn := below_drewN hbw nq
        go_wp2_with fail
        go_roundw
        case rel => exact ⟨s, by omega, hnx.out, heq2.out, hbn⟩
        case measure => simp [intOf] <;> omega
      · have e := Lib.hid (hlt.out hxz)
        have qq : (bx != bz) = true := by simpa using hxz
        have qq2 : (bx == bz) = false := by simpa using hxz
        clear hlt heq hxz
        go_wp2_with fail
        go_quiet (fail)
        have hbn := below_drewN hbw nq
        go_wp2_with fail
        go_ret
        exact ⟨by rw [e.out]; rfl, hbn⟩
/-- The number, shifted up. -/
theorem mv_up (f : Nat → Bool) (n k : Nat) : valB (mvB f n (k : Int) false) n = valB f n * 2 ^ k % 2 ^ n := by
  refine Nat.eq_of_testBit_eq fun j => ?_
  rw [valB_testBit, Nat.testBit_mod_two_pow, Nat.mul_comm, Nat.testBit_two_pow_mul, valB_testBit]
  by_cases hj : j < n
  · simp only [hj, decide_true, Bool.true_and]
    unfold mvB
    by_cases h : k ≤ j
    · rw [if_pos (by omega)]
      have e : ((j : Int) - (k : Int)).toNat = j - k := by omega
      rw [e]
      have : j - k < n := by omega
      simp [h, this]
    · rw [if_neg (by omega)]
      simp [h]
  · simp [hj]
theorem times_step (x y n k : Nat) (b : Bool) (h : y % 2 ^ (k + 1) = y % 2 ^ k + b.toNat * 2 ^ k) : (x * (y % 2 ^ (k + 1))) % 2 ^ n = ((x * (y % 2 ^ k)) % 2 ^ n + b.toNat * (x * 2 ^ k % 2 ^ n)) % 2 ^ n := by
  rw [h, Nat.mul_add]
  cases b
  · simp
  · simp only [Bool.toNat_true, Nat.one_mul]
    rw [← Nat.add_mod]
theorem valB_mod (f : Nat → Bool) (n k : Nat) (h : k ≤ n) : valB f n % 2 ^ k = valB f k := by
  refine Nat.eq_of_testBit_eq fun j => ?_
  rw [Nat.testBit_mod_two_pow, valB_testBit, valB_testBit]
  by_cases hj : j < k
  · have : j < n := by omega
    simp [hj, this]
  · simp [hj]
set_option maxRecDepth 100000 in
set_option maxHeartbeats 2000000 in
theorem refTimes_ok (n c1 c2 : Nat) (A B : Option Addr) (f g : Nat → Bool) (w : World) (hn : n ≤ 140) (hA : RB w A n f) (hB : RB w B n g) :
    Calls Try.prog 35 #[.slice A n c1, .slice B n c2] w fun e w' => ∃ h, valB h n = valB f n * valB g n % 2 ^ n ∧ GS w n h e w' := by
  have hmk := run_make_row' 22 4 (.bool false) 1 Try.underlying22 info_bool rfl .i64 .i64 n (by omega) (by omega)
  have R0 := Lib.hid (RB_zero w n)
  have cM := Lib.hid (fun w (k : Nat) (hk : k < n) (h : RB w A n f) => refMove_ok n c1 A f (k : Int) false w hn (by omega) (by omega) h)
  have cP := Lib.hid (fun w d1 d2 A1 A2 h1 h2 (hA1 : RB w A1 n h1) (hA2 : RB w A2 n h2) => refPlus_ok n d1 n d2 A1 A2 h1 h2 false w hn (Nat.le_refl _) hA1 hA2)
  replace hA := Lib.hid hA
  replace hB := Lib.hid hB
  go_enter Try.func35, Try.ntmps35
  go_wp2_with fail
  go_loopw [5, 6] (fun o i wr => ∃ k : Nat, k ≤ n ∧ i = .int .i64 (k : Int) ∧ (∃ Ao co h, o = .slice Ao n co ∧ RB wr Ao n h ∧ valB h n = valB f n * valB g k % 2 ^ n) ∧ Below w.heap.size w wr) (fun _ i _ => n - (intOf i).toNat)
  case atStart => exact ⟨0, Nat.zero_le _, rfl, ⟨_, _, _, rfl, R0.out, by rw [valB_none]; simp [valB]⟩, by go_grown⟩
  case round =>
    obtain ⟨k, hk, rfl, ⟨Ao, co, h, rfl, Ro, hv⟩, hbw⟩ := hrel
    clear R0 hmk
    replace Ro := Lib.hid Ro
    by_cases hlt : k < n
    · obtain ⟨b2, off2, rfl, hb2, hcs2⟩ := (hB.out.keep hbw) (by omega)
      have hck2 := hcs2 k hlt
      clear hcs2
      have hst := times_step (valB f n) (valB g n) n k (g k) (by rw [valB_mod g n (k + 1) (by omega), valB_mod g n k (by omega)]; rfl)
      rw [valB_mod g n (k + 1) (by omega), valB_mod g n k (by omega), ← hv] at hst
      clear hv
      cases hg : g k with
      | false =>
        rw [hg] at hck2 hst
        have h1 : valB h n = valB f n * valB g (k + 1) % 2 ^ n := by
          rw [hst]; simp [Nat.mod_eq_of_lt (valB_lt h n)]
        replace h1 := Lib.hid h1
        clear hst hg
        go_wp2_with fail
        go_roundw
        case rel => exact ⟨k + 1, by omega, by go_num, ⟨_, _, _, rfl, Ro.out, h1.out⟩, hbw⟩
        case measure => simp [intOf]; omega
      | true =>
        rw [hg] at hck2 hst
        have h1 : valB (smB h (mvB f n (k : Int) false) false) n = valB f n * valB g (k + 1) % 2 ^ n := by
          rw [plus_val, mv_up f n k, hst]; simp
        replace h1 := Lib.hid h1
        clear hst hg
        go_wp2_with fail
        (with_reducible refine (cM.out _ k hlt (hA.out.keep hbw)).mono ?_)
        rintro e w1 ⟨A1, d1, rfl, R1, hb1⟩
        have hbw1 : Below w.heap.size w w1 := below_call hb1 hbw
        have Ro1 := Ro.out.keep hb1
        clear hb1 hbw Ro
        go_wp2_with fail
        (with_reducible refine (cP.out _ _ _ _ _ _ _ Ro1 R1).mono ?_)
        rintro e w2 ⟨A2, d2, rfl, R2, hb2'⟩
        have hbw2 : Below w.heap.size w w2 := below_call hb2' hbw1
        clear hb2' hbw1 Ro1 R1
        replace R2 := Lib.hid R2
        go_wp2_with fail
        go_roundw
        case rel => exact ⟨k + 1, by omega, by go_num, ⟨_, _, _, rfl, R2.out, h1.out⟩, hbw2⟩
        case measure => simp [intOf]; omega
    · obtain rfl : k = n := by omega
      replace hv := Lib.hid hv
      go_wp2_with fail
      go_ret
      exact ⟨h, hv.out, _, _, rfl, Ro.out, hbw⟩
end Go.Proofs.Ytmgkidfikikjpaa
