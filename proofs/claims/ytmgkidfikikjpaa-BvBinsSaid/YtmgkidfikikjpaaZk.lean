/-
  The walks of the reference's Equal and top.
-/
import Derived.Test.YtmgkidfikikjpaaZj
namespace Go.Proofs.Ytmgkidfikikjpaa
open Go.RowKit
theorem valB_ne (f g : Nat → Bool) (n k : Nat) (hk : k < n) (h : f k ≠ g k) : valB f n ≠ valB g n := fun e => h (by
  have h1 : (valB f n).testBit k = f k := by rw [valB_testBit]; simp [hk]
  have h2 : (valB g n).testBit k = g k := by rw [valB_testBit]; simp [hk]
  rw [← h1, ← h2, e])
set_option maxRecDepth 100000 in
set_option maxHeartbeats 2000000 in
theorem refEqual_ok (n c1 c2 : Nat) (A B : Option Addr) (f g : Nat → Bool) (w : World) (hn : n ≤ 140) (hA : RB w A n f) (hB : RB w B n g) :
    Calls Try.prog 22 #[.slice A n c1, .slice B n c2] w (RV w (.bool (decide (valB f n = valB g n)))) := by
  have n0 : ((n : Int) != (n : Int)) = false := by simp
  replace hA := Lib.hid hA
  replace hB := Lib.hid hB
  go_enter Try.func22, Try.ntmps22
  go_wp2
  go_loopw [5] (fun i wr => ∃ k : Nat, k ≤ n ∧ i = .int .i64 (k : Int) ∧ (∀ j, j < k → f j = g j) ∧ Below w.heap.size w wr) (fun i _ => n - (intOf i).toNat)
  case atStart => exact ⟨0, Nat.zero_le _, rfl, fun j h => absurd h (by omega), by go_grown⟩
  case round =>
    obtain ⟨k, hk, rfl, hab, hbw⟩ := hrel
    replace hab := Lib.hid hab
    clear n0
    by_cases hlt : k < n
    · obtain ⟨b, off, rfl, hb, hcs⟩ := (hA.out.keep hbw) (by omega)
      obtain ⟨b2, off2, rfl, hb2, hcs2⟩ := (hB.out.keep hbw) (by omega)
      have hck := hcs k hlt
      have hck2 := hcs2 k hlt
      clear hcs hcs2
      have hne := Lib.hid (fun (h : f k ≠ g k) => valB_ne f g n k hlt h)
      have heq := Lib.hid (fun (h : f k = g k) (j : Nat) (h2 : j < k + 1) => (show f j = g j from if h3 : j = k then by rw [h3]; exact h else hab.out j (by omega)))
      clear hab
      generalize f k = bx at hck hne heq
      generalize g k = bz at hck2 hne heq
      by_cases hxz : bx = bz
      · subst hxz
        have heq2 := Lib.hid (heq.out rfl)
        have qq : (bx != bx) = false := by simp
        clear hne heq
        go_wp2_with fail
        go_quiet (fail)
        have hbn := below_drewN hbw nq
        go_wp2_with fail
        go_roundw
        case rel => exact ⟨k + 1, by omega, by go_num, heq2.out, hbn⟩
        case measure => simp [intOf] <;> omega
      · have e := Lib.hid (show decide (valB f n = valB g n) = false from decide_eq_false (hne.out hxz))
        have qq : (bx != bz) = true := by simpa using hxz
        have qq2 : (bx == bz) = false := by simpa using hxz
        clear hne heq hxz
        go_wp2_with fail
        go_quiet (fail)
        have hbn := below_drewN hbw nq
        go_wp2_with fail
        go_ret
        exact ⟨by rw [e.out]; rfl, hbn⟩
    · obtain rfl : k = n := by omega
      have e := Lib.hid (show decide (valB f k = valB g k) = true from decide_eq_true (valB_congr k hab.out))
      clear hab
      go_wp2_with fail
      go_ret
      exact ⟨by rw [e.out]; rfl, hbw⟩
set_option maxHeartbeats 400000 in
theorem refEqual_ne (n m c1 c2 : Nat) (A B : Option Addr) (w : World) (h : n ≠ m) :
    Calls Try.prog 22 #[.slice A n c1, .slice B m c2] w (RV w (.bool false)) := by
  have n0 : ((n : Int) != (m : Int)) = true := by simp; omega
  have n1 : ((n : Int) == (m : Int)) = false := by simp; omega
  clear h
  go_enter Try.func22, Try.ntmps22
  go_wp2
  go_ret
  exact ⟨rfl, by go_grown⟩
set_option maxHeartbeats 400000 in
theorem refTop_ok (n c : Nat) (A : Option Addr) (f : Nat → Bool) (w : World) (h1 : 1 ≤ n) (hn : n ≤ 140) (hA : RB w A n f) :
    Calls Try.prog 39 #[.slice A n c] w fun e w' => e = .returned (.bool (f (n - 1))) ∧ w' = w := by
  obtain ⟨b, off, rfl, hb, hcs⟩ := hA (by omega)
  obtain ⟨q, rfl⟩ : ∃ q, n = q + 1 := ⟨n - 1, by omega⟩
  have hck := hcs q (by omega)
  have e1 : ((q + 1 : Nat) : Int) - 1 = (q : Int) := by omega
  have e2 : q + 1 - 1 = q := by omega
  rw [e2]
  clear hcs h1 e2
  generalize f q = bq at hck ⊢
  go_enter Try.func39, Try.ntmps39
  go_wp2
  go_ret
  exact ⟨rfl, rfl⟩
end Go.Proofs.Ytmgkidfikikjpaa
