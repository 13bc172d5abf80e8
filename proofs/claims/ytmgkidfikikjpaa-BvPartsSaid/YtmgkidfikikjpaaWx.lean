/-
  The walks of the statements' own short and Own; a vector made of no words.
-/
import Derived.Test.YtmgkidfikikjpaaWu
import Derived.Test.YtmgkidfikikjpaaAw
namespace Go.Proofs.Ytmgkidfikikjpaa
open Go.RowKit
set_option maxHeartbeats 400000 in
theorem Own_ok (n c : Nat) (A : Option Addr) (f : Nat → Bool) (w : World) (h1 : 1 ≤ n) (hn : n ≤ 128) (hA : RB w A n f) :
    Calls Try.prog 8 #[.slice A n c] w (RV w (vv n (valB f n))) := by
  have hC := Lib.hid (fun w (h : RB w A n f) => Of_ok n c A f w h1 hn h)
  replace hA := Lib.hid hA
  go_enter Try.func8, Try.ntmps8
  go_wp2_with (go_at_call 25; refine (hC.out _ ?_).mono ?_; exact hA.out.keep (by go_grown); rintro e w1 ⟨rfl, hb1⟩; have Z1 := ((HV.zero w 28).over hb1); have hbw1 : Below w.heap.size w w1 := below_call hb1 (by go_grown); have z1 := Z1.all; have l1 := Z1.lt; have s1 := hbw1.size; clear hb1)
  refine bodyPost_ret (v := vv n (valB f n)) (by simp [results, Try.results8, go_sem, z1, l1]) rfl ⟨rfl, ?_⟩
  go_grown
set_option maxHeartbeats 400000 in
theorem short_le (n c : Nat) (A : Option Addr) (w : World) (hn : n ≤ 140) :
    Calls Try.prog 7 #[.slice A n c] w fun e w' => e = .returned (.slice A n c) ∧ w' = w := by
  have d : ¬ 140 < n := by omega
  go_enter Try.func7, Try.ntmps7
  go_wp2
  go_ret
  exact ⟨rfl, rfl⟩
set_option maxHeartbeats 400000 in
theorem short_gt (n c : Nat) (b off : Nat) (w : World) (hn : 140 < n) (hc : n ≤ c) :
    Calls Try.prog 7 #[.slice (some ⟨b, off, none⟩) n c] w fun e w' => e = .returned (.slice (some ⟨b, off, none⟩) 140 c) ∧ w' = w := by
  go_enter Try.func7, Try.ntmps7
  go_wp2
  go_ret
  exact ⟨rfl, rfl⟩
theorem New_none (n : Nat) (w : World) (h1 : 1 ≤ n) (hn : n ≤ 128) :
    Calls Try.prog 23 #[.int .i64 (n : Int), .slice none 0 0] w (RV w (.tuple #[vv n 0, .int .i64 0])) := by
  have h := New_ok n 0 0 none (fun _ => 0) w h1 hn (fun h => absurd h (by omega)) (fun j h => absurd h (by omega))
  have e : trimN n (wd (fun _ => 0) 0 0) (wd (fun _ => 0) 0 1) = 0 := by unfold trimN wd; simp
  rw [e] at h
  exact h
end Go.Proofs.Ytmgkidfikikjpaa
