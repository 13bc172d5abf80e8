/-
  The walks of the statements' own short and Own; a vector made of no words.
-/
import Derived.Test.YtalmhopbnaeamaaGreatDoorWu
import Derived.Test.YtalmhopbnaeamaaGreatDoorAw
namespace Go.Proofs.YtalmhopbnaeamaaGreatDoor
open Go.RowKit
set_option maxHeartbeats 400000 in
theorem Own_ok (n c : Nat) (A : Option Addr) (f : Nat → Bool) (w : World) (h1 : 1 ≤ n) (hn : n ≤ 128) (hA : RB w A n f) :
    Calls Tryz.prog 41 #[.slice A n c] w (RV w (vv n (valB f n))) := by
  have hC := Lib.hid (fun w (h : RB w A n f) => Of_ok n c A f w h1 hn h)
  replace hA := Lib.hid hA
  go_enter Tryz.func41, Tryz.ntmps41
  go_wp2_with (go_at_call 65; refine (hC.out _ ?_).mono ?_; exact hA.out.keep (by go_grown); rintro e w1 ⟨rfl, hb1⟩; have Z1 := ((HV.zero w 26).over hb1); have hbw1 : Below w.heap.size w w1 := below_call hb1 (by go_grown); have z1 := Z1.all; have l1 := Z1.lt; have s1 := hbw1.size; clear hb1)
  refine bodyPost_ret (v := vv n (valB f n)) (by simp [results, Tryz.results41, go_sem, z1, l1]) rfl ⟨rfl, ?_⟩
  go_grown
theorem New_none (n : Nat) (w : World) (h1 : 1 ≤ n) (hn : n ≤ 128) :
    Calls Tryz.prog 44 #[.int .i64 (n : Int), .slice none 0 0] w (RV w (.tuple #[vv n 0, .int .i64 0])) := by
  have h := New_ok n 0 0 none (fun _ => 0) w h1 hn (fun h => absurd h (by omega)) (fun j h => absurd h (by omega))
  have e : trimN n (wd (fun _ => 0) 0 0) (wd (fun _ => 0) 0 1) = 0 := by unfold trimN wd; simp
  rw [e] at h
  exact h
end Go.Proofs.YtalmhopbnaeamaaGreatDoor
