/-
  The walks of the statements' own short and Own; a vector made of no words.
-/
import Derived.Test.YtbmdnmjgijblpaaDoorWu
import Derived.Test.YtbmdnmjgijblpaaDoorAw
namespace Go.Proofs.YtbmdnmjgijblpaaDoor
open Go.RowKit
theorem New_none (n : Nat) (w : World) (h1 : 1 ≤ n) (hn : n ≤ 128) :
    Calls Tryd.prog 6 #[.int .i64 (n : Int), .slice none 0 0] w (RV w (.tuple #[vv n 0, .int .i64 0])) := by
  have h := New_ok n 0 0 none (fun _ => 0) w h1 hn (fun h => absurd h (by omega)) (fun j h => absurd h (by omega))
  have e : trimN n (wd (fun _ => 0) 0 0) (wd (fun _ => 0) 0 1) = 0 := by unfold trimN wd; simp
  rw [e] at h
  exact h
end Go.Proofs.YtbmdnmjgijblpaaDoor
