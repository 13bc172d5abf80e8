/-
  The walk of awake: the fixed fact that the statements of layer 1 begin with holds.
-/
import Derived.Test.YtbmdnmjgijblpaaDoorWt
import Derived.Test.YtbmdnmjgijblpaaDoorWn
import Derived.Test.YtbmdnmjgijblpaaDoorWo
namespace Go.Proofs.YtbmdnmjgijblpaaDoor
open Go.RowKit
theorem RU_one (w : World) (v : Nat) : RU (w.alloc (.cells #[.int .u64 (v : Int)] 31)) (some ⟨w.heap.size, 0, none⟩) 1 (fun _ => v) := fun _ =>
  ⟨⟨w.heap.size, 0, none⟩, rfl, by simp, fun j hj => by
    obtain rfl : j = 0 := by omega
    exact World.cell?_alloc_new w _ _ 0⟩
theorem New_one (n v : Nat) (w : World) (g : Nat) (hg : g = w.heap.size) (h1 : 1 ≤ n) (hn : n ≤ 128) (hv : v < 2 ^ 64) :
    Calls Tryd.prog 6 #[.int .i64 (n : Int), .slice (some ⟨g, 0, none⟩) 1 1] (w.alloc (.cells #[.int .u64 (v : Int)] 31))
      (RV (w.alloc (.cells #[.int .u64 (v : Int)] 31)) (.tuple #[vv n (v % 2 ^ n), .int .i64 0])) := by
  subst hg
  have h := New_ok n 1 1 (some ⟨w.heap.size, 0, none⟩) (fun _ => v) _ h1 hn (RU_one w v) (fun _ _ => hv)
  have e : trimN n (wd (fun _ => v) 1 0) (wd (fun _ => v) 1 1) = v % 2 ^ n := by unfold trimN wd; simp
  rw [e] at h
  exact h
end Go.Proofs.YtbmdnmjgijblpaaDoor
