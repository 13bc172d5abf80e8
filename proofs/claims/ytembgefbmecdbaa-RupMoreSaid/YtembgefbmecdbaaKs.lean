/-
  The statements' awake for formulas.
-/
import Derived.Test.YtembgefbmecdbaaKn
import Derived.Test.YtembgefbmecdbaaKo
namespace Go.Proofs.Ytembgefbmecdbaa
open Go.RowKit Go.Lib
theorem canon_lit {l r : List Int} (h : ∀ x, x ∈ l ↔ x ∈ r) (hs : r.Pairwise Lq) : canon l = r := by
  rw [canon_ext h, canon_of_sorted hs]
/-- A slice that the call has just made. -/
theorem RL_new (w : World) (l : List Int) (vs : Array Value) (h : vs = (iv l).toArray) : RL (w.alloc (.cells vs 3)) (some ⟨w.heap.size, 0, none⟩) l := fun _ => by
  refine ⟨w.heap.size, 0, rfl, by simp, fun j hj => ?_⟩
  rw [Nat.zero_add, Lib.cell_of_heap (heap_alloc_new w _) j, h]
  simp [iv, List.getD, List.getElem?_eq_getElem hj]
theorem CF.below {base : Nat} {w w' : World} {p V : Nat} {cs : List (List Int)} {vl ve : Value} (h : CF base w p V cs vl ve) (k : Keep (FP p vl ve) w w') : Below base w w' :=
  k.below (Nat.le_trans h.pb (Nat.le_of_lt h.lt)) fun b hb => (h.fp b hb).1
theorem LT.low {w w' : World} (h : LT w) (hb : Below w.heap.size w w') : LT w' := h.on hb
end Go.Proofs.Ytembgefbmecdbaa
