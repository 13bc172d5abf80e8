/-
  slices.DeleteFunc and slices.Sort at a slice of numbers that the call owns.
-/
import Derived.Test.YtembgefbmecdbaaR29
import Derived.Test.YtembgefbmecdbaaKe
import Derived.Lib.SliceRun
namespace Go.Proofs.Ytembgefbmecdbaa
open Go.RowKit Go.Lib
section
variable {B g n cap : Nat} {l : List Int} {cur : Array Value} {pr : Int → Bool} {w : World}
/-- j numbers have been looked at, those of them that stay are the first i. -/
def DI (B g : Nat) (l : List Int) (cur : Array Value) (pr : Int → Bool) (w : World) (j i : Nat) (wr : World) : Prop :=
  ∃ cur' : Array Value, CB wr g cur' 3 ∧ cur'.size = cur.size ∧ i = ((l.take j).filter fun x => !pr x).length ∧ i < j ∧ (∀ (t : Nat) (y : Int), ((l.take j).filter fun x => !pr x)[t]? = some y → cur'[t]? = some (iz y)) ∧ (∀ (t : Nat) (y : Int), j ≤ t → l[t]? = some y → cur'[t]? = some (iz y)) ∧ Below B w wr
theorem DI.over {j i : Nat} {wr w' : World} (h : DI B g l cur pr w j i wr) (hb : Below wr.heap.size wr w') (hB : B ≤ w.heap.size) : DI B g l cur pr w j i w' := by
  obtain ⟨c', h1, h2, h3, h4, h5, h6, h7⟩ := h
  exact ⟨c', h1.over hb, h2, h3, h4, h5, h6, h7.trans (hb.mono (Nat.le_trans hB h7.size))⟩
theorem take_succ_some {l : List Int} {j : Nat} {y : Int} (hy : l[j]? = some y) : l.take (j + 1) = l.take j ++ [y] := by
  rw [List.take_add_one, hy]
  rfl
theorem DI.keep {j i : Nat} {wr : World} {y : Int} (h : DI B g l cur pr w j i wr) (hy : l[j]? = some y) (hp : pr y = false) (hg : B ≤ g) (hlc : l.length ≤ cur.size) : DI B g l cur pr w (j + 1) (i + 1) (wr.setCell ⟨g, i, none⟩ (iz y)) := by
  obtain ⟨c', h1, h2, h3, h4, h5, h6, h7⟩ := h
  have hj := lt_of_some hy
  have e : (l.take (j + 1)).filter (fun x => !pr x) = (l.take j).filter (fun x => !pr x) ++ [y] := by
    rw [take_succ_some hy, List.filter_append]
    simp [hp]
  refine ⟨_, heap_set wr g i _ _ (iz y) h1, by simpa using h2, by rw [e, List.length_append, h3]; rfl, by omega, fun t z hz => ?_, fun t z ht hz => ?_, h7.setCell (p := ⟨g, i, none⟩) hg _⟩
  · rw [e] at hz
    rw [Array.getElem?_setIfInBounds]
    by_cases k : i = t
    · subst k
      rw [if_pos rfl, if_pos (by omega)]
      rw [List.getElem?_append_right (by omega), ← h3, Nat.sub_self] at hz
      simp at hz
      rw [hz]
    · rw [if_neg k]
      refine h5 t z ?_
      have := lt_of_some hz
      rw [List.length_append, ← h3, List.length_singleton] at this
      rwa [List.getElem?_append_left (by omega)] at hz
  · rw [Array.getElem?_setIfInBounds, if_neg (by omega)]
    exact h6 t z (by omega) hz
theorem DI.skip {j i : Nat} {wr : World} {y : Int} (h : DI B g l cur pr w j i wr) (hy : l[j]? = some y) (hp : pr y = true) : DI B g l cur pr w (j + 1) i wr := by
  obtain ⟨c', h1, h2, h3, h4, h5, h6, h7⟩ := h
  have e : (l.take (j + 1)).filter (fun x => !pr x) = (l.take j).filter (fun x => !pr x) := by
    rw [take_succ_some hy, List.filter_append]
    simp [hp]
  exact ⟨c', h1, h2, by rw [e]; exact h3, by omega, by rw [e]; exact h5, fun t z ht hz => h6 t z (by omega) hz, h7⟩
theorem CB.sets {T : TypeId} : ∀ (vs : List Value) (o : Nat) (w : World) (c : Array Value), CB w g c T → ∃ c', CB (w.setCells g o vs) g c' T ∧ c'.size = c.size ∧ ∀ t, t < o → c'[t]? = c[t]?
  | [], o, w, c, h => ⟨c, h, rfl, fun _ _ => rfl⟩
  | v :: vs, o, w, c, h => by
    obtain ⟨c', q1, q2, q3⟩ := CB.sets vs (o + 1) _ _ (heap_set w g o c T v h)
    refine ⟨c', q1, by simpa using q2, fun t ht => ?_⟩
    rw [q3 t (by omega), Array.getElem?_setIfInBounds, if_neg (by omega)]
theorem below_sets {w0 : World} (hg : B ≤ g) : ∀ (vs : List Value) (o : Nat) (_w : World), Below B w0 _w → Below B w0 (_w.setCells g o vs)
  | [], _, _, h => h
  | v :: vs, o, _w, h => below_sets hg vs (o + 1) _ (h.setCell (p := ⟨g, o, none⟩) hg v)
/-- What is left at the end. -/
theorem DI.fin {i : Nat} {wr : World} (h : DI B g l cur pr w l.length i wr) (hg : B ≤ g) (hrow : w.ownsRow B 3 1 (.slice (some ⟨g, 0, none⟩) l.length cap) l.length (iv l)) (hc : CB w g cur 3) (vs : List Value) : OS B (.slice (some ⟨g, 0, none⟩) i cap) (l.filter fun x => !pr x) w (wr.setCells g i vs) := by
  obtain ⟨c', h1, h2, h3, h4, h5, h6, h7⟩ := h
  rw [List.take_length] at h3 h5
  obtain ⟨c2, q1, q2, q3⟩ := CB.sets vs i wr c' h1
  refine ⟨?_, below_sets hg vs i wr h7⟩
  rcases hrow.2 with ⟨e, _⟩ | ⟨g', cap', cur0, e, b1, b2, b3, b4, b5, b6⟩
  · cases e
  · cases e
    have e0 : cur0 = cur := by
      unfold CB at hc
      rw [b2] at hc
      cases hc
      rfl
    subst e0
    rw [← h3]
    refine ⟨by rw [List.length_map, ← h3, Nat.mul_one], .inr ⟨g, cap, c2, rfl, hg, q1, by omega, b4, by rw [q2, h2]; exact b5, ?_⟩⟩
    apply List.ext_getElem?
    intro t
    rw [List.getElem?_take, Array.getElem?_toList]
    by_cases k : t < i
    · rw [if_pos (by omega), q3 t k]
      obtain ⟨y, hy⟩ : ∃ y, (l.filter fun x => !pr x)[t]? = some y := ⟨_, List.getElem?_eq_getElem (by omega)⟩
      rw [h5 t y hy]
      simp [iv, hy]
    · rw [if_neg (by omega), List.getElem?_eq_none (by simp [iv]; omega)]
end
end Go.Proofs.Ytembgefbmecdbaa
