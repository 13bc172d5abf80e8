/-
  A clause's literals change their places in memory.
-/
import Derived.Test.YtembgefbmecdbaaR8
namespace Go.Proofs.Ytembgefbmecdbaa
open Go.RowKit Go.Lib
section
variable {B p : Nat} {k : PB} {s : PS} {W : Int → List Nat} {K : List (List Int)} {C : Nat → CAt}
theorem PIx.setc {w w' : World} (h : PIx B w p k s) {b : Nat} {cur : Array Value} (hb : CB w b cur 3) (ht : ∀ g, k.tv.ownBlock = some g → g ≠ b) (hk : ∀ x, x ≠ b → w'.heap[x]? = w.heap[x]?) : PIx B w' p k s :=
  { pB := h.pB, low := h.low, hV := h.hV, blk := (hk _ (h.blk.ne hb (by decide))).trans h.blk, vab := (hk _ (h.vab.ne hb (by decide))).trans h.vab, wab := (hk _ (h.wab.ne hb (by decide))).trans h.wab, tro := own_keep h.tro fun g e => hk g (ht g e) }
theorem LM.setc {w w' : World} (h : LM B w k s W K C) {i : Nat} {c d : List Int} (hi : K[i]? = some c) (hd : d.length = c.length) {cur' : Array Value} (hw : CB w' (C i).b cur' 3) (hc : cur'.toList.take d.length = iv d) (hk : ∀ x, x ≠ (C i).b → w'.heap[x]? = w.heap[x]?) : LM B w' k s W (K.set i d) C := by
  have hlen : i < K.length := lt_of_some hi
  obtain ⟨a1, a2, a3, cur, a4, a5⟩ := h.cl i c hi
  have back : ∀ (j : Nat) (e : List Int), (K.set i d)[j]? = some e → ∃ e' : List Int, K[j]? = some e' := by
    intro j e hj
    by_cases q : j = i
    · subst q; exact ⟨c, hi⟩
    · rw [List.getElem?_set_ne (fun h' => q h'.symm)] at hj; exact ⟨e, hj⟩
  refine { li := fun x h0 h1 => own_keep (h.li x h0 h1) fun b e => hk b (a4.own_ne (h.li x h0 h1) (by decide) b e), ln := h.ln, cl := fun j e hj => ?_, ci := fun j l e f hj hl => ?_, ct := fun j e hj => ?_, wl := h.wl }
  · by_cases q : j = i
    · subst q
      rw [List.getElem?_set_self hlen] at hj
      cases hj
      exact ⟨hd.trans a1, a2, a3, cur', hw, hc⟩
    · rw [List.getElem?_set_ne (fun h' => q h'.symm)] at hj
      obtain ⟨b1, b2, b3, cu, b4, b5⟩ := h.cl j e hj
      exact ⟨b1, b2, b3, cu, (hk _ (fun f => q (h.ci j i e c hj hi f))).trans b4, b5⟩
  · obtain ⟨e', he⟩ := back j e hj
    obtain ⟨f', hf⟩ := back l f hl
    exact h.ci j l e' f' he hf
  · obtain ⟨e', he⟩ := back j e hj
    exact h.ct j e' he
/-- A literal of a clause, read. -/
theorem LM.cell {w : World} (h : LM B w k s W K C) {i : Nat} {c : List Int} (hi : K[i]? = some c) {j : Nat} {x : Int} (hj : c[j]? = some x) : w.cell? ⟨(C i).b, j, none⟩ = some (iz x) := by
  obtain ⟨a1, a2, a3, cur, a4, a5⟩ := h.cl i c hi
  have hl : j < c.length := lt_of_some hj
  rw [a4.c]
  have e : (cur.toList.take c.length)[j]? = (iv c)[j]? := by rw [a5]
  rw [List.getElem?_take, if_pos hl, Array.getElem?_toList] at e
  rw [e]
  simp [iv, hj]
/-- Two literals of a clause trade places. -/
theorem take_set2 {cur : Array Value} {c : List Int} (h : cur.toList.take c.length = iv c) {i j : Nat} {x y : Int} (_hi : i < c.length) (_hj : j < c.length) :
    ((cur.setIfInBounds i (iz x)).setIfInBounds j (iz y)).toList.take ((c.set i x).set j y).length = iv ((c.set i x).set j y) := by
  simp only [Array.toList_setIfInBounds, List.length_set]
  rw [List.take_set, List.take_set, h]
  simp [iv, List.map_set]
end
end Go.Proofs.Ytembgefbmecdbaa
