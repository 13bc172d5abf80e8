/-
  A row more: what stands behind time's append.
-/
import Derived.Test.YtbmdnmjgijblpaaDoorE22
namespace Go.Proofs.YtbmdnmjgijblpaaDoor
open Go Go.RowKit Go.Lib Go.Maps
theorem snoc_get {α : Type} {l : List α} {a b : α} {i : Nat} (h : (l ++ [a])[i]? = some b) : (i < l.length ∧ l[i]? = some b) ∨ (i = l.length ∧ a = b) := by
  rcases Nat.lt_trichotomy i l.length with e | e | e
  · exact .inl ⟨e, by rwa [List.getElem?_append_left e] at h⟩
  · subst e
    rw [List.getElem?_append_right (Nat.le_refl _), Nat.sub_self] at h
    exact .inr ⟨rfl, Option.some.inj h⟩
  · rw [List.getElem?_eq_none (by simp; omega)] at h
    cases h
theorem TX.more {w2 w3 : World} {B n g cap : Nat} {rows : List (List (Nat × Nat))} {vals v' : Value} {rv : List Value} {r : List (Nat × Nat)} (h : TX w2 B rows vals rv) (hr : RW3 w2 B v' r) (hf : ∀ b, v'.ownBlock = some b → ¬ TX.fb vals rv b) (hn : n = rows.length)
    (ho : w3.ownsRow B 27 1 (.slice (some ⟨g, 0, none⟩) (n + 1) cap) (n + 1) (rv ++ [v'])) (hg : w2.grownBy w3 vals.ownBlock) (hl : rows.length < 200) : TX w3 B (rows ++ [r]) (.slice (some ⟨g, 0, none⟩) (n + 1) cap) (rv ++ [v']) := by
  subst hn
  have hlen : (rows ++ [r]).length = rows.length + 1 := by simp
  have hkeep : ∀ v r, RW3 w2 B v r → (∀ b, v.ownBlock = some b → vals.ownBlock ≠ some b) → RW3 w3 B v r := fun v r h2 h3 => h2.keep fun b hb => hg.block b (own_ltT h2.1 b hb).2 fun e => h3 b hb e.symm
  refine { row := by rw [hlen]; exact ho, rl := by rw [List.length_append, hlen, h.rl]; rfl, is := fun i r1 v1 h1 h2 => ?_, ap := fun i j v1 v2 b hne h1 h2 b1 b2 => ?_, sm := by rw [hlen]; omega, nl := fun e => by simp at e }
  · rcases snoc_get h1 with ⟨e1, f1⟩ | ⟨e1, f1⟩ <;> rcases snoc_get h2 with ⟨e2, f2⟩ | ⟨e2, f2⟩
    · refine hkeep _ _ (h.is i r1 v1 f1 f2) fun b hb hv => ?_
      obtain ⟨c1, x1⟩ := own_blk (h.is i r1 v1 f1 f2).1 b hb
      obtain ⟨c2, x2⟩ := own_blk h.row b hv
      rw [x1] at x2
      cases x2
    · rw [h.rl] at e2; omega
    · rw [h.rl] at e2; omega
    · subst f1 f2
      exact hkeep _ _ hr fun b hb hv => hf b hb (.inl hv)
  · rcases snoc_get h1 with ⟨e1, f1⟩ | ⟨e1, f1⟩ <;> rcases snoc_get h2 with ⟨e2, f2⟩ | ⟨e2, f2⟩
    · exact h.ap i j v1 v2 b hne f1 f2 b1 b2
    · subst f2
      exact hf b b2 (.inr ⟨v1, List.mem_of_getElem? f1, b1⟩)
    · subst f1
      exact hf b b1 (.inr ⟨v2, List.mem_of_getElem? f2, b2⟩)
    · omega
/-- Behind Clone, the append and the store. -/
theorem TR.more {w w1 w3 : World} {B q m n p k g cap : Nat} {T top : List UInt8} {ids : List (List UInt8)} {vs : List NV} {rows : List (List (Nat × Nat))} {v vals v' : Value} {D : DU} {rv : List Value} {l : List (UInt8 × List UInt8)} {r : List (Nat × Nat)} (h : TR w B q T top ids vs rows v vals m n D rv p l) (hb : Below w.heap.size w w1) (hr : RW3 w1 w.heap.size v' r) (hk : k = rows.length) (hl : rows.length < 200)
    (ho : w3.ownsRow B 27 1 (.slice (some ⟨g, 0, none⟩) (k + 1) cap) (k + 1) (rv ++ [v'])) (hg : (w1.alloc (Obj.cells #[v'] 27)).grownBy w3 vals.ownBlock) :
    TE w B q T top ids vs (rows ++ [r]) l (w3.setCell ⟨q, 5, none⟩ (.slice (some ⟨g, 0, none⟩) (k + 1) cap)) := by
  have hBw : B ≤ w.heap.size := by have := h.b; have := h.r.lt; omega
  have hb2 := below_step hb (vnew w1 (Obj.cells #[v'] 27))
  have h2 := h.over hb2
  have hr2 : RW3 (w1.alloc (Obj.cells #[v'] 27)) B v' r := RW3.over ⟨own_low hr.1 hBw, hr.2⟩ (vnew w1 _)
  have hf : ∀ b, v'.ownBlock = some b → ¬ TX.fb vals rv b := fun b hb hfb => by
    have x1 := (own_ltT hr.1 b hb).1
    have x2 := (h.t.blk hfb).2.1
    omega
  have htx := h2.t.more hr2 hf hk ho hg hl
  have hblk : ∀ (b : Nat) (cs : Array Value) (T' : TypeId), (w1.alloc (Obj.cells #[v'] 27)).heap[b]? = some (Obj.cells cs T' (0, 0)) → T' ≠ 27 → w3.heap[b]? = (w1.alloc (Obj.cells #[v'] 27)).heap[b]? := fun b cs T' hc hT => hg.block b (lt_of_get hc) fun e => by
    obtain ⟨c2, x2⟩ := own_blk h2.t.row b e.symm
    rw [hc] at x2
    cases x2
    exact hT rfl
  have hrx : RX w3 q (mkT T top v vals m) T p l := by
    obtain ⟨ln, g1, g2, g3⟩ := h2.r
    exact ⟨ln, (hblk q _ _ g1 (by decide)).trans g1, g2, g3⟩
  have hdx : DX w3 B ids vs v m n D := h2.d.kp fun b hb3 => by
    rcases hb3 with e | e
    · obtain ⟨c2, x2⟩ := own_blk h2.d.row b e
      exact hblk b _ _ x2 (by decide)
    · obtain ⟨es, c2, x2⟩ := h2.d.map_obj
      rw [← e] at x2
      refine hg.block b (lt_of_get x2) fun e2 => ?_
      obtain ⟨c3, x3⟩ := own_blk h2.t.row b e2.symm
      rw [x2] at x3
      cases x3
  have hput := TR.put h.b hdx hrx htx
  have hvg : VW B q (w1.alloc (Obj.cells #[v'] 27)) w3 := by
    refine ⟨hg.os, hg.tape, hg.output, hg.size, fun b hb3 hs => hg.block b hs fun e => ?_, fun b cs T' f hc _ _ _ h4 => (hg.block b (lt_of_get hc) fun e => ?_).trans hc⟩
    · have := (own_ltT h2.t.row b e.symm).1
      omega
    · obtain ⟨c2, x2⟩ := own_blk h2.t.row b e.symm
      rw [hc] at x2
      cases x2
      exact h4 rfl
  exact ⟨hput.1, ((VW.below hb2).trans hvg).trans hput.2⟩
end Go.Proofs.YtbmdnmjgijblpaaDoor
