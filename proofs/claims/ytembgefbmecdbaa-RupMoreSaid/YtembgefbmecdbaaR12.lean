/-
  A visit's stores into the list that it goes through.
-/
import Derived.Test.YtembgefbmecdbaaR11
namespace Go.Proofs.Ytembgefbmecdbaa
open Go.RowKit Go.Lib
section
variable {B p : Nat} {k : PB} {s : PS} {W : Int → List Nat} {K : List (List Int)} {C : Nat → CAt}
/-- A clause is put at a place of the list of x. -/
theorem LM.put {w : World} (h : LM B w k s W K C) (hp : PIx B w p k s) (x : Int) (h0 : -(s.V : Int) ≤ x) (h1 : x ≤ s.V) {j : Nat} (hj : j < (W x).length) (i : Nat) : ∃ g cap, s.hd x = .slice (some ⟨g, 0, none⟩) (W x).length cap ∧ (∀ o, w.frozen? ⟨g, o, none⟩ = false) ∧ LM B (w.setCell ⟨g, j, none⟩ (hdr (C i))) k s (updF W x ((W x).set j i)) K C ∧ PIx B (w.setCell ⟨g, j, none⟩ (hdr (C i))) p k s ∧ Below B w (w.setCell ⟨g, j, none⟩ (hdr (C i))) := by
  have hx := h.li x h0 h1
  rcases hx.2 with ⟨_, e0⟩ | ⟨g, cap, cur, e, b1, b2, b3, b4, b5, b6⟩
  · omega
  · have hg : (s.hd x).ownBlock = some g := by rw [e]; rfl
    have hs := heap_set w g j cur 23 (hdr (C i)) b2
    have hk : ∀ y, y ≠ g → (w.setCell ⟨g, j, none⟩ (hdr (C i))).heap[y]? = w.heap[y]? := fun y hy => Below.heap_setCell w ⟨g, j, none⟩ _ y hy
    refine ⟨g, cap, e, fun o => Lib.frozen_of_heap b2 o, { li := fun y q0 q1 => ?_, ln := h.ln, cl := fun l c hl => ?_, ci := h.ci, ct := h.ct, wl := fun y q0 q1 => ?_ }, { pB := hp.pB, low := hp.low, hV := hp.hV, blk := (hk _ (fun f => hp.blk.own_ne hx (by decide) g hg f.symm)).trans hp.blk, vab := (hk _ (fun f => hp.vab.own_ne hx (by decide) g hg f.symm)).trans hp.vab, wab := (hk _ (fun f => hp.wab.own_ne hx (by decide) g hg f.symm)).trans hp.wab, tro := own_keep hp.tro fun b hb => hk b (fun f => row_ne hp.tro hx (by decide) b hb (f ▸ hg)) }, (Below.refl B w).setCell (p := ⟨g, j, none⟩) b1 _⟩
    · by_cases f : y = x
      · subst f
        simp only [updF, if_pos]
        rw [List.length_set, List.map_set]
        refine ⟨by simp, .inr ⟨g, cap, _, e, b1, hs, b3, b4, by simpa using b5, ?_⟩⟩
        rw [Array.toList_setIfInBounds, List.take_set, b6]
      · simp only [updF, if_neg f]
        exact own_keep (h.li y q0 q1) fun b hb => hk b (fun e' => h.ln y x q0 q1 h0 h1 f b hb (e' ▸ hg))
    · obtain ⟨a1, a2, a3, cu, a4, a5⟩ := h.cl l c hl
      exact ⟨a1, a2, a3, cu, (hk _ (fun f => a4.own_ne hx (by decide) g hg f.symm)).trans a4, a5⟩
    · by_cases f : y = x
      · subst f
        simp only [updF, if_pos, List.length_set]
        exact h.wl y q0 q1
      · simp only [updF, if_neg f]
        exact h.wl y q0 q1
/-- The list of x is cut. -/
theorem LM.cut {w : World} (h : LM B w k s W K C) (hp : PIx B w p k s) (x : Int) (h0 : -(s.V : Int) ≤ x) (h1 : x ≤ s.V) {j : Nat} (hj : j ≤ (W x).length) {A : Option Addr} {cap : Nat} (hA : s.hd x = .slice A (W x).length cap) :
    LM B (w.setCell ⟨k.wb, (x + s.V).toNat, none⟩ (.slice A j cap)) k { s with hd := updF s.hd x (.slice A j cap) } (updF W x ((W x).take j)) K C ∧ PIx B (w.setCell ⟨k.wb, (x + s.V).toNat, none⟩ (.slice A j cap)) p k { s with hd := updF s.hd x (.slice A j cap) } ∧ Below B w (w.setCell ⟨k.wb, (x + s.V).toNat, none⟩ (.slice A j cap)) := by
  have hx := h.li x h0 h1
  have hs := heap_set w k.wb (x + s.V).toNat _ _ (.slice A j cap) hp.wab
  rw [vcs_set _ h0 h1] at hs
  have hk : ∀ y, y ≠ k.wb → (w.setCell ⟨k.wb, (x + s.V).toNat, none⟩ (.slice A j cap)).heap[y]? = w.heap[y]? := fun y hy => Below.heap_setCell w ⟨k.wb, (x + s.V).toNat, none⟩ _ y hy
  have ho : (Value.slice A j cap).ownBlock = (s.hd x).ownBlock := by rw [hA]; cases A <;> rfl
  refine ⟨{ li := fun y q0 q1 => ?_, ln := fun y z q0 q1 q2 q3 hne g hg1 => ?_, cl := fun l c hl => ?_, ci := h.ci, ct := h.ct, wl := fun y q0 q1 => ?_ }, { pB := hp.pB, low := hp.low, hV := hp.hV, blk := (hk _ (hp.blk.ne hp.wab (by decide))).trans hp.blk, vab := (hk _ (hp.vab.ne hp.wab (by decide))).trans hp.vab, wab := hs, tro := own_keep hp.tro fun b hb => hk b (hp.wab.own_ne hp.tro (by decide) b hb) }, (Below.refl B w).setCell (p := ⟨k.wb, (x + s.V).toNat, none⟩) hp.low.2 _⟩
  · by_cases f : y = x
    · subst f
      simp only [updF, if_pos]
      have hk2 : (w.setCell ⟨k.wb, (y + s.V).toNat, none⟩ (.slice A j cap)).ownsRow B 23 1 (s.hd y) (W y).length ((W y).map fun i => hdr (C i)) := own_keep hx fun b hb => hk b (hp.wab.own_ne hx (by decide) b hb)
      have hl2 : ((W y).take j).length = j := by rw [List.length_take]; omega
      rw [hl2]
      refine ⟨by rw [List.length_map, hl2, Nat.mul_one], ?_⟩
      rcases hk2.2 with ⟨e, e0⟩ | ⟨g, cap', cur, e, b1, b2, b3, b4, b5, b6⟩
      · rw [hA] at e
        injection e with e1 e2 e3
        subst e1 e3
        exact .inl ⟨by rw [show j = 0 by omega], by omega⟩
      · rw [hA] at e
        injection e with e1 e2 e3
        subst e1 e3
        refine .inr ⟨g, _, cur, rfl, b1, b2, by omega, b4, b5, ?_⟩
        rw [List.map_take, ← b6, List.take_take]
        congr 1
        omega
    · simp only [updF, if_neg f]
      exact own_keep (h.li y q0 q1) fun b hb => hk b (hp.wab.own_ne (h.li y q0 q1) (by decide) b hb)
  · have key : ∀ y, (updF s.hd x (.slice A j cap) y).ownBlock = (s.hd y).ownBlock := by
      intro y
      unfold updF
      by_cases f : y = x
      · rw [if_pos f, ho, f]
      · rw [if_neg f]
    rw [key] at hg1 ⊢
    exact h.ln y z q0 q1 q2 q3 hne g hg1
  · obtain ⟨a1, a2, a3, cu, a4, a5⟩ := h.cl l c hl
    exact ⟨a1, a2, a3, cu, (hk _ (a4.ne hp.wab (by decide))).trans a4, a5⟩
  · by_cases f : y = x
    · subst f
      simp only [updF, if_pos, List.length_take]
      have := h.wl y q0 q1
      omega
    · simp only [updF, if_neg f]
      exact h.wl y q0 q1
end
end Go.Proofs.Ytembgefbmecdbaa
