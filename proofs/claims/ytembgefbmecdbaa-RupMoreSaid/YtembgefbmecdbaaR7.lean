/-
  The lists of watches and the clauses in memory; watch.
-/
import Derived.Test.YtembgefbmecdbaaR6
namespace Go.Proofs.Ytembgefbmecdbaa
open Go.RowKit Go.Lib
/-- Where a clause lies: its block, its length, its capacity. -/
structure CAt where
  b : Nat
  n : Nat
  c : Nat
abbrev hdr (a : CAt) : Value := .slice (some ⟨a.b, 0, none⟩) a.n a.c
/-- The lists W of the clauses K, which lie at C. -/
structure LM (B : Nat) (w : World) (k : PB) (s : PS) (W : Int → List Nat) (K : List (List Int)) (C : Nat → CAt) : Prop where
  li : ∀ x : Int, -(s.V : Int) ≤ x → x ≤ s.V → w.ownsRow B 23 1 (s.hd x) (W x).length ((W x).map fun i => hdr (C i))
  ln : ∀ x y : Int, -(s.V : Int) ≤ x → x ≤ s.V → -(s.V : Int) ≤ y → y ≤ s.V → x ≠ y → ∀ g, (s.hd x).ownBlock = some g → (s.hd y).ownBlock ≠ some g
  cl : ∀ i c, K[i]? = some c → c.length = (C i).n ∧ (C i).n ≤ (C i).c ∧ B ≤ (C i).b ∧ ∃ cur : Array Value, CB w (C i).b cur 3 ∧ cur.toList.take c.length = iv c
  ci : ∀ i j c d, K[i]? = some c → K[j]? = some d → (C i).b = (C j).b → i = j
  ct : ∀ i c, K[i]? = some c → ∀ g, k.tv.ownBlock = some g → g ≠ (C i).b
  wl : ∀ x : Int, -(s.V : Int) ≤ x → x ≤ s.V → (W x).length ≤ 100000
theorem row_ne {w : World} {B B' n n' s s' : Nat} {e e' : TypeId} {v v' : Value} {xs xs' : List Value} (h : w.ownsRow B e s v n xs) (h' : w.ownsRow B' e' s' v' n' xs') (he : e ≠ e') : ∀ g, v.ownBlock = some g → v'.ownBlock ≠ some g := by
  intro g hg hg'
  rcases h.2 with ⟨rfl, _⟩ | ⟨a, cap, cur, rfl, _, ha, _⟩
  · cases hg
  · rcases h'.2 with ⟨rfl, _⟩ | ⟨a', cap', cur', rfl, _, ha', _⟩
    · cases hg'
    · cases hg
      cases hg'
      rw [ha] at ha'
      cases ha'
      exact he rfl
theorem info_row : (Try.prog.info? 23).map (fun i => (i.zero, i.size, i.bytes)) = some (some (.slice none 0 0), 1, 24) := by kernel_rfl
def updF {α : Type} (f : Int → α) (x : Int) (v : α) : Int → α := fun y => if y = x then v else f y
section
variable {B p : Nat} {k : PB} {s : PS} {W : Int → List Nat} {K : List (List Int)} {C : Nat → CAt}
theorem LM.over {w w' : World} (h : LM B w k s W K C) (hb : Below w.heap.size w w') : LM B w' k s W K C :=
  { li := fun x h0 h1 => own_keep (h.li x h0 h1) fun b e => hb.block b (own_ltT (h.li x h0 h1) b e).2
    ln := h.ln
    cl := fun i c hi => by
      obtain ⟨a1, a2, a3, cur, a4, a5⟩ := h.cl i c hi
      exact ⟨a1, a2, a3, cur, a4.over hb, a5⟩
    ci := h.ci, ct := h.ct, wl := h.wl }
/-- Behind an append to the list of x, stored. -/
theorem watched {w w6 : World} (hp : PIx B w p k s) (hl : LM B w k s W K C) (x : Int) (h0 : -(s.V : Int) ≤ x) (h1 : x ≤ s.V) (i : Nat) (c : List Int) (_hi : K[i]? = some c) (hw : (W x).length < 100000) {g cap : Nat} {O : Obj}
    (ho : w6.ownsRow B 23 1 (.slice (some ⟨g, 0, none⟩) ((W x).length + 1) cap) ((W x).length + 1) (((W x).map fun i => hdr (C i)) ++ [hdr (C i)])) (hg : (w.drew.alloc O).grownBy w6 (s.hd x).ownBlock) (hgb : (s.hd x).ownBlock = some g ∨ g = w.heap.size + 1) (hB : B ≤ w.heap.size) :
    PIx B (w6.setCell ⟨k.wb, (x + s.V).toNat, none⟩ (.slice (some ⟨g, 0, none⟩) ((W x).length + 1) cap)) p k { s with hd := updF s.hd x (.slice (some ⟨g, 0, none⟩) ((W x).length + 1) cap) } ∧ LM B (w6.setCell ⟨k.wb, (x + s.V).toNat, none⟩ (.slice (some ⟨g, 0, none⟩) ((W x).length + 1) cap)) k { s with hd := updF s.hd x (.slice (some ⟨g, 0, none⟩) ((W x).length + 1) cap) } (updF W x (W x ++ [i])) K C ∧ Below B w (w6.setCell ⟨k.wb, (x + s.V).toNat, none⟩ (.slice (some ⟨g, 0, none⟩) ((W x).length + 1) cap)) := by
  have hx := hl.li x h0 h1
  have hal : ∀ y, y < w.heap.size → (w.drew.alloc O).heap[y]? = w.heap[y]? := fun y hy => (((Below.refl w.heap.size w).drew).alloc (Nat.le_refl _) O).block y hy
  have hsz : (w.drew.alloc O).heap.size = w.heap.size + 1 := by simp
  have hgw : g ≠ k.wb := by
    rcases hgb with e | e
    · exact hp.wab.own_ne hx (by decide) g e
    · have := lt_of_get hp.wab; omega
  have hk6 : ∀ y, y < w.heap.size → (s.hd x).ownBlock ≠ some y → w6.heap[y]? = w.heap[y]? := fun y hy h2 => (hg.block y (by omega) (fun e => h2 e.symm)).trans (hal y hy)
  have hk : ∀ y, y < w.heap.size → y ≠ k.wb → (s.hd x).ownBlock ≠ some y → (w6.setCell ⟨k.wb, (x + s.V).toNat, none⟩ (.slice (some ⟨g, 0, none⟩) ((W x).length + 1) cap)).heap[y]? = w.heap[y]? := fun y hy h1 h2 => (Below.heap_setCell w6 ⟨k.wb, (x + s.V).toNat, none⟩ _ y h1).trans (hk6 y hy h2)
  have hwb6 : CB w6 k.wb (vcs s.V s.hd) 22 := (hk6 k.wb (lt_of_get hp.wab) (fun e => hp.wab.own_ne hx (by decide) _ e rfl)).trans hp.wab
  have hwb7 := heap_set w6 k.wb (x + s.V).toNat _ _ (.slice (some ⟨g, 0, none⟩) ((W x).length + 1) cap) hwb6
  rw [vcs_set _ h0 h1] at hwb7
  refine ⟨{ pB := hp.pB, low := hp.low, hV := hp.hV, blk := (hk p (lt_of_get hp.blk) (hp.blk.ne hp.wab (by decide)) (fun e => hp.blk.own_ne hx (by decide) _ e rfl)).trans hp.blk, vab := (hk _ (lt_of_get hp.vab) (hp.vab.ne hp.wab (by decide)) (fun e => hp.vab.own_ne hx (by decide) _ e rfl)).trans hp.vab, wab := hwb7, tro := own_keep hp.tro fun b e => hk b (own_ltT hp.tro b e).2 (hp.wab.own_ne hp.tro (by decide) b e) (row_ne hp.tro hx (by decide) b e) }, ?_, ?_⟩
  · refine { li := fun y q0 q1 => ?_, ln := fun y z q0 q1 q2 q3 hne g' hg1 hg2 => ?_, cl := fun j d hj => ?_, ci := hl.ci, ct := hl.ct, wl := fun y q0 q1 => ?_ }
    · by_cases e : y = x
      · subst e
        simp only [updF, if_pos]
        rw [List.length_append, List.map_append]
        exact own_keep ho fun b hb => by cases hb; exact Below.heap_setCell _ _ _ _ hgw
      · simp only [updF, if_neg e]
        exact own_keep (hl.li y q0 q1) fun b hb => hk b (own_ltT (hl.li y q0 q1) b hb).2 (hp.wab.own_ne (hl.li y q0 q1) (by decide) b hb) (hl.ln y x q0 q1 h0 h1 e b hb)
    · simp only [updF] at hg1 hg2
      have old : ∀ y, -(s.V : Int) ≤ y → y ≤ s.V → y ≠ x → (s.hd y).ownBlock ≠ some g := fun y q0 q1 e he => by
        rcases hgb with f | f
        · exact hl.ln y x q0 q1 h0 h1 e g he f
        · have := (own_ltT (hl.li y q0 q1) g he).2; omega
      by_cases e1 : y = x
      · rw [if_pos e1] at hg1
        have e2 : z ≠ x := fun e => hne (e1.trans e.symm)
        rw [if_neg e2] at hg2
        cases hg1
        exact old z q2 q3 e2 hg2
      · rw [if_neg e1] at hg1
        by_cases e2 : z = x
        · rw [if_pos e2] at hg2
          cases hg2
          exact old y q0 q1 e1 hg1
        · rw [if_neg e2] at hg2
          exact hl.ln y z q0 q1 q2 q3 hne g' hg1 hg2
    · obtain ⟨a1, a2, a3, cur, a4, a5⟩ := hl.cl j d hj
      exact ⟨a1, a2, a3, cur, (hk _ (lt_of_get a4) (a4.ne hp.wab (by decide)) (fun e => a4.own_ne hx (by decide) _ e rfl)).trans a4, a5⟩
    · by_cases e : y = x
      · subst e
        simp only [updF, if_pos, List.length_append, List.length_singleton]
        omega
      · simp only [updF, if_neg e]
        exact hl.wl y q0 q1
  · exact ⟨hg.os, hg.tape, hg.output, by have := hg.size; rw [World.size_setCell]; omega, fun y hy => hk y (by omega) (fun e => by have := hp.low.2; omega) (fun e => by have := (own_ltT hx y e).1; omega)⟩
end
end Go.Proofs.Ytembgefbmecdbaa
