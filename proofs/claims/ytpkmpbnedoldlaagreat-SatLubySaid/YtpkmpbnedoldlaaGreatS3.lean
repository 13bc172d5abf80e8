/-
  How the state changes by stores into one of its blocks.
-/
import Derived.Test.YtpkmpbnedoldlaaGreatS2
namespace Go.Proofs.YtpkmpbnedoldlaaGreat
open Go.RowKit Go.Lib
theorem own_keepT {w w' : World} {B n : Nat} {e : TypeId} {sz : Nat} {v : Value} {xs : List Value} (h : w.ownsRow B e sz v n xs) (hk : ∀ b, v.ownBlock = some b → w'.heap[b]? = w.heap[b]?) : w'.ownsRow B e sz v n xs := by
  refine ⟨h.1, ?_⟩
  rcases h.2 with hn | ⟨g, cap, cur, rfl, hb, hgg, rest⟩
  · exact .inl hn
  · exact .inr ⟨g, cap, cur, rfl, hb, (hk g rfl).trans hgg, rest⟩
theorem own_ltT {w : World} {B n s : Nat} {e : TypeId} {v : Value} {xs : List Value} (h : w.ownsRow B e s v n xs) : ∀ g, v.ownBlock = some g → B ≤ g ∧ g < w.heap.size := by
  rcases h.2 with ⟨rfl, _⟩ | ⟨g, cap, cur, rfl, hb, hg, h3⟩
  · intro g hg; cases hg
  · intro g' hg'
    cases hg'
    exact ⟨hb, (Array.getElem?_eq_some_iff.1 hg).1⟩
theorem row_ne {w : World} {B B' n n' s s' : Nat} {e e' : TypeId} {v v' : Value} {xs xs' : List Value} (h : w.ownsRow B e s v n xs) (h' : w.ownsRow B' e' s' v' n' xs') (he : e ≠ e') : ∀ g, v.ownBlock = some g → v'.ownBlock ≠ some g := by
  intro g hg hg'
  rcases h.2 with ⟨rfl, _⟩ | ⟨a, cap, cur, rfl, _, ha, _⟩
  · cases hg
  · rcases h'.2 with ⟨rfl, _⟩ | ⟨a', cap', cur', rfl, _, ha', _⟩
    · cases hg'
    · cases hg
      cases hg'
      rw [ha] at ha'
      cases ha'
      exact he rfl
section
variable {B p : Nat} {k : Bk} {s : St} {w w' : World}
theorem SIx.over (h : SIx B w p k s) (hb : Below w.heap.size w w') : SIx B w' p k s :=
  { pB := h.pB, low := h.low, blk := h.blk.over hb, vab := h.vab.over hb, leb := h.leb.over hb, reb := h.reb.over hb, wab := h.wab.over hb, heb := h.heb.over hb, plb := h.plb.over hb, sab := h.sab.over hb,
    tro := own_keepT h.tro fun b e => hb.block b (own_ltT h.tro b e).2, sso := own_keepT h.sso fun b e => hb.block b (own_ltT h.sso b e).2, ap := h.ap, aps := h.aps, now := h.now,
    cls := fun e => by
      obtain ⟨a1, a2, a3, a4, a5, a6, a7, a8⟩ := h.cls e
      exact ⟨a1, a2, a3.over hb, a4.over hb, a5, own_keepT a6 fun b e => hb.block b (own_ltT a6 b e).2, own_keepT a7 fun b e => hb.block b (own_ltT a7 b e).2, a8⟩, sm := h.sm, exb := fun e => (h.exb e).over hb }
theorem SIx.withE (h : SIx B w p k s) {E : Nat} {ec : Array Value} (hE : CB w E ec 32) : SIx B w p k { s with eb := true, E := E, ec := ec } :=
  { pB := h.pB, low := h.low, blk := h.blk, vab := h.vab, leb := h.leb, reb := h.reb, wab := h.wab, heb := h.heb, plb := h.plb, sab := h.sab, tro := h.tro, sso := h.sso, ap := h.ap, aps := h.aps, now := h.now, cls := h.cls, sm := h.sm, exb := fun _ => hE }
theorem SIx.lt (h : SIx B w p k s) : p < w.heap.size := lt_of_get h.blk
theorem SIx.vals (h : SIx B w p k s) (a b c d : Int) (hw : CB w' k.vb #[i8 a, i8 b, i8 c, i8 d] 112) (hk : ∀ x, x ≠ k.vb → w'.heap[x]? = w.heap[x]?) : SIx B w' p k { s with v0 := a, v1 := b, v2 := c, v3 := d } :=
  { pB := h.pB, low := h.low, blk := (hk _ (h.blk.ne h.vab (by decide))).trans h.blk, vab := hw, leb := (hk _ (h.leb.ne h.vab (by decide))).trans h.leb, reb := (hk _ (h.reb.ne h.vab (by decide))).trans h.reb, wab := (hk _ (h.wab.ne h.vab (by decide))).trans h.wab, heb := (hk _ (h.heb.ne h.vab (by decide))).trans h.heb, plb := (hk _ (h.plb.ne h.vab (by decide))).trans h.plb, sab := (hk _ (h.sab.ne h.vab (by decide))).trans h.sab, tro := own_keepT h.tro fun b e => hk b (h.vab.own_ne h.tro (by decide) b e), sso := own_keepT h.sso fun b e => hk b (h.vab.own_ne h.sso (by decide) b e), ap := h.ap, aps := h.aps, now := h.now, cls := fun e => by
      obtain ⟨a1, a2, a3, a4, a5, a6, a7, a8⟩ := h.cls e
      exact ⟨a1, a2, (hk _ (a3.ne h.vab (by decide))).trans a3, (hk _ (a4.ne h.vab (by decide))).trans a4, a5, own_keepT a6 fun b e => hk b (h.vab.own_ne a6 (by decide) b e), own_keepT a7 fun b e => hk b (h.vab.own_ne a7 (by decide) b e), a8⟩, sm := h.sm, exb := fun e => (hk _ ((h.exb e).ne h.vab (by decide))).trans (h.exb e) }
theorem SIx.levs (h : SIx B w p k s) (a b : Int) (hw : CB w' k.lb #[iz a, iz b] 3) (hk : ∀ x, x ≠ k.lb → w'.heap[x]? = w.heap[x]?) : SIx B w' p k { s with l0 := a, l1 := b } :=
  { pB := h.pB, low := h.low, blk := (hk _ (h.blk.ne h.leb (by decide))).trans h.blk, vab := (hk _ (h.vab.ne h.leb (by decide))).trans h.vab, leb := hw, reb := (hk _ (h.reb.ne h.leb (by decide))).trans h.reb, wab := (hk _ (h.wab.ne h.leb (by decide))).trans h.wab, heb := (hk _ (Ne.symm h.ap.1)).trans h.heb, plb := (hk _ (Ne.symm h.ap.2.1)).trans h.plb, sab := (hk _ (h.sab.ne h.leb (by decide))).trans h.sab, tro := own_keepT h.tro fun b e => hk b (h.leb.own_ne h.tro (by decide) b e), sso := own_keepT h.sso fun b e => hk b (h.aps b e).1, ap := h.ap, aps := h.aps, now := h.now, cls := fun e => by
      obtain ⟨a1, a2, a3, a4, a5, a6, a7, a8⟩ := h.cls e
      exact ⟨a1, a2, (hk _ (a3.ne h.leb (by decide))).trans a3, (hk _ (a4.ne h.leb (by decide))).trans a4, a5, own_keepT a6 fun b e => hk b (h.leb.own_ne a6 (by decide) b e), own_keepT a7 fun b e => hk b (h.leb.own_ne a7 (by decide) b e), a8⟩, sm := h.sm, exb := fun e => (hk _ ((h.exb e).ne h.leb (by decide))).trans (h.exb e) }
theorem SIx.reas (h : SIx B w p k s) (a b : Bool) (hw : CB w' k.rb #[rp a k.cb, rp b k.cb] 75) (hk : ∀ x, x ≠ k.rb → w'.heap[x]? = w.heap[x]?) : SIx B w' p k { s with r0 := a, r1 := b } :=
  { pB := h.pB, low := h.low, blk := (hk _ (h.blk.ne h.reb (by decide))).trans h.blk, vab := (hk _ (h.vab.ne h.reb (by decide))).trans h.vab, leb := (hk _ (h.leb.ne h.reb (by decide))).trans h.leb, reb := hw, wab := (hk _ (h.wab.ne h.reb (by decide))).trans h.wab, heb := (hk _ (h.heb.ne h.reb (by decide))).trans h.heb, plb := (hk _ (h.plb.ne h.reb (by decide))).trans h.plb, sab := (hk _ (h.sab.ne h.reb (by decide))).trans h.sab, tro := own_keepT h.tro fun b e => hk b (h.reb.own_ne h.tro (by decide) b e), sso := own_keepT h.sso fun b e => hk b (h.reb.own_ne h.sso (by decide) b e), ap := h.ap, aps := h.aps, now := h.now, cls := fun e => by
      obtain ⟨a1, a2, a3, a4, a5, a6, a7, a8⟩ := h.cls e
      exact ⟨a1, a2, (hk _ (a3.ne h.reb (by decide))).trans a3, (hk _ (a4.ne h.reb (by decide))).trans a4, a5, own_keepT a6 fun b e => hk b (h.reb.own_ne a6 (by decide) b e), own_keepT a7 fun b e => hk b (h.reb.own_ne a7 (by decide) b e), a8⟩, sm := h.sm, exb := fun e => (hk _ ((h.exb e).ne h.reb (by decide))).trans (h.exb e) }
theorem SIx.heap (h : SIx B w p k s) (a b : Int) (hw : CB w' k.hb #[iz a, iz b] 3) (hk : ∀ x, x ≠ k.hb → w'.heap[x]? = w.heap[x]?) : SIx B w' p k { s with h0 := a, h1 := b } :=
  { pB := h.pB, low := h.low, blk := (hk _ (h.blk.ne h.heb (by decide))).trans h.blk, vab := (hk _ (h.vab.ne h.heb (by decide))).trans h.vab, leb := (hk _ h.ap.1).trans h.leb, reb := (hk _ (h.reb.ne h.heb (by decide))).trans h.reb, wab := (hk _ (h.wab.ne h.heb (by decide))).trans h.wab, heb := hw, plb := (hk _ (Ne.symm h.ap.2.2)).trans h.plb, sab := (hk _ (h.sab.ne h.heb (by decide))).trans h.sab, tro := own_keepT h.tro fun b e => hk b (h.heb.own_ne h.tro (by decide) b e), sso := own_keepT h.sso fun b e => hk b (h.aps b e).2.1, ap := h.ap, aps := h.aps, now := h.now, cls := fun e => by
      obtain ⟨a1, a2, a3, a4, a5, a6, a7, a8⟩ := h.cls e
      exact ⟨a1, a2, (hk _ (a3.ne h.heb (by decide))).trans a3, (hk _ (a4.ne h.heb (by decide))).trans a4, a5, own_keepT a6 fun b e => hk b (h.heb.own_ne a6 (by decide) b e), own_keepT a7 fun b e => hk b (h.heb.own_ne a7 (by decide) b e), a8⟩, sm := h.sm, exb := fun e => (hk _ ((h.exb e).ne h.heb (by decide))).trans (h.exb e) }
theorem SIx.plac (h : SIx B w p k s) (a b : Int) (hw : CB w' k.pb #[iz a, iz b] 3) (hk : ∀ x, x ≠ k.pb → w'.heap[x]? = w.heap[x]?) : SIx B w' p k { s with p0 := a, p1 := b } :=
  { pB := h.pB, low := h.low, blk := (hk _ (h.blk.ne h.plb (by decide))).trans h.blk, vab := (hk _ (h.vab.ne h.plb (by decide))).trans h.vab, leb := (hk _ h.ap.2.1).trans h.leb, reb := (hk _ (h.reb.ne h.plb (by decide))).trans h.reb, wab := (hk _ (h.wab.ne h.plb (by decide))).trans h.wab, heb := (hk _ h.ap.2.2).trans h.heb, plb := hw, sab := (hk _ (h.sab.ne h.plb (by decide))).trans h.sab, tro := own_keepT h.tro fun b e => hk b (h.plb.own_ne h.tro (by decide) b e), sso := own_keepT h.sso fun b e => hk b (h.aps b e).2.2, ap := h.ap, aps := h.aps, now := h.now, cls := fun e => by
      obtain ⟨a1, a2, a3, a4, a5, a6, a7, a8⟩ := h.cls e
      exact ⟨a1, a2, (hk _ (a3.ne h.plb (by decide))).trans a3, (hk _ (a4.ne h.plb (by decide))).trans a4, a5, own_keepT a6 fun b e => hk b (h.plb.own_ne a6 (by decide) b e), own_keepT a7 fun b e => hk b (h.plb.own_ne a7 (by decide) b e), a8⟩, sm := h.sm, exb := fun e => (hk _ ((h.exb e).ne h.plb (by decide))).trans (h.exb e) }
theorem SIx.head (h : SIx B w p k s) (a : Nat) (ha : a ≤ 2) (hw : CB w' p (sc k { s with hd := a }) 60) (hk : ∀ x, x ≠ p → w'.heap[x]? = w.heap[x]?) : SIx B w' p k { s with hd := a } :=
  { pB := h.pB, low := h.low, blk := hw, vab := (hk _ (h.vab.ne h.blk (by decide))).trans h.vab, leb := (hk _ (h.leb.ne h.blk (by decide))).trans h.leb, reb := (hk _ (h.reb.ne h.blk (by decide))).trans h.reb, wab := (hk _ (h.wab.ne h.blk (by decide))).trans h.wab, heb := (hk _ (h.heb.ne h.blk (by decide))).trans h.heb, plb := (hk _ (h.plb.ne h.blk (by decide))).trans h.plb, sab := (hk _ (h.sab.ne h.blk (by decide))).trans h.sab, tro := own_keepT h.tro fun b e => hk b (h.blk.own_ne h.tro (by decide) b e), sso := own_keepT h.sso fun b e => hk b (h.blk.own_ne h.sso (by decide) b e), ap := h.ap, aps := h.aps, now := h.now, cls := fun e => by
      obtain ⟨a1, a2, a3, a4, a5, a6, a7, a8⟩ := h.cls e
      exact ⟨a1, a2, (hk _ (a3.ne h.blk (by decide))).trans a3, (hk _ (a4.ne h.blk (by decide))).trans a4, a5, own_keepT a6 fun b e => hk b (h.blk.own_ne a6 (by decide) b e), own_keepT a7 fun b e => hk b (h.blk.own_ne a7 (by decide) b e), a8⟩, sm := ⟨h.sm.1, h.sm.2.1, h.sm.2.2.1, ha⟩, exb := fun e => (hk _ ((h.exb e).ne h.blk (by decide))).trans (h.exb e) }
theorem SIx.hlen (h : SIx B w p k s) (a : Nat) (ha : a ≤ 2) (hw : CB w' p (sc k { s with hn := a }) 60) (hk : ∀ x, x ≠ p → w'.heap[x]? = w.heap[x]?) : SIx B w' p k { s with hn := a } :=
  { pB := h.pB, low := h.low, blk := hw, vab := (hk _ (h.vab.ne h.blk (by decide))).trans h.vab, leb := (hk _ (h.leb.ne h.blk (by decide))).trans h.leb, reb := (hk _ (h.reb.ne h.blk (by decide))).trans h.reb, wab := (hk _ (h.wab.ne h.blk (by decide))).trans h.wab, heb := (hk _ (h.heb.ne h.blk (by decide))).trans h.heb, plb := (hk _ (h.plb.ne h.blk (by decide))).trans h.plb, sab := (hk _ (h.sab.ne h.blk (by decide))).trans h.sab, tro := own_keepT h.tro fun b e => hk b (h.blk.own_ne h.tro (by decide) b e), sso := own_keepT h.sso fun b e => hk b (h.blk.own_ne h.sso (by decide) b e), ap := h.ap, aps := h.aps, now := h.now, cls := fun e => by
      obtain ⟨a1, a2, a3, a4, a5, a6, a7, a8⟩ := h.cls e
      exact ⟨a1, a2, (hk _ (a3.ne h.blk (by decide))).trans a3, (hk _ (a4.ne h.blk (by decide))).trans a4, a5, own_keepT a6 fun b e => hk b (h.blk.own_ne a6 (by decide) b e), own_keepT a7 fun b e => hk b (h.blk.own_ne a7 (by decide) b e), a8⟩, sm := ⟨h.sm.1, h.sm.2.1, ha, h.sm.2.2.2⟩, exb := fun e => (hk _ ((h.exb e).ne h.blk (by decide))).trans (h.exb e) }
theorem SIx.trail (h : SIx B w p k s) (a : Int) (v : Value) (ha : s.tr.length < 2) (hw : CB w' p (sc { k with tv := v } { s with tr := s.tr ++ [a] }) 60) (hr : w'.ownsRow B 81 1 v (s.tr.length + 1) ((s.tr ++ [a]).map lv)) (hn : ∀ g, v.ownBlock = some g → k.tv.ownBlock = some g ∨ w.heap.size ≤ g) (hk : ∀ x, x < w.heap.size → x ≠ p → k.tv.ownBlock ≠ some x → w'.heap[x]? = w.heap[x]?) : SIx B w' p { k with tv := v } { s with tr := s.tr ++ [a] } :=
  { pB := h.pB, low := h.low, blk := hw, vab := (hk _ (lt_of_get h.vab) (h.vab.ne h.blk (by decide)) (fun e => h.vab.own_ne h.tro (by decide) _ e rfl)).trans h.vab, leb := (hk _ (lt_of_get h.leb) (h.leb.ne h.blk (by decide)) (fun e => h.leb.own_ne h.tro (by decide) _ e rfl)).trans h.leb, reb := (hk _ (lt_of_get h.reb) (h.reb.ne h.blk (by decide)) (fun e => h.reb.own_ne h.tro (by decide) _ e rfl)).trans h.reb, wab := (hk _ (lt_of_get h.wab) (h.wab.ne h.blk (by decide)) (fun e => h.wab.own_ne h.tro (by decide) _ e rfl)).trans h.wab, heb := (hk _ (lt_of_get h.heb) (h.heb.ne h.blk (by decide)) (fun e => h.heb.own_ne h.tro (by decide) _ e rfl)).trans h.heb, plb := (hk _ (lt_of_get h.plb) (h.plb.ne h.blk (by decide)) (fun e => h.plb.own_ne h.tro (by decide) _ e rfl)).trans h.plb, sab := (hk _ (lt_of_get h.sab) (h.sab.ne h.blk (by decide)) (fun e => h.sab.own_ne h.tro (by decide) _ e rfl)).trans h.sab, tro := by rw [List.length_append]; exact hr, sso := own_keepT h.sso fun b e => hk b (own_ltT h.sso b e).2 (h.blk.own_ne h.sso (by decide) b e) (row_ne h.sso h.tro (by decide) b e), ap := h.ap, aps := h.aps, now := h.now, cls := fun e => by
      obtain ⟨a1, a2, a3, a4, a5, a6, a7, a8⟩ := h.cls e
      refine ⟨a1, a2, (hk _ (lt_of_get a3) (a3.ne h.blk (by decide)) (fun e => a3.own_ne h.tro (by decide) _ e rfl)).trans a3, (hk _ (lt_of_get a4) (a4.ne h.blk (by decide)) (fun e => a5 _ e rfl)).trans a4, (fun g e => by
        rcases hn g e with e' | e'
        · exact a5 g e'
        · have := lt_of_get a4; show g ≠ k.cl; omega), own_keepT a6 fun b e => hk b (own_ltT a6 b e).2 (h.blk.own_ne a6 (by decide) b e) (row_ne a6 h.tro (by decide) b e), own_keepT a7 fun b e => hk b (own_ltT a7 b e).2 (h.blk.own_ne a7 (by decide) b e) (row_ne a7 h.tro (by decide) b e), a8⟩, sm := ⟨by rw [List.length_append]; simp; omega, h.sm.2⟩, exb := fun e => (hk _ (lt_of_get (h.exb e)) ((h.exb e).ne h.blk (by decide)) (fun e2 => (h.exb e).own_ne h.tro (by decide) _ e2 rfl)).trans (h.exb e) }
theorem SIx.starts (h : SIx B w p k s) (a : Int) (v : Value) (ha : s.ss.length < 2) (hw : CB w' p (sc { k with sv := v } { s with ss := s.ss ++ [a] }) 60) (hr : w'.ownsRow B 3 1 v (s.ss.length + 1) ((s.ss ++ [a]).map iz)) (hn : ∀ g, v.ownBlock = some g → k.sv.ownBlock = some g ∨ w.heap.size ≤ g) (hk : ∀ x, x < w.heap.size → x ≠ p → k.sv.ownBlock ≠ some x → w'.heap[x]? = w.heap[x]?) : SIx B w' p { k with sv := v } { s with ss := s.ss ++ [a] } :=
  { pB := h.pB, low := h.low, blk := hw, vab := (hk _ (lt_of_get h.vab) (h.vab.ne h.blk (by decide)) (fun e => h.vab.own_ne h.sso (by decide) _ e rfl)).trans h.vab, leb := (hk _ (lt_of_get h.leb) (h.leb.ne h.blk (by decide)) (fun e => (h.aps _ e).1 rfl)).trans h.leb, reb := (hk _ (lt_of_get h.reb) (h.reb.ne h.blk (by decide)) (fun e => h.reb.own_ne h.sso (by decide) _ e rfl)).trans h.reb, wab := (hk _ (lt_of_get h.wab) (h.wab.ne h.blk (by decide)) (fun e => h.wab.own_ne h.sso (by decide) _ e rfl)).trans h.wab, heb := (hk _ (lt_of_get h.heb) (h.heb.ne h.blk (by decide)) (fun e => (h.aps _ e).2.1 rfl)).trans h.heb, plb := (hk _ (lt_of_get h.plb) (h.plb.ne h.blk (by decide)) (fun e => (h.aps _ e).2.2 rfl)).trans h.plb, sab := (hk _ (lt_of_get h.sab) (h.sab.ne h.blk (by decide)) (fun e => h.sab.own_ne h.sso (by decide) _ e rfl)).trans h.sab, sso := by rw [List.length_append]; exact hr, tro := own_keepT h.tro fun b e => hk b (own_ltT h.tro b e).2 (h.blk.own_ne h.tro (by decide) b e) (row_ne h.tro h.sso (by decide) b e), ap := h.ap, aps := fun g e => by
      rcases hn g e with e' | e'
      · exact h.aps g e'
      · have a1 := lt_of_get h.leb; have a2 := lt_of_get h.heb; have a3 := lt_of_get h.plb; exact ⟨by show g ≠ k.lb; omega, by show g ≠ k.hb; omega, by show g ≠ k.pb; omega⟩, now := h.now, cls := fun e => by
      obtain ⟨a1, a2, a3, a4, a5, a6, a7, a8⟩ := h.cls e
      refine ⟨a1, a2, (hk _ (lt_of_get a3) (a3.ne h.blk (by decide)) (fun e => a3.own_ne h.sso (by decide) _ e rfl)).trans a3, (hk _ (lt_of_get a4) (a4.ne h.blk (by decide)) (fun e => a4.own_ne h.sso (by decide) _ e rfl)).trans a4, a5, own_keepT a6 fun b e => hk b (own_ltT a6 b e).2 (h.blk.own_ne a6 (by decide) b e) (row_ne a6 h.sso (by decide) b e), own_keepT a7 fun b e => hk b (own_ltT a7 b e).2 (h.blk.own_ne a7 (by decide) b e) (row_ne a7 h.sso (by decide) b e), a8⟩, sm := ⟨h.sm.1, by rw [List.length_append]; simp; omega, h.sm.2.2⟩, exb := fun e => (hk _ (lt_of_get (h.exb e)) ((h.exb e).ne h.blk (by decide)) (fun e2 => (h.exb e).own_ne h.sso (by decide) _ e2 rfl)).trans (h.exb e) }
end
end Go.Proofs.YtpkmpbnedoldlaaGreat
