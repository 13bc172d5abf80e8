/-
  Stores into the clause's literals, into a watch's variable, into the first list of watches; rewatch on a clause of two literals.
-/
import Derived.Test.YtpkmpbnedoldlaaGreatS8
import Derived.Deep.DeepAppendRoom
import Derived.Laws.OwnMore
namespace Go.Proofs.YtpkmpbnedoldlaaGreat
open Go.RowKit Go.Lib
section
variable {B p : Nat} {k : Bk} {s : St} {w w' : World}
theorem SIx.wvar (h : SIx B w p k s) {X : Nat} {cs : Array Value} (hX : CB w X cs 109) (hw : ∀ g, k.w0.ownBlock = some g ∨ k.w2.ownBlock = some g → g ≠ X) (hk : ∀ x, x ≠ X → w'.heap[x]? = w.heap[x]?) : SIx B w' p k s :=
  { pB := h.pB, low := h.low, blk := (hk _ (h.blk.ne hX (by decide))).trans h.blk, vab := (hk _ (h.vab.ne hX (by decide))).trans h.vab, leb := (hk _ (h.leb.ne hX (by decide))).trans h.leb, reb := (hk _ (h.reb.ne hX (by decide))).trans h.reb, wab := (hk _ (h.wab.ne hX (by decide))).trans h.wab, heb := (hk _ (h.heb.ne hX (by decide))).trans h.heb, plb := (hk _ (h.plb.ne hX (by decide))).trans h.plb, sab := (hk _ (h.sab.ne hX (by decide))).trans h.sab, tro := own_keepT h.tro fun b e => hk b (hX.own_ne h.tro (by decide) b e), sso := own_keepT h.sso fun b e => hk b (hX.own_ne h.sso (by decide) b e), ap := h.ap, aps := h.aps, now := h.now,
    cls := fun e => by
      obtain ⟨a1, a2, a3, a4, a5, a6, a7, a8⟩ := h.cls e
      exact ⟨a1, a2, (hk _ (a3.ne hX (by decide))).trans a3, (hk _ (a4.ne hX (by decide))).trans a4, a5, own_keepT a6 fun b e => hk b (hw b (.inl e)), own_keepT a7 fun b e => hk b (hw b (.inr e)), a8⟩, sm := h.sm, exb := fun e => (hk _ ((h.exb e).ne hX (by decide))).trans (h.exb e) }
theorem SIx.wats (h : SIx B w p k s) (hw : CB w' k.wb #[k.w0, .slice none 0 0, k.w2, .slice none 0 0] 106) (hk : ∀ x, x ≠ k.wb → w'.heap[x]? = w.heap[x]?) : SIx B w' p k s :=
  { pB := h.pB, low := h.low, wab := hw, blk := (hk _ (h.blk.ne h.wab (by decide))).trans h.blk, vab := (hk _ (h.vab.ne h.wab (by decide))).trans h.vab, leb := (hk _ (h.leb.ne h.wab (by decide))).trans h.leb, reb := (hk _ (h.reb.ne h.wab (by decide))).trans h.reb, heb := (hk _ (h.heb.ne h.wab (by decide))).trans h.heb, plb := (hk _ (h.plb.ne h.wab (by decide))).trans h.plb, sab := (hk _ (h.sab.ne h.wab (by decide))).trans h.sab, tro := own_keepT h.tro fun b e => hk b (h.wab.own_ne h.tro (by decide) b e), sso := own_keepT h.sso fun b e => hk b (h.wab.own_ne h.sso (by decide) b e), ap := h.ap, aps := h.aps, now := h.now,
    cls := fun e => by
      obtain ⟨a1, a2, a3, a4, a5, a6, a7, a8⟩ := h.cls e
      exact ⟨a1, a2, (hk _ (a3.ne h.wab (by decide))).trans a3, (hk _ (a4.ne h.wab (by decide))).trans a4, a5, own_keepT a6 fun b e => hk b (h.wab.own_ne a6 (by decide) b e), own_keepT a7 fun b e => hk b (h.wab.own_ne a7 (by decide) b e), a8⟩, sm := h.sm, exb := fun e => (hk _ ((h.exb e).ne h.wab (by decide))).trans (h.exb e) }
theorem SIx.swap (h : SIx B w p k s) (hs : s.ws = true) (a b : Int) (hw : CB w' k.cl #[lv a, lv b] 81) (hk : ∀ x, x ≠ k.cl → w'.heap[x]? = w.heap[x]?) : SIx B w' p k { s with c0 := a, c1 := b } := by
  obtain ⟨a1, a2, a3, a4, a5, a6, a7, a8⟩ := h.cls hs
  exact
  { pB := h.pB, low := h.low, blk := (hk _ (h.blk.ne a4 (by decide))).trans h.blk, vab := (hk _ (h.vab.ne a4 (by decide))).trans h.vab, leb := (hk _ (h.leb.ne a4 (by decide))).trans h.leb, reb := (hk _ (h.reb.ne a4 (by decide))).trans h.reb, wab := (hk _ (h.wab.ne a4 (by decide))).trans h.wab, heb := (hk _ (h.heb.ne a4 (by decide))).trans h.heb, plb := (hk _ (h.plb.ne a4 (by decide))).trans h.plb, sab := (hk _ (h.sab.ne a4 (by decide))).trans h.sab, tro := own_keepT h.tro fun b e => hk b (a5 b e), sso := own_keepT h.sso fun b e => hk b (a4.own_ne h.sso (by decide) b e), ap := h.ap, aps := h.aps, now := h.now,
    cls := fun _ => ⟨a1, a2, (hk _ (a3.ne a4 (by decide))).trans a3, hw, a5, own_keepT a6 fun b e => hk b (a4.own_ne a6 (by decide) b e), own_keepT a7 fun b e => hk b (a4.own_ne a7 (by decide) b e), a8⟩, sm := h.sm, exb := fun e => (hk _ ((h.exb e).ne a4 (by decide))).trans (h.exb e) }
theorem SIx.lst0 (h : SIx B w p k s) (hs : s.ws = true) (a : Int) (hr : w'.ownsRow B 109 2 k.w0 1 [pp k.cb, lv a]) (hk : ∀ x, x < w.heap.size → k.w0.ownBlock ≠ some x → w'.heap[x]? = w.heap[x]?) : SIx B w' p k { s with o0 := a } := by
  obtain ⟨a1, a2, a3, a4, a5, a6, a7, a8⟩ := h.cls hs
  exact
  { pB := h.pB, low := h.low, blk := (hk _ (lt_of_get h.blk) (fun e => h.blk.own_ne a6 (by decide) _ e rfl)).trans h.blk, vab := (hk _ (lt_of_get h.vab) (fun e => h.vab.own_ne a6 (by decide) _ e rfl)).trans h.vab, leb := (hk _ (lt_of_get h.leb) (fun e => h.leb.own_ne a6 (by decide) _ e rfl)).trans h.leb, reb := (hk _ (lt_of_get h.reb) (fun e => h.reb.own_ne a6 (by decide) _ e rfl)).trans h.reb, wab := (hk _ (lt_of_get h.wab) (fun e => h.wab.own_ne a6 (by decide) _ e rfl)).trans h.wab, heb := (hk _ (lt_of_get h.heb) (fun e => h.heb.own_ne a6 (by decide) _ e rfl)).trans h.heb, plb := (hk _ (lt_of_get h.plb) (fun e => h.plb.own_ne a6 (by decide) _ e rfl)).trans h.plb, sab := (hk _ (lt_of_get h.sab) (fun e => h.sab.own_ne a6 (by decide) _ e rfl)).trans h.sab, tro := own_keepT h.tro fun b e => hk b (own_ltT h.tro b e).2 (row_ne h.tro a6 (by decide) b e), sso := own_keepT h.sso fun b e => hk b (own_ltT h.sso b e).2 (row_ne h.sso a6 (by decide) b e), ap := h.ap, aps := h.aps, now := h.now,
    cls := fun _ => ⟨a1, a2, (hk _ (lt_of_get a3) (fun e => a3.own_ne a6 (by decide) _ e rfl)).trans a3, (hk _ (lt_of_get a4) (fun e => a4.own_ne a6 (by decide) _ e rfl)).trans a4, a5, hr, own_keepT a7 fun b e => hk b (own_ltT a7 b e).2 (fun e' => a8 b e' e), a8⟩, sm := h.sm, exb := fun e => (hk _ (lt_of_get (h.exb e)) (fun e2 => (h.exb e).own_ne a6 (by decide) _ e2 rfl)).trans (h.exb e) }
theorem rewatch_t (w : World) (h : SIx B w p k s) (hs : s.ws = true) : Calls Tryz.prog 85 #[pp p, pp k.cb] w (RW w (.bool false)) := by
  obtain ⟨_, _, a3, _⟩ := h.cls hs
  have c0 : w.cell? ⟨k.cb, 0, none⟩ = some (sl k.cl 2) := a3.c 0
  have cl := lt_of_get a3
  clear h hs a3
  go_enter Tryz.func85, Tryz.ntmps85
  go_wp2_with fail
  refine wp_loop_rounds 1 ?_
  rw [rounds_succ]
  go_wp2_with fail
  go_ret
  exact ⟨rfl, rfl⟩
end
end Go.Proofs.YtpkmpbnedoldlaaGreat
