/-
  moves of a clause in either order; makeTrue leaves the lists and the clauses.
-/
import Derived.Test.YtembgefbmecdbaaR10
namespace Go.Proofs.Ytembgefbmecdbaa
open Go.RowKit Go.Lib
section
variable {B p : Nat} {k : PB} {s : PS} {W : Int → List Nat} {K : List (List Int)} {C : Nat → CAt}
theorem LM.kt {w w' : World} {tv : Value} {s' : PS} (h : LM B w k s W K C) (hp : PIx B w p k s) (hk : KT w w' p k.vb k.tv tv) (hV : s'.V = s.V) (hd : s'.hd = s.hd) : LM B w' { k with tv := tv } s' W K C := by
  have hb : ∀ i c, K[i]? = some c → ∃ cur : Array Value, CB w (C i).b cur 3 ∧ CB w' (C i).b cur 3 ∧ cur.toList.take c.length = iv c := by
    intro i c hi
    obtain ⟨_, _, _, cur, a4, a5⟩ := h.cl i c hi
    exact ⟨cur, a4, (hk.keep _ (lt_of_get a4) (a4.ne hp.blk (by decide)) (a4.ne hp.vab (by decide)) (fun e => h.ct i c hi _ e rfl)).trans a4, a5⟩
  refine { li := fun x h0 h1 => ?_, ln := fun x y h0 h1 h2 h3 => ?_, cl := fun i c hi => ?_, ci := h.ci, ct := fun i c hi g hg => ?_, wl := fun x h0 h1 => ?_ }
  · rw [hV] at h0 h1
    rw [hd]
    exact own_keep (h.li x h0 h1) fun b e => hk.keep b (own_ltT (h.li x h0 h1) b e).2 (hp.blk.own_ne (h.li x h0 h1) (by decide) b e) (hp.vab.own_ne (h.li x h0 h1) (by decide) b e) (row_ne (h.li x h0 h1) hp.tro (by decide) b e)
  · rw [hV] at h0 h1 h2 h3
    rw [hd]
    exact h.ln x y h0 h1 h2 h3
  · obtain ⟨a1, a2, a3, _⟩ := h.cl i c hi
    obtain ⟨cur, _, b2, b3⟩ := hb i c hi
    exact ⟨a1, a2, a3, cur, b2, b3⟩
  · rcases hk.own g hg with q | q
    · exact h.ct i c hi g q
    · obtain ⟨cur, b1, _⟩ := hb i c hi
      have := lt_of_get b1
      omega
  · rw [hV] at h0 h1
    exact h.wl x h0 h1
theorem PS.mk1_V (s : PS) (x : Int) : (s.mk1 x).V = s.V := by unfold PS.mk1; split <;> rfl
theorem PS.mk1_hd (s : PS) (x : Int) : (s.mk1 x).hd = s.hd := by unfold PS.mk1; split <;> rfl
/-- makeTrue, with the lists and the clauses. -/
theorem mk_t (w : World) (hp : PIx B w p k s) (hl : LM B w k s W K C) (x : Int) (hx0 : x ≠ 0) (h0 : -(s.V : Int) ≤ x) (h1 : x ≤ s.V) (ht : s.tr.length < 1000) (hB : B ≤ w.heap.size) : Calls Try.prog 30 #[pp p, iz x] w fun e w' => e = .returned (.bool ((s.mk1 x).val x == 1)) ∧ ∃ tv, PIx B w' p { k with tv := tv } (s.mk1 x) ∧ LM B w' { k with tv := tv } (s.mk1 x) W K C ∧ Below B w w' ∧ KT w w' p k.vb k.tv tv :=
  (makeTrue_t w hp x hx0 h0 h1 ht hB).mono fun _ _ ⟨e, tv, q1, q2, q3⟩ => ⟨e, tv, q1, hl.kt hp q3 (s.mk1_V x) (s.mk1_hd x), q2, q3⟩
theorem Wa.split {c : List Int} {a x : Int} (h : Wa c a x) : ∃ r, c = a :: x :: r ∨ c = x :: a :: r := by
  match c, h with
  | y :: z :: r, h =>
    rcases h with ⟨h1, h2⟩ | ⟨h1, h2⟩ <;> simp at h1 h2
    · exact ⟨r, .inl (by rw [h1, h2])⟩
    · exact ⟨r, .inr (by rw [h1, h2])⟩
  | [y], h => rcases h with ⟨h1, h2⟩ | ⟨h1, h2⟩ <;> simp at h2
  | [], h => rcases h with ⟨h1, h2⟩ | ⟨h1, h2⟩ <;> simp at h1
/-- moves, the watched literals in either order. -/
theorem moves_t (w : World) (hp : PIx B w p k s) (hl : LM B w k s W K C) {x a : Int} {c : List Int} {i : Nat} (hi : K[i]? = some c) (hc : Wa c a x) (hax : a ≠ x) (hr : ∀ y, y ∈ c → -(s.V : Int) ≤ y ∧ y ≤ s.V) (hrl : c.length ≤ 1000) (hW : ∀ y : Int, -(s.V : Int) ≤ y → y ≤ s.V → (W y).length < 100000) (hB : B ≤ w.heap.size) :
    ∃ r, (c = a :: x :: r ∨ c = x :: a :: r) ∧ Calls Try.prog 60 #[pp p, iz x, hdr (C i)] w (MV B w p k s W K C x a r i) := by
  obtain ⟨r, hcr⟩ := hc.split
  refine ⟨r, hcr, ?_⟩
  rcases hcr with rfl | rfl
  · exact moves_0 w hp hl x a r i hi hax (hr a (by simp)) (fun y hy => hr y (by simp [hy])) (by simp at hrl; omega) hW hB
  · exact moves_1 w hp hl x a r i hi hax (hr a (by simp)) (fun y hy => hr y (by simp [hy])) (by simp at hrl; omega) hW hB
end
end Go.Proofs.Ytembgefbmecdbaa
