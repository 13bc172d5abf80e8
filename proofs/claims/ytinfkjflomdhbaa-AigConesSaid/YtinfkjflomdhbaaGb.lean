/-
  How a graph lies in memory: a struct with the row of the nodes' literals, a map from the literals of an AND to its own, and the number of inputs; what a call may change of it.
-/
import Derived.Test.YtinfkjflomdhbaaGa
import Derived.Test.YtinfkjflomdhbaaProg
import Derived.Test.YtinfkjflomdhbaaRows
import Derived.WalkKit
import Derived.WalkSpells
import Derived.WalkLawsBesides
import Derived.StillTailTactics
import Derived.BigQuiet
import Derived.Deep.QuietTactic
import Derived.Deep.AppendLies
import Derived.Deep.RegionLaw
import Derived.Deep.Cut
import Derived.Deep.RegionHeld3
import Derived.Deep.OwnRows
import Derived.Shelf.Abstract
import Derived.Lib.Hide
import Derived.Lib.OwnBridge
import Derived.Lib.Strings
import Derived.Handy
import Derived.IntWalk
import Derived.Below
import Derived.Laws.BitsAllLaws
import Derived.Maps.OwnSet
import Derived.WideKeyPair
import Derived.DeepKeys4
namespace Go.Proofs.Ytinfkjflomdhbaa
open Go.RowKit Go.Lib Go.Maps
/-- What a call that returns v and touches nothing that was there leaves. -/
def RV (w : World) (v : Value) (e : Ending) (w' : World) : Prop := e = .returned v ∧ Below w.heap.size w w'
/-- What a call that returns v and leaves the world as it is leaves. -/
def RW (w : World) (v : Value) (e : Ending) (w' : World) : Prop := e = .returned v ∧ w = w'
/-- Outside of the blocks F all that lay lies as it lay. -/
structure Keep (F : Nat → Prop) (w w' : World) : Prop where
  os : w'.os = w.os
  tape : w'.tape = w.tape
  output : w'.output = w.output
  size : w.heap.size ≤ w'.heap.size
  block : ∀ k, k < w.heap.size → ¬ F k → w'.heap[k]? = w.heap[k]?
theorem Keep.of_below {F : Nat → Prop} {w w' : World} (h : Below w.heap.size w w') : Keep F w w' := ⟨h.os, h.tape, h.output, h.size, fun k hk _ => h.block k hk⟩
theorem Keep.below {F : Nat → Prop} {w w' : World} (h : Keep F w w') {B : Nat} (hB : B ≤ w.heap.size) (hF : ∀ b, F b → B ≤ b) : Below B w w' :=
  ⟨h.os, h.tape, h.output, h.size, fun k hk => h.block k (by omega) fun hf => by have := hF k hf; omega⟩
theorem Keep.trans {F G : Nat → Prop} {a b c : World} (h : Keep F a b) (k : Keep G b c) (hG : ∀ x, G x → F x ∨ a.heap.size ≤ x) : Keep F a c :=
  ⟨k.os.trans h.os, k.tape.trans h.tape, k.output.trans h.output, Nat.le_trans h.size k.size, fun i hi hn => (k.block i (Nat.lt_of_lt_of_le hi h.size) fun hg => by
    rcases hG i hg with e | e
    · exact hn e
    · omega).trans (h.block i hi hn)⟩
theorem Keep.refl (F : Nat → Prop) (w : World) : Keep F w w := ⟨rfl, rfl, rfl, Nat.le_refl _, fun _ _ _ => rfl⟩
theorem Keep.set {F : Nat → Prop} {w w' : World} (h : Keep F w w') (p : Addr) (hp : F p.block) (u : Value) : Keep F w (w'.setCell p u) :=
  ⟨h.os, h.tape, h.output, by rw [World.size_setCell]; exact h.size, fun k hk hn => (Below.heap_setCell w' p u k (fun e => hn (by rw [e]; exact hp))).trans (h.block k hk hn)⟩
theorem keep_grown {w2 w6 : World} {row : Option Nat} {F : Nat → Prop} (hg : w2.grownBy w6 row) (hF : ∀ b, row = some b → F b) : Keep F w2 w6 :=
  ⟨hg.os, hg.tape, hg.output, hg.size, fun b hb hn => hg.block b hb fun e => hn (hF b e.symm)⟩
theorem heap_set (w : World) (b i : Nat) (cs : Array Value) (t : TypeId) (u : Value) (h : w.heap[b]? = some (.cells cs t (0, 0))) : (w.setCell ⟨b, i, none⟩ u).heap[b]? = some (.cells (cs.setIfInBounds i u) t (0, 0)) := by
  simp [World.setCell, Array.getElem?_modify, h]
theorem lt_of_get {w : World} {b : Nat} {o : Obj} (h : w.heap[b]? = some o) : b < w.heap.size := (Array.getElem?_eq_some_iff.1 h).1
theorem own_ltT {w : World} {B n s : Nat} {e : TypeId} {v : Value} {xs : List Value} (h : w.ownsRow B e s v n xs) : ∀ g, v.ownBlock = some g → B ≤ g ∧ g < w.heap.size := by
  rcases h.2 with ⟨rfl, _⟩ | ⟨g, cap, cur, rfl, hb, hg, h3⟩
  · intro g hg; cases hg
  · intro g' hg'
    cases hg'
    exact ⟨hb, (Array.getElem?_eq_some_iff.1 hg).1⟩
theorem own_keepT {w w' : World} {B n : Nat} {e : TypeId} {sz : Nat} {v : Value} {xs : List Value} (h : w.ownsRow B e sz v n xs) (hk : ∀ b, v.ownBlock = some b → w'.heap[b]? = w.heap[b]?) : w'.ownsRow B e sz v n xs := by
  refine ⟨h.1, ?_⟩
  rcases h.2 with hn | ⟨g, cap, cur, rfl, hb, hgg, rest⟩
  · exact .inl hn
  · exact .inr ⟨g, cap, cur, rfl, hb, (hk g rfl).trans hgg, rest⟩
theorem own_shape {w : World} {B n : Nat} {e : TypeId} {sz : Nat} {v : Value} {xs : List Value} (h : w.ownsRow B e sz v n xs) : ∃ A c, v = .slice A n c := by
  rcases h.2 with ⟨rfl, hn⟩ | ⟨g, cap, cur, rfl, _⟩
  · exact ⟨none, 0, by rw [hn]⟩
  · exact ⟨_, _, rfl⟩
theorem own_some {w : World} {B n : Nat} {e : TypeId} {sz : Nat} {v : Value} {xs : List Value} (h : w.ownsRow B e sz v n xs) (hn : 0 < n) : ∃ g c, v = .slice (some ⟨g, 0, none⟩) n c ∧ B ≤ g ∧ ∃ cur, w.heap[g]? = some (.cells cur e (0, 0)) ∧ cur.toList.take (n * sz) = xs := by
  rcases h.2 with ⟨rfl, h0⟩ | ⟨g, cap, cur, rfl, hb, hg, _, _, _, ht⟩
  · omega
  · exact ⟨g, cap, rfl, hb, cur, hg, ht⟩
theorem own_blk {w : World} {B n : Nat} {e : TypeId} {sz : Nat} {v : Value} {xs : List Value} (h : w.ownsRow B e sz v n xs) (b : Nat) (hb : v.ownBlock = some b) : ∃ cur, w.heap[b]? = some (.cells cur e (0, 0)) := by
  rcases h.2 with ⟨rfl, h0⟩ | ⟨g, cap, cur, rfl, hb2, hg, _⟩
  · cases hb
  · cases hb; exact ⟨cur, hg⟩
/-- The nodes' literals as cells. -/
def fcells (F : List PN) : List Value := F.flatMap fun p => [.int .i64 (p.1 : Int), .int .i64 (p.2 : Int)]
theorem fcells_len : ∀ F : List PN, (fcells F).length = F.length * 2
  | [] => rfl
  | p :: F => by
    have := fcells_len F
    simp only [fcells, List.flatMap_cons, List.length_append, List.length_cons, List.length_nil] at *
    omega
theorem fcells_app (F G : List PN) : fcells (F ++ G) = fcells F ++ fcells G := by simp [fcells]
theorem fcells_get : ∀ (F : List PN) (i : Nat) (p : PN), F[i]? = some p → (fcells F)[i * 2]? = some (.int .i64 (p.1 : Int)) ∧ (fcells F)[i * 2 + 1]? = some (.int .i64 (p.2 : Int))
  | [], i, p, h => by simp at h
  | q :: F, 0, p, h => by
    simp at h
    subst h
    exact ⟨rfl, rfl⟩
  | q :: F, i + 1, p, h => by
    have := fcells_get F i p (by simpa using h)
    rw [show (i + 1) * 2 = i * 2 + 1 + 1 by omega]
    simpa [fcells] using this
abbrev DU := DataW Unit
/-- An AND's literals as a key. -/
def kl (p : PN) : Lit := .string (keyBytes [.int .i64 (p.1 : Int), .int .i64 (p.2 : Int)])
theorem laidOut : laidOutB Try.prog = true := by kernel_rfl
theorem fanArr : WideMaps.ArrKey Try.prog 58 3 2 := ⟨Try.underlying58, by kernel_rfl, by kernel_rfl, by kernel_rfl⟩
theorem types_pos : ∃ m, Try.prog.types.size = m + 1 := ⟨Try.prog.types.size - 1, by have : 0 < Try.prog.types.size := of_decide_eq_true (by kernel_rfl); omega⟩
theorem kF : Keyed Try.prog 58 := Keyed.of_law (deep_law_laid laidOut (m := 2) (by omega) (of_decide_eq_true (by kernel_rfl)) (by kernel_rfl) (by rw [Try.underlying58]))
theorem wf_small {n : Nat} (h : n < 1000000) : (Lit.int .i64 (n : Int)).wf = true := WalkArith.wf_i64 (by omega)
theorem key_mk {a b : Nat} (ha : a < 1000000) (hb : b < 1000000) : keyOf Try.prog 58 (.agg #[.int .i64 (a : Int), .int .i64 (b : Int)]) = some (kl (a, b)) :=
  WideMaps.keyOf_pair fanArr Try.underlying3 types_pos (wf_small ha) (wf_small hb)
theorem kl_inj {p q : PN} (hp : p.1 < 1000000 ∧ p.2 < 1000000) (hq : q.1 < 1000000 ∧ q.2 < 1000000) (h : kl p = kl q) : p = q := by
  have h1 := key_mk hp.1 hp.2
  have h2 := key_mk hq.1 hq.2
  have e : kl (p.1, p.2) = kl (q.1, q.2) := h
  rw [e] at h1
  have := kF.inj h1 h2
  simp at this
  exact Prod.ext (by have := this.1; omega) (by have := this.2; omega)
theorem zI (w : World) : (zeroValue 3).run Try.prog w = .ok (.int .i64 0) w := by kernel_rfl
/-- Block m is a map that reads as D. -/
abbrev MapIs (w : World) (m n : Nat) (D : DU) : Prop := w.ownsMap Try.prog 58 (plainElem (H := Unit) Try.prog 3) m n D
/-- The map holds the place of each AND. -/
def AgF (D : DU) (F : List PN) : Prop := IsMap D ∧ ∀ p : PN, 2 ≤ p.1 → p.1 < 1000000 → p.2 < 1000000 → Maps.has D (kl p) = (lookF F p).isSome ∧ ∀ i, lookF F p = some i → ∀ z, D.atKey (kl p) z = .lit (.int .i64 ((2 * i : Nat) : Int))
theorem lookF_input (F : List PN) (p : PN) (h : 2 ≤ p.1) : lookF (F ++ [(0, 0)]) p = lookF F p := by
  unfold lookF
  rw [List.findIdx?_append]
  cases e : List.findIdx? (fun x => x == p) F with
  | some i => rfl
  | none =>
    have : ((0, 0) == p) = false := by
      rw [beq_eq_false_iff_ne]
      intro e; rw [← e] at h; simp at h
    simp [List.findIdx?_cons, this]
theorem lookF_and (F : List PN) (p q : PN) : lookF (F ++ [q]) p = (lookF F p).or (if q = p then some F.length else none) := by
  unfold lookF
  rw [List.findIdx?_append]
  by_cases e : q = p
  · subst e; simp [List.findIdx?_cons]
  · simp [List.findIdx?_cons, e]
theorem AgF.new : AgF (.map []) [(0, 0)] := ⟨isMap_empty, fun p h _ _ => by
  have e : lookF [(0, 0)] p = none := by
    have := lookF_input [] p h
    simpa [lookF] using this
  rw [e]
  exact ⟨rfl, fun i h => by cases h⟩⟩
theorem AgF.input {D : DU} {F : List PN} (h : AgF D F) : AgF D (F ++ [(0, 0)]) := ⟨h.1, fun p h1 h2 h3 => by rw [lookF_input F p h1]; exact h.2 p h1 h2 h3⟩
theorem AgF.and {D : DU} {F : List PN} (h : AgF D F) {q : PN} (hq : q.1 < 1000000 ∧ q.2 < 1000000) (hn : lookF F q = none) : AgF (D.put (kl q) (.lit (.int .i64 ((2 * F.length : Nat) : Int)))) (F ++ [q]) := by
  refine ⟨h.1.put _ _, fun p h1 h2 h3 => ?_⟩
  rw [lookF_and]
  by_cases e : q = p
  · subst e
    rw [hn, if_pos rfl]
    exact ⟨has_put_same h.1 (show WideAt.IsKeyLit (kl q) from trivial) _, fun i hn z => by cases hn; exact atKey_put_same h.1 (show WideAt.IsKeyLit (kl q) from trivial) _ _⟩
  · rw [if_neg e, Option.or_none]
    have hne : kl p ≠ kl q := fun h' => e (kl_inj ⟨h2, h3⟩ hq h').symm
    refine ⟨by rw [has_put_other hne]; exact (h.2 p h1 h2 h3).1, fun i hi z => ?_⟩
    rw [atKey_put_other hne]
    exact (h.2 p h1 h2 h3).2 i hi z
/-- A graph whose nodes have the literals F lies at block p. -/
structure GIx (w : World) (B p : Nat) (F : List PN) (v : Value) (m n : Nat) (D : DU) : Prop where
  b : B ≤ p
  bm : B ≤ m
  wf : WF F
  sm : F.length ≤ 50000
  blk : w.heap[p]? = some (.cells #[v, .map (some m), .int .i64 (cnt F : Int)] 56 (0, 0))
  row : w.ownsRow B 58 2 v F.length (fcells F)
  mp : MapIs w m n D
  ag : AgF D F
  nl : n ≤ F.length
def GI (w : World) (B p : Nat) (F : List PN) : Prop := ∃ v m n D, GIx w B p F v m n D
/-- The blocks of a graph. -/
def FT (w : World) (p g : Nat) : Prop := g = p ∨ ∃ v m i T f, w.heap[p]? = some (.cells #[v, .map (some m), i] T f) ∧ (v.ownBlock = some g ∨ g = m)
section
variable {w w' : World} {B p m n : Nat} {F : List PN} {v : Value} {D : DU}
theorem GIx.ft (h : GIx w B p F v m n D) (g : Nat) : FT w p g ↔ g = p ∨ v.ownBlock = some g ∨ g = m := by
  constructor
  · rintro (e | ⟨v', m', i', T', f', h1, h2⟩)
    · exact .inl e
    · rw [h.blk] at h1
      cases h1
      exact .inr h2
  · rintro (e | e)
    · exact .inl e
    · exact .inr ⟨_, _, _, _, _, h.blk, e⟩
theorem GIx.map_obj (h : GIx w B p F v m n D) : ∃ es c, w.heap[m]? = some (.map es c) := by
  obtain ⟨es, c, e, _⟩ := h.mp
  exact ⟨es, c, e⟩
theorem GIx.lo (h : GIx w B p F v m n D) (g : Nat) (hg : FT w p g) : B ≤ g ∧ g < w.heap.size := by
  rcases (h.ft g).1 hg with rfl | e | rfl
  · exact ⟨h.b, lt_of_get h.blk⟩
  · exact own_ltT h.row g e
  · exact ⟨h.bm, h.mp.lt⟩
theorem GIx.vp (h : GIx w B p F v m n D) : v.ownBlock ≠ some p := fun e => by
  obtain ⟨cur, hc⟩ := own_blk h.row p e
  rw [h.blk] at hc
  cases hc
theorem GIx.mp' (h : GIx w B p F v m n D) : m ≠ p := fun e => by
  obtain ⟨es, c, hm⟩ := h.map_obj
  rw [e, h.blk] at hm
  cases hm
theorem GIx.vm (h : GIx w B p F v m n D) : v.ownBlock ≠ some m := fun e => by
  obtain ⟨cur, hc⟩ := own_blk h.row m e
  obtain ⟨es, c, hm⟩ := h.map_obj
  rw [hm] at hc
  cases hc
theorem map_keep (h : MapIs w m n D) (k : w'.heap[m]? = w.heap[m]?) : MapIs w' m n D := by
  unfold MapIs World.ownsMap at *
  rw [k]
  exact h
theorem GIx.kp (h : GIx w B p F v m n D) (k : ∀ g, FT w p g → w'.heap[g]? = w.heap[g]?) : GIx w' B p F v m n D :=
  { b := h.b, bm := h.bm, wf := h.wf, sm := h.sm, blk := (k p (.inl rfl)).trans h.blk, row := own_keepT h.row fun b hb => k b ((h.ft b).2 (.inr (.inl hb))), mp := map_keep h.mp (k m ((h.ft m).2 (.inr (.inr rfl)))), ag := h.ag, nl := h.nl }
theorem GIx.over (h : GIx w B p F v m n D) (k : Below w.heap.size w w') : GIx w' B p F v m n D := h.kp fun g hg => k.block g (h.lo g hg).2
/-- A block of another type is none of the graph's. -/
theorem GIx.other (h : GIx w B p F v m n D) {b : Nat} {cs : Array Value} {T : TypeId} {f : Nat × Nat} (hb : w.heap[b]? = some (.cells cs T f)) (h1 : T ≠ 56) (h2 : T ≠ 58) : ¬ FT w p b := fun hf => by
  rcases (h.ft b).1 hf with rfl | e | rfl
  · rw [h.blk] at hb
    cases hb
    exact h1 rfl
  · obtain ⟨cur, hc⟩ := own_blk h.row b e
    rw [hb] at hc
    cases hc
    exact h2 rfl
  · obtain ⟨es, c, hm⟩ := h.map_obj
    rw [hm] at hb
    cases hb
/-- What a call may change of a graph at p. -/
structure WP (p : Nat) (w w' : World) : Prop where
  k : Keep (FT w p) w w'
  f : ∀ g, FT w' p g → FT w p g ∨ w.heap.size ≤ g
theorem WP.trans {a b c : World} (h : WP p a b) (k : WP p b c) : WP p a c :=
  ⟨h.k.trans k.k h.f, fun g hg => by
    rcases k.f g hg with e | e
    · exact h.f g e
    · exact .inr (Nat.le_trans h.k.size e)⟩
theorem FT.of {g : Nat} (h : FT w' p g) (e : w'.heap[p]? = w.heap[p]?) : FT w p g := by
  rcases h with h | ⟨v, m, i, T, f, h1, h2⟩
  · exact .inl h
  · exact .inr ⟨v, m, i, T, f, e ▸ h1, h2⟩
theorem WP.of (h : Below w.heap.size w w') (hp : p < w.heap.size) : WP p w w' := ⟨Keep.of_below h, fun _ hg => .inl (hg.of (h.block p hp))⟩
theorem WP.refl (p : Nat) (w : World) : WP p w w := ⟨Keep.refl _ w, fun _ hg => .inl hg⟩
theorem WP.below (h : WP p w w') (hB : B ≤ w.heap.size) (hf : ∀ g, FT w p g → B ≤ g) : Below B w w' := h.k.below hB hf
theorem WP.blk (h : WP p w w') (hg : GI w B p F) {b : Nat} {cs : Array Value} {T : TypeId} {f : Nat × Nat} (hb : w.heap[b]? = some (.cells cs T f)) (h1 : T ≠ 56) (h2 : T ≠ 58) : w'.heap[b]? = some (.cells cs T f) := by
  obtain ⟨v, m, n, D, hx⟩ := hg
  exact (h.k.block b (lt_of_get hb) (hx.other hb h1 h2)).trans hb
theorem GI.over (h : GI w B p F) (k : Below w.heap.size w w') : GI w' B p F := by
  obtain ⟨v, m, n, D, hx⟩ := h
  exact ⟨v, m, n, D, hx.over k⟩
theorem GI.drew (h : GI w B p F) : GI w.drew B p F := by
  obtain ⟨v, m, n, D, hx⟩ := h
  exact ⟨v, m, n, D, hx.kp fun _ _ => rfl⟩
theorem GI.lt (h : GI w B p F) : p < w.heap.size := by
  obtain ⟨v, m, n, D, hx⟩ := h
  exact lt_of_get hx.blk
theorem GI.wf (h : GI w B p F) : WF F := by obtain ⟨v, m, n, D, hx⟩ := h; exact hx.wf
theorem GI.sm (h : GI w B p F) : F.length ≤ 50000 := by obtain ⟨v, m, n, D, hx⟩ := h; exact hx.sm
theorem GI.lo (h : GI w B p F) (g : Nat) (hg : FT w p g) : B ≤ g ∧ g < w.heap.size := by obtain ⟨v, m, n, D, hx⟩ := h; exact hx.lo g hg
theorem GI.bl (h : GI w B p F) : B ≤ w.heap.size := Nat.le_of_lt (Nat.lt_of_le_of_lt (by obtain ⟨v, m, n, D, hx⟩ := h; exact hx.b) h.lt)
theorem GI.below (h : GI w B p F) (k : WP p w w') : Below B w w' := k.below h.bl fun g hg => (h.lo g hg).1
/-- The graph's cells. -/
theorem GIx.c0 (h : GIx w B p F v m n D) : w.cell? ⟨p, 0, none⟩ = some v := by rw [Lib.cell_of_heap h.blk]; rfl
theorem GIx.c1 (h : GIx w B p F v m n D) : w.cell? ⟨p, 1, none⟩ = some (.map (some m)) := by rw [Lib.cell_of_heap h.blk]; rfl
theorem GIx.c2 (h : GIx w B p F v m n D) : w.cell? ⟨p, 2, none⟩ = some (.int .i64 (cnt F : Int)) := by rw [Lib.cell_of_heap h.blk]; rfl
theorem GIx.fz (h : GIx w B p F v m n D) (i : Nat) : w.frozen? ⟨p, i, none⟩ = false := Lib.frozen_of_heap h.blk i
theorem GIx.shape (h : GIx w B p F v m n D) : ∃ g c, v = .slice (some ⟨g, 0, none⟩) F.length c ∧ B ≤ g := by
  obtain ⟨g, c, e, hb, _⟩ := own_some h.row h.wf.pos
  exact ⟨g, c, e, hb⟩
theorem GIx.cell (h : GIx w B p F v m n D) {g c : Nat} (hv : v = .slice (some ⟨g, 0, none⟩) F.length c) {i : Nat} {q : PN} (hi : F[i]? = some q) :
    w.cell? ⟨g, i * 2, none⟩ = some (.int .i64 (q.1 : Int)) ∧ w.cell? ⟨g, i * 2 + 1, none⟩ = some (.int .i64 (q.2 : Int)) := by
  obtain ⟨h1, h2⟩ := fcells_get F i q hi
  have hb : v.ownBlock = some g := by rw [hv]; rfl
  have e : ∀ x, (⟨g, 0, none⟩ : Addr).add x = ⟨g, x, none⟩ := fun x => by unfold Addr.add; split <;> simp_all
  exact ⟨by rw [← e]; exact h.row.cells hb _ _ h1, by rw [← e]; exact h.row.cells hb _ _ h2⟩
end
/-- A variable that holds a number. -/
def BI (w : World) (b : Nat) (T : TypeId) (v : Value) : Prop := w.heap[b]? = some (.cells #[v] T (0, 0))
theorem BI.c {w : World} {b : Nat} {T : TypeId} {v : Value} (h : BI w b T v) : w.cell? ⟨b, 0, none⟩ = some v := by
  unfold BI at h
  rw [Lib.cell_of_heap h]; rfl
theorem BI.lt {w : World} {b : Nat} {T : TypeId} {v : Value} (h : BI w b T v) : b < w.heap.size := lt_of_get h
theorem BI.fz {w : World} {b : Nat} {T : TypeId} {v : Value} (h : BI w b T v) (i : Nat) : w.frozen? ⟨b, i, none⟩ = false := Lib.frozen_of_heap h i
theorem BI.new (w : World) (T : TypeId) (v : Value) : BI (w.alloc (.cells #[v] T)) w.heap.size T v := heap_alloc_new w _
theorem BI.over {w w' : World} {b : Nat} {T : TypeId} {v : Value} (h : BI w b T v) (k : Below w.heap.size w w') : BI w' b T v := (k.block b h.lt).trans h
theorem BI.wp {w w' : World} {b : Nat} {T : TypeId} {v : Value} {B p : Nat} {F : List PN} (h : BI w b T v) (hg : GI w B p F) (k : WP p w w') (h1 : T ≠ 56) (h2 : T ≠ 58) : BI w' b T v := k.blk hg h h1 h2
/-- A slice of numbers reads as l. -/
def RL (w : World) (A : Option Addr) (l : List Int) : Prop := 0 < l.length → ∃ b off : Nat, A = some ⟨b, off, none⟩ ∧ b < w.heap.size ∧ ∀ j, j < l.length → w.cell? ⟨b, off + j, none⟩ = some (.int .i64 (l.getD j 0))
theorem RL.over {w w' : World} {A : Option Addr} {l : List Int} (h : RL w A l) (k : Below w.heap.size w w') : RL w' A l := fun h0 => by
  obtain ⟨b, off, e, hb, hc⟩ := h h0
  exact ⟨b, off, e, Nat.lt_of_lt_of_le hb k.size, fun j hj => (k.cell (p := ⟨b, off + j, none⟩) hb).trans (hc j hj)⟩
theorem xor_mod (a : Nat) : (a ^^^ 1) % 2 = (a + 1) % 2 := by
  have h : (a ^^^ 1).testBit 0 = (a.testBit 0 ^^ (1 : Nat).testBit 0) := Nat.testBit_xor ..
  simp only [Nat.testBit_zero] at h
  have h2 := Nat.mod_two_eq_zero_or_one a
  have h3 := Nat.mod_two_eq_zero_or_one (a ^^^ 1)
  rcases h2 with e | e <;> rcases h3 with f | f <;> simp [e, f] at h ⊢ <;> omega
theorem xor_one (a : Nat) : a ^^^ 1 = nt a := by
  have h1 : (a ^^^ 1) / 2 = a / 2 := by
    have := Nat.xor_div_two (a := a) (b := 1)
    simpa using this
  have h2 : (a ^^^ 1) % 2 = (a + 1) % 2 := xor_mod a
  unfold nt
  split <;> omega
theorem nt_lt {a : Nat} : nt a ≤ a + 1 := by unfold nt; split <;> omega
theorem i64_xor1 (a : Nat) (ha : a < 1000000) : bits .xor .i64 (a : Int) 1 = ((nt a : Nat) : Int) := by
  show IntKind.i64.wrap ((BitVec.ofInt 64 (a : Int) ^^^ BitVec.ofInt 64 1).toNat : Int) = _
  have h1 : (BitVec.ofInt 64 1).toNat = 1 := by decide
  rw [BitVec.toNat_xor, ofInt_u64 a (by omega), h1, xor_one]
  have := nt_lt (a := a)
  simp [IntKind.wrap, IntKind.bits, IntKind.signed]
  omega
end Go.Proofs.Ytinfkjflomdhbaa
