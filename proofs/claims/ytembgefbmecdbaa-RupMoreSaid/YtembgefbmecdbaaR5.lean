/-
  assign, makeTrue.
-/
import Derived.Test.YtembgefbmecdbaaR3
namespace Go.Proofs.Ytembgefbmecdbaa
open Go.RowKit Go.Lib
theorem info_i64 : (Try.prog.info? 3).map (fun i => (i.zero, i.size, i.bytes)) = some (some (.int .i64 0), 1, 8) := by kernel_rfl
theorem cell_far {W : World} {b c i j : Nat} {u x : Value} (hn : b ≠ c) (h : W.cell? ⟨b, i, none⟩ = some x) : (W.setCell ⟨c, j, none⟩ u).cell? ⟨b, i, none⟩ = some x := by
  have hh := Below.heap_setCell W ⟨c, j, none⟩ u b hn
  unfold World.cell? at h ⊢
  simpa only [hh] using h
theorem own_shape' {w : World} {B n : Nat} {e : TypeId} {sz : Nat} {v : Value} {xs : List Value} (h : w.ownsRow B e sz v n xs) : ∃ A c, v = .slice A n c := by
  rcases h.2 with ⟨rfl, hn⟩ | ⟨g, cap, cur, rfl, _⟩
  · exact ⟨none, 0, by rw [hn]⟩
  · exact ⟨_, _, rfl⟩
/-- The values when x has become true. -/
def setT (val : Int → Int) (x : Int) : Int → Int := fun y => if y = -x then 2 else if y = x then 1 else val y
/-- What is left alone: all but the propagator's own block, the values' and the trail's. -/
structure KT (w w' : World) (p vb : Nat) (tv tv' : Value) : Prop where
  keep : ∀ y, y < w.heap.size → y ≠ p → y ≠ vb → tv.ownBlock ≠ some y → w'.heap[y]? = w.heap[y]?
  own : ∀ g, tv'.ownBlock = some g → tv.ownBlock = some g ∨ w.heap.size ≤ g
theorem KT.trans {w w1 w2 : World} {p vb : Nat} {a b c : Value} (h : KT w w1 p vb a b) (k : KT w1 w2 p vb b c) (hs : w.heap.size ≤ w1.heap.size) : KT w w2 p vb a c :=
  { keep := fun y h1 h2 h3 h4 => (k.keep y (by omega) h2 h3 (fun e => by rcases h.own y e with q | q; exact h4 q; omega)).trans (h.keep y h1 h2 h3 h4)
    own := fun g hg => by
      rcases k.own g hg with q | q
      · exact h.own g q
      · exact .inr (by omega) }
theorem KT.below {w w1 : World} {p vb : Nat} {a : Value} (h : Below w.heap.size w w1) : KT w w1 p vb a a := { keep := fun y h1 _ _ _ => h.block y h1, own := fun _ hg => .inl hg }
section
variable {B p : Nat} {k : PB} {s : PS} (w : World)
theorem PIx.vals {w w' : World} (h : PIx B w p k s) (val : Int → Int) (hw : CB w' k.vb (vcs s.V fun x => i8 (val x)) 71) (hk : ∀ x, x ≠ k.vb → w'.heap[x]? = w.heap[x]?) : PIx B w' p k { s with val := val } :=
  { pB := h.pB, low := h.low, hV := h.hV, blk := (hk _ (h.blk.ne h.vab (by decide))).trans h.blk, vab := hw, wab := (hk _ (h.wab.ne h.vab (by decide))).trans h.wab, tro := own_keep h.tro fun b e => hk b (h.vab.own_ne h.tro (by decide) b e) }
theorem PIx.pushed {w : World} (h : PIx B w p k s) (a : Int) (o : Obj) {w' : World} {g cap : Nat} (hr : w'.ownsRow B 3 1 (.slice (some ⟨g, 0, none⟩) (s.tr.length + 1) cap) (s.tr.length + 1) (iv s.tr ++ [iz a])) (hg : (w.alloc o).grownBy w' k.tv.ownBlock) (hl : k.tv.ownBlock = some g ∨ g = w.heap.size + 1) (hB : B ≤ w.heap.size) :
    PIx B (w'.setCell ⟨p, 3, none⟩ (.slice (some ⟨g, 0, none⟩) (s.tr.length + 1) cap)) p { k with tv := .slice (some ⟨g, 0, none⟩) (s.tr.length + 1) cap } { s with tr := s.tr ++ [a] } ∧ Below B w (w'.setCell ⟨p, 3, none⟩ (.slice (some ⟨g, 0, none⟩) (s.tr.length + 1) cap)) ∧ KT w (w'.setCell ⟨p, 3, none⟩ (.slice (some ⟨g, 0, none⟩) (s.tr.length + 1) cap)) p k.vb k.tv (.slice (some ⟨g, 0, none⟩) (s.tr.length + 1) cap) := by
  have hpl := lt_of_get h.blk
  have hpo := h.blk.own_ne h.tro (by decide)
  have hal : ∀ x, x < w.heap.size → (w.alloc o).heap[x]? = w.heap[x]? := fun x hx => ((Below.refl w.heap.size w).alloc (Nat.le_refl _) o).block x hx
  have hsz : (w.alloc o).heap.size = w.heap.size + 1 := by simp
  have hgp : g ≠ p := by
    rcases hl with e | e
    · exact hpo g e
    · omega
  have hp1 : CB w' p (pc k s) 59 := ((hg.block p (by omega) (fun e => hpo p e.symm rfl)).trans (hal p hpl)).trans h.blk
  have hk : ∀ x, x < w.heap.size → x ≠ p → k.tv.ownBlock ≠ some x → (w'.setCell ⟨p, 3, none⟩ (.slice (some ⟨g, 0, none⟩) (s.tr.length + 1) cap)).heap[x]? = w.heap[x]? := fun x hx h1 h2 => (Below.heap_setCell w' ⟨p, 3, none⟩ _ x h1).trans ((hg.block x (by omega) (fun e => h2 e.symm)).trans (hal x hx))
  refine ⟨{ pB := h.pB, low := h.low, hV := h.hV, blk := (by have := heap_set w' p 3 _ _ (.slice (some ⟨g, 0, none⟩) (s.tr.length + 1) cap) hp1; exact this), vab := (hk _ (lt_of_get h.vab) (h.vab.ne h.blk (by decide)) (fun e => h.vab.own_ne h.tro (by decide) _ e rfl)).trans h.vab, wab := (hk _ (lt_of_get h.wab) (h.wab.ne h.blk (by decide)) (fun e => h.wab.own_ne h.tro (by decide) _ e rfl)).trans h.wab, tro := (by
      have hr2 : w'.ownsRow B 3 1 (.slice (some ⟨g, 0, none⟩) (s.tr.length + 1) cap) (s.tr ++ [a]).length (iv (s.tr ++ [a])) := by
        rw [List.length_append, show iv (s.tr ++ [a]) = iv s.tr ++ [iz a] by simp [iv]]
        exact hr
      exact own_keep hr2 fun b hb => by cases hb; exact Below.heap_setCell _ _ _ _ hgp) }, ?_⟩
  have hown : ∀ g', (Value.slice (some ⟨g, 0, none⟩) (s.tr.length + 1) cap).ownBlock = some g' → k.tv.ownBlock = some g' ∨ w.heap.size ≤ g' := by
    intro g' hg'
    have e0 : g = g' := Option.some.inj hg'
    subst e0
    rcases hl with e | e
    · exact .inl e
    · exact .inr (by rw [e]; exact Nat.le_succ _)
  refine ⟨?_, { keep := fun y h1 h2 _ h4 => hk y h1 h2 h4, own := hown }⟩
  exact ⟨hg.os, hg.tape, hg.output, by have := hg.size; rw [World.size_setCell]; omega, fun x hx => hk x (by omega) (fun e => by have := h.pB; omega) (fun e => by have := (own_ltT h.tro x e).1; omega)⟩
set_option maxRecDepth 100000 in
set_option maxHeartbeats 1600000 in
theorem assign_t (h : PIx B w p k s) (x : Int) (hx0 : x ≠ 0) (h0 : -(s.V : Int) ≤ x) (h1 : x ≤ s.V) (ht : s.tr.length < 1000) (hB : B ≤ w.heap.size) : Calls Try.prog 42 #[pp p, iz x] w fun e w' => e = .returned (.tuple #[]) ∧ ∃ tv, PIx B w' p { k with tv := tv } { s with val := setT s.val x, tr := s.tr ++ [x] } ∧ Below B w w' ∧ KT w w' p k.vb k.tv tv := by
  obtain ⟨i0, hi, hz0, hz1, hz2⟩ := info_parts info_i64
  have b1 : w.cell? ⟨p, 1, none⟩ = some (sl k.vb (2 * s.V + 1)) := h.blk.c 1
  have bl := lt_of_get h.blk
  have vl := lt_of_get h.vab
  have hV := h.hV
  have hP := place_t w.drew (h.over (Below.refl _ _).drew) x h0 h1
  have hP2 : Calls Try.prog 46 #[pp p, iz (IntKind.i64.wrap (-x))] w.drew (RW w.drew (iz (((-x + s.V).toNat : Nat) : Int))) := by
    rw [IntWalk.i64_in _ (by omega)]
    exact place_t w.drew (h.over (Below.refl _ _).drew) (-x) (by omega) (by omega)
  have c0 : w.cell? ⟨k.vb, (x + s.V).toNat, none⟩ = some (i8 (s.val x)) := (h.vab.c _).trans (vcs_get h0 h1)
  have c1 : w.cell? ⟨k.vb, (-x + s.V).toNat, none⟩ = some (i8 (s.val (-x))) := (h.vab.c _).trans (vcs_get (by omega) (by omega))
  have f0 := h.vab.fz (x + s.V).toNat
  have f1 := h.vab.fz (-x + s.V).toNat
  have hk : ∀ {W : World} {j u}, W.cell? ⟨p, 1, none⟩ = some (sl k.vb (2 * s.V + 1)) → (W.setCell ⟨k.vb, j, none⟩ u).cell? ⟨p, 1, none⟩ = some (sl k.vb (2 * s.V + 1)) := cell_far (h.blk.ne h.vab (by decide))
  have hs1 : PIx B (((w.setCell ⟨k.vb, (x + s.V).toNat, none⟩ (.int .i8 1)).setCell ⟨k.vb, (-x + s.V).toNat, none⟩ (.int .i8 2)).drew) p k { s with val := setT s.val x } := by
    have q1 := heap_set w k.vb (x + s.V).toNat _ _ (.int .i8 1) h.vab
    have q2 := heap_set _ k.vb (-x + s.V).toNat _ _ (.int .i8 2) q1
    rw [vcs_set _ h0 h1, vcs_set _ (by omega) (by omega)] at q2
    refine (h.vals (setT s.val x) ?_ fun y hy => (Below.heap_setCell _ _ _ y hy).trans (Below.heap_setCell _ _ _ y hy)).over (Below.refl _ _).drew
    have e : (fun y => if y = -x then (Value.int IntKind.i8 2) else if y = x then Value.int IntKind.i8 1 else i8 (s.val y)) = fun y => i8 (setT s.val x y) := by
      funext y
      unfold setT
      split
      · rfl
      · split <;> rfl
    rw [e] at q2
    exact q2
  have hb1 : Below B w (((w.setCell ⟨k.vb, (x + s.V).toNat, none⟩ (.int .i8 1)).setCell ⟨k.vb, (-x + s.V).toNat, none⟩ (.int .i8 2)).drew) := (((Below.refl B w).setCell (p := ⟨k.vb, (x + s.V).toNat, none⟩) h.low.1 _).setCell (p := ⟨k.vb, (-x + s.V).toNat, none⟩) h.low.1 _).drew
  obtain ⟨n, hn⟩ : ∃ n : Nat, (x + s.V).toNat = n := ⟨_, rfl⟩
  obtain ⟨n2, hn2⟩ : ∃ n : Nat, (-x + s.V).toNat = n := ⟨_, rfl⟩
  obtain ⟨m, hm⟩ : ∃ m, 2 * s.V + 1 = m := ⟨_, rfl⟩
  have hnm : n < m := by omega
  have hnm2 : n2 < m := by omega
  have hnn : n ≠ n2 := by omega
  have hnn2 : n2 ≠ n := by omega
  have hm2 : m ≤ 121 := by omega
  have hx1 : -60 ≤ x := by omega
  have hx2 : x ≤ 60 := by omega
  rw [hn] at hP c0 f0 hs1 hb1
  rw [hn2] at hP2 c1 f1 hs1 hb1
  simp only [hm] at b1 hk
  obtain ⟨w1, hw1⟩ : ∃ W, (((w.setCell ⟨k.vb, n, none⟩ (.int .i8 1)).setCell ⟨k.vb, n2, none⟩ (.int .i8 2)).drew) = W := ⟨_, rfl⟩
  have hk1 : KT w (((w.setCell ⟨k.vb, n, none⟩ (.int .i8 1)).setCell ⟨k.vb, n2, none⟩ (.int .i8 2)).drew) p k.vb k.tv k.tv := { keep := fun y _ _ h3 _ => (Below.heap_setCell _ _ _ y h3).trans (Below.heap_setCell _ _ _ y h3), own := fun _ hg => .inl hg }
  rw [hw1] at hs1 hb1 hk1
  obtain ⟨v0, hv0⟩ : ∃ v, s.val x = v := ⟨_, rfl⟩
  obtain ⟨v1, hv1⟩ : ∃ v, s.val (-x) = v := ⟨_, rfl⟩
  rw [hv0] at c0
  rw [hv1] at c1
  replace hw1 := Lib.hid hw1
  replace hs1 := Lib.hid hs1
  replace hb1 := Lib.hid hb1
  replace hk1 := Lib.hid hk1
  have hzs := Lib.hid (show w.heap.size ≤ w1.heap.size from hb1.out.size)
  replace hP := Lib.hid hP
  replace hP2 := Lib.hid hP2
  replace hB := Lib.hid hB
  replace ht := Lib.hid ht
  clear h hn hn2 hm hv0 hv1 h0 h1 hV
  go_enter Try.func42, Try.ntmps42
  go_wp2_with fail
  go_region_held3 (fun w' => w'.cell? ⟨p, 1, none⟩ = some (sl k.vb m)) (first | exact b1 | exact hk b1 | exact hk (hk b1))
    (first
      | (go_at_call 46; (with_reducible refine hP.out.mono ?_); rintro e w9 ⟨rfl, hw9⟩; subst hw9)
      | (go_at_call 46; (with_reducible refine hP2.out.mono ?_); rintro e w9 ⟨rfl, hw9⟩; subst hw9))
  rw [hw1.out]
  clear hw1 c0 c1 f0 f1 hk b1 bl vl hP hP2
  obtain ⟨A, c, ev⟩ := own_shape' hs1.out.tro
  have b3 : w1.cell? ⟨p, 3, none⟩ = some k.tv := hs1.out.blk.c 3
  rw [ev] at b3
  have bl := lt_of_get hs1.out.blk
  have f3 := hs1.out.blk.fz 3
  have hal : (w1.alloc (.cells #[iz x] 3)).ownsRow B 3 1 (.slice A s.tr.length c) s.tr.length (iv s.tr) := by
    have := own_keep hs1.out.tro fun b e => ((Below.refl w1.heap.size w1).alloc (Nat.le_refl _) (.cells #[iz x] 3)).block b (own_ltT hs1.out.tro b e).2
    rw [← ev]; exact this
  have hnw : ∀ j u, [iz x][j]? = some u → (w1.alloc (.cells #[iz x] 3)).cell? ((⟨w1.heap.size, 0, none⟩ : Addr).add j) = some u := World.news_of_block (heap_alloc_new w1 (.cells #[iz x] 3))
  have hone : ∀ u ∈ [iz x], u.oneCell' = true := by simp [Value.oneCell']
  have hB3 : B ≤ w1.heap.size := Nat.le_trans hB.out hb1.out.size
  have hsz : (w1.alloc (.cells #[iz x] 3)).heap.size = w1.heap.size + 1 := by simp
  have hfin := fun w' g cap => PIx.pushed (w' := w') (g := g) (cap := cap) hs1.out x (.cells #[iz x] 3)
  have hpg := hs1.out.blk.own_ne hs1.out.tro (by decide)
  rw [ev] at hfin hpg
  have ht' := ht.out
  obtain ⟨q, hq⟩ : ∃ q, s.tr.length = q := ⟨_, rfl⟩
  simp only [hq] at hfin hal b3 ht' hpg
  obtain ⟨xs, hxs⟩ : ∃ xs, iv s.tr = xs := ⟨_, rfl⟩
  rw [hxs] at hal
  simp only [hxs] at hfin
  replace hfin := Lib.hid hfin
  replace hal := Lib.hid hal
  replace hnw := Lib.hid hnw
  replace hone := Lib.hid hone
  replace hq := Lib.hid hq
  replace hxs := Lib.hid hxs
  replace hpg := Lib.hid hpg
  replace hB3 := Lib.hid hB3
  replace hsz := Lib.hid hsz
  go_wp2_with (at_builtin; refine wpList_append_lies _ rfl _ _ 23 rfl B 3 i0 (.int .i64 0) 1 8 Try.underlying23 hi hz0 hz1 hz2 rfl (by decide) _ q xs rfl hal.out ⟨w1.heap.size, 0, none⟩ 1 1 [iz x] rfl rfl hnw.out hone.out (by decide) ?c3 ?c4 ?c5 (w1.heap.size + 1) hsz.out ?c6)
  case c3 => unfold maxLen; omega
  case c4 => omega
  case c5 => have := hB3.out; simp; omega
  case c6 =>
    intro g cap w6 ho6 hg6 hgb hlt6
    have hf := hfin.out w6 g cap ho6 hg6 hgb hB3.out
    have hpw : w6.heap[p]? = w1.heap[p]? := (hg6.block p (by simp; omega) (fun e => hpg.out p e.symm rfl)).trans (((Below.refl w1.heap.size w1).alloc (Nat.le_refl _) (.cells #[iz x] 3)).block p bl)
    have c0 : w6.cell? ⟨p, 3, none⟩ = some (.slice A q c) := by
      unfold World.cell? at b3 ⊢
      simpa only [hpw] using b3
    have cf : w6.frozen? ⟨p, 3, none⟩ = false := by
      unfold World.frozen? at f3 ⊢
      simpa only [hpw] using f3
    have cl : p < w6.heap.size := by have := hg6.size; simp at this; omega
    replace hf := Lib.hid hf
    clear hfin ho6 hg6 hgb hal hnw
    go_wp2_with fail
    exact bodyPost_end (v := .tuple #[]) (by simp [results, Try.results42, go_sem]) rfl ⟨rfl, _, hf.out.1, hb1.out.trans hf.out.2.1, hk1.out.trans (by have e := ev; rw [hq.out] at e; rw [e]; exact hf.out.2.2) hzs.out⟩
end
end Go.Proofs.Ytembgefbmecdbaa
