/-
  attach: the clause is put into the lists of its two literals.
-/
import Derived.Test.YtpkmpbnedoldlaaGreatS3
import Derived.Laws.OwnMore
namespace Go.Proofs.YtpkmpbnedoldlaaGreat
open Go.RowKit Go.Lib
theorem info_wat : (Tryz.prog.info? 109).map (fun i => (i.zero, i.size, i.bytes)) = some (some (.agg #[.pointer none, .int .i32 0]), 2, 16) := by kernel_rfl
/-- One of the two lists has been written. -/
structure At1 (B : Nat) (w w' : World) (wb cb : Nat) (W0 : Value) (o0 : Int) (l0 l1 l2 l3 : Value) : Prop where
  hk : ∀ x, x < w.heap.size → x ≠ wb → w'.heap[x]? = w.heap[x]?
  wa : CB w' wb #[l0, l1, l2, l3] 106
  ow : w'.ownsRow B 109 2 W0 1 [pp cb, lv o0]
  at_ : ∀ g, W0.ownBlock = some g → w.heap.size ≤ g
  be : Below B w w'
/-- The row behind an append to nothing, stored. -/
theorem at1 {B : Nat} {w w6 : World} {wb cb g cap i : Nat} {o : Int} {O : Obj} {cs : Array Value} (hw : CB w wb cs 106) (hB : B ≤ w.heap.size) (hBw : B ≤ wb)
    (ho6 : w6.ownsRow B 109 2 (.slice (some ⟨g, 0, none⟩) (0 + 1) cap) (0 + 1) ([] ++ [pp cb, lv o])) (hg6 : (w.drew.alloc O).grownBy w6 none) (hgb : (none : Option Nat) = some g ∨ g = w.heap.size + 1) :
    (∀ x, x < w.heap.size → x ≠ wb → (w6.setCell ⟨wb, i, none⟩ (.slice (some ⟨g, 0, none⟩) 1 cap)).heap[x]? = w.heap[x]?) ∧ CB (w6.setCell ⟨wb, i, none⟩ (.slice (some ⟨g, 0, none⟩) 1 cap)) wb (cs.setIfInBounds i (.slice (some ⟨g, 0, none⟩) 1 cap)) 106 ∧ (w6.setCell ⟨wb, i, none⟩ (.slice (some ⟨g, 0, none⟩) 1 cap)).ownsRow B 109 2 (.slice (some ⟨g, 0, none⟩) 1 cap) 1 [pp cb, lv o] ∧ w.heap.size ≤ g ∧ Below B w (w6.setCell ⟨wb, i, none⟩ (.slice (some ⟨g, 0, none⟩) 1 cap)) ∧ CB w6 wb cs 106 ∧ ∀ {x : Nat} {ds : Array Value} {T : TypeId}, CB w x ds T → CB w6 x ds T := by
  have hg : g = w.heap.size + 1 := by
    rcases hgb with e | e
    · cases e
    · exact e
  have hal : Below w.heap.size w (w.drew.alloc O) := ((Below.refl w.heap.size w).drew).alloc (Nat.le_refl _) O
  have hsz : (w.drew.alloc O).heap.size = w.heap.size + 1 := by simp
  have h6 : ∀ x, x < w.heap.size → w6.heap[x]? = w.heap[x]? := fun x hx => (hg6.block x (by omega) (by simp)).trans (hal.block x hx)
  have hw6 : CB w6 wb cs 106 := (h6 wb (lt_of_get hw)).trans hw
  have hwl := lt_of_get hw
  refine ⟨fun x hx hn => (Below.heap_setCell _ _ _ x hn).trans (h6 x hx), heap_set w6 wb i _ _ _ hw6, ?_, by omega, ?_, hw6, fun h => (h6 _ (lt_of_get h)).trans h⟩
  · exact own_keepT ho6 fun b hb => by cases hb; exact Below.heap_setCell _ _ _ _ (by show g ≠ wb; omega)
  · exact ((hal.mono hB).trans (⟨hg6.os, hg6.tape, hg6.output, hg6.size, fun x hx => hg6.block x (by omega) (by simp)⟩ : Below B _ w6)).setCell (p := ⟨wb, i, none⟩) hBw _
section
variable {B p : Nat} {k : Bk} {s : St} {w w' : World}
theorem SIx.att (h : SIx B w p k s) (hr : s.r0 = false ∧ s.r1 = false) {cb cl : Nat} (hcb : CB w cb #[sl cl 2, iz 0, iz 0, .bool false] 92) (hcl : CB w cl #[lv 0, lv 2] 81) (hBc : B ≤ cb ∧ B ≤ cl) (htv : ∀ g, k.tv.ownBlock = some g → g ≠ cl)
    {W0 W2 : Value} (hk : ∀ x, x < w.heap.size → x ≠ k.wb → w'.heap[x]? = w.heap[x]?) (hw : CB w' k.wb #[W0, .slice none 0 0, W2, .slice none 0 0] 106) (o0 : w'.ownsRow B 109 2 W0 1 [pp cb, lv 2]) (o2 : w'.ownsRow B 109 2 W2 1 [pp cb, lv 0]) (hne : ∀ g, W0.ownBlock = some g → W2.ownBlock ≠ some g) :
    SIx B w' p { k with w0 := W0, w2 := W2, cb := cb, cl := cl } { s with ws := true, c0 := 0, c1 := 2, o0 := 2, o2 := 0 } :=
  { pB := h.pB, low := h.low, blk := (hk _ h.lt (h.blk.ne h.wab (by decide))).trans h.blk, vab := (hk _ (lt_of_get h.vab) (h.vab.ne h.wab (by decide))).trans h.vab, leb := (hk _ (lt_of_get h.leb) (h.leb.ne h.wab (by decide))).trans h.leb,
    reb := by
      have := (hk _ (lt_of_get h.reb) (h.reb.ne h.wab (by decide))).trans h.reb
      rw [hr.1, hr.2] at this
      show CB w' k.rb #[rp s.r0 cb, rp s.r1 cb] _
      rw [hr.1, hr.2]
      exact this
    wab := hw, heb := (hk _ (lt_of_get h.heb) (h.heb.ne h.wab (by decide))).trans h.heb, plb := (hk _ (lt_of_get h.plb) (h.plb.ne h.wab (by decide))).trans h.plb, sab := (hk _ (lt_of_get h.sab) (h.sab.ne h.wab (by decide))).trans h.sab,
    tro := own_keepT h.tro fun b e => hk b (own_ltT h.tro b e).2 (h.wab.own_ne h.tro (by decide) b e), sso := own_keepT h.sso fun b e => hk b (own_ltT h.sso b e).2 (h.wab.own_ne h.sso (by decide) b e), ap := h.ap, aps := h.aps, now := fun e => (by cases e),
    cls := fun _ => ⟨hBc.1, hBc.2, (hk _ (lt_of_get hcb) (hcb.ne h.wab (by decide))).trans hcb, (hk _ (lt_of_get hcl) (hcl.ne h.wab (by decide))).trans hcl, htv, o0, o2, hne⟩, sm := h.sm, exb := fun e => (hk _ (lt_of_get (h.exb e)) ((h.exb e).ne h.wab (by decide))).trans (h.exb e) }
set_option maxRecDepth 100000 in
set_option maxHeartbeats 6400000 in
theorem attach_t (w : World) (h : SIx B w p k s) (hws : s.ws = false) (hr : s.r0 = false ∧ s.r1 = false) {cb cl : Nat} (hcb : CB w cb #[sl cl 2, iz 0, iz 0, .bool false] 92) (hcl : CB w cl #[lv 0, lv 2] 81) (hBc : B ≤ cb ∧ B ≤ cl) (htv : ∀ g, k.tv.ownBlock = some g → g ≠ cl) (hB : B ≤ w.heap.size) :
    Calls Tryz.prog 55 #[pp p, pp cb] w fun e w' => e = .returned (.tuple #[]) ∧ (∃ W0 W2, SIx B w' p { k with w0 := W0, w2 := W2, cb := cb, cl := cl } { s with ws := true, c0 := 0, c1 := 2, o0 := 2, o2 := 0 }) ∧ Below B w w' := by
  obtain ⟨i0, hi, hz0, hz1, hz2⟩ := info_parts info_wat
  obtain ⟨hn0, hn2⟩ := h.now hws
  have c0 : w.cell? ⟨cb, 0, none⟩ = some (sl cl 2) := hcb.c 0
  have cbl := lt_of_get hcb
  have l0 : w.cell? ⟨cl, 0, none⟩ = some (lv 0) := hcl.c 0
  have l1 : w.cell? ⟨cl, 1, none⟩ = some (lv 2) := hcl.c 1
  have cll := lt_of_get hcl
  have b6 : w.cell? ⟨p, 6, none⟩ = some (sl k.wb 4) := h.blk.c 6
  have bl := lt_of_get h.blk
  have hwa := h.wab
  rw [hn0, hn2] at hwa
  have w0 : w.cell? ⟨k.wb, 0, none⟩ = some (.slice none 0 0) := hwa.c 0
  have wl := lt_of_get hwa
  have wf := hwa.fz 0
  have hpw := h.blk.ne h.wab (by decide)
  obtain ⟨w1, hw1⟩ : ∃ W, w.drew = W := ⟨_, rfl⟩
  have h1 : SIx B w1 p k s := hw1 ▸ h.over (Below.refl _ _).drew
  have hwa1 : CB w1 k.wb #[.slice none 0 0, .slice none 0 0, .slice none 0 0, .slice none 0 0] 106 := hw1 ▸ hwa
  have hb1 : Below B w w1 := hw1 ▸ (Below.refl B w).drew
  have hcb1 : CB w1 cb #[sl cl 2, iz 0, iz 0, .bool false] 92 := hw1 ▸ hcb
  have hcl1 : CB w1 cl #[lv 0, lv 2] 81 := hw1 ▸ hcl
  have hB1 : B ≤ w1.heap.size := Nat.le_trans hB hb1.size
  replace hw1 := Lib.hid hw1
  replace h1 := Lib.hid h1
  replace hwa1 := Lib.hid hwa1
  replace hcb1 := Lib.hid hcb1
  replace hcl1 := Lib.hid hcl1
  replace hb1 := Lib.hid hb1
  replace hB1 := Lib.hid hB1
  replace htv := Lib.hid htv
  replace hr := Lib.hid hr
  replace hBc := Lib.hid hBc
  clear h hws hcb hcl hwa hn0 hn2 hB
  go_enter Tryz.func55, Tryz.ntmps55
  go_wp2_with fail
  go_region
  rw [hw1.out]
  clear hw1 c0 cbl l0 l1 cll b6 bl w0 wl wf
  have b6 : w1.cell? ⟨p, 6, none⟩ = some (sl k.wb 4) := h1.out.blk.c 6
  have bl := lt_of_get h1.out.blk
  have w0 : w1.cell? ⟨k.wb, 0, none⟩ = some (.slice none 0 0) := hwa1.out.c 0
  have wl := lt_of_get hwa1.out
  have wf := hwa1.out.fz 0
  have hBw := Lib.hid h1.out.low.2.2.2.1
  have hown1 : (w1.drew.alloc (.cells #[pp cb, lv 2] 109)).ownsRow B 109 2 (.slice none 0 0) 0 [] := ⟨rfl, .inl ⟨rfl, rfl⟩⟩
  have hnw1 : ∀ j u, [pp cb, lv 2][j]? = some u → (w1.drew.alloc (.cells #[pp cb, lv 2] 109)).cell? ((⟨w1.heap.size, 0, none⟩ : Addr).add j) = some u := World.news_of_block (heap_alloc_new w1.drew (.cells #[pp cb, lv 2] 109))
  have hone1 : ∀ u ∈ [pp cb, lv 2], u.oneCell' = true := by simp [Value.oneCell']
  have hsz1 : (w1.drew.alloc (.cells #[pp cb, lv 2] 109)).heap.size = w1.heap.size + 1 := by simp
  have hBB1 : B ≤ (w1.drew.alloc (.cells #[pp cb, lv 2] 109)).heap.size := by have := hB1.out; rw [hsz1]; omega
  replace hown1 := Lib.hid hown1
  replace hnw1 := Lib.hid hnw1
  replace hone1 := Lib.hid hone1
  replace hsz1 := Lib.hid hsz1
  replace hBB1 := Lib.hid hBB1
  go_wp2_with fail
  go_cut [] from 18 (fun wx => ∃ W0, (∀ x, x < w1.heap.size → x ≠ k.wb → wx.heap[x]? = w1.heap[x]?) ∧ CB wx k.wb #[W0, .slice none 0 0, .slice none 0 0, .slice none 0 0] 106 ∧ wx.ownsRow B 109 2 W0 1 [pp cb, lv 2] ∧ (∀ g, W0.ownBlock = some g → w1.heap.size ≤ g) ∧ Below B w1 wx)
  case first =>
    go_region_law (refine step_append_lies _ rfl (.tmp 29) (.tmp 33) 106 rfl B 109 i0 (.agg #[.pointer none, .int .i32 0]) 2 16 Tryz.underlying106 hi hz0 hz1 hz2 rfl (by decide) (.slice none 0 0) 0 [] (by simp [Act.eval]) hown1.out ⟨w1.heap.size, 0, none⟩ 1 1 [pp cb, lv 2] (by simp [Act.eval]) rfl hnw1.out hone1.out (by decide) (by decide) (by decide) hBB1.out (w1.heap.size + 1) hsz1.out ?_; intro g1 cap1 w6 ho6 hg6 hgb hlt6; obtain ⟨q1, q2, q3, q4, q5, q6, q7⟩ := at1 (i := 0) hwa1.out hB1.out hBw.out ho6 hg6 hgb; have cp1 : w6.cell? ⟨p, 6, none⟩ = some (sl k.wb 4) := (q7 h1.out.blk).c 6; have cpl1 := lt_of_get (q7 h1.out.blk); clear q7; have c1 : w6.cell? ⟨k.wb, 0, none⟩ = some (.slice none 0 0) := q6.c 0; have cf1 := q6.fz 0; have cl1 := lt_of_get q6; replace q1 := Lib.hid q1; replace q2 := Lib.hid q2; replace q3 := Lib.hid q3; replace q4 := Lib.hid q4; replace q5 := Lib.hid q5; clear ho6 hg6 hgb q6)
    all_goals (
      go_wp2_with fail
      go_meet
      exact ⟨_, q1.out, q2.out, q3.out, fun g hg => by cases hg; exact q4.out, q5.out⟩)
  case rest =>
    obtain ⟨W0, k1, r1, o1, t1, b2⟩ := hcut
    have hpc : CB wc p (sc k s) 60 := (k1 p h1.out.lt hpw).trans h1.out.blk
    have e6 : wc.cell? ⟨p, 6, none⟩ = some (sl k.wb 4) := hpc.c 6
    have pl2 := lt_of_get hpc
    have d2 : wc.cell? ⟨k.wb, 2, none⟩ = some (.slice none 0 0) := r1.c 2
    have df := r1.fz 2
    have dl := lt_of_get r1
    have hB2 : B ≤ wc.heap.size := Nat.le_trans hB1.out b2.size
    have hwa2 := r1
    have z1 := b2.size
    replace hpc := Lib.hid hpc
    replace hwa2 := Lib.hid hwa2
    replace hB2 := Lib.hid hB2
    replace k1 := Lib.hid k1
    replace o1 := Lib.hid o1
    replace t1 := Lib.hid t1
    replace b2 := Lib.hid b2
    clear hown1 hnw1 hone1 hsz1 hBB1 b6 bl w0 wl wf r1
    have hown2 : (wc.drew.alloc (.cells #[pp cb, lv 0] 109)).ownsRow B 109 2 (.slice none 0 0) 0 [] := ⟨rfl, .inl ⟨rfl, rfl⟩⟩
    have hnw2 : ∀ j u, [pp cb, lv 0][j]? = some u → (wc.drew.alloc (.cells #[pp cb, lv 0] 109)).cell? ((⟨wc.heap.size, 0, none⟩ : Addr).add j) = some u := World.news_of_block (heap_alloc_new wc.drew (.cells #[pp cb, lv 0] 109))
    have hone2 : ∀ u ∈ [pp cb, lv 0], u.oneCell' = true := by simp [Value.oneCell']
    have hsz2 : (wc.drew.alloc (.cells #[pp cb, lv 0] 109)).heap.size = wc.heap.size + 1 := by simp
    have hBB2 : B ≤ (wc.drew.alloc (.cells #[pp cb, lv 0] 109)).heap.size := by have := hB2.out; rw [hsz2]; omega
    replace hown2 := Lib.hid hown2
    replace hnw2 := Lib.hid hnw2
    replace hone2 := Lib.hid hone2
    replace hsz2 := Lib.hid hsz2
    replace hBB2 := Lib.hid hBB2
    go_wp2_with fail
    go_region_law (refine step_append_lies _ rfl (.tmp 47) (.tmp 51) 106 rfl B 109 i0 (.agg #[.pointer none, .int .i32 0]) 2 16 Tryz.underlying106 hi hz0 hz1 hz2 rfl (by decide) (.slice none 0 0) 0 [] (by simp [Act.eval]) hown2.out ⟨wc.heap.size, 0, none⟩ 1 1 [pp cb, lv 0] (by simp [Act.eval]) rfl hnw2.out hone2.out (by decide) (by decide) (by decide) hBB2.out (wc.heap.size + 1) hsz2.out ?_; intro g2 cap2 w6 ho6 hg6 hgb hlt6; obtain ⟨q1, q2, q3, q4, q5, q6, q7⟩ := at1 (i := 2) hwa2.out hB2.out hBw.out ho6 hg6 hgb; have cp2 : w6.cell? ⟨p, 6, none⟩ = some (sl k.wb 4) := (q7 hpc.out).c 6; have cpl2 := lt_of_get (q7 hpc.out); clear q7; have c2 : w6.cell? ⟨k.wb, 2, none⟩ = some (.slice none 0 0) := q6.c 2; have cf2 := q6.fz 2; have cl2 := lt_of_get q6; replace q1 := Lib.hid q1; replace q2 := Lib.hid q2; replace q3 := Lib.hid q3; replace q4 := Lib.hid q4; replace q5 := Lib.hid q5; clear ho6 hg6 hgb q6)
    all_goals (
      have hz : wc.heap.size ≤ g2 := q4.out
      have hs := h1.out.att hr.out hcb1.out hcl1.out hBc.out htv.out (w' := w6.setCell ⟨k.wb, 2, none⟩ (.slice (some ⟨g2, 0, none⟩) 1 cap2)) (fun x hx hn => (q1.out x (by omega) hn).trans (k1.out x hx hn)) q2.out (own_keepT o1.out fun b e => q1.out b (own_ltT o1.out b e).2 (hwa2.out.own_ne o1.out (by decide) b e)) q3.out (fun g e e' => by
        cases e'
        have h9 : g2 < wc.heap.size := (own_ltT o1.out _ e).2
        omega)
      have hb := (hb1.out.trans b2.out).trans q5.out
      replace hs := Lib.hid hs
      replace hb := Lib.hid hb
      clear q1 q2 q3 q4 q5
      go_wp2_with fail
      exact bodyPost_end (v := .tuple #[]) (by simp [results, Tryz.results55, go_sem]) rfl ⟨rfl, ⟨_, _, hs.out⟩, hb.out⟩)
end
end Go.Proofs.YtpkmpbnedoldlaaGreat
