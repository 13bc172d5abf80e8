/-
  visit of a literal that the clause watches: the other literal is open and becomes true, or it is false.
-/
import Derived.Test.YtpkmpbnedoldlaaGreatS9
namespace Go.Proofs.YtpkmpbnedoldlaaGreat
open Go.RowKit Go.Lib
theorem info_watch : (Tryz.prog.info? 109).map (fun i => (i.zero, i.size, i.bytes)) = some (some (.agg #[.pointer none, .int .i32 0]), 2, 16) := by kernel_rfl
theorem own_some1 {w : World} {B : Nat} {e : TypeId} {sz : Nat} {v : Value} {xs : List Value} (h : w.ownsRow B e sz v 1 xs) : ∃ g c, v = .slice (some ⟨g, 0, none⟩) 1 c ∧ B ≤ g ∧ 1 ≤ c ∧ ∃ cur, w.heap[g]? = some (.cells cur e (0, 0)) ∧ cur.toList.take (1 * sz) = xs := by
  rcases h.2 with ⟨rfl, h0⟩ | ⟨g, cap, cur, rfl, hb, hg, hc, _, _, ht⟩
  · omega
  · exact ⟨g, cap, rfl, hb, hc, cur, hg, ht⟩
theorem own_zero {w : World} {B g c sz : Nat} {e : TypeId} {xs : List Value} (h : w.ownsRow B e sz (.slice (some ⟨g, 0, none⟩) 1 c) 1 xs) : w.ownsRow B e sz (.slice (some ⟨g, 0, none⟩) 0 c) 0 [] := by
  rcases h.2 with ⟨h1, _⟩ | ⟨g', cap, cur, h1, hb, hg, hc, hm, hs, _⟩
  · cases h1
  · cases h1
    exact ⟨by simp, .inr ⟨g, c, cur, rfl, hb, hg, Nat.zero_le _, hm, hs, by simp⟩⟩
section
variable {B p : Nat} {k : Bk} {s : St} (w : World)
set_option maxRecDepth 100000 in
set_option maxHeartbeats 6400000 in
theorem visit_A (h : SIx B w p k s) (hs : s.ws = true) (h0 : s.c0 = 0) (h1 : s.c1 = 2) (ho : s.o0 = 2) (h2 : s.v2 = 0) (ht : s.tr.length < 2) (hB : B ≤ w.heap.size) :
    Calls Tryz.prog 59 #[pp p, lv 0] w fun e w' => e = .returned (.pointer none) ∧ (∃ tv, SIx B w' p { k with tv := tv } { s with c0 := 2, c1 := 0, o0 := 2, v2 := 1, v3 := -1, l1 := s.ss.length, r1 := true, tr := s.tr ++ [2] }) ∧ Below B w w' := by
  obtain ⟨i0, hi, hz0, hz1, hz2⟩ := info_parts info_watch
  obtain ⟨a1, a2, a3, a4, a5, a6, a7, a8⟩ := h.cls hs
  rw [ho] at a6
  rw [h0, h1] at a4
  obtain ⟨g, c, ew, hBg, hc1, cur, hg, hcur⟩ := own_some1 a6
  have b6 : w.cell? ⟨p, 6, none⟩ = some (sl k.wb 4) := h.blk.c 6
  have bl := lt_of_get h.blk
  have wl := lt_of_get h.wab
  have gl := lt_of_get hg
  have w0 : w.cell? ⟨k.wb, 0, none⟩ = some k.w0 := h.wab.c 0
  rw [ew] at w0 a6
  have g0 : w.cell? ⟨g, 0, none⟩ = some (pp k.cb) := World.ownsRow.cellAt a6 0 (by decide)
  have g1 : w.cell? ⟨g, 1, none⟩ = some (lv 2) := World.ownsRow.cellAt a6 1 (by decide)
  have cX : (w.alloc (.cells #[pp k.cb, lv 2] 109)).heap[w.heap.size]? = some (.cells #[pp k.cb, lv 2] 109 (0, 0)) := heap_alloc_new w _
  have sX := h.over ((Below.refl w.heap.size w).alloc (Nat.le_refl _) (.cells #[pp k.cb, lv 2] 109))
  have hbX : Below B w (w.alloc (.cells #[pp k.cb, lv 2] 109)) := (Below.refl B w).alloc hB _
  have hszX : (w.alloc (.cells #[pp k.cb, lv 2] 109)).heap.size = w.heap.size + 1 := by simp
  have hown : ∀ g', k.w0.ownBlock = some g' ∨ k.w2.ownBlock = some g' → g' ≠ w.heap.size := by
    rintro g' (e | e)
    · rw [ew] at e; cases e; show g ≠ w.heap.size; omega
    · have := (own_ltT a7 g' e).2; omega
  replace hown := Lib.hid hown
  replace cX := Lib.hid cX
  replace sX := Lib.hid sX
  replace hbX := Lib.hid hbX
  replace hszX := Lib.hid hszX
  replace h0 := Lib.hid h0
  replace h1 := Lib.hid h1
  replace ho := Lib.hid ho
  replace h2 := Lib.hid h2
  replace hs := Lib.hid hs
  replace ew := Lib.hid ew
  replace hB := Lib.hid hB
  replace ht := Lib.hid ht
  clear h a3 a4 a5 a6 a7 a8 hg hcur
  go_enter Tryz.func59, Tryz.ntmps59
  go_wp2_with fail
  refine wp_loop_rounds 2 ?_
  rw [rounds_succ]
  go_wp2_with fail
  obtain ⟨w1, hw1⟩ : ∃ W, w.alloc (.cells #[pp k.cb, lv 2] 109) = W := ⟨_, rfl⟩
  obtain ⟨X, hX⟩ : ∃ X, w.heap.size = X := ⟨_, rfl⟩
  have s1 : SIx B w1 p k s := hw1 ▸ sX.out
  have b1 : Below B w w1 := hw1 ▸ hbX.out
  have x1 : CB w1 X #[pp k.cb, lv 2] 109 := by rw [← hw1, ← hX]; exact cX.out
  have own1 : ∀ g', k.w0.ownBlock = some g' ∨ k.w2.ownBlock = some g' → g' ≠ X := by rw [← hX]; exact hown.out
  have hBX : B ≤ X := by rw [← hX]; exact hB.out
  have hgX : g < X := by rw [← hX]; exact gl
  have hw1' : w.alloc (.cells #[.pointer (some ⟨k.cb, 0, none⟩), .int .i32 2] 109) = w1 := hw1
  rw [hw1', hX]
  obtain ⟨_, _, a3, a4, a5, a6, a7, a8⟩ := s1.cls hs.out
  have e0 : w1.cell? ⟨X, 0, none⟩ = some (pp k.cb) := x1.c 0
  have e1 : w1.cell? ⟨X, 1, none⟩ = some (lv 2) := x1.c 1
  have ef := x1.fz 1
  have xl := lt_of_get x1
  have d0 : w1.cell? ⟨k.cb, 0, none⟩ = some (sl k.cl 2) := a3.c 0
  have dl := lt_of_get a3
  rw [h0.out, h1.out] at a4
  have l0 : w1.cell? ⟨k.cl, 0, none⟩ = some (lv 0) := a4.c 0
  have l1 : w1.cell? ⟨k.cl, 1, none⟩ = some (lv 2) := a4.c 1
  have lf0 := a4.fz 0
  have lf1 := a4.fz 1
  have ll := lt_of_get a4
  have hXc : X ≠ k.cl := fun e => x1.ne a4 (by decide) (by rw [e])
  have hcc : k.cb ≠ k.cl := a3.ne a4 (by decide)
  have hXb : X ≠ k.cb := fun e => x1.ne a3 (by decide) (by rw [e])
  have hT : ∀ W, Below w1.heap.size w1 W → Calls Tryz.prog 43 #[pp p, lv 2] W (RW W (.bool false)) := fun W hW => isT W (s1.over hW) 2 (by decide) _ h2.out
  -- the swap, then the variable's other literal
  have hc1 := heap_set w1 k.cl 0 _ _ (lv 2) a4
  have s2 := SIx.over (s1.swap hs.out 2 0 (heap_set _ k.cl 1 _ _ (lv 0) hc1) fun x hx => (Below.heap_setCell _ _ _ x hx).trans (Below.heap_setCell _ _ _ x hx)) ((Below.refl _ _).drew)
  have x2 : CB ((w1.setCell ⟨k.cl, 0, none⟩ (lv 2)).setCell ⟨k.cl, 1, none⟩ (lv 0)).drew X #[pp k.cb, lv 2] 109 := (x1.far ⟨k.cl, 0, none⟩ (lv 2) hXc).far ⟨k.cl, 1, none⟩ (lv 0) hXc
  have x3 := heap_set _ X 1 _ _ (lv 2) x2
  have s3 := s2.wvar x2 own1 (w' := ((w1.setCell ⟨k.cl, 0, none⟩ (lv 2)).setCell ⟨k.cl, 1, none⟩ (lv 0)).drew.setCell ⟨X, 1, none⟩ (lv 2)) fun x hx => Below.heap_setCell _ _ _ x hx
  replace s3 := s3.over (w' := (((w1.setCell ⟨k.cl, 0, none⟩ (lv 2)).setCell ⟨k.cl, 1, none⟩ (lv 0)).setCell ⟨X, 1, none⟩ (lv 2)).drew.drew) ⟨rfl, rfl, rfl, Nat.le_refl _, fun _ _ => rfl⟩
  have b3 : Below B w ((((w1.setCell ⟨k.cl, 0, none⟩ (lv 2)).setCell ⟨k.cl, 1, none⟩ (lv 0)).setCell ⟨X, 1, none⟩ (lv 2)).drew.drew) := (((b1.setCell (p := ⟨k.cl, 0, none⟩) a2 _).setCell (p := ⟨k.cl, 1, none⟩) a2 _).setCell (p := ⟨X, 1, none⟩) hBX _).drew.drew
  have x3' : CB ((((w1.setCell ⟨k.cl, 0, none⟩ (lv 2)).setCell ⟨k.cl, 1, none⟩ (lv 0)).setCell ⟨X, 1, none⟩ (lv 2)).drew.drew) X #[pp k.cb, lv 2] 109 := x3
  obtain ⟨w3, hw3⟩ : ∃ W, ((((w1.setCell ⟨k.cl, 0, none⟩ (lv 2)).setCell ⟨k.cl, 1, none⟩ (lv 0)).setCell ⟨X, 1, none⟩ (lv 2)).drew.drew) = W := ⟨_, rfl⟩
  rw [hw3] at s3 b3 x3'
  replace hw3 := Lib.hid hw3
  replace s3 := Lib.hid s3
  replace b3 := Lib.hid b3
  replace x3 := Lib.hid x3'
  replace hT := Lib.hid hT
  replace own1 := Lib.hid own1
  clear s1 b1 x1 hw1 hw1' s2 x2 hc1 a3 a4 a5 a6 a7 a8 x3' sX hbX cX hown hX g0 g1 b6 bl wl gl w0
  clear hszX
  go_region_held3 (fun w' => w'.cell? ⟨X, 1, none⟩ = some (lv 2)) (first | exact e1)
    (first
      | (go_at_call 43; (with_reducible refine (hT.out _ (Below.refl _ _).drew).mono ?_); rintro e w9 ⟨rfl, hw9⟩; subst hw9))
  clear hT
  go_wp2_with fail
  go_region
  go_wp2_with fail
  rw [show ((((w1.setCell ⟨k.cl, 0, none⟩ (.int .i32 2)).setCell ⟨k.cl, 1, none⟩ (.int .i32 0)).setCell ⟨X, 1, none⟩ (.int .i32 2)).drew.drew) = w3 from hw3.out]
  have e1' : w3.cell? ⟨X, 1, none⟩ = some (lv 2) := x3.out.c 1
  have xl' := lt_of_get x3.out
  have hT : ∀ W, Below w3.heap.size w3 W → Calls Tryz.prog 43 #[pp p, lv 2] W (RW W (.bool false)) := fun W hW => isT W (s3.out.over hW) 2 (by decide) _ h2.out
  have hR : ∀ W, Below w3.heap.size w3 W → Calls Tryz.prog 85 #[pp p, pp k.cb] W (RW W (.bool false)) := fun W hW => rewatch_t W (s3.out.over hW) hs.out
  have s4 := s3.out.over (Below.refl w3.heap.size w3).drew
  have b4 := b3.out.drew
  have x4 : CB w3.drew X #[pp k.cb, lv 2] 109 := x3.out
  obtain ⟨w4, hw4⟩ : ∃ W, w3.drew = W := ⟨_, rfl⟩
  rw [hw4] at s4 b4 x4
  replace s4 := Lib.hid s4
  replace b4 := Lib.hid b4
  replace x4 := Lib.hid x4
  replace hw4 := Lib.hid hw4
  replace hT := Lib.hid hT
  replace hR := Lib.hid hR
  clear hw3 s3 b3 x3 e0 e1 ef xl d0 dl l0 l1 lf0 lf1 ll
  go_region_held3 (fun w' => w'.cell? ⟨X, 1, none⟩ = some (lv 2)) (first | exact e1')
    (first
      | (go_at_call 43; (with_reducible refine (hT.out _ (Below.refl _ _).drew).mono ?_); rintro e w9 ⟨rfl, hw9⟩; subst hw9)
      | (go_at_call 85; (with_reducible refine (hR.out _ (Below.refl _ _).drew).mono ?_); rintro e w9 ⟨rfl, hw9⟩; subst hw9))
  rw [hw4.out]
  clear hT hR e1' xl' hw4
  have e0 : w4.cell? ⟨X, 0, none⟩ = some (pp k.cb) := x4.out.c 0
  have e1 : w4.cell? ⟨X, 1, none⟩ = some (lv 2) := x4.out.c 1
  have xl := lt_of_get x4.out
  obtain ⟨_, _, _, _, _, a6, _, _⟩ := s4.out.cls hs.out
  have hBw : B ≤ w4.heap.size := Nat.le_trans hBX (Nat.le_of_lt xl)
  have a6' : (w4.alloc (.cells #[pp k.cb, lv 2] 109)).ownsRow B 109 2 (.slice (some ⟨g, 0, none⟩) 0 c) 0 [] := by
    have := own_keepT a6 (w' := w4.alloc (.cells #[pp k.cb, lv 2] 109)) fun b e => ((Below.refl w4.heap.size w4).alloc (Nat.le_refl _) (.cells #[pp k.cb, lv 2] 109)).block b (own_ltT a6 b e).2
    rw [ew.out] at this
    exact own_zero this
  have hnw : ∀ j u, [pp k.cb, lv 2][j]? = some u → (w4.alloc (.cells #[pp k.cb, lv 2] 109)).cell? ((⟨w4.heap.size, 0, none⟩ : Addr).add j) = some u := World.news_of_block (heap_alloc_new w4 (.cells #[pp k.cb, lv 2] 109))
  have hone : ∀ u ∈ [pp k.cb, lv 2], u.oneCell' = true := by simp [Value.oneCell']
  have s5 : ∀ w5, w5.ownsRow B 109 2 (.slice (some ⟨g, 0, none⟩) (0 + 1) c) (0 + 1) ([] ++ [pp k.cb, lv 2]) → (w4.alloc (.cells #[pp k.cb, lv 2] 109)).grownBy w5 (some g) → SIx B w5 p k { s with c0 := 2, c1 := 0, o0 := 2 } ∧ Below B w w5 ∧ CB w5 X #[pp k.cb, lv 2] 109 := by
    intro w5 h5 hg5
    have hal := (Below.refl w4.heap.size w4).alloc (Nat.le_refl _) (.cells #[pp k.cb, lv 2] 109)
    have hsz : (w4.alloc (.cells #[pp k.cb, lv 2] 109)).heap.size = w4.heap.size + 1 := by simp
    refine ⟨(s4.out.over hal).lst0 hs.out 2 (by rw [ew.out]; exact h5) (fun x hx hn => hg5.block x hx (fun e => hn (by rw [ew.out]; exact e.symm))), ?_, (hg5.block X (by omega) (by intro e; cases e; omega)).trans ((hal.block X xl).trans x4.out)⟩
    refine b4.out.trans ((hal.mono hBw).trans ⟨hg5.os, hg5.tape, hg5.output, hg5.size, fun x hx => hg5.block x (by omega) (fun e => by cases e; omega)⟩)
  replace a6' := Lib.hid a6'
  replace hnw := Lib.hid hnw
  replace hone := Lib.hid hone
  replace s5 := Lib.hid s5
  clear s4 b4 x4 a6
  go_wp2_with (at_builtin; refine wpList_append_own_spare _ rfl _ _ 106 rfl B 109 i0 2 Tryz.underlying106 hi hz1 g 0 c [] rfl a6'.out ⟨w4.heap.size, 0, none⟩ 1 1 [pp k.cb, lv 2] rfl rfl hnw.out hone.out hc1 ?c6)
  case c6 =>
    intro w5 h5 hg5
    obtain ⟨s6, b6, x6⟩ := s5.out w5 h5 hg5
    clear s5 h5 hg5 a6' hnw e0 e1 xl
    have e1 : w5.cell? ⟨X, 1, none⟩ = some (lv 2) := x6.c 1
    have xl := lt_of_get x6
    replace s6 := Lib.hid s6
    replace b6 := Lib.hid b6
    replace x6 := Lib.hid x6
    have hF : ∀ W, Below w5.heap.size w5 W → Calls Tryz.prog 54 #[pp p, lv 2] W (RW W (.bool false)) := fun W hW => isF W (s6.out.over hW) 2 (by decide) _ h2.out
    replace hF := Lib.hid hF
    go_wp2_with fail
    go_region_held3 (fun w' => w'.cell? ⟨X, 1, none⟩ = some (lv 2)) (first | exact e1)
      (first
        | (go_at_call 54; (with_reducible refine (hF.out _ (Below.refl _ _).drew).mono ?_); rintro e w9 ⟨rfl, hw9⟩; subst hw9))
    clear hF
    have hT : ∀ W, Below w5.heap.size w5 W → Calls Tryz.prog 43 #[pp p, lv 2] W (RW W (.bool false)) := fun W hW => isT W (s6.out.over hW) 2 (by decide) _ h2.out
    have hA : ∀ W, Below w5.heap.size w5 W → Calls Tryz.prog 56 #[pp p, lv 2, pp k.cb] W (fun e w' => e = .returned (.tuple #[]) ∧ ∃ tv, SIx B w' p { k with tv := tv } { s with c0 := 2, c1 := 0, o0 := 2, v2 := 1, v3 := -1, l1 := s.ss.length, r1 := true, tr := s.tr ++ [2] } ∧ Below B w w') := by
      intro W hW
      have hBW : B ≤ W.heap.size := by have := hW.size; omega
      have h5 : w.heap.size ≤ w.heap.size := Nat.le_refl _
      refine (assign_2 W (s6.out.over hW) ht.out hBW).mono ?_
      rintro e w' ⟨rfl, tv, q1, q2⟩
      exact ⟨rfl, tv, q1, (b6.out.trans (hW.mono (by omega))).trans q2⟩
    replace hT := Lib.hid hT
    replace hA := Lib.hid hA
    go_wp2_with fail
    go_region_held3 (fun w' => w'.cell? ⟨X, 1, none⟩ = some (lv 2)) (first | exact e1)
      (first
        | (go_at_call 43; (with_reducible refine (hT.out _ (Below.refl _ _).drew.drew).mono ?_); rintro e w9 ⟨rfl, hw9⟩; subst hw9))
    clear hT
    go_wp2_with fail
    go_region_with (first
      | (go_at_call 56; (with_reducible refine (hA.out _ (Below.refl _ _).drew.drew.drew).mono ?_); rintro e w7 ⟨rfl, tv, s7, b7⟩))
    all_goals (
      have b6' : w7.cell? ⟨p, 6, none⟩ = some (sl k.wb 4) := s7.blk.c 6
      have bl := lt_of_get s7.blk
      have wl := lt_of_get s7.wab
      have w0 : w7.cell? ⟨k.wb, 0, none⟩ = some k.w0 := s7.wab.c 0
      have wf := s7.wab.fz 0
      rw [ew.out] at w0
      have hst : CB (w7.setCell ⟨k.wb, 0, none⟩ k.w0) k.wb #[k.w0, .slice none 0 0, k.w2, .slice none 0 0] 106 := heap_set w7 k.wb 0 _ _ k.w0 s7.wab
      have s8 : SIx B (w7.setCell ⟨k.wb, 0, none⟩ (.slice (some ⟨g, 0, none⟩) 1 c)) p { k with tv := tv } { s with c0 := 2, c1 := 0, o0 := 2, v2 := 1, v3 := -1, l1 := s.ss.length, r1 := true, tr := s.tr ++ [2] } := by rw [← ew.out]; exact s7.wats hst fun x hx => Below.heap_setCell _ _ _ x hx
      have b8 := b7.setCell (p := ⟨k.wb, 0, none⟩) s7.low.2.2.2.1 k.w0
      rw [ew.out] at b8
      replace s8 := Lib.hid s8
      replace b8 := Lib.hid b8
      clear hA e1 xl hst s7 b7
      go_wp2_with fail
      rw [rounds_succ]
      go_wp2_with fail
      go_ret
      exact ⟨rfl, ⟨tv, s8.out⟩, b8.out⟩)
set_option maxRecDepth 100000 in
set_option maxHeartbeats 6400000 in
theorem visit_C (h : SIx B w p k s) (hs : s.ws = true) (h0 : s.c0 = 0) (h1 : s.c1 = 2) (ho : s.o0 = 2) (h2 : s.v2 = -1) (hB : B ≤ w.heap.size) :
    Calls Tryz.prog 59 #[pp p, lv 0] w fun e w' => e = .returned (pp k.cb) ∧ SIx B w' p k { s with c0 := 2, c1 := 0, o0 := 2 } ∧ Below B w w' := by
  obtain ⟨i0, hi, hz0, hz1, hz2⟩ := info_parts info_watch
  obtain ⟨a1, a2, a3, a4, a5, a6, a7, a8⟩ := h.cls hs
  rw [ho] at a6
  rw [h0, h1] at a4
  obtain ⟨g, c, ew, hBg, hc1, cur, hg, hcur⟩ := own_some1 a6
  have b6 : w.cell? ⟨p, 6, none⟩ = some (sl k.wb 4) := h.blk.c 6
  have bl := lt_of_get h.blk
  have wl := lt_of_get h.wab
  have gl := lt_of_get hg
  have w0 : w.cell? ⟨k.wb, 0, none⟩ = some k.w0 := h.wab.c 0
  rw [ew] at w0 a6
  have g0 : w.cell? ⟨g, 0, none⟩ = some (pp k.cb) := World.ownsRow.cellAt a6 0 (by decide)
  have g1 : w.cell? ⟨g, 1, none⟩ = some (lv 2) := World.ownsRow.cellAt a6 1 (by decide)
  have cX : (w.alloc (.cells #[pp k.cb, lv 2] 109)).heap[w.heap.size]? = some (.cells #[pp k.cb, lv 2] 109 (0, 0)) := heap_alloc_new w _
  have sX := h.over ((Below.refl w.heap.size w).alloc (Nat.le_refl _) (.cells #[pp k.cb, lv 2] 109))
  have hbX : Below B w (w.alloc (.cells #[pp k.cb, lv 2] 109)) := (Below.refl B w).alloc hB _
  have hszX : (w.alloc (.cells #[pp k.cb, lv 2] 109)).heap.size = w.heap.size + 1 := by simp
  have hown : ∀ g', k.w0.ownBlock = some g' ∨ k.w2.ownBlock = some g' → g' ≠ w.heap.size := by
    rintro g' (e | e)
    · rw [ew] at e; cases e; show g ≠ w.heap.size; omega
    · have := (own_ltT a7 g' e).2; omega
  replace hown := Lib.hid hown
  replace cX := Lib.hid cX
  replace sX := Lib.hid sX
  replace hbX := Lib.hid hbX
  replace hszX := Lib.hid hszX
  replace h0 := Lib.hid h0
  replace h1 := Lib.hid h1
  replace ho := Lib.hid ho
  replace h2 := Lib.hid h2
  replace hs := Lib.hid hs
  replace ew := Lib.hid ew
  replace hB := Lib.hid hB
  
  clear h a3 a4 a5 a6 a7 a8 hg hcur
  go_enter Tryz.func59, Tryz.ntmps59
  go_wp2_with fail
  refine wp_loop_rounds 2 ?_
  rw [rounds_succ]
  go_wp2_with fail
  obtain ⟨w1, hw1⟩ : ∃ W, w.alloc (.cells #[pp k.cb, lv 2] 109) = W := ⟨_, rfl⟩
  obtain ⟨X, hX⟩ : ∃ X, w.heap.size = X := ⟨_, rfl⟩
  have s1 : SIx B w1 p k s := hw1 ▸ sX.out
  have b1 : Below B w w1 := hw1 ▸ hbX.out
  have x1 : CB w1 X #[pp k.cb, lv 2] 109 := by rw [← hw1, ← hX]; exact cX.out
  have own1 : ∀ g', k.w0.ownBlock = some g' ∨ k.w2.ownBlock = some g' → g' ≠ X := by rw [← hX]; exact hown.out
  have hBX : B ≤ X := by rw [← hX]; exact hB.out
  have hgX : g < X := by rw [← hX]; exact gl
  have hw1' : w.alloc (.cells #[.pointer (some ⟨k.cb, 0, none⟩), .int .i32 2] 109) = w1 := hw1
  rw [hw1', hX]
  obtain ⟨_, _, a3, a4, a5, a6, a7, a8⟩ := s1.cls hs.out
  have e0 : w1.cell? ⟨X, 0, none⟩ = some (pp k.cb) := x1.c 0
  have e1 : w1.cell? ⟨X, 1, none⟩ = some (lv 2) := x1.c 1
  have ef := x1.fz 1
  have xl := lt_of_get x1
  have d0 : w1.cell? ⟨k.cb, 0, none⟩ = some (sl k.cl 2) := a3.c 0
  have dl := lt_of_get a3
  rw [h0.out, h1.out] at a4
  have l0 : w1.cell? ⟨k.cl, 0, none⟩ = some (lv 0) := a4.c 0
  have l1 : w1.cell? ⟨k.cl, 1, none⟩ = some (lv 2) := a4.c 1
  have lf0 := a4.fz 0
  have lf1 := a4.fz 1
  have ll := lt_of_get a4
  have hXc : X ≠ k.cl := fun e => x1.ne a4 (by decide) (by rw [e])
  have hcc : k.cb ≠ k.cl := a3.ne a4 (by decide)
  have hXb : X ≠ k.cb := fun e => x1.ne a3 (by decide) (by rw [e])
  have hT : ∀ W, Below w1.heap.size w1 W → Calls Tryz.prog 43 #[pp p, lv 2] W (RW W (.bool false)) := fun W hW => isT W (s1.over hW) 2 (by decide) _ h2.out
  -- the swap, then the variable's other literal
  have hc1 := heap_set w1 k.cl 0 _ _ (lv 2) a4
  have s2 := SIx.over (s1.swap hs.out 2 0 (heap_set _ k.cl 1 _ _ (lv 0) hc1) fun x hx => (Below.heap_setCell _ _ _ x hx).trans (Below.heap_setCell _ _ _ x hx)) ((Below.refl _ _).drew)
  have x2 : CB ((w1.setCell ⟨k.cl, 0, none⟩ (lv 2)).setCell ⟨k.cl, 1, none⟩ (lv 0)).drew X #[pp k.cb, lv 2] 109 := (x1.far ⟨k.cl, 0, none⟩ (lv 2) hXc).far ⟨k.cl, 1, none⟩ (lv 0) hXc
  have x3 := heap_set _ X 1 _ _ (lv 2) x2
  have s3 := s2.wvar x2 own1 (w' := ((w1.setCell ⟨k.cl, 0, none⟩ (lv 2)).setCell ⟨k.cl, 1, none⟩ (lv 0)).drew.setCell ⟨X, 1, none⟩ (lv 2)) fun x hx => Below.heap_setCell _ _ _ x hx
  replace s3 := s3.over (w' := (((w1.setCell ⟨k.cl, 0, none⟩ (lv 2)).setCell ⟨k.cl, 1, none⟩ (lv 0)).setCell ⟨X, 1, none⟩ (lv 2)).drew.drew) ⟨rfl, rfl, rfl, Nat.le_refl _, fun _ _ => rfl⟩
  have b3 : Below B w ((((w1.setCell ⟨k.cl, 0, none⟩ (lv 2)).setCell ⟨k.cl, 1, none⟩ (lv 0)).setCell ⟨X, 1, none⟩ (lv 2)).drew.drew) := (((b1.setCell (p := ⟨k.cl, 0, none⟩) a2 _).setCell (p := ⟨k.cl, 1, none⟩) a2 _).setCell (p := ⟨X, 1, none⟩) hBX _).drew.drew
  have x3' : CB ((((w1.setCell ⟨k.cl, 0, none⟩ (lv 2)).setCell ⟨k.cl, 1, none⟩ (lv 0)).setCell ⟨X, 1, none⟩ (lv 2)).drew.drew) X #[pp k.cb, lv 2] 109 := x3
  obtain ⟨w3, hw3⟩ : ∃ W, ((((w1.setCell ⟨k.cl, 0, none⟩ (lv 2)).setCell ⟨k.cl, 1, none⟩ (lv 0)).setCell ⟨X, 1, none⟩ (lv 2)).drew.drew) = W := ⟨_, rfl⟩
  rw [hw3] at s3 b3 x3'
  replace hw3 := Lib.hid hw3
  replace s3 := Lib.hid s3
  replace b3 := Lib.hid b3
  replace x3 := Lib.hid x3'
  replace hT := Lib.hid hT
  replace own1 := Lib.hid own1
  clear s1 b1 x1 hw1 hw1' s2 x2 hc1 a3 a4 a5 a6 a7 a8 x3' sX hbX cX hown hX g0 g1 b6 bl wl gl w0
  clear hszX
  go_region_held3 (fun w' => w'.cell? ⟨X, 1, none⟩ = some (lv 2)) (first | exact e1)
    (first
      | (go_at_call 43; (with_reducible refine (hT.out _ (Below.refl _ _).drew).mono ?_); rintro e w9 ⟨rfl, hw9⟩; subst hw9))
  clear hT
  go_wp2_with fail
  go_region
  go_wp2_with fail
  rw [show ((((w1.setCell ⟨k.cl, 0, none⟩ (.int .i32 2)).setCell ⟨k.cl, 1, none⟩ (.int .i32 0)).setCell ⟨X, 1, none⟩ (.int .i32 2)).drew.drew) = w3 from hw3.out]
  have e1' : w3.cell? ⟨X, 1, none⟩ = some (lv 2) := x3.out.c 1
  have xl' := lt_of_get x3.out
  have hT : ∀ W, Below w3.heap.size w3 W → Calls Tryz.prog 43 #[pp p, lv 2] W (RW W (.bool false)) := fun W hW => isT W (s3.out.over hW) 2 (by decide) _ h2.out
  have hR : ∀ W, Below w3.heap.size w3 W → Calls Tryz.prog 85 #[pp p, pp k.cb] W (RW W (.bool false)) := fun W hW => rewatch_t W (s3.out.over hW) hs.out
  have s4 := s3.out.over (Below.refl w3.heap.size w3).drew
  have b4 := b3.out.drew
  have x4 : CB w3.drew X #[pp k.cb, lv 2] 109 := x3.out
  obtain ⟨w4, hw4⟩ : ∃ W, w3.drew = W := ⟨_, rfl⟩
  rw [hw4] at s4 b4 x4
  replace s4 := Lib.hid s4
  replace b4 := Lib.hid b4
  replace x4 := Lib.hid x4
  replace hw4 := Lib.hid hw4
  replace hT := Lib.hid hT
  replace hR := Lib.hid hR
  clear hw3 s3 b3 x3 e0 e1 ef xl d0 dl l0 l1 lf0 lf1 ll
  go_region_held3 (fun w' => w'.cell? ⟨X, 1, none⟩ = some (lv 2)) (first | exact e1')
    (first
      | (go_at_call 43; (with_reducible refine (hT.out _ (Below.refl _ _).drew).mono ?_); rintro e w9 ⟨rfl, hw9⟩; subst hw9)
      | (go_at_call 85; (with_reducible refine (hR.out _ (Below.refl _ _).drew).mono ?_); rintro e w9 ⟨rfl, hw9⟩; subst hw9))
  rw [hw4.out]
  clear hT hR e1' xl' hw4
  have e0 : w4.cell? ⟨X, 0, none⟩ = some (pp k.cb) := x4.out.c 0
  have e1 : w4.cell? ⟨X, 1, none⟩ = some (lv 2) := x4.out.c 1
  have xl := lt_of_get x4.out
  obtain ⟨_, _, _, _, _, a6, _, _⟩ := s4.out.cls hs.out
  have hBw : B ≤ w4.heap.size := Nat.le_trans hBX (Nat.le_of_lt xl)
  have a6' : (w4.alloc (.cells #[pp k.cb, lv 2] 109)).ownsRow B 109 2 (.slice (some ⟨g, 0, none⟩) 0 c) 0 [] := by
    have := own_keepT a6 (w' := w4.alloc (.cells #[pp k.cb, lv 2] 109)) fun b e => ((Below.refl w4.heap.size w4).alloc (Nat.le_refl _) (.cells #[pp k.cb, lv 2] 109)).block b (own_ltT a6 b e).2
    rw [ew.out] at this
    exact own_zero this
  have hnw : ∀ j u, [pp k.cb, lv 2][j]? = some u → (w4.alloc (.cells #[pp k.cb, lv 2] 109)).cell? ((⟨w4.heap.size, 0, none⟩ : Addr).add j) = some u := World.news_of_block (heap_alloc_new w4 (.cells #[pp k.cb, lv 2] 109))
  have hone : ∀ u ∈ [pp k.cb, lv 2], u.oneCell' = true := by simp [Value.oneCell']
  have s5 : ∀ w5, w5.ownsRow B 109 2 (.slice (some ⟨g, 0, none⟩) (0 + 1) c) (0 + 1) ([] ++ [pp k.cb, lv 2]) → (w4.alloc (.cells #[pp k.cb, lv 2] 109)).grownBy w5 (some g) → SIx B w5 p k { s with c0 := 2, c1 := 0, o0 := 2 } ∧ Below B w w5 ∧ CB w5 X #[pp k.cb, lv 2] 109 := by
    intro w5 h5 hg5
    have hal := (Below.refl w4.heap.size w4).alloc (Nat.le_refl _) (.cells #[pp k.cb, lv 2] 109)
    have hsz : (w4.alloc (.cells #[pp k.cb, lv 2] 109)).heap.size = w4.heap.size + 1 := by simp
    refine ⟨(s4.out.over hal).lst0 hs.out 2 (by rw [ew.out]; exact h5) (fun x hx hn => hg5.block x hx (fun e => hn (by rw [ew.out]; exact e.symm))), ?_, (hg5.block X (by omega) (by intro e; cases e; omega)).trans ((hal.block X xl).trans x4.out)⟩
    refine b4.out.trans ((hal.mono hBw).trans ⟨hg5.os, hg5.tape, hg5.output, hg5.size, fun x hx => hg5.block x (by omega) (fun e => by cases e; omega)⟩)
  replace a6' := Lib.hid a6'
  replace hnw := Lib.hid hnw
  replace hone := Lib.hid hone
  replace s5 := Lib.hid s5
  clear s4 b4 x4 a6
  go_wp2_with (at_builtin; refine wpList_append_own_spare _ rfl _ _ 106 rfl B 109 i0 2 Tryz.underlying106 hi hz1 g 0 c [] rfl a6'.out ⟨w4.heap.size, 0, none⟩ 1 1 [pp k.cb, lv 2] rfl rfl hnw.out hone.out hc1 ?c6)
  case c6 =>
    intro w5 h5 hg5
    obtain ⟨s6, b6, x6⟩ := s5.out w5 h5 hg5
    clear s5 h5 hg5 a6' hnw e0 e1 xl
    have e1 : w5.cell? ⟨X, 1, none⟩ = some (lv 2) := x6.c 1
    have xl := lt_of_get x6
    replace s6 := Lib.hid s6
    replace b6 := Lib.hid b6
    replace x6 := Lib.hid x6
    have hF : ∀ W, Below w5.heap.size w5 W → Calls Tryz.prog 54 #[pp p, lv 2] W (RW W (.bool true)) := fun W hW => isF W (s6.out.over hW) 2 (by decide) _ h2.out
    replace hF := Lib.hid hF
    go_wp2_with fail
    go_region_held3 (fun w' => w'.cell? ⟨X, 1, none⟩ = some (lv 2)) (first | exact e1)
      (first
        | (go_at_call 54; (with_reducible refine (hF.out _ (Below.refl _ _).drew).mono ?_); rintro e w9 ⟨rfl, hw9⟩; subst hw9))
    clear hF
    have hap : ∀ (W : World) (ty : TypeId) (a : Addr) (c' : Nat), (Builtin.append_ #[106, 106] ty #[.slice (some ⟨g, 0, none⟩) 1 c, .slice (some a) 0 c']).run Tryz.prog W = .ok (.slice (some ⟨g, 0, none⟩) 1 c) W := by
      intro W ty a c'
      simp [Builtin.append_, run_underlying Tryz.underlying106, sizeOf, typeInfo, hi, Builtin.lenOf, Builtin.firstCells, loadCells, loadCellsFrom, hc1, storeCells]
    have b6' : w5.cell? ⟨p, 6, none⟩ = some (sl k.wb 4) := s6.out.blk.c 6
    have bl := lt_of_get s6.out.blk
    have wl := lt_of_get s6.out.wab
    have w0 : w5.cell? ⟨k.wb, 0, none⟩ = some k.w0 := s6.out.wab.c 0
    have wf := s6.out.wab.fz 0
    rw [ew.out] at w0
    have hst : CB (w5.setCell ⟨k.wb, 0, none⟩ k.w0) k.wb #[k.w0, .slice none 0 0, k.w2, .slice none 0 0] 106 := heap_set w5 k.wb 0 _ _ k.w0 s6.out.wab
    have s8 : SIx B (w5.setCell ⟨k.wb, 0, none⟩ (.slice (some ⟨g, 0, none⟩) 1 c)) p k { s with c0 := 2, c1 := 0, o0 := 2 } := by rw [← ew.out]; exact s6.out.wats hst fun x hx => Below.heap_setCell _ _ _ x hx
    have b8 := b6.out.setCell (p := ⟨k.wb, 0, none⟩) s6.out.low.2.2.2.1 k.w0
    rw [ew.out] at b8
    replace s8 := s8.over (Below.refl _ _).drew.drew
    replace b8 := b8.drew.drew
    replace s8 := Lib.hid s8
    replace b8 := Lib.hid b8
    clear e1 xl hst s6 b6
    by_cases hcc : c = 1
    · subst hcc
      go_wp2_with fail
      go_region
      go_wp2_with fail
      go_ret
      exact ⟨rfl, s8.out, b8.out⟩
    · go_wp2_with fail
      go_region
      go_wp2_with fail
      go_ret
      exact ⟨rfl, s8.out, b8.out⟩
end
end Go.Proofs.YtpkmpbnedoldlaaGreat
