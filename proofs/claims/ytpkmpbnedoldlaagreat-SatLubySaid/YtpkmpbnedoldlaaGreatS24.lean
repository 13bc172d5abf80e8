/-
  Solve, twice.
-/
import Derived.Test.YtpkmpbnedoldlaaGreatS13
import Derived.Test.YtpkmpbnedoldlaaGreatS22
namespace Go.Proofs.YtpkmpbnedoldlaaGreat
open Go.RowKit Go.Lib
theorem SIx.farR {B p : Nat} {k : Bk} {s : St} {w w' : World} (h : SIx B w p k s) {G : Nat} {cs : Array Value} (hG : CB w G cs 32) (hk : ∀ x, x ≠ G → w'.heap[x]? = w.heap[x]?) : SIx B w' p k { s with eb := false } :=
  { pB := h.pB, low := h.low, blk := (hk _ (h.blk.ne hG (by decide))).trans h.blk, vab := (hk _ (h.vab.ne hG (by decide))).trans h.vab, leb := (hk _ (h.leb.ne hG (by decide))).trans h.leb, reb := (hk _ (h.reb.ne hG (by decide))).trans h.reb, wab := (hk _ (h.wab.ne hG (by decide))).trans h.wab, heb := (hk _ (h.heb.ne hG (by decide))).trans h.heb, plb := (hk _ (h.plb.ne hG (by decide))).trans h.plb, sab := (hk _ (h.sab.ne hG (by decide))).trans h.sab, tro := own_keepT h.tro fun b e => hk b (hG.own_ne h.tro (by decide) b e), sso := own_keepT h.sso fun b e => hk b (hG.own_ne h.sso (by decide) b e), ap := h.ap, aps := h.aps, now := h.now,
    cls := fun e => by
      obtain ⟨a1, a2, a3, a4, a5, a6, a7, a8⟩ := h.cls e
      exact ⟨a1, a2, (hk _ (a3.ne hG (by decide))).trans a3, (hk _ (a4.ne hG (by decide))).trans a4, a5, own_keepT a6 fun b e => hk b (hG.own_ne a6 (by decide) b e), own_keepT a7 fun b e => hk b (hG.own_ne a7 (by decide) b e), a8⟩, sm := h.sm, exb := fun e => (by cases e) }
theorem info_ints : (Tryz.prog.info? 35).map (fun i => (i.zero, i.size, i.bytes)) = some (some (.slice none 0 0), 1, 24) := by kernel_rfl
section
variable {base p : Nat} {vl ve : Value}
set_option maxRecDepth 100000 in
set_option maxHeartbeats 12800000 in
theorem solve_1 (w : World) (h : CF base w p 2 [[1, 2]] vl ve) : Calls Tryz.prog 10 #[pv p, iz 9] w fun e w' => (∃ A n c, e = .returned (.agg #[iz 1, .slice A n c, .slice none 0 0, iz 0])) ∧ Below w.heap.size w w' := by
  have hba := (Below.refl w.heap.size w).alloc (Nat.le_refl _) (.cells #[iz 0, .slice none 0 0, .slice none 0 0, iz 0] 32)
  have hR : CB (w.alloc (.cells #[iz 0, .slice none 0 0, .slice none 0 0, iz 0] 32)) w.heap.size #[iz 0, .slice none 0 0, .slice none 0 0, iz 0] 32 := CB.nw rfl
  have hN := newS_t _ (h.over hba) sA (.inl ⟨rfl, rfl⟩)
  have hsz : (w.alloc (.cells #[iz 0, .slice none 0 0, .slice none 0 0, iz 0] 32)).heap.size = w.heap.size + 1 := by simp
  rw [hsz] at hN
  replace hN := Lib.hid hN
  replace hba := Lib.hid hba
  replace hR := Lib.hid hR
  replace hsz := Lib.hid hsz
  clear h
  go_enter Tryz.func10, Tryz.ntmps10
  go_wp2_with fail
  (with_reducible refine hN.out.mono ?_)
  rintro e w2 ⟨q, k, rfl, s2, b2⟩
  have hz2 : w.heap.size + 1 ≤ w2.heap.size := by have := b2.size; rw [hsz.out] at this; exact this
  have R2 : CB w2 w.heap.size #[iz 0, .slice none 0 0, .slice none 0 0, iz 0] 32 := (b2.block _ (Nat.lt_succ_self _)).trans hR.out
  have b2w : Below w.heap.size w w2 := hba.out.trans (b2.mono (Nat.le_succ _))
  have c18 : w2.cell? ⟨q, 18, none⟩ = some (iz 0) := s2.blk.c 18
  have ql := lt_of_get s2.blk
  have hS0 := search_1 w2.drew (s2.over (Below.refl _ _).drew) rfl rfl rfl rfl rfl rfl rfl rfl rfl rfl rfl rfl hz2
  have hbz := (Below.refl w2.heap.size w2).alloc (Nat.le_refl _) (.cells #[iz 0, .slice none 0 0, .slice none 0 0, iz 0] 32)
  have hS1 := search_1 _ ((s2.over hbz.drew).withE (CB.drew (CB.nw rfl))) rfl rfl rfl rfl rfl rfl rfl rfl rfl rfl rfl rfl (by simp; omega)
  change Calls _ _ #[pp q, .int .i64 (max 9 0)] _ _ at hS0
  have hS1' : Calls Tryz.prog 21 #[pp q, .int .i64 (max 9 0)] (w2.alloc (.cells #[iz 0, .slice none 0 0, .slice none 0 0, iz 0] 32)).drew (fun e w' => e = .returned (iz 1) ∧ (∃ k' s', SIx (w.heap.size + 1) w' q k' s') ∧ CB w' w2.heap.size #[iz 0, .slice none 0 0, .slice none 0 0, iz 0] 32 ∧ Below (w.heap.size + 1) (w2.alloc (.cells #[iz 0, .slice none 0 0, .slice none 0 0, iz 0] 32)).drew w') := by
    refine hS1.mono ?_
    rintro e w' ⟨q1, q2, q3, q4⟩
    exact ⟨q1, q2, q3 rfl, q4⟩
  replace hS1 := hS1'
  clear hS1'
  replace hS0 := Lib.hid hS0
  replace hS1 := Lib.hid hS1
  replace hbz := Lib.hid hbz
  replace R2 := Lib.hid R2
  replace b2w := Lib.hid b2w
  clear hN hba hR b2 s2
  go_upto_region 2 with fail
  go_cut [6] from 9 (fun v wx => ∃ g k' s', v = pp g ∧ CB wx g #[iz 1, .slice none 0 0, .slice none 0 0, iz 0] 32 ∧ SIx (w.heap.size + 1) wx q k' s' ∧ CB wx w.heap.size #[iz 0, .slice none 0 0, .slice none 0 0, iz 0] 32 ∧ w.heap.size < g ∧ Below w.heap.size w wx)
  case first =>
    go_region_with (first
      | (go_at_call 21; (with_reducible refine hS0.out.mono ?_); rintro e w3 ⟨rfl, ⟨k3, t3, s3⟩, x3, b3⟩; have d18 : w3.cell? ⟨q, 18, none⟩ = some (iz 0) := s3.blk.c 18; have ql3 := lt_of_get s3.blk; have mode0 : True := trivial)
      | (go_at_call 21; (with_reducible refine hS1.out.mono ?_); rintro e w3 ⟨rfl, ⟨k3, t3, s3⟩, x3, b3⟩; have d18 : w3.cell? ⟨q, 18, none⟩ = some (iz 0) := s3.blk.c 18; have ql3 := lt_of_get s3.blk; have y0 : w3.cell? ⟨w2.heap.size, 0, none⟩ = some (iz 0) := CB.c x3 0; have y1 : w3.cell? ⟨w2.heap.size, 1, none⟩ = some (.slice none 0 0) := CB.c x3 1; have y2 : w3.cell? ⟨w2.heap.size, 2, none⟩ = some (.slice none 0 0) := CB.c x3 2; have y3 : w3.cell? ⟨w2.heap.size, 3, none⟩ = some (iz 0) := CB.c x3 3; have yl := lt_of_get x3; have yf0 := CB.fz x3 0; have yf1 := CB.fz x3 1; have yf2 := CB.fz x3 2; have yf3 := CB.fz x3 3; have mode1 : True := trivial))
    all_goals (
      go_wp2_with fail
      go_meet
      first
        | (clear mode0; exact ⟨w3.heap.size, k3, t3, rfl, CB.nw rfl, s3.over ((Below.refl w3.heap.size w3).alloc (Nat.le_refl _) _), CB.al ((b3.block _ (Nat.lt_succ_self _)).trans R2.out), Nat.lt_of_lt_of_le hz2 b3.size, Below.alloc (b2w.out.drew.trans (b3.mono (Nat.le_succ _))) (Nat.le_trans (Nat.le_of_lt hz2) b3.size) _⟩)
        | (clear mode1
           have R3 : CB w3 w.heap.size #[iz 0, .slice none 0 0, .slice none 0 0, iz 0] 32 := (b3.block _ (Nat.lt_succ_self _)).trans (CB.al R2.out)
           have hgne : w.heap.size ≠ w2.heap.size := Nat.ne_of_lt hz2
           have hgle : w.heap.size ≤ w2.heap.size := Nat.le_of_lt hz2
           have hb3 : Below w.heap.size w w3 := ((b2w.out.alloc (Nat.le_of_lt hz2) (.cells #[iz 0, .slice none 0 0, .slice none 0 0, iz 0] 32)).drew).trans (b3.mono (Nat.le_succ _))
           exact ⟨w2.heap.size, k3, _, rfl, heap_set _ w2.heap.size 3 _ _ (iz 0) (heap_set _ w2.heap.size 2 _ _ (.slice none 0 0) (heap_set _ w2.heap.size 1 _ _ (.slice none 0 0) (heap_set _ w2.heap.size 0 _ _ (iz 1) x3))), s3.farR x3 (fun x hx => (Below.heap_setCell _ _ _ x hx).trans ((Below.heap_setCell _ _ _ x hx).trans ((Below.heap_setCell _ _ _ x hx).trans (Below.heap_setCell _ _ _ x hx)))), CB.far (CB.far (CB.far (CB.far R3 ⟨w2.heap.size, 0, none⟩ (iz 1) hgne) ⟨w2.heap.size, 1, none⟩ (.slice none 0 0) hgne) ⟨w2.heap.size, 2, none⟩ (.slice none 0 0) hgne) ⟨w2.heap.size, 3, none⟩ (iz 0) hgne, hz2, (((hb3.setCell (p := ⟨w2.heap.size, 0, none⟩) hgle _).setCell (p := ⟨w2.heap.size, 1, none⟩) hgle _).setCell (p := ⟨w2.heap.size, 2, none⟩) hgle _).setCell (p := ⟨w2.heap.size, 3, none⟩) hgle _⟩))
  case rest =>
    obtain ⟨g, k', s', rfl, hg, s3, hR3, hlt, hb⟩ := hcut
    have g0 : wc.cell? ⟨g, 0, none⟩ = some (iz 1) := hg.c 0
    have gl := lt_of_get hg
    have hM := model_t wc s3 (by have := hb.size; have := hz2; have := lt_of_get hR3; omega)
    replace hM := Lib.hid hM
    replace hg := Lib.hid hg
    replace hR3 := Lib.hid hR3
    replace hb := Lib.hid hb
    have ql' := lt_of_get s3.blk
    clear hS0 hS1 hbz R2 b2w c18 ql s3
    go_wp2_with fail
    (with_reducible refine hM.out.mono ?_)
    rintro e w4 ⟨⟨A, n, c, rfl⟩, b4⟩
    have hg4 := CB.over hg.out b4
    have hR4 := CB.over hR3.out b4
    have hb4 := below_call b4 hb.out hb.out.size
    have e0 : w4.cell? ⟨g, 0, none⟩ = some (iz 1) := hg4.c 0
    have e1 : w4.cell? ⟨g, 1, none⟩ = some (.slice none 0 0) := hg4.c 1
    have e2 : w4.cell? ⟨g, 2, none⟩ = some (.slice none 0 0) := hg4.c 2
    have e3 : w4.cell? ⟨g, 3, none⟩ = some (iz 0) := hg4.c 3
    have el := lt_of_get hg4
    have ef := hg4.fz 1
    have r0 : w4.cell? ⟨w.heap.size, 0, none⟩ = some (iz 0) := hR4.c 0
    have r1 : w4.cell? ⟨w.heap.size, 1, none⟩ = some (.slice none 0 0) := hR4.c 1
    have r2 : w4.cell? ⟨w.heap.size, 2, none⟩ = some (.slice none 0 0) := hR4.c 2
    have r3 : w4.cell? ⟨w.heap.size, 3, none⟩ = some (iz 0) := hR4.c 3
    have rl := lt_of_get hR4
    have rf0 := hR4.fz 0
    have rf1 := hR4.fz 1
    have rf2 := hR4.fz 2
    have rf3 := hR4.fz 3
    have hne : w.heap.size ≠ g := Nat.ne_of_lt hlt
    replace hg4 := Lib.hid hg4
    replace hR4 := Lib.hid hR4
    replace hb4 := Lib.hid hb4
    clear hM b4 hg hR3 hb g0 gl
    go_wp2_with fail
    have qR := heap_set _ w.heap.size 3 _ _ (iz 0) (heap_set _ w.heap.size 2 _ _ (.slice none 0 0) (heap_set _ w.heap.size 1 _ _ (.slice A n c) (heap_set _ w.heap.size 0 _ _ (iz 1) (CB.far hR4.out ⟨g, 1, none⟩ (.slice A n c) hne))))
    have hgle : w.heap.size ≤ g := Nat.le_of_lt hlt
    have qB := ((((hb4.out.setCell (p := ⟨g, 1, none⟩) hgle (.slice A n c)).setCell (p := ⟨w.heap.size, 0, none⟩) (Nat.le_refl _) (iz 1)).setCell (p := ⟨w.heap.size, 1, none⟩) (Nat.le_refl _) (.slice A n c)).setCell (p := ⟨w.heap.size, 2, none⟩) (Nat.le_refl _) (.slice none 0 0)).setCell (p := ⟨w.heap.size, 3, none⟩) (Nat.le_refl _) (iz 0)
    obtain ⟨W, hW⟩ : ∃ W, ((((w4.setCell ⟨g, 1, none⟩ (.slice A n c)).setCell ⟨w.heap.size, 0, none⟩ (iz 1)).setCell ⟨w.heap.size, 1, none⟩ (.slice A n c)).setCell ⟨w.heap.size, 2, none⟩ (.slice none 0 0)).setCell ⟨w.heap.size, 3, none⟩ (iz 0) = W := ⟨_, rfl⟩
    rw [hW] at qR qB ⊢
    have q0 : W.cell? ⟨w.heap.size, 0, none⟩ = some (iz 1) := CB.c qR 0
    have q1 : W.cell? ⟨w.heap.size, 1, none⟩ = some (.slice A n c) := CB.c qR 1
    have q2 : W.cell? ⟨w.heap.size, 2, none⟩ = some (.slice none 0 0) := CB.c qR 2
    have q3 : W.cell? ⟨w.heap.size, 3, none⟩ = some (iz 0) := CB.c qR 3
    clear hW qR
    exact bodyPost_ret (v := .agg #[iz 1, (.slice A n c), (.slice none 0 0), iz 0]) (by simp [results, Tryz.results10, go_sem, q0, q1, q2, q3]) rfl ⟨⟨A, n, c, rfl⟩, qB⟩
set_option maxRecDepth 100000 in
set_option maxHeartbeats 12800000 in
theorem solve_2 (w : World) (h : CF base w p 2 [[1, 2], [-1], [-2]] vl ve) : Calls Tryz.prog 10 #[pv p, iz 9] w fun e w' => (∃ g c, e = .returned (.agg #[iz 2, .slice none 0 0, .slice (some ⟨g, 0, none⟩) 1 c, iz 0]) ∧ (∃ A c', w'.cell? ⟨g, 0, none⟩ = some (.slice A 0 c')) ∧ g < w'.heap.size) ∧ Below w.heap.size w w' := by
  have hba := (Below.refl w.heap.size w).alloc (Nat.le_refl _) (.cells #[iz 0, .slice none 0 0, .slice none 0 0, iz 0] 32)
  have hR : CB (w.alloc (.cells #[iz 0, .slice none 0 0, .slice none 0 0, iz 0] 32)) w.heap.size #[iz 0, .slice none 0 0, .slice none 0 0, iz 0] 32 := CB.nw rfl
  have hN := newS_t _ (h.over hba) sB (.inr ⟨rfl, rfl⟩)
  have hsz : (w.alloc (.cells #[iz 0, .slice none 0 0, .slice none 0 0, iz 0] 32)).heap.size = w.heap.size + 1 := by simp
  rw [hsz] at hN
  replace hN := Lib.hid hN
  replace hba := Lib.hid hba
  replace hR := Lib.hid hR
  replace hsz := Lib.hid hsz
  clear h
  go_enter Tryz.func10, Tryz.ntmps10
  go_wp2_with fail
  (with_reducible refine hN.out.mono ?_)
  rintro e w2 ⟨q, k, rfl, s2, b2⟩
  have hz2 : w.heap.size + 1 ≤ w2.heap.size := by have := b2.size; rw [hsz.out] at this; exact this
  have R2 : CB w2 w.heap.size #[iz 0, .slice none 0 0, .slice none 0 0, iz 0] 32 := (b2.block _ (Nat.lt_succ_self _)).trans hR.out
  have b2w : Below w.heap.size w w2 := hba.out.trans (b2.mono (Nat.le_succ _))
  have c18 : w2.cell? ⟨q, 18, none⟩ = some (iz 0) := s2.blk.c 18
  have ql := lt_of_get s2.blk
  have hS0 := search_2 w2.drew (s2.over (Below.refl _ _).drew) rfl rfl rfl rfl rfl rfl rfl rfl hz2
  have hbz := (Below.refl w2.heap.size w2).alloc (Nat.le_refl _) (.cells #[iz 0, .slice none 0 0, .slice none 0 0, iz 0] 32)
  have hS1 := search_2 _ ((s2.over hbz.drew).withE (CB.drew (CB.nw rfl))) rfl rfl rfl rfl rfl rfl rfl rfl (by simp; omega)
  change Calls _ _ #[pp q, .int .i64 (max 9 0)] _ _ at hS0
  have hS1' : Calls Tryz.prog 21 #[pp q, .int .i64 (max 9 0)] (w2.alloc (.cells #[iz 0, .slice none 0 0, .slice none 0 0, iz 0] 32)).drew (fun e w' => e = .returned (iz 2) ∧ (∃ k' s', SIx (w.heap.size + 1) w' q k' s') ∧ CB w' w2.heap.size #[iz 0, .slice none 0 0, .slice none 0 0, iz 0] 32 ∧ Below (w.heap.size + 1) (w2.alloc (.cells #[iz 0, .slice none 0 0, .slice none 0 0, iz 0] 32)).drew w') := by
    refine hS1.mono ?_
    rintro e w' ⟨q1, q2, q3, q4⟩
    exact ⟨q1, q2, q3 rfl, q4⟩
  replace hS1 := hS1'
  clear hS1'
  replace hS0 := Lib.hid hS0
  replace hS1 := Lib.hid hS1
  replace hbz := Lib.hid hbz
  replace R2 := Lib.hid R2
  replace b2w := Lib.hid b2w
  clear hN hba hR b2 s2
  go_upto_region 2 with fail
  go_cut [6] from 9 (fun v wx => ∃ g k' s', v = pp g ∧ CB wx g #[iz 2, .slice none 0 0, .slice none 0 0, iz 0] 32 ∧ SIx (w.heap.size + 1) wx q k' s' ∧ CB wx w.heap.size #[iz 0, .slice none 0 0, .slice none 0 0, iz 0] 32 ∧ w.heap.size < g ∧ Below w.heap.size w wx)
  case first =>
    go_region_with (first
      | (go_at_call 21; (with_reducible refine hS0.out.mono ?_); rintro e w3 ⟨rfl, ⟨k3, t3, s3⟩, x3, b3⟩; have d18 : w3.cell? ⟨q, 18, none⟩ = some (iz 0) := s3.blk.c 18; have ql3 := lt_of_get s3.blk; have mode0 : True := trivial)
      | (go_at_call 21; (with_reducible refine hS1.out.mono ?_); rintro e w3 ⟨rfl, ⟨k3, t3, s3⟩, x3, b3⟩; have d18 : w3.cell? ⟨q, 18, none⟩ = some (iz 0) := s3.blk.c 18; have ql3 := lt_of_get s3.blk; have y0 : w3.cell? ⟨w2.heap.size, 0, none⟩ = some (iz 0) := CB.c x3 0; have y1 : w3.cell? ⟨w2.heap.size, 1, none⟩ = some (.slice none 0 0) := CB.c x3 1; have y2 : w3.cell? ⟨w2.heap.size, 2, none⟩ = some (.slice none 0 0) := CB.c x3 2; have y3 : w3.cell? ⟨w2.heap.size, 3, none⟩ = some (iz 0) := CB.c x3 3; have yl := lt_of_get x3; have yf0 := CB.fz x3 0; have yf1 := CB.fz x3 1; have yf2 := CB.fz x3 2; have yf3 := CB.fz x3 3; have mode1 : True := trivial))
    all_goals (
      go_wp2_with fail
      go_meet
      first
        | (clear mode0; exact ⟨w3.heap.size, k3, t3, rfl, CB.nw rfl, s3.over ((Below.refl w3.heap.size w3).alloc (Nat.le_refl _) _), CB.al ((b3.block _ (Nat.lt_succ_self _)).trans R2.out), Nat.lt_of_lt_of_le hz2 b3.size, Below.alloc (b2w.out.drew.trans (b3.mono (Nat.le_succ _))) (Nat.le_trans (Nat.le_of_lt hz2) b3.size) _⟩)
        | (clear mode1
           have R3 : CB w3 w.heap.size #[iz 0, .slice none 0 0, .slice none 0 0, iz 0] 32 := (b3.block _ (Nat.lt_succ_self _)).trans (CB.al R2.out)
           have hgne : w.heap.size ≠ w2.heap.size := Nat.ne_of_lt hz2
           have hgle : w.heap.size ≤ w2.heap.size := Nat.le_of_lt hz2
           have hb3 : Below w.heap.size w w3 := ((b2w.out.alloc (Nat.le_of_lt hz2) (.cells #[iz 0, .slice none 0 0, .slice none 0 0, iz 0] 32)).drew).trans (b3.mono (Nat.le_succ _))
           exact ⟨w2.heap.size, k3, _, rfl, heap_set _ w2.heap.size 3 _ _ (iz 0) (heap_set _ w2.heap.size 2 _ _ (.slice none 0 0) (heap_set _ w2.heap.size 1 _ _ (.slice none 0 0) (heap_set _ w2.heap.size 0 _ _ (iz 2) x3))), s3.farR x3 (fun x hx => (Below.heap_setCell _ _ _ x hx).trans ((Below.heap_setCell _ _ _ x hx).trans ((Below.heap_setCell _ _ _ x hx).trans (Below.heap_setCell _ _ _ x hx)))), CB.far (CB.far (CB.far (CB.far R3 ⟨w2.heap.size, 0, none⟩ (iz 2) hgne) ⟨w2.heap.size, 1, none⟩ (.slice none 0 0) hgne) ⟨w2.heap.size, 2, none⟩ (.slice none 0 0) hgne) ⟨w2.heap.size, 3, none⟩ (iz 0) hgne, hz2, (((hb3.setCell (p := ⟨w2.heap.size, 0, none⟩) hgle _).setCell (p := ⟨w2.heap.size, 1, none⟩) hgle _).setCell (p := ⟨w2.heap.size, 2, none⟩) hgle _).setCell (p := ⟨w2.heap.size, 3, none⟩) hgle _⟩))
  case rest =>
    obtain ⟨g, k', s', rfl, hg, s3, hR3, hlt, hb⟩ := hcut
    have g0 : wc.cell? ⟨g, 0, none⟩ = some (iz 2) := hg.c 0
    have gl := lt_of_get hg
    have b17 : wc.cell? ⟨q, 17, none⟩ = some (.slice none 0 0) := s3.blk.c 17
    have ql2 := lt_of_get s3.blk
    obtain ⟨i0, hi, hz0, hz1, hzb⟩ := info_parts info_ints
    have hnw : ∀ j u, [(.slice (some ⟨wc.heap.size, 0, none⟩) 0 0 : Value)][j]? = some u → ((wc.alloc (.cells #[] 3)).alloc (.cells #[.slice (some ⟨wc.heap.size, 0, none⟩) 0 0] 35)).cell? ((⟨wc.heap.size + 1, 0, none⟩ : Addr).add j) = some u := by
      have h := World.news_of_block (heap_alloc_new (wc.alloc (.cells #[] 3)) (.cells #[.slice (some ⟨wc.heap.size, 0, none⟩) 0 0] 35))
      rw [show (wc.alloc (.cells #[] 3)).heap.size = wc.heap.size + 1 by simp] at h
      exact h
    have hone : ∀ u ∈ [(.slice (some ⟨wc.heap.size, 0, none⟩) 0 0 : Value)], u.oneCell' = true := by simp [Value.oneCell']
    have hsz2 : ((wc.alloc (.cells #[] 3)).alloc (.cells #[.slice (some ⟨wc.heap.size, 0, none⟩) 0 0] 35)).heap.size = wc.heap.size + 1 + 1 := by simp
    have hal : Below wc.heap.size wc ((wc.alloc (.cells #[] 3)).alloc (.cells #[.slice (some ⟨wc.heap.size, 0, none⟩) 0 0] 35)) := ((Below.refl _ wc).alloc (Nat.le_refl _) _).alloc (by simp) _
    replace hnw := Lib.hid hnw
    replace hone := Lib.hid hone
    replace hsz2 := Lib.hid hsz2
    replace hal := Lib.hid hal
    replace hg := Lib.hid hg
    replace hR3 := Lib.hid hR3
    replace hb := Lib.hid hb
    clear hS0 hS1 hbz R2 b2w c18 ql s3
    go_wp2_with (at_builtin; refine wpList_append_lies _ rfl _ _ 30 rfl 0 35 i0 (.slice none 0 0) 1 24 Tryz.underlying30 hi hz0 hz1 hzb rfl (by decide) (.slice none 0 0) 0 [] rfl ⟨rfl, .inl ⟨rfl, rfl⟩⟩ ⟨wc.heap.size + 1, 0, none⟩ 1 1 [.slice (some ⟨wc.heap.size, 0, none⟩) 0 0] rfl rfl hnw.out hone.out (by decide) (by decide) (by decide) (Nat.zero_le _) (wc.heap.size + 1 + 1) hsz2.out ?c6)
    case c6 =>
      intro g2 cap w4 ho4 hgr hgb hlt4
      have hg2 : g2 = wc.heap.size + 1 + 1 := by
        rcases hgb with e | e
        · cases e
        · exact e
      have h44 : ∀ x, x < wc.heap.size → w4.heap[x]? = wc.heap[x]? := fun x hx => (hgr.block x (by rw [hsz2.out]; omega) (by intro e; cases e)).trans (hal.out.block x hx)
      have hg4 : CB w4 g #[iz 2, .slice none 0 0, .slice none 0 0, iz 0] 32 := (h44 g gl).trans hg.out
      have hRl := lt_of_get hR3.out
      have hR4 : CB w4 w.heap.size #[iz 0, .slice none 0 0, .slice none 0 0, iz 0] 32 := (h44 _ hRl).trans hR3.out
      have hb4 : Below w.heap.size w w4 := hb.out.trans ⟨hgr.os, hgr.tape, hgr.output, by have := hgr.size; rw [hsz2.out] at this; omega, fun x hx => h44 x (by omega)⟩
      have hcell : w4.cell? ⟨g2, 0, none⟩ = some (.slice (some ⟨wc.heap.size, 0, none⟩) 0 0) := World.ownsRow.cellAt ho4 0 (by decide)
      have hn1 : g2 ≠ g := by omega
      have hn2 : g2 ≠ w.heap.size := by omega
      replace hcell := Lib.hid hcell
      have e0 : w4.cell? ⟨g, 0, none⟩ = some (iz 2) := hg4.c 0
      have e1 : w4.cell? ⟨g, 1, none⟩ = some (.slice none 0 0) := hg4.c 1
      have e2 : w4.cell? ⟨g, 2, none⟩ = some (.slice none 0 0) := hg4.c 2
      have e3 : w4.cell? ⟨g, 3, none⟩ = some (iz 0) := hg4.c 3
      have el := lt_of_get hg4
      have ef := hg4.fz 2
      have r0 : w4.cell? ⟨w.heap.size, 0, none⟩ = some (iz 0) := hR4.c 0
      have r1 : w4.cell? ⟨w.heap.size, 1, none⟩ = some (.slice none 0 0) := hR4.c 1
      have r2 : w4.cell? ⟨w.heap.size, 2, none⟩ = some (.slice none 0 0) := hR4.c 2
      have r3 : w4.cell? ⟨w.heap.size, 3, none⟩ = some (iz 0) := hR4.c 3
      have rl := lt_of_get hR4
      have rf0 := hR4.fz 0
      have rf1 := hR4.fz 1
      have rf2 := hR4.fz 2
      have rf3 := hR4.fz 3
      have hne : w.heap.size ≠ g := Nat.ne_of_lt hlt
      replace hg4 := Lib.hid hg4
      replace hR4 := Lib.hid hR4
      replace hb4 := Lib.hid hb4
      clear hg hR3 hb g0 gl h44 ho4 hgr hgb hnw hone hal hg2 hsz2
      go_wp2_with fail
      replace hcell := hcell.out
      have qR := heap_set _ w.heap.size 3 _ _ (iz 0) (heap_set _ w.heap.size 2 _ _ (.slice (some ⟨g2, 0, none⟩) 1 cap) (heap_set _ w.heap.size 1 _ _ (.slice none 0 0) (heap_set _ w.heap.size 0 _ _ (iz 2) (CB.far hR4.out ⟨g, 2, none⟩ (.slice (some ⟨g2, 0, none⟩) 1 cap) hne))))
      have hgle : w.heap.size ≤ g := Nat.le_of_lt hlt
      have qB := ((((hb4.out.setCell (p := ⟨g, 2, none⟩) hgle (.slice (some ⟨g2, 0, none⟩) 1 cap)).setCell (p := ⟨w.heap.size, 0, none⟩) (Nat.le_refl _) (iz 2)).setCell (p := ⟨w.heap.size, 1, none⟩) (Nat.le_refl _) (.slice none 0 0)).setCell (p := ⟨w.heap.size, 2, none⟩) (Nat.le_refl _) (.slice (some ⟨g2, 0, none⟩) 1 cap)).setCell (p := ⟨w.heap.size, 3, none⟩) (Nat.le_refl _) (iz 0)
      have kk := cell_far (j := 3) (u := iz 0) hn2 (cell_far (j := 2) (u := (.slice (some ⟨g2, 0, none⟩) 1 cap)) hn2 (cell_far (j := 1) (u := .slice none 0 0) hn2 (cell_far (j := 0) (u := iz 2) hn2 (cell_far (j := 2) (u := (.slice (some ⟨g2, 0, none⟩) 1 cap)) hn1 hcell))))
      have kl : g2 < (((((w4.setCell ⟨g, 2, none⟩ (.slice (some ⟨g2, 0, none⟩) 1 cap)).setCell ⟨w.heap.size, 0, none⟩ (iz 2)).setCell ⟨w.heap.size, 1, none⟩ (.slice none 0 0)).setCell ⟨w.heap.size, 2, none⟩ (.slice (some ⟨g2, 0, none⟩) 1 cap)).setCell ⟨w.heap.size, 3, none⟩ (iz 0)).heap.size := by simpa using hlt4
      obtain ⟨W, hW⟩ : ∃ W, ((((w4.setCell ⟨g, 2, none⟩ (.slice (some ⟨g2, 0, none⟩) 1 cap)).setCell ⟨w.heap.size, 0, none⟩ (iz 2)).setCell ⟨w.heap.size, 1, none⟩ (.slice none 0 0)).setCell ⟨w.heap.size, 2, none⟩ (.slice (some ⟨g2, 0, none⟩) 1 cap)).setCell ⟨w.heap.size, 3, none⟩ (iz 0) = W := ⟨_, rfl⟩
      rw [hW] at qR qB kk kl ⊢
      have q0 : W.cell? ⟨w.heap.size, 0, none⟩ = some (iz 2) := CB.c qR 0
      have q1 : W.cell? ⟨w.heap.size, 1, none⟩ = some (.slice none 0 0) := CB.c qR 1
      have q2 : W.cell? ⟨w.heap.size, 2, none⟩ = some (.slice (some ⟨g2, 0, none⟩) 1 cap) := CB.c qR 2
      have q3 : W.cell? ⟨w.heap.size, 3, none⟩ = some (iz 0) := CB.c qR 3
      clear hW qR
      exact bodyPost_ret (v := .agg #[iz 2, (.slice none 0 0), (.slice (some ⟨g2, 0, none⟩) 1 cap), iz 0]) (by simp [results, Tryz.results10, go_sem, q0, q1, q2, q3]) rfl ⟨⟨g2, cap, rfl, ⟨_, _, kk⟩, kl⟩, qB⟩
end
end Go.Proofs.YtpkmpbnedoldlaaGreat
