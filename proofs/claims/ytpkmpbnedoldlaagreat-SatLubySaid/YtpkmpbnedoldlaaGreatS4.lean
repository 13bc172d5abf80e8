/-
  assign, deepen.
-/
import Derived.Test.YtpkmpbnedoldlaaGreatS3
namespace Go.Proofs.YtpkmpbnedoldlaaGreat
open Go.RowKit Go.Lib
theorem info_lit : (Tryz.prog.info? 81).map (fun i => (i.zero, i.size, i.bytes)) = some (some (.int .i32 0), 1, 4) := by kernel_rfl
theorem info_i64 : (Tryz.prog.info? 3).map (fun i => (i.zero, i.size, i.bytes)) = some (some (.int .i64 0), 1, 8) := by kernel_rfl
theorem not_1 (W : World) : Calls Tryz.prog 58 #[lv 1] W (RW W (lv 0)) := not_t 1 (by decide) W
theorem not_2 (W : World) : Calls Tryz.prog 58 #[lv 2] W (RW W (lv 3)) := not_t 2 (by decide) W
theorem not_3 (W : World) : Calls Tryz.prog 58 #[lv 3] W (RW W (lv 2)) := not_t 3 (by decide) W
theorem var_0 (W : World) : Calls Tryz.prog 67 #[lv 0] W (RW W (iz 0)) := vrb_t 0 (by decide) W
theorem var_1 (W : World) : Calls Tryz.prog 67 #[lv 1] W (RW W (iz 0)) := vrb_t 1 (by decide) W
theorem var_2 (W : World) : Calls Tryz.prog 67 #[lv 2] W (RW W (iz 1)) := vrb_t 2 (by decide) W
theorem var_3 (W : World) : Calls Tryz.prog 67 #[lv 3] W (RW W (iz 1)) := vrb_t 3 (by decide) W
theorem cell_far {W : World} {b c i j : Nat} {u x : Value} (hn : b ≠ c) (h : W.cell? ⟨b, i, none⟩ = some x) : (W.setCell ⟨c, j, none⟩ u).cell? ⟨b, i, none⟩ = some x := by
  have hh := Below.heap_setCell W ⟨c, j, none⟩ u b hn
  unfold World.cell? at h ⊢
  simpa only [hh] using h
section
variable {B p : Nat} {k : Bk} {s : St} (w : World)
theorem SIx.pushed (h : SIx B w p k s) (a : Int) (ha : s.tr.length < 2) (o : Obj) {w' : World} {g cap : Nat} (hr : w'.ownsRow B 81 1 (.slice (some ⟨g, 0, none⟩) (s.tr.length + 1) cap) (s.tr.length + 1) (s.tr.map lv ++ [lv a])) (hg : (w.alloc o).grownBy w' k.tv.ownBlock) (hl : k.tv.ownBlock = some g ∨ g = w.heap.size + 1) (hB : B ≤ w.heap.size) :
    SIx B (w'.setCell ⟨p, 0, none⟩ (.slice (some ⟨g, 0, none⟩) (s.tr.length + 1) cap)) p { k with tv := .slice (some ⟨g, 0, none⟩) (s.tr.length + 1) cap } { s with tr := s.tr ++ [a] } ∧ Below B w (w'.setCell ⟨p, 0, none⟩ (.slice (some ⟨g, 0, none⟩) (s.tr.length + 1) cap)) := by
  have hpl := h.lt
  have hpo := h.blk.own_ne h.tro (by decide)
  have hal : ∀ x, x < w.heap.size → (w.alloc o).heap[x]? = w.heap[x]? := fun x hx => ((Below.refl w.heap.size w).alloc (Nat.le_refl _) o).block x hx
  have hsz : (w.alloc o).heap.size = w.heap.size + 1 := by simp
  have hgp : g ≠ p := by
    rcases hl with e | e
    · exact hpo g e
    · omega
  have hp1 : CB w' p (sc k s) 60 := ((hg.block p (by omega) (fun e => hpo p e.symm rfl)).trans (hal p hpl)).trans h.blk
  have hk : ∀ x, x < w.heap.size → x ≠ p → k.tv.ownBlock ≠ some x → (w'.setCell ⟨p, 0, none⟩ (.slice (some ⟨g, 0, none⟩) (s.tr.length + 1) cap)).heap[x]? = w.heap[x]? := fun x hx h1 h2 => (Below.heap_setCell w' ⟨p, 0, none⟩ _ x h1).trans ((hg.block x (by omega) (fun e => h2 e.symm)).trans (hal x hx))
  refine ⟨h.trail a _ ha (by have := heap_set w' p 0 _ _ (.slice (some ⟨g, 0, none⟩) (s.tr.length + 1) cap) hp1; exact this) (own_keepT (by rw [List.map_append]; exact hr) fun b hb => by cases hb; exact Below.heap_setCell _ _ _ _ hgp) (fun x hx => by
    cases hx
    rcases hl with e | e
    · exact .inl e
    · right; show w.heap.size ≤ g; omega) hk, ?_⟩
  refine ⟨hg.os, hg.tape, hg.output, by have := hg.size; rw [World.size_setCell]; omega, fun x hx => hk x (by omega) (fun e => by have := h.pB; omega) (fun e => by have := (own_ltT h.tro x e).1; omega)⟩
theorem SIx.pushedS (h : SIx B w p k s) (a : Int) (ha : s.ss.length < 2) (o : Obj) {w' : World} {g cap : Nat} (hr : w'.ownsRow B 3 1 (.slice (some ⟨g, 0, none⟩) (s.ss.length + 1) cap) (s.ss.length + 1) (s.ss.map iz ++ [iz a])) (hg : (w.alloc o).grownBy w' k.sv.ownBlock) (hl : k.sv.ownBlock = some g ∨ g = w.heap.size + 1) (hB : B ≤ w.heap.size) :
    SIx B (w'.setCell ⟨p, 1, none⟩ (.slice (some ⟨g, 0, none⟩) (s.ss.length + 1) cap)) p { k with sv := .slice (some ⟨g, 0, none⟩) (s.ss.length + 1) cap } { s with ss := s.ss ++ [a] } ∧ Below B w (w'.setCell ⟨p, 1, none⟩ (.slice (some ⟨g, 0, none⟩) (s.ss.length + 1) cap)) := by
  have hpl := h.lt
  have hpo := h.blk.own_ne h.sso (by decide)
  have hal : ∀ x, x < w.heap.size → (w.alloc o).heap[x]? = w.heap[x]? := fun x hx => ((Below.refl w.heap.size w).alloc (Nat.le_refl _) o).block x hx
  have hsz : (w.alloc o).heap.size = w.heap.size + 1 := by simp
  have hgp : g ≠ p := by
    rcases hl with e | e
    · exact hpo g e
    · omega
  have hp1 : CB w' p (sc k s) 60 := ((hg.block p (by omega) (fun e => hpo p e.symm rfl)).trans (hal p hpl)).trans h.blk
  have hk : ∀ x, x < w.heap.size → x ≠ p → k.sv.ownBlock ≠ some x → (w'.setCell ⟨p, 1, none⟩ (.slice (some ⟨g, 0, none⟩) (s.ss.length + 1) cap)).heap[x]? = w.heap[x]? := fun x hx h1 h2 => (Below.heap_setCell w' ⟨p, 1, none⟩ _ x h1).trans ((hg.block x (by omega) (fun e => h2 e.symm)).trans (hal x hx))
  refine ⟨h.starts a _ ha (by have := heap_set w' p 1 _ _ (.slice (some ⟨g, 0, none⟩) (s.ss.length + 1) cap) hp1; exact this) (own_keepT (by rw [List.map_append]; exact hr) fun b hb => by cases hb; exact Below.heap_setCell _ _ _ _ hgp) (fun x hx => by
    cases hx
    rcases hl with e | e
    · exact .inl e
    · right; show w.heap.size ≤ g; omega) hk, ?_⟩
  refine ⟨hg.os, hg.tape, hg.output, by have := hg.size; rw [World.size_setCell]; omega, fun x hx => hk x (by omega) (fun e => by have := h.pB; omega) (fun e => by have := (own_ltT h.sso x e).1; omega)⟩
theorem vals_1 (h : SIx B w p k s) : SIx B (((w.setCell ⟨k.vb, 1, none⟩ (Value.int IntKind.i8 1)).setCell ⟨k.vb, 0, none⟩ (Value.int IntKind.i8 (-1))).drew) p k { s with v1 := 1, v0 := -1 } := by
  have h1 := heap_set w k.vb 1 _ _ (Value.int IntKind.i8 1) h.vab
  have h2 := heap_set _ k.vb 0 _ _ (Value.int IntKind.i8 (-1)) h1
  refine SIx.over (h.vals (-1) 1 s.v2 s.v3 h2 fun x hx => (Below.heap_setCell _ _ _ x hx).trans (Below.heap_setCell _ _ _ x hx)) ((Below.refl _ _).drew)
set_option maxRecDepth 100000 in
set_option maxHeartbeats 1600000 in
theorem assign_1 (h : SIx B w p k s) (ht : s.tr.length < 2) (hB : B ≤ w.heap.size) : Calls Tryz.prog 56 #[pp p, lv 1, (.pointer none)] w fun e w' => e = .returned (.tuple #[]) ∧ ∃ tv, SIx B w' p { k with tv := tv } { s with v1 := 1, v0 := -1, l0 := s.ss.length, r0 := false, tr := s.tr ++ [1] } ∧ Below B w w' := by
  obtain ⟨i0, hi, hz0, hz1, hz2⟩ := info_parts info_lit
  have b3 : w.cell? ⟨p, 3, none⟩ = some (sl k.vb 4) := h.blk.c 3
  have bl := lt_of_get h.blk
  have vl := lt_of_get h.vab
  have hN := Lib.hid not_1
  have hV := Lib.hid var_1
  have v0 : w.cell? ⟨k.vb, 0, none⟩ = some (i8 s.v0) := h.vab.c 0
  have v1 : w.cell? ⟨k.vb, 1, none⟩ = some (i8 s.v1) := h.vab.c 1
  have v2 : w.cell? ⟨k.vb, 2, none⟩ = some (i8 s.v2) := h.vab.c 2
  have v3 : w.cell? ⟨k.vb, 3, none⟩ = some (i8 s.v3) := h.vab.c 3
  have f0 := h.vab.fz 1
  have f1 := h.vab.fz 0
  have hk : ∀ {W : World} {j u}, W.cell? ⟨p, 3, none⟩ = some (sl k.vb 4) → (W.setCell ⟨k.vb, j, none⟩ u).cell? ⟨p, 3, none⟩ = some (sl k.vb 4) := cell_far (h.blk.ne h.vab (by decide))
  have h1 := vals_1 w h
  have hb1 : Below B w (((w.setCell ⟨k.vb, 1, none⟩ (Value.int IntKind.i8 1)).setCell ⟨k.vb, 0, none⟩ (Value.int IntKind.i8 (-1))).drew) := by have := h.low.1; exact (((Below.refl B w).setCell (p := ⟨k.vb, 1, none⟩) this _).setCell (p := ⟨k.vb, 0, none⟩) this _).drew
  obtain ⟨w1, hw1⟩ : ∃ W, (((w.setCell ⟨k.vb, 1, none⟩ (Value.int IntKind.i8 1)).setCell ⟨k.vb, 0, none⟩ (Value.int IntKind.i8 (-1))).drew) = W := ⟨_, rfl⟩
  rw [hw1] at h1 hb1
  have hB1 : B ≤ w1.heap.size := Nat.le_trans hB hb1.size
  replace h := Lib.hid h
  replace h1 := Lib.hid h1
  replace ht := Lib.hid ht
  replace hw1 := Lib.hid hw1
  replace hb1 := Lib.hid hb1
  replace hB1 := Lib.hid hB1
  go_enter Tryz.func56, Tryz.ntmps56
  go_wp2_with fail
  go_region_held3 (fun w' => w'.cell? ⟨p, 3, none⟩ = some (sl k.vb 4)) (first | exact b3 | exact hk b3 | exact hk (hk b3))
    (first
      | (go_at_call 58; (with_reducible refine (hN.out _).mono ?_); rintro e w9 ⟨rfl, hw9⟩; subst hw9))
  rw [hw1.out]
  clear hw1 v0 v1 v2 v3 f0 f1 hk b3 bl vl
  have b4 : w1.cell? ⟨p, 4, none⟩ = some (sl k.lb 2) := h1.out.blk.c 4
  have bl := lt_of_get h1.out.blk
  have ll := lt_of_get h1.out.leb
  have g0 : w1.cell? ⟨k.lb, 0, none⟩ = some (iz s.l0) := h1.out.leb.c 0
  have f0 := h1.out.leb.fz 0
  have hd0 := depth_t w1.drew (h1.out.over (Below.refl _ _).drew)
  have hD : Calls Tryz.prog 38 #[pp p] w1.drew (RW w1.drew (.int .i64 (s.ss.length : Int))) := hd0
  clear hd0
  have hk : ∀ {W : World} {j u}, W.cell? ⟨p, 4, none⟩ = some (sl k.lb 2) → (W.setCell ⟨k.lb, j, none⟩ u).cell? ⟨p, 4, none⟩ = some (sl k.lb 2) := cell_far (h1.out.blk.ne h1.out.leb (by decide))
  have hc := heap_set w1 k.lb 0 _ _ (iz s.ss.length) h1.out.leb
  have h2 := SIx.over (h1.out.levs s.ss.length s.l1 hc fun x hx => Below.heap_setCell _ _ _ x hx) ((Below.refl _ _).drew)
  have hb2 : Below B w ((w1.setCell ⟨k.lb, 0, none⟩ (iz s.ss.length)).drew) := (hb1.out.setCell (p := ⟨k.lb, 0, none⟩) h1.out.low.2.1 _).drew
  obtain ⟨w2, hw2⟩ : ∃ W, (w1.setCell ⟨k.lb, 0, none⟩ (iz s.ss.length)).drew = W := ⟨_, rfl⟩
  rw [hw2] at h2 hb2
  have hsm := h1.out.sm.2.1
  obtain ⟨m, hm⟩ : ∃ m, s.ss.length = m := ⟨_, rfl⟩
  rw [hm] at hD hw2 h2 hsm
  replace hm := Lib.hid hm
  replace hD := Lib.hid hD
  replace h2 := Lib.hid h2
  replace hb2 := Lib.hid hb2
  replace hw2 := Lib.hid hw2
  clear h1 hb1 hN hc
  go_wp2_with fail
  go_region_held3 (fun w' => w'.cell? ⟨p, 4, none⟩ = some (sl k.lb 2)) (first | exact b4 | exact hk b4)
    (first
      | (go_at_call 67; (with_reducible refine (hV.out _).mono ?_); rintro e w9 ⟨rfl, hw9⟩; subst hw9)
      | (go_at_call 38; (with_reducible refine hD.out.mono ?_); rintro e w9 ⟨rfl, hw9⟩; subst hw9))
  rw [hw2.out]
  clear hw2 g0 f0 hk b4 bl ll hD
  have b5 : w2.cell? ⟨p, 5, none⟩ = some (sl k.rb 2) := h2.out.blk.c 5
  have bl := lt_of_get h2.out.blk
  have ll := lt_of_get h2.out.reb
  have g0 : w2.cell? ⟨k.rb, 0, none⟩ = some (rp s.r0 k.cb) := h2.out.reb.c 0
  have f0 := h2.out.reb.fz 0
  have hk : ∀ {W : World} {j u}, W.cell? ⟨p, 5, none⟩ = some (sl k.rb 2) → (W.setCell ⟨k.rb, j, none⟩ u).cell? ⟨p, 5, none⟩ = some (sl k.rb 2) := cell_far (h2.out.blk.ne h2.out.reb (by decide))
  have hc := heap_set w2 k.rb 0 _ _ (.pointer none) h2.out.reb
  have h3 := SIx.over (h2.out.reas false s.r1 hc fun x hx => Below.heap_setCell _ _ _ x hx) ((Below.refl _ _).drew)
  have hb3 : Below B w ((w2.setCell ⟨k.rb, 0, none⟩ (.pointer none)).drew) := (hb2.out.setCell (p := ⟨k.rb, 0, none⟩) h2.out.low.2.2.1 _).drew
  obtain ⟨w3, hw3⟩ : ∃ W, (w2.setCell ⟨k.rb, 0, none⟩ (.pointer none)).drew = W := ⟨_, rfl⟩
  rw [hw3] at h3 hb3
  obtain ⟨R0, hR0⟩ : ∃ R0, rp s.r0 k.cb = R0 := ⟨_, rfl⟩
  rw [hR0] at g0
  replace h3 := Lib.hid h3
  replace hb3 := Lib.hid hb3
  replace hw3 := Lib.hid hw3
  clear h2 hb2 hc hR0
  go_wp2_with fail
  go_region_held3 (fun w' => w'.cell? ⟨p, 5, none⟩ = some (sl k.rb 2)) (first | exact b5 | exact hk b5)
    (first
      | (go_at_call 67; (with_reducible refine (hV.out _).mono ?_); rintro e w9 ⟨rfl, hw9⟩; subst hw9))
  rw [hw3.out]
  clear hw3 g0 f0 hk b5 bl ll hV
  obtain ⟨A, c, ev⟩ := own_shape' h3.out.tro
  have b0 : w3.cell? ⟨p, 0, none⟩ = some k.tv := h3.out.blk.c 0
  rw [ev] at b0
  have bl := lt_of_get h3.out.blk
  have f0 := h3.out.blk.fz 0
  have hal : (w3.alloc (.cells #[lv 1] 81)).ownsRow B 81 1 (.slice A s.tr.length c) s.tr.length (s.tr.map lv) := by
    have := own_keepT h3.out.tro fun b e => ((Below.refl w3.heap.size w3).alloc (Nat.le_refl _) (.cells #[lv 1] 81)).block b (own_ltT h3.out.tro b e).2
    rw [← ev]; exact this
  have hnw : ∀ j u, [lv 1][j]? = some u → (w3.alloc (.cells #[lv 1] 81)).cell? ((⟨w3.heap.size, 0, none⟩ : Addr).add j) = some u := World.news_of_block (heap_alloc_new w3 (.cells #[lv 1] 81))
  have hone : ∀ u ∈ [lv 1], u.oneCell' = true := by simp [Value.oneCell']
  have hB3 : B ≤ w3.heap.size := Nat.le_trans hB hb3.out.size
  have hsz : (w3.alloc (.cells #[lv 1] 81)).heap.size = w3.heap.size + 1 := by simp
  have hfin := fun w' g cap => SIx.pushed (w' := w') (g := g) (cap := cap) w3 h3.out 1 ht.out (.cells #[lv 1] 81)
  have hpg := h3.out.blk.own_ne h3.out.tro (by decide)
  rw [ev] at hfin hpg
  have ht' := ht.out
  obtain ⟨n, hn⟩ : ∃ n, s.tr.length = n := ⟨_, rfl⟩
  simp only [hn] at hfin hal b0 ht' hpg
  obtain ⟨xs, hxs⟩ : ∃ xs, s.tr.map lv = xs := ⟨_, rfl⟩
  rw [hxs] at hal
  simp only [hxs] at hfin
  replace hfin := Lib.hid hfin
  replace hal := Lib.hid hal
  replace hnw := Lib.hid hnw
  replace hone := Lib.hid hone
  replace hn := Lib.hid hn
  replace hxs := Lib.hid hxs
  replace hpg := Lib.hid hpg
  replace hB3 := Lib.hid hB3
  replace hsz := Lib.hid hsz
  go_wp2_with (at_builtin; refine wpList_append_lies _ rfl _ _ 48 rfl B 81 i0 (.int .i32 0) 1 4 Tryz.underlying48 hi hz0 hz1 hz2 rfl (by decide) _ n xs rfl hal.out ⟨w3.heap.size, 0, none⟩ 1 1 [lv 1] rfl rfl hnw.out hone.out (by decide) ?c3 ?c4 ?c5 (w3.heap.size + 1) hsz.out ?c6)
  case c3 => unfold maxLen; omega
  case c4 => omega
  case c5 => have := hB3.out; simp; omega
  case c6 =>
    intro g cap w6 ho6 hg6 hgb hlt6
    have hf := hfin.out w6 g cap ho6 hg6 hgb hB3.out
    have hpw : w6.heap[p]? = w3.heap[p]? := (hg6.block p (by simp; omega) (fun e => hpg.out p e.symm rfl)).trans (((Below.refl w3.heap.size w3).alloc (Nat.le_refl _) (.cells #[lv 1] 81)).block p bl)
    have c0 : w6.cell? ⟨p, 0, none⟩ = some (.slice A n c) := by
      unfold World.cell? at b0 ⊢
      simpa only [hpw] using b0
    have cf : w6.frozen? ⟨p, 0, none⟩ = false := by
      unfold World.frozen? at f0 ⊢
      simpa only [hpw] using f0
    have cl : p < w6.heap.size := by have := hg6.size; simp at this; omega
    replace hf := Lib.hid hf
    clear hfin ho6 hg6 hgb hal hnw
    go_wp2_with fail
    have hf1 := hf.out.1
    rw [← hm.out] at hf1
    refine bodyPost_end (v := .tuple #[]) (by simp [results, Tryz.results56, go_sem]) rfl ⟨rfl, _, hf1, hb3.out.trans hf.out.2⟩
theorem vals_2 (h : SIx B w p k s) : SIx B (((w.setCell ⟨k.vb, 2, none⟩ (Value.int IntKind.i8 1)).setCell ⟨k.vb, 3, none⟩ (Value.int IntKind.i8 (-1))).drew) p k { s with v2 := 1, v3 := -1 } := by
  have h1 := heap_set w k.vb 2 _ _ (Value.int IntKind.i8 1) h.vab
  have h2 := heap_set _ k.vb 3 _ _ (Value.int IntKind.i8 (-1)) h1
  refine SIx.over (h.vals s.v0 s.v1 1 (-1) h2 fun x hx => (Below.heap_setCell _ _ _ x hx).trans (Below.heap_setCell _ _ _ x hx)) ((Below.refl _ _).drew)
set_option maxRecDepth 100000 in
set_option maxHeartbeats 1600000 in
theorem assign_2 (h : SIx B w p k s) (ht : s.tr.length < 2) (hB : B ≤ w.heap.size) : Calls Tryz.prog 56 #[pp p, lv 2, (.pointer (some ⟨k.cb, 0, none⟩))] w fun e w' => e = .returned (.tuple #[]) ∧ ∃ tv, SIx B w' p { k with tv := tv } { s with v2 := 1, v3 := -1, l1 := s.ss.length, r1 := true, tr := s.tr ++ [2] } ∧ Below B w w' := by
  obtain ⟨i0, hi, hz0, hz1, hz2⟩ := info_parts info_lit
  have b3 : w.cell? ⟨p, 3, none⟩ = some (sl k.vb 4) := h.blk.c 3
  have bl := lt_of_get h.blk
  have vl := lt_of_get h.vab
  have hN := Lib.hid not_2
  have hV := Lib.hid var_2
  have v0 : w.cell? ⟨k.vb, 0, none⟩ = some (i8 s.v0) := h.vab.c 0
  have v1 : w.cell? ⟨k.vb, 1, none⟩ = some (i8 s.v1) := h.vab.c 1
  have v2 : w.cell? ⟨k.vb, 2, none⟩ = some (i8 s.v2) := h.vab.c 2
  have v3 : w.cell? ⟨k.vb, 3, none⟩ = some (i8 s.v3) := h.vab.c 3
  have f0 := h.vab.fz 2
  have f1 := h.vab.fz 3
  have hk : ∀ {W : World} {j u}, W.cell? ⟨p, 3, none⟩ = some (sl k.vb 4) → (W.setCell ⟨k.vb, j, none⟩ u).cell? ⟨p, 3, none⟩ = some (sl k.vb 4) := cell_far (h.blk.ne h.vab (by decide))
  have h1 := vals_2 w h
  have hb1 : Below B w (((w.setCell ⟨k.vb, 2, none⟩ (Value.int IntKind.i8 1)).setCell ⟨k.vb, 3, none⟩ (Value.int IntKind.i8 (-1))).drew) := by have := h.low.1; exact (((Below.refl B w).setCell (p := ⟨k.vb, 2, none⟩) this _).setCell (p := ⟨k.vb, 3, none⟩) this _).drew
  obtain ⟨w1, hw1⟩ : ∃ W, (((w.setCell ⟨k.vb, 2, none⟩ (Value.int IntKind.i8 1)).setCell ⟨k.vb, 3, none⟩ (Value.int IntKind.i8 (-1))).drew) = W := ⟨_, rfl⟩
  rw [hw1] at h1 hb1
  have hB1 : B ≤ w1.heap.size := Nat.le_trans hB hb1.size
  replace h := Lib.hid h
  replace h1 := Lib.hid h1
  replace ht := Lib.hid ht
  replace hw1 := Lib.hid hw1
  replace hb1 := Lib.hid hb1
  replace hB1 := Lib.hid hB1
  go_enter Tryz.func56, Tryz.ntmps56
  go_wp2_with fail
  go_region_held3 (fun w' => w'.cell? ⟨p, 3, none⟩ = some (sl k.vb 4)) (first | exact b3 | exact hk b3 | exact hk (hk b3))
    (first
      | (go_at_call 58; (with_reducible refine (hN.out _).mono ?_); rintro e w9 ⟨rfl, hw9⟩; subst hw9))
  rw [hw1.out]
  clear hw1 v0 v1 v2 v3 f0 f1 hk b3 bl vl
  have b4 : w1.cell? ⟨p, 4, none⟩ = some (sl k.lb 2) := h1.out.blk.c 4
  have bl := lt_of_get h1.out.blk
  have ll := lt_of_get h1.out.leb
  have g0 : w1.cell? ⟨k.lb, 1, none⟩ = some (iz s.l1) := h1.out.leb.c 1
  have f0 := h1.out.leb.fz 1
  have hd0 := depth_t w1.drew (h1.out.over (Below.refl _ _).drew)
  have hD : Calls Tryz.prog 38 #[pp p] w1.drew (RW w1.drew (.int .i64 (s.ss.length : Int))) := hd0
  clear hd0
  have hk : ∀ {W : World} {j u}, W.cell? ⟨p, 4, none⟩ = some (sl k.lb 2) → (W.setCell ⟨k.lb, j, none⟩ u).cell? ⟨p, 4, none⟩ = some (sl k.lb 2) := cell_far (h1.out.blk.ne h1.out.leb (by decide))
  have hc := heap_set w1 k.lb 1 _ _ (iz s.ss.length) h1.out.leb
  have h2 := SIx.over (h1.out.levs s.l0 s.ss.length hc fun x hx => Below.heap_setCell _ _ _ x hx) ((Below.refl _ _).drew)
  have hb2 : Below B w ((w1.setCell ⟨k.lb, 1, none⟩ (iz s.ss.length)).drew) := (hb1.out.setCell (p := ⟨k.lb, 1, none⟩) h1.out.low.2.1 _).drew
  obtain ⟨w2, hw2⟩ : ∃ W, (w1.setCell ⟨k.lb, 1, none⟩ (iz s.ss.length)).drew = W := ⟨_, rfl⟩
  rw [hw2] at h2 hb2
  have hsm := h1.out.sm.2.1
  obtain ⟨m, hm⟩ : ∃ m, s.ss.length = m := ⟨_, rfl⟩
  rw [hm] at hD hw2 h2 hsm
  replace hm := Lib.hid hm
  replace hD := Lib.hid hD
  replace h2 := Lib.hid h2
  replace hb2 := Lib.hid hb2
  replace hw2 := Lib.hid hw2
  clear h1 hb1 hN hc
  go_wp2_with fail
  go_region_held3 (fun w' => w'.cell? ⟨p, 4, none⟩ = some (sl k.lb 2)) (first | exact b4 | exact hk b4)
    (first
      | (go_at_call 67; (with_reducible refine (hV.out _).mono ?_); rintro e w9 ⟨rfl, hw9⟩; subst hw9)
      | (go_at_call 38; (with_reducible refine hD.out.mono ?_); rintro e w9 ⟨rfl, hw9⟩; subst hw9))
  rw [hw2.out]
  clear hw2 g0 f0 hk b4 bl ll hD
  have b5 : w2.cell? ⟨p, 5, none⟩ = some (sl k.rb 2) := h2.out.blk.c 5
  have bl := lt_of_get h2.out.blk
  have ll := lt_of_get h2.out.reb
  have g0 : w2.cell? ⟨k.rb, 1, none⟩ = some (rp s.r1 k.cb) := h2.out.reb.c 1
  have f0 := h2.out.reb.fz 1
  have hk : ∀ {W : World} {j u}, W.cell? ⟨p, 5, none⟩ = some (sl k.rb 2) → (W.setCell ⟨k.rb, j, none⟩ u).cell? ⟨p, 5, none⟩ = some (sl k.rb 2) := cell_far (h2.out.blk.ne h2.out.reb (by decide))
  have hc := heap_set w2 k.rb 1 _ _ (.pointer (some ⟨k.cb, 0, none⟩)) h2.out.reb
  have h3 := SIx.over (h2.out.reas s.r0 true hc fun x hx => Below.heap_setCell _ _ _ x hx) ((Below.refl _ _).drew)
  have hb3 : Below B w ((w2.setCell ⟨k.rb, 1, none⟩ (.pointer (some ⟨k.cb, 0, none⟩))).drew) := (hb2.out.setCell (p := ⟨k.rb, 1, none⟩) h2.out.low.2.2.1 _).drew
  obtain ⟨w3, hw3⟩ : ∃ W, (w2.setCell ⟨k.rb, 1, none⟩ (.pointer (some ⟨k.cb, 0, none⟩))).drew = W := ⟨_, rfl⟩
  rw [hw3] at h3 hb3
  obtain ⟨R0, hR0⟩ : ∃ R0, rp s.r1 k.cb = R0 := ⟨_, rfl⟩
  rw [hR0] at g0
  replace h3 := Lib.hid h3
  replace hb3 := Lib.hid hb3
  replace hw3 := Lib.hid hw3
  clear h2 hb2 hc hR0
  go_wp2_with fail
  go_region_held3 (fun w' => w'.cell? ⟨p, 5, none⟩ = some (sl k.rb 2)) (first | exact b5 | exact hk b5)
    (first
      | (go_at_call 67; (with_reducible refine (hV.out _).mono ?_); rintro e w9 ⟨rfl, hw9⟩; subst hw9))
  rw [hw3.out]
  clear hw3 g0 f0 hk b5 bl ll hV
  obtain ⟨A, c, ev⟩ := own_shape' h3.out.tro
  have b0 : w3.cell? ⟨p, 0, none⟩ = some k.tv := h3.out.blk.c 0
  rw [ev] at b0
  have bl := lt_of_get h3.out.blk
  have f0 := h3.out.blk.fz 0
  have hal : (w3.alloc (.cells #[lv 2] 81)).ownsRow B 81 1 (.slice A s.tr.length c) s.tr.length (s.tr.map lv) := by
    have := own_keepT h3.out.tro fun b e => ((Below.refl w3.heap.size w3).alloc (Nat.le_refl _) (.cells #[lv 2] 81)).block b (own_ltT h3.out.tro b e).2
    rw [← ev]; exact this
  have hnw : ∀ j u, [lv 2][j]? = some u → (w3.alloc (.cells #[lv 2] 81)).cell? ((⟨w3.heap.size, 0, none⟩ : Addr).add j) = some u := World.news_of_block (heap_alloc_new w3 (.cells #[lv 2] 81))
  have hone : ∀ u ∈ [lv 2], u.oneCell' = true := by simp [Value.oneCell']
  have hB3 : B ≤ w3.heap.size := Nat.le_trans hB hb3.out.size
  have hsz : (w3.alloc (.cells #[lv 2] 81)).heap.size = w3.heap.size + 1 := by simp
  have hfin := fun w' g cap => SIx.pushed (w' := w') (g := g) (cap := cap) w3 h3.out 2 ht.out (.cells #[lv 2] 81)
  have hpg := h3.out.blk.own_ne h3.out.tro (by decide)
  rw [ev] at hfin hpg
  have ht' := ht.out
  obtain ⟨n, hn⟩ : ∃ n, s.tr.length = n := ⟨_, rfl⟩
  simp only [hn] at hfin hal b0 ht' hpg
  obtain ⟨xs, hxs⟩ : ∃ xs, s.tr.map lv = xs := ⟨_, rfl⟩
  rw [hxs] at hal
  simp only [hxs] at hfin
  replace hfin := Lib.hid hfin
  replace hal := Lib.hid hal
  replace hnw := Lib.hid hnw
  replace hone := Lib.hid hone
  replace hn := Lib.hid hn
  replace hxs := Lib.hid hxs
  replace hpg := Lib.hid hpg
  replace hB3 := Lib.hid hB3
  replace hsz := Lib.hid hsz
  go_wp2_with (at_builtin; refine wpList_append_lies _ rfl _ _ 48 rfl B 81 i0 (.int .i32 0) 1 4 Tryz.underlying48 hi hz0 hz1 hz2 rfl (by decide) _ n xs rfl hal.out ⟨w3.heap.size, 0, none⟩ 1 1 [lv 2] rfl rfl hnw.out hone.out (by decide) ?c3 ?c4 ?c5 (w3.heap.size + 1) hsz.out ?c6)
  case c3 => unfold maxLen; omega
  case c4 => omega
  case c5 => have := hB3.out; simp; omega
  case c6 =>
    intro g cap w6 ho6 hg6 hgb hlt6
    have hf := hfin.out w6 g cap ho6 hg6 hgb hB3.out
    have hpw : w6.heap[p]? = w3.heap[p]? := (hg6.block p (by simp; omega) (fun e => hpg.out p e.symm rfl)).trans (((Below.refl w3.heap.size w3).alloc (Nat.le_refl _) (.cells #[lv 2] 81)).block p bl)
    have c0 : w6.cell? ⟨p, 0, none⟩ = some (.slice A n c) := by
      unfold World.cell? at b0 ⊢
      simpa only [hpw] using b0
    have cf : w6.frozen? ⟨p, 0, none⟩ = false := by
      unfold World.frozen? at f0 ⊢
      simpa only [hpw] using f0
    have cl : p < w6.heap.size := by have := hg6.size; simp at this; omega
    replace hf := Lib.hid hf
    clear hfin ho6 hg6 hgb hal hnw
    go_wp2_with fail
    have hf1 := hf.out.1
    rw [← hm.out] at hf1
    refine bodyPost_end (v := .tuple #[]) (by simp [results, Tryz.results56, go_sem]) rfl ⟨rfl, _, hf1, hb3.out.trans hf.out.2⟩
theorem vals_3 (h : SIx B w p k s) : SIx B (((w.setCell ⟨k.vb, 3, none⟩ (Value.int IntKind.i8 1)).setCell ⟨k.vb, 2, none⟩ (Value.int IntKind.i8 (-1))).drew) p k { s with v3 := 1, v2 := -1 } := by
  have h1 := heap_set w k.vb 3 _ _ (Value.int IntKind.i8 1) h.vab
  have h2 := heap_set _ k.vb 2 _ _ (Value.int IntKind.i8 (-1)) h1
  refine SIx.over (h.vals s.v0 s.v1 (-1) 1 h2 fun x hx => (Below.heap_setCell _ _ _ x hx).trans (Below.heap_setCell _ _ _ x hx)) ((Below.refl _ _).drew)
set_option maxRecDepth 100000 in
set_option maxHeartbeats 1600000 in
theorem assign_3 (h : SIx B w p k s) (ht : s.tr.length < 2) (hB : B ≤ w.heap.size) : Calls Tryz.prog 56 #[pp p, lv 3, (.pointer none)] w fun e w' => e = .returned (.tuple #[]) ∧ ∃ tv, SIx B w' p { k with tv := tv } { s with v3 := 1, v2 := -1, l1 := s.ss.length, r1 := false, tr := s.tr ++ [3] } ∧ Below B w w' := by
  obtain ⟨i0, hi, hz0, hz1, hz2⟩ := info_parts info_lit
  have b3 : w.cell? ⟨p, 3, none⟩ = some (sl k.vb 4) := h.blk.c 3
  have bl := lt_of_get h.blk
  have vl := lt_of_get h.vab
  have hN := Lib.hid not_3
  have hV := Lib.hid var_3
  have v0 : w.cell? ⟨k.vb, 0, none⟩ = some (i8 s.v0) := h.vab.c 0
  have v1 : w.cell? ⟨k.vb, 1, none⟩ = some (i8 s.v1) := h.vab.c 1
  have v2 : w.cell? ⟨k.vb, 2, none⟩ = some (i8 s.v2) := h.vab.c 2
  have v3 : w.cell? ⟨k.vb, 3, none⟩ = some (i8 s.v3) := h.vab.c 3
  have f0 := h.vab.fz 3
  have f1 := h.vab.fz 2
  have hk : ∀ {W : World} {j u}, W.cell? ⟨p, 3, none⟩ = some (sl k.vb 4) → (W.setCell ⟨k.vb, j, none⟩ u).cell? ⟨p, 3, none⟩ = some (sl k.vb 4) := cell_far (h.blk.ne h.vab (by decide))
  have h1 := vals_3 w h
  have hb1 : Below B w (((w.setCell ⟨k.vb, 3, none⟩ (Value.int IntKind.i8 1)).setCell ⟨k.vb, 2, none⟩ (Value.int IntKind.i8 (-1))).drew) := by have := h.low.1; exact (((Below.refl B w).setCell (p := ⟨k.vb, 3, none⟩) this _).setCell (p := ⟨k.vb, 2, none⟩) this _).drew
  obtain ⟨w1, hw1⟩ : ∃ W, (((w.setCell ⟨k.vb, 3, none⟩ (Value.int IntKind.i8 1)).setCell ⟨k.vb, 2, none⟩ (Value.int IntKind.i8 (-1))).drew) = W := ⟨_, rfl⟩
  rw [hw1] at h1 hb1
  have hB1 : B ≤ w1.heap.size := Nat.le_trans hB hb1.size
  replace h := Lib.hid h
  replace h1 := Lib.hid h1
  replace ht := Lib.hid ht
  replace hw1 := Lib.hid hw1
  replace hb1 := Lib.hid hb1
  replace hB1 := Lib.hid hB1
  go_enter Tryz.func56, Tryz.ntmps56
  go_wp2_with fail
  go_region_held3 (fun w' => w'.cell? ⟨p, 3, none⟩ = some (sl k.vb 4)) (first | exact b3 | exact hk b3 | exact hk (hk b3))
    (first
      | (go_at_call 58; (with_reducible refine (hN.out _).mono ?_); rintro e w9 ⟨rfl, hw9⟩; subst hw9))
  rw [hw1.out]
  clear hw1 v0 v1 v2 v3 f0 f1 hk b3 bl vl
  have b4 : w1.cell? ⟨p, 4, none⟩ = some (sl k.lb 2) := h1.out.blk.c 4
  have bl := lt_of_get h1.out.blk
  have ll := lt_of_get h1.out.leb
  have g0 : w1.cell? ⟨k.lb, 1, none⟩ = some (iz s.l1) := h1.out.leb.c 1
  have f0 := h1.out.leb.fz 1
  have hd0 := depth_t w1.drew (h1.out.over (Below.refl _ _).drew)
  have hD : Calls Tryz.prog 38 #[pp p] w1.drew (RW w1.drew (.int .i64 (s.ss.length : Int))) := hd0
  clear hd0
  have hk : ∀ {W : World} {j u}, W.cell? ⟨p, 4, none⟩ = some (sl k.lb 2) → (W.setCell ⟨k.lb, j, none⟩ u).cell? ⟨p, 4, none⟩ = some (sl k.lb 2) := cell_far (h1.out.blk.ne h1.out.leb (by decide))
  have hc := heap_set w1 k.lb 1 _ _ (iz s.ss.length) h1.out.leb
  have h2 := SIx.over (h1.out.levs s.l0 s.ss.length hc fun x hx => Below.heap_setCell _ _ _ x hx) ((Below.refl _ _).drew)
  have hb2 : Below B w ((w1.setCell ⟨k.lb, 1, none⟩ (iz s.ss.length)).drew) := (hb1.out.setCell (p := ⟨k.lb, 1, none⟩) h1.out.low.2.1 _).drew
  obtain ⟨w2, hw2⟩ : ∃ W, (w1.setCell ⟨k.lb, 1, none⟩ (iz s.ss.length)).drew = W := ⟨_, rfl⟩
  rw [hw2] at h2 hb2
  have hsm := h1.out.sm.2.1
  obtain ⟨m, hm⟩ : ∃ m, s.ss.length = m := ⟨_, rfl⟩
  rw [hm] at hD hw2 h2 hsm
  replace hm := Lib.hid hm
  replace hD := Lib.hid hD
  replace h2 := Lib.hid h2
  replace hb2 := Lib.hid hb2
  replace hw2 := Lib.hid hw2
  clear h1 hb1 hN hc
  go_wp2_with fail
  go_region_held3 (fun w' => w'.cell? ⟨p, 4, none⟩ = some (sl k.lb 2)) (first | exact b4 | exact hk b4)
    (first
      | (go_at_call 67; (with_reducible refine (hV.out _).mono ?_); rintro e w9 ⟨rfl, hw9⟩; subst hw9)
      | (go_at_call 38; (with_reducible refine hD.out.mono ?_); rintro e w9 ⟨rfl, hw9⟩; subst hw9))
  rw [hw2.out]
  clear hw2 g0 f0 hk b4 bl ll hD
  have b5 : w2.cell? ⟨p, 5, none⟩ = some (sl k.rb 2) := h2.out.blk.c 5
  have bl := lt_of_get h2.out.blk
  have ll := lt_of_get h2.out.reb
  have g0 : w2.cell? ⟨k.rb, 1, none⟩ = some (rp s.r1 k.cb) := h2.out.reb.c 1
  have f0 := h2.out.reb.fz 1
  have hk : ∀ {W : World} {j u}, W.cell? ⟨p, 5, none⟩ = some (sl k.rb 2) → (W.setCell ⟨k.rb, j, none⟩ u).cell? ⟨p, 5, none⟩ = some (sl k.rb 2) := cell_far (h2.out.blk.ne h2.out.reb (by decide))
  have hc := heap_set w2 k.rb 1 _ _ (.pointer none) h2.out.reb
  have h3 := SIx.over (h2.out.reas s.r0 false hc fun x hx => Below.heap_setCell _ _ _ x hx) ((Below.refl _ _).drew)
  have hb3 : Below B w ((w2.setCell ⟨k.rb, 1, none⟩ (.pointer none)).drew) := (hb2.out.setCell (p := ⟨k.rb, 1, none⟩) h2.out.low.2.2.1 _).drew
  obtain ⟨w3, hw3⟩ : ∃ W, (w2.setCell ⟨k.rb, 1, none⟩ (.pointer none)).drew = W := ⟨_, rfl⟩
  rw [hw3] at h3 hb3
  obtain ⟨R0, hR0⟩ : ∃ R0, rp s.r1 k.cb = R0 := ⟨_, rfl⟩
  rw [hR0] at g0
  replace h3 := Lib.hid h3
  replace hb3 := Lib.hid hb3
  replace hw3 := Lib.hid hw3
  clear h2 hb2 hc hR0
  go_wp2_with fail
  go_region_held3 (fun w' => w'.cell? ⟨p, 5, none⟩ = some (sl k.rb 2)) (first | exact b5 | exact hk b5)
    (first
      | (go_at_call 67; (with_reducible refine (hV.out _).mono ?_); rintro e w9 ⟨rfl, hw9⟩; subst hw9))
  rw [hw3.out]
  clear hw3 g0 f0 hk b5 bl ll hV
  obtain ⟨A, c, ev⟩ := own_shape' h3.out.tro
  have b0 : w3.cell? ⟨p, 0, none⟩ = some k.tv := h3.out.blk.c 0
  rw [ev] at b0
  have bl := lt_of_get h3.out.blk
  have f0 := h3.out.blk.fz 0
  have hal : (w3.alloc (.cells #[lv 3] 81)).ownsRow B 81 1 (.slice A s.tr.length c) s.tr.length (s.tr.map lv) := by
    have := own_keepT h3.out.tro fun b e => ((Below.refl w3.heap.size w3).alloc (Nat.le_refl _) (.cells #[lv 3] 81)).block b (own_ltT h3.out.tro b e).2
    rw [← ev]; exact this
  have hnw : ∀ j u, [lv 3][j]? = some u → (w3.alloc (.cells #[lv 3] 81)).cell? ((⟨w3.heap.size, 0, none⟩ : Addr).add j) = some u := World.news_of_block (heap_alloc_new w3 (.cells #[lv 3] 81))
  have hone : ∀ u ∈ [lv 3], u.oneCell' = true := by simp [Value.oneCell']
  have hB3 : B ≤ w3.heap.size := Nat.le_trans hB hb3.out.size
  have hsz : (w3.alloc (.cells #[lv 3] 81)).heap.size = w3.heap.size + 1 := by simp
  have hfin := fun w' g cap => SIx.pushed (w' := w') (g := g) (cap := cap) w3 h3.out 3 ht.out (.cells #[lv 3] 81)
  have hpg := h3.out.blk.own_ne h3.out.tro (by decide)
  rw [ev] at hfin hpg
  have ht' := ht.out
  obtain ⟨n, hn⟩ : ∃ n, s.tr.length = n := ⟨_, rfl⟩
  simp only [hn] at hfin hal b0 ht' hpg
  obtain ⟨xs, hxs⟩ : ∃ xs, s.tr.map lv = xs := ⟨_, rfl⟩
  rw [hxs] at hal
  simp only [hxs] at hfin
  replace hfin := Lib.hid hfin
  replace hal := Lib.hid hal
  replace hnw := Lib.hid hnw
  replace hone := Lib.hid hone
  replace hn := Lib.hid hn
  replace hxs := Lib.hid hxs
  replace hpg := Lib.hid hpg
  replace hB3 := Lib.hid hB3
  replace hsz := Lib.hid hsz
  go_wp2_with (at_builtin; refine wpList_append_lies _ rfl _ _ 48 rfl B 81 i0 (.int .i32 0) 1 4 Tryz.underlying48 hi hz0 hz1 hz2 rfl (by decide) _ n xs rfl hal.out ⟨w3.heap.size, 0, none⟩ 1 1 [lv 3] rfl rfl hnw.out hone.out (by decide) ?c3 ?c4 ?c5 (w3.heap.size + 1) hsz.out ?c6)
  case c3 => unfold maxLen; omega
  case c4 => omega
  case c5 => have := hB3.out; simp; omega
  case c6 =>
    intro g cap w6 ho6 hg6 hgb hlt6
    have hf := hfin.out w6 g cap ho6 hg6 hgb hB3.out
    have hpw : w6.heap[p]? = w3.heap[p]? := (hg6.block p (by simp; omega) (fun e => hpg.out p e.symm rfl)).trans (((Below.refl w3.heap.size w3).alloc (Nat.le_refl _) (.cells #[lv 3] 81)).block p bl)
    have c0 : w6.cell? ⟨p, 0, none⟩ = some (.slice A n c) := by
      unfold World.cell? at b0 ⊢
      simpa only [hpw] using b0
    have cf : w6.frozen? ⟨p, 0, none⟩ = false := by
      unfold World.frozen? at f0 ⊢
      simpa only [hpw] using f0
    have cl : p < w6.heap.size := by have := hg6.size; simp at this; omega
    replace hf := Lib.hid hf
    clear hfin ho6 hg6 hgb hal hnw
    go_wp2_with fail
    have hf1 := hf.out.1
    rw [← hm.out] at hf1
    refine bodyPost_end (v := .tuple #[]) (by simp [results, Tryz.results56, go_sem]) rfl ⟨rfl, _, hf1, hb3.out.trans hf.out.2⟩
end
end Go.Proofs.YtpkmpbnedoldlaaGreat
