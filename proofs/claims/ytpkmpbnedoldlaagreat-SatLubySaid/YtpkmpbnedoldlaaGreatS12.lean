/-
  propagate, with the clause; search, twice; model.
-/
import Derived.Test.YtpkmpbnedoldlaaGreatS10
import Derived.Test.YtpkmpbnedoldlaaGreatS11
namespace Go.Proofs.YtpkmpbnedoldlaaGreat
open Go.RowKit Go.Lib
section
variable {B p : Nat} {k : Bk} {s : St} (w : World)
theorem row_cell {W : World} {v : Value} {n : Nat} {xs : List Int} (h : W.ownsRow B 81 1 v n (xs.map lv)) {j : Nat} {x : Int} (hx : xs[j]? = some x) (hj : j < n) : ∃ g c, v = .slice (some ⟨g, 0, none⟩) n c ∧ g < W.heap.size ∧ W.cell? ⟨g, j, none⟩ = some (lv x) := by
  obtain ⟨g, c, rfl, hg⟩ : ∃ g c, v = .slice (some ⟨g, 0, none⟩) n c ∧ g < W.heap.size := by
    rcases h.2 with ⟨_, h0⟩ | ⟨g, cap, cur, rfl, hb, hg, _⟩
    · omega
    · exact ⟨g, cap, rfl, lt_of_get hg⟩
  refine ⟨g, c, rfl, hg, ?_⟩
  have := World.ownsRow.cellAt h j (by omega)
  rw [this, List.getElem?_map, hx]
  rfl
set_option maxRecDepth 100000 in
set_option maxHeartbeats 6400000 in
/-- Run 1: literal 1 is on the trail; the other literal becomes true, and nothing follows from it. -/
theorem prop_1 (h : SIx B w p k s) (hs : s.ws = true) (h0 : s.c0 = 0) (h1 : s.c1 = 2) (ho : s.o0 = 2) (h2 : s.v2 = 0) (ht : s.tr = [1]) (hh : s.hd = 0) (hB : B ≤ w.heap.size) :
    Calls Tryz.prog 37 #[pp p] w fun e w' => e = .returned (.pointer none) ∧ (∃ k', SIx B w' p k' { s with c0 := 2, c1 := 0, o0 := 2, v2 := 1, v3 := -1, l1 := s.ss.length, r1 := true, tr := [1, 2], hd := 2 }) ∧ Below B w w' := by
  have hro := h.tro
  rw [ht] at hro
  obtain ⟨g, c, ev, gl, g0⟩ := row_cell (j := 0) (x := 1) hro rfl (by decide)
  have b0 : w.cell? ⟨p, 0, none⟩ = some k.tv := h.blk.c 0
  rw [ev] at b0
  have b2 : w.cell? ⟨p, 2, none⟩ = some (iz s.hd) := h.blk.c 2
  rw [hh] at b2
  have bl := lt_of_get h.blk
  have f2 := h.blk.fz 2
  have s1 := SIx.over (h.head 1 (by decide) (by have := heap_set w p 2 _ _ (iz 1) h.blk; exact this) fun x hx => Below.heap_setCell _ _ _ x hx) (w' := (w.setCell ⟨p, 2, none⟩ (iz 1)).drew.drew) (Below.refl _ _).drew.drew
  have b1 : Below B w ((w.setCell ⟨p, 2, none⟩ (iz 1)).drew.drew) := ((Below.refl B w).setCell (p := ⟨p, 2, none⟩) h.pB _).drew.drew
  have hV := visit_A _ s1 hs h0 h1 ho h2 (by rw [show ({ s with hd := 1 } : St).tr = s.tr from rfl, ht]; decide) (Nat.le_trans hB b1.size)
  have hN := Lib.hid not_1
  replace hV := Lib.hid hV
  replace b1 := Lib.hid b1
  replace ht := Lib.hid ht
  clear h hro s1 ev
  go_enter Tryz.func37, Tryz.ntmps37
  go_wp2_with fail
  refine wp_loop_rounds 3 ?_
  rw [rounds_succ]
  go_wp2_with fail
  go_region
  go_wp2_with fail
  go_region_held3 (fun w' => w'.cell? ⟨p, 0, none⟩ = some (.slice (some ⟨g, 0, none⟩) 1 c) ∧ w'.cell? ⟨p, 2, none⟩ = some (iz 0) ∧ w'.cell? ⟨g, 0, none⟩ = some (lv 1)) (exact ⟨b0, b2, g0⟩)
    (first
      | (go_at_call 58; (with_reducible refine (hN.out _).mono ?_); rintro e w9 ⟨rfl, hw9⟩; subst hw9))
  go_wp2_with fail
  (with_reducible refine hV.out.mono ?_)
  rintro e w1 ⟨rfl, ⟨tv, s2⟩, b3⟩
  have hB1 : B ≤ w1.heap.size := Nat.le_trans hB (b1.out.trans b3).size
  rw [ht.out] at s2
  have hro : w1.ownsRow B 81 1 tv 2 ([(1 : Int), 2].map lv) := s2.tro
  obtain ⟨g', c', ev', gl', g0'⟩ := row_cell (j := 1) (x := 2) hro rfl (by decide)
  have b0' : w1.cell? ⟨p, 0, none⟩ = some tv := s2.blk.c 0
  rw [ev'] at b0'
  have b2' : w1.cell? ⟨p, 2, none⟩ = some (iz 1) := s2.blk.c 2
  have bl' := lt_of_get s2.blk
  have f2' := s2.blk.fz 2
  have s3 := SIx.over (s2.head 2 (by decide) (by have := heap_set w1 p 2 _ _ (iz 2) s2.blk; exact this) fun x hx => Below.heap_setCell _ _ _ x hx) (w' := (w1.setCell ⟨p, 2, none⟩ (iz 2)).drew.drew) (Below.refl _ _).drew.drew
  have b4 : Below B w ((w1.setCell ⟨p, 2, none⟩ (iz 2)).drew.drew) := (((b1.out.trans b3)).setCell (p := ⟨p, 2, none⟩) s2.pB _).drew.drew
  have hVB := Lib.hid (visit_B _ s3)
  have hN2 := Lib.hid not_2
  replace b4 := Lib.hid b4
  clear hV hN b0 b2 bl f2 g0 gl b1 b3 s2 s3 hro
  go_wp2_with fail
  rw [rounds_succ]
  go_wp2_with fail
  go_region
  go_wp2_with fail
  go_region_held3 (fun w' => w'.cell? ⟨p, 0, none⟩ = some (.slice (some ⟨g', 0, none⟩) 2 c') ∧ w'.cell? ⟨p, 2, none⟩ = some (iz 1) ∧ w'.cell? ⟨g', 1, none⟩ = some (lv 2)) (exact ⟨b0', b2', g0'⟩)
    (first
      | (go_at_call 58; (with_reducible refine (hN2.out _).mono ?_); rintro e w9 ⟨rfl, hw9⟩; subst hw9))
  go_wp2_with fail
  (with_reducible refine hVB.out.mono ?_)
  rintro e w2 ⟨rfl, s4, b5⟩
  have b6 := b4.out.trans b5
  have hro2 : w2.ownsRow B 81 1 tv 2 ([(1 : Int), 2].map lv) := s4.tro
  have b0 : w2.cell? ⟨p, 0, none⟩ = some tv := s4.blk.c 0
  rw [ev'] at b0
  have b2 : w2.cell? ⟨p, 2, none⟩ = some (iz 2) := s4.blk.c 2
  have bl := lt_of_get s4.blk
  replace s4 := s4.over (w' := w2.drew) (Below.refl _ _).drew
  replace s4 := Lib.hid s4
  replace b6 := Lib.hid b6
  clear hVB hN2 b0' b2' bl' f2' g0' gl' b4 b5 hro2
  go_wp2_with fail
  rw [rounds_succ]
  go_wp2_with fail
  go_region
  all_goals (
    go_wp2_with fail
    go_ret
    exact ⟨rfl, ⟨_, s4.out⟩, b6.out.drew⟩)
set_option maxRecDepth 100000 in
set_option maxHeartbeats 6400000 in
/-- Run 2: both variables are false without assumptions: the clause is false. -/
theorem prop_2 (h : SIx B w p k s) (hs : s.ws = true) (h0 : s.c0 = 0) (h1 : s.c1 = 2) (ho : s.o0 = 2) (h2 : s.v2 = -1) (ht : s.tr = [1, 3]) (hh : s.hd = 0) (hB : B ≤ w.heap.size) :
    Calls Tryz.prog 37 #[pp p] w fun e w' => e = .returned (pp k.cb) ∧ SIx B w' p k { s with c0 := 2, c1 := 0, o0 := 2, hd := 1 } ∧ Below B w w' := by
  have hro := h.tro
  rw [ht] at hro
  obtain ⟨g, c, ev, gl, g0⟩ := row_cell (j := 0) (x := 1) hro rfl (by decide)
  have b0 : w.cell? ⟨p, 0, none⟩ = some k.tv := h.blk.c 0
  rw [ev] at b0
  have b2 : w.cell? ⟨p, 2, none⟩ = some (iz s.hd) := h.blk.c 2
  rw [hh] at b2
  have bl := lt_of_get h.blk
  have f2 := h.blk.fz 2
  have s1 := SIx.over (h.head 1 (by decide) (by have := heap_set w p 2 _ _ (iz 1) h.blk; exact this) fun x hx => Below.heap_setCell _ _ _ x hx) (w' := (w.setCell ⟨p, 2, none⟩ (iz 1)).drew.drew) (Below.refl _ _).drew.drew
  have b1 : Below B w ((w.setCell ⟨p, 2, none⟩ (iz 1)).drew.drew) := ((Below.refl B w).setCell (p := ⟨p, 2, none⟩) h.pB _).drew.drew
  have hV := visit_C _ s1 hs h0 h1 ho h2 (Nat.le_trans hB b1.size)
  have hN := Lib.hid not_1
  replace hV := Lib.hid hV
  replace b1 := Lib.hid b1
  clear h hro s1 ev ht
  go_enter Tryz.func37, Tryz.ntmps37
  go_wp2_with fail
  refine wp_loop_rounds 1 ?_
  rw [rounds_succ]
  go_wp2_with fail
  go_region
  go_wp2_with fail
  go_region_held3 (fun w' => w'.cell? ⟨p, 0, none⟩ = some (.slice (some ⟨g, 0, none⟩) 2 c) ∧ w'.cell? ⟨p, 2, none⟩ = some (iz 0) ∧ w'.cell? ⟨g, 0, none⟩ = some (lv 1)) (exact ⟨b0, b2, g0⟩)
    (first
      | (go_at_call 58; (with_reducible refine (hN.out _).mono ?_); rintro e w9 ⟨rfl, hw9⟩; subst hw9))
  go_wp2_with fail
  (with_reducible refine hV.out.mono ?_)
  rintro e w1 ⟨rfl, s2, b3⟩
  have b4 := b1.out.trans b3
  replace s2 := Lib.hid s2
  replace b4 := Lib.hid b4
  clear hV hN b0 b2 bl f2 g0 gl b1 b3
  go_wp2_with fail
  go_ret
  exact ⟨rfl, s2.out, b4.out⟩
end
end Go.Proofs.YtpkmpbnedoldlaaGreat
