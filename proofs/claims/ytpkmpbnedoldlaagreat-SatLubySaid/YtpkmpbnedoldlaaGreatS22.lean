/-
  newSolver for two variables, up to its loop over the clauses.
-/
import Derived.Test.YtpkmpbnedoldlaaGreatS16
import Derived.Test.YtpkmpbnedoldlaaGreatS21
import Derived.Test.YtpkmpbnedoldlaaGreatS19
import Derived.Test.YtpkmpbnedoldlaaGreatKp
namespace Go.Proofs.YtpkmpbnedoldlaaGreat
open Go.RowKit Go.Lib
/-- The state of a new solver. -/
def s0 : St := { tr := [], ss := [], hd := 0, v0 := 0, v1 := 0, v2 := 0, v3 := 0, l0 := 0, l1 := 0, r0 := false, r1 := false, h0 := 0, h1 := 1, hn := 2, p0 := 0, p1 := 1, ws := false, c0 := 0, c1 := 0, o0 := 0, o2 := 0 }
theorem CB.sz {w : World} {b : Nat} {cs : Array Value} {T : TypeId} (h : CB w b cs T) : b < w.heap.size := lt_of_get h
/-- All that a new solver is made of lies. -/
theorem SIx.new {B p : Nat} {w : World} {vb lb rb wb hb pb sb : Nat} {xb xd xf : Value}
    (hp : CB w p #[.slice none 0 0, .slice none 0 0, iz 0, sl vb 4, sl lb 2, sl rb 2, sl wb 4, .slice none 0 0, iz 2000, .slice (some ⟨hb, 0, none⟩) 2 2, sl pb 2, xb, iz 1048576, sl sb 2, xd, .slice none 0 0, xf, .slice none 0 0, iz 0, .bool false] 60)
    (a1 : CB w vb #[i8 0, i8 0, i8 0, i8 0] 112) (a2 : CB w lb #[iz 0, iz 0] 3) (a3 : CB w rb #[.pointer none, .pointer none] 75) (a4 : CB w wb #[.slice none 0 0, .slice none 0 0, .slice none 0 0, .slice none 0 0] 106)
    (a5 : CB w hb #[iz 0, iz 1] 3) (a6 : CB w pb #[iz 0, iz 1] 3) (a7 : CB w sb #[.bool false, .bool false] 4) (l : B ≤ p ∧ B ≤ vb ∧ B ≤ lb ∧ B ≤ rb ∧ B ≤ wb ∧ B ≤ hb ∧ B ≤ pb) (n1 : lb < hb ∧ lb < pb) (n2 : hb ≠ pb) :
    ∃ k, SIx B w p k s0 :=
  ⟨{ tv := .slice none 0 0, sv := .slice none 0 0, w0 := .slice none 0 0, w2 := .slice none 0 0, vb := vb, lb := lb, rb := rb, wb := wb, hb := hb, pb := pb, sb := sb, cb := 0, cl := 0, xa := .slice none 0 0, xb := xb, xc := iz 1048576, xd := xd, xe := .slice none 0 0, xf := xf },
   { pB := l.1, low := l.2, blk := hp, vab := a1, leb := a2, reb := a3, wab := a4, heb := a5, plb := a6, sab := a7, tro := ⟨rfl, .inl ⟨rfl, rfl⟩⟩, sso := ⟨rfl, .inl ⟨rfl, rfl⟩⟩, ap := ⟨by show lb ≠ hb; omega, by show lb ≠ pb; omega, n2⟩, aps := fun g hg => (by cases hg), now := fun _ => ⟨rfl, rfl⟩, cls := fun e => (by cases e), sm := ⟨by decide, by decide, by decide, by decide⟩, exb := fun e => (by cases e) }⟩
theorem own_cells {W : World} {B n : Nat} {e : TypeId} {v : Value} {xs : List Value} (h : W.ownsRow B e 1 v n xs) (hn : 0 < n) : ∃ g c, v = .slice (some ⟨g, 0, none⟩) n c ∧ g < W.heap.size ∧ ∀ j, j < n → W.cell? ⟨g, j, none⟩ = xs[j]? := by
  obtain ⟨g, c, rfl, hg⟩ : ∃ g c, v = .slice (some ⟨g, 0, none⟩) n c ∧ g < W.heap.size := by
    rcases h.2 with ⟨_, h0⟩ | ⟨g, cap, cur, rfl, hb, hg, _⟩
    · omega
    · exact ⟨g, cap, rfl, lt_of_get hg⟩
  exact ⟨g, c, rfl, hg, fun j hj => World.ownsRow.cellAt h j (by omega)⟩
def sA : St := { s0 with ws := true, c0 := 0, c1 := 2, o0 := 2, o2 := 0 }
def sB : St := { sA with v1 := 1, v0 := -1, v3 := 1, v2 := -1, l0 := 0, l1 := 0, tr := [1, 3] }
set_option maxRecDepth 100000 in
set_option maxHeartbeats 25600000 in
theorem newS_t {base p : Nat} {cs : List (List Int)} {vl ve : Value} (w : World) (h : CF base w p 2 cs vl ve) (s1 : St) (hcs : (cs = [[1, 2]] ∧ s1 = sA) ∨ (cs = [[1, 2], [-1], [-2]] ∧ s1 = sB)) :
    Calls Tryz.prog 20 #[pv p] w fun e w' => ∃ q k, e = .returned (pp q) ∧ SIx w.heap.size w' q k s1 ∧ Below w.heap.size w w' := by
  have hV := Lib.hid (Vars_t h)
  have m1 := mk_w4
  have m3 : ∀ W : World, (Instr.makeSlice 53 (.int .i64 (IntKind.i64.wrap 4)) (.int .i64 (IntKind.i64.wrap 4))).run Tryz.prog W = .ok (.slice (some ⟨W.heap.size, 0, none⟩) 4 4) (W.alloc (.cells #[.slice none 0 0, .slice none 0 0, .slice none 0 0, .slice none 0 0] 106)) := fun W => by rw [show IntKind.i64.wrap 4 = 4 by decide +kernel]; exact mk_w4 W
  have m2 := mk_b2
  have z0 := h.lt
  replace h := Lib.hid h
  go_enter Tryz.func20, Tryz.ntmps20
  go_wp2_with fail
  (with_reducible refine hV.out.mono ?_)
  rintro e w1 ⟨rfl, hw1⟩
  subst hw1
  go_upto_region 2 with fail
  go_cut [4] from 6 (fun v wx => ∃ q, v = pp q ∧ (∃ k, SIx w.heap.size wx q k s0) ∧ Below w.heap.size w wx)
  case first =>
    go_region_with (first
      | (go_at_call 30; (with_reducible refine (newA_t _).mono ?_); rintro e wA ⟨va, la, ra, rfl, cA1, cA2, cA3, yA1, yA2, yA3, bA⟩; have zA := bA.size)
      | (go_at_call 31; (with_reducible refine (newO_t _).mono ?_); rintro e wO ⟨ha, pa, xa, rfl, cO1, cO2, nO, yO1, yO2, bO⟩; have zO := bO.size)
      | (go_at_call 32; (with_reducible refine (newN_t _).mono ?_); rintro e wN ⟨na, nb, rfl, bN⟩; have zN := bN.size))
    · have t1 := lt_of_get cA2
      try simp at zA
      try simp at zO
      try simp at zN
      try simp at yA1 yA2 yA3
      try simp at yO1 yO2
      try simp only [Act.put, List.getElem_toArray, List.getElem_cons_zero, List.getElem_cons_succ, List.setIfInBounds_toArray, List.set_cons_zero, List.set_cons_succ]
      go_wp2_with fail
      go_meet
      exact ⟨_, rfl, SIx.new (CB.nw (by simp)) (CB.al (CB.over (CB.al (CB.over (CB.al (cA1)) bO)) bN)) (CB.al (CB.over (CB.al (CB.over (CB.al (cA2)) bO)) bN)) (CB.al (CB.over (CB.al (CB.over (CB.al (cA3)) bO)) bN)) (CB.al (CB.over (CB.al (CB.over (CB.nw (by simp)) bO)) bN)) (CB.al (CB.over (CB.al (cO1)) bN)) (CB.al (CB.over (CB.al (cO2)) bN)) (CB.al (CB.over (CB.nw (by simp)) bN)) ⟨by (try simp); (try omega), by omega, by omega, by omega, by omega, by omega, by omega⟩ ⟨by omega, by omega⟩ nO, Below.alloc (Below.trans (Below.alloc (Below.trans (Below.alloc (Below.trans (Below.drew (Below.refl w.heap.size w)) (bA.mono (by (try simp); (try omega)))) (by (try simp); (try omega)) _) (bO.mono (by (try simp); (try omega)))) (by (try simp); (try omega)) _) (bN.mono (by (try simp); (try omega)))) (by (try simp); (try omega)) _⟩
    · have t1 := lt_of_get cA2
      try simp at zA
      try simp at zO
      try simp at zN
      try simp at yA1 yA2 yA3
      try simp at yO1 yO2
      try simp only [Act.put, List.getElem_toArray, List.getElem_cons_zero, List.getElem_cons_succ, List.setIfInBounds_toArray, List.set_cons_zero, List.set_cons_succ]
      go_wp2_with fail
      go_meet
      exact ⟨_, rfl, SIx.new (CB.nw (by simp)) (CB.al (CB.al (CB.over (CB.over (CB.al (cA1)) bO) bN))) (CB.al (CB.al (CB.over (CB.over (CB.al (cA2)) bO) bN))) (CB.al (CB.al (CB.over (CB.over (CB.al (cA3)) bO) bN))) (CB.al (CB.al (CB.over (CB.over (CB.nw (by simp)) bO) bN))) (CB.al (CB.al (CB.over (cO1) bN))) (CB.al (CB.al (CB.over (cO2) bN))) (CB.al (CB.nw (by simp))) ⟨by (try simp); (try omega), by omega, by omega, by omega, by omega, by omega, by omega⟩ ⟨by omega, by omega⟩ nO, Below.alloc (Below.alloc (Below.trans (Below.trans (Below.alloc (Below.trans (Below.drew (Below.refl w.heap.size w)) (bA.mono (by (try simp); (try omega)))) (by (try simp); (try omega)) _) (bO.mono (by (try simp); (try omega)))) (bN.mono (by (try simp); (try omega)))) (by (try simp); (try omega)) _) (by (try simp); (try omega)) _⟩
    · have t1 := lt_of_get cA2
      try simp at zA
      try simp at zO
      try simp at zN
      try simp at yA1 yA2 yA3
      try simp at yO1 yO2
      try simp only [Act.put, List.getElem_toArray, List.getElem_cons_zero, List.getElem_cons_succ, List.setIfInBounds_toArray, List.set_cons_zero, List.set_cons_succ]
      go_wp2_with fail
      go_meet
      exact ⟨_, rfl, SIx.new (CB.nw (by simp)) (CB.al (CB.over (CB.over (CB.al (CB.al (cA1))) bO) bN)) (CB.al (CB.over (CB.over (CB.al (CB.al (cA2))) bO) bN)) (CB.al (CB.over (CB.over (CB.al (CB.al (cA3))) bO) bN)) (CB.al (CB.over (CB.over (CB.al (CB.nw (by simp))) bO) bN)) (CB.al (CB.over (cO1) bN)) (CB.al (CB.over (cO2) bN)) (CB.al (CB.over (CB.over (CB.nw (by simp)) bO) bN)) ⟨by (try simp); (try omega), by omega, by omega, by omega, by omega, by omega, by omega⟩ ⟨by omega, by omega⟩ nO, Below.alloc (Below.trans (Below.trans (Below.alloc (Below.alloc (Below.trans (Below.drew (Below.refl w.heap.size w)) (bA.mono (by (try simp); (try omega)))) (by (try simp); (try omega)) _) (by (try simp); (try omega)) _) (bO.mono (by (try simp); (try omega)))) (bN.mono (by (try simp); (try omega)))) (by (try simp); (try omega)) _⟩
    · have t1 := lt_of_get cA2
      try simp at zA
      try simp at zO
      try simp at zN
      try simp at yA1 yA2 yA3
      try simp at yO1 yO2
      try simp only [Act.put, List.getElem_toArray, List.getElem_cons_zero, List.getElem_cons_succ, List.setIfInBounds_toArray, List.set_cons_zero, List.set_cons_succ]
      go_wp2_with fail
      go_meet
      exact ⟨_, rfl, SIx.new (CB.nw (by simp)) (CB.al (CB.over (CB.al (CB.al (CB.over (cA1) bO))) bN)) (CB.al (CB.over (CB.al (CB.al (CB.over (cA2) bO))) bN)) (CB.al (CB.over (CB.al (CB.al (CB.over (cA3) bO))) bN)) (CB.al (CB.over (CB.al (CB.nw (by simp))) bN)) (CB.al (CB.over (CB.al (CB.al (cO1))) bN)) (CB.al (CB.over (CB.al (CB.al (cO2))) bN)) (CB.al (CB.over (CB.nw (by simp)) bN)) ⟨by (try simp); (try omega), by omega, by omega, by omega, by omega, by omega, by omega⟩ ⟨by omega, by omega⟩ nO, Below.alloc (Below.trans (Below.alloc (Below.alloc (Below.trans (Below.trans (Below.drew (Below.refl w.heap.size w)) (bA.mono (by (try simp); (try omega)))) (bO.mono (by (try simp); (try omega)))) (by (try simp); (try omega)) _) (by (try simp); (try omega)) _) (bN.mono (by (try simp); (try omega)))) (by (try simp); (try omega)) _⟩
    · have t1 := lt_of_get cA2
      try simp at zA
      try simp at zO
      try simp at zN
      try simp at yA1 yA2 yA3
      try simp at yO1 yO2
      try simp only [Act.put, List.getElem_toArray, List.getElem_cons_zero, List.getElem_cons_succ, List.setIfInBounds_toArray, List.set_cons_zero, List.set_cons_succ]
      go_wp2_with fail
      go_meet
      exact ⟨_, rfl, SIx.new (CB.nw (by simp)) (CB.al (CB.al (CB.over (CB.al (CB.over (cA1) bO)) bN))) (CB.al (CB.al (CB.over (CB.al (CB.over (cA2) bO)) bN))) (CB.al (CB.al (CB.over (CB.al (CB.over (cA3) bO)) bN))) (CB.al (CB.al (CB.over (CB.nw (by simp)) bN))) (CB.al (CB.al (CB.over (CB.al (cO1)) bN))) (CB.al (CB.al (CB.over (CB.al (cO2)) bN))) (CB.al (CB.nw (by simp))) ⟨by (try simp); (try omega), by omega, by omega, by omega, by omega, by omega, by omega⟩ ⟨by omega, by omega⟩ nO, Below.alloc (Below.alloc (Below.trans (Below.alloc (Below.trans (Below.trans (Below.drew (Below.refl w.heap.size w)) (bA.mono (by (try simp); (try omega)))) (bO.mono (by (try simp); (try omega)))) (by (try simp); (try omega)) _) (bN.mono (by (try simp); (try omega)))) (by (try simp); (try omega)) _) (by (try simp); (try omega)) _⟩
    · have t1 := lt_of_get cA2
      try simp at zA
      try simp at zO
      try simp at zN
      try simp at yA1 yA2 yA3
      try simp at yO1 yO2
      try simp only [Act.put, List.getElem_toArray, List.getElem_cons_zero, List.getElem_cons_succ, List.setIfInBounds_toArray, List.set_cons_zero, List.set_cons_succ]
      go_wp2_with fail
      go_meet
      exact ⟨_, rfl, SIx.new (CB.nw (by simp)) (CB.al (CB.over (CB.al (CB.al (CB.over (cA1) bO))) bN)) (CB.al (CB.over (CB.al (CB.al (CB.over (cA2) bO))) bN)) (CB.al (CB.over (CB.al (CB.al (CB.over (cA3) bO))) bN)) (CB.al (CB.over (CB.nw (by simp)) bN)) (CB.al (CB.over (CB.al (CB.al (cO1))) bN)) (CB.al (CB.over (CB.al (CB.al (cO2))) bN)) (CB.al (CB.over (CB.al (CB.nw (by simp))) bN)) ⟨by (try simp); (try omega), by omega, by omega, by omega, by omega, by omega, by omega⟩ ⟨by omega, by omega⟩ nO, Below.alloc (Below.trans (Below.alloc (Below.alloc (Below.trans (Below.trans (Below.drew (Below.refl w.heap.size w)) (bA.mono (by (try simp); (try omega)))) (bO.mono (by (try simp); (try omega)))) (by (try simp); (try omega)) _) (by (try simp); (try omega)) _) (bN.mono (by (try simp); (try omega)))) (by (try simp); (try omega)) _⟩
    · have t1 := lt_of_get cA2
      try simp at zA
      try simp at zO
      try simp at zN
      try simp at yA1 yA2 yA3
      try simp at yO1 yO2
      try simp only [Act.put, List.getElem_toArray, List.getElem_cons_zero, List.getElem_cons_succ, List.setIfInBounds_toArray, List.set_cons_zero, List.set_cons_succ]
      go_wp2_with fail
      go_meet
      exact ⟨_, rfl, SIx.new (CB.nw (by simp)) (CB.al (CB.al (CB.over (CB.al (CB.over (cA1) bO)) bN))) (CB.al (CB.al (CB.over (CB.al (CB.over (cA2) bO)) bN))) (CB.al (CB.al (CB.over (CB.al (CB.over (cA3) bO)) bN))) (CB.al (CB.nw (by simp))) (CB.al (CB.al (CB.over (CB.al (cO1)) bN))) (CB.al (CB.al (CB.over (CB.al (cO2)) bN))) (CB.al (CB.al (CB.over (CB.nw (by simp)) bN))) ⟨by (try simp); (try omega), by omega, by omega, by omega, by omega, by omega, by omega⟩ ⟨by omega, by omega⟩ nO, Below.alloc (Below.alloc (Below.trans (Below.alloc (Below.trans (Below.trans (Below.drew (Below.refl w.heap.size w)) (bA.mono (by (try simp); (try omega)))) (bO.mono (by (try simp); (try omega)))) (by (try simp); (try omega)) _) (bN.mono (by (try simp); (try omega)))) (by (try simp); (try omega)) _) (by (try simp); (try omega)) _⟩
    · have t1 := lt_of_get cA2
      try simp at zA
      try simp at zO
      try simp at zN
      try simp at yA1 yA2 yA3
      try simp at yO1 yO2
      try simp only [Act.put, List.getElem_toArray, List.getElem_cons_zero, List.getElem_cons_succ, List.setIfInBounds_toArray, List.set_cons_zero, List.set_cons_succ]
      go_wp2_with fail
      go_meet
      exact ⟨_, rfl, SIx.new (CB.nw (by simp)) (CB.al (CB.al (CB.al (CB.over (CB.over (cA1) bO) bN)))) (CB.al (CB.al (CB.al (CB.over (CB.over (cA2) bO) bN)))) (CB.al (CB.al (CB.al (CB.over (CB.over (cA3) bO) bN)))) (CB.al (CB.al (CB.nw (by simp)))) (CB.al (CB.al (CB.al (CB.over (cO1) bN)))) (CB.al (CB.al (CB.al (CB.over (cO2) bN)))) (CB.al (CB.nw (by simp))) ⟨by (try simp); (try omega), by omega, by omega, by omega, by omega, by omega, by omega⟩ ⟨by omega, by omega⟩ nO, Below.alloc (Below.alloc (Below.alloc (Below.trans (Below.trans (Below.trans (Below.drew (Below.refl w.heap.size w)) (bA.mono (by (try simp); (try omega)))) (bO.mono (by (try simp); (try omega)))) (bN.mono (by (try simp); (try omega)))) (by (try simp); (try omega)) _) (by (try simp); (try omega)) _) (by (try simp); (try omega)) _⟩
    · have t1 := lt_of_get cA2
      try simp at zA
      try simp at zO
      try simp at zN
      try simp at yA1 yA2 yA3
      try simp at yO1 yO2
      try simp only [Act.put, List.getElem_toArray, List.getElem_cons_zero, List.getElem_cons_succ, List.setIfInBounds_toArray, List.set_cons_zero, List.set_cons_succ]
      go_wp2_with fail
      go_meet
      exact ⟨_, rfl, SIx.new (CB.nw (by simp)) (CB.al (CB.al (CB.al (CB.over (CB.over (cA1) bO) bN)))) (CB.al (CB.al (CB.al (CB.over (CB.over (cA2) bO) bN)))) (CB.al (CB.al (CB.al (CB.over (CB.over (cA3) bO) bN)))) (CB.al (CB.nw (by simp))) (CB.al (CB.al (CB.al (CB.over (cO1) bN)))) (CB.al (CB.al (CB.al (CB.over (cO2) bN)))) (CB.al (CB.al (CB.nw (by simp)))) ⟨by (try simp); (try omega), by omega, by omega, by omega, by omega, by omega, by omega⟩ ⟨by omega, by omega⟩ nO, Below.alloc (Below.alloc (Below.alloc (Below.trans (Below.trans (Below.trans (Below.drew (Below.refl w.heap.size w)) (bA.mono (by (try simp); (try omega)))) (bO.mono (by (try simp); (try omega)))) (bN.mono (by (try simp); (try omega)))) (by (try simp); (try omega)) _) (by (try simp); (try omega)) _) (by (try simp); (try omega)) _⟩
    · have t1 := lt_of_get cA2
      try simp at zA
      try simp at zO
      try simp at zN
      try simp at yA1 yA2 yA3
      try simp at yO1 yO2
      try simp only [Act.put, List.getElem_toArray, List.getElem_cons_zero, List.getElem_cons_succ, List.setIfInBounds_toArray, List.set_cons_zero, List.set_cons_succ]
      go_wp2_with fail
      go_meet
      exact ⟨_, rfl, SIx.new (CB.nw (by simp)) (CB.al (CB.over (CB.over (CB.al (CB.al (cA1))) bO) bN)) (CB.al (CB.over (CB.over (CB.al (CB.al (cA2))) bO) bN)) (CB.al (CB.over (CB.over (CB.al (CB.al (cA3))) bO) bN)) (CB.al (CB.over (CB.over (CB.nw (by simp)) bO) bN)) (CB.al (CB.over (cO1) bN)) (CB.al (CB.over (cO2) bN)) (CB.al (CB.over (CB.over (CB.al (CB.nw (by simp))) bO) bN)) ⟨by (try simp); (try omega), by omega, by omega, by omega, by omega, by omega, by omega⟩ ⟨by omega, by omega⟩ nO, Below.alloc (Below.trans (Below.trans (Below.alloc (Below.alloc (Below.trans (Below.drew (Below.refl w.heap.size w)) (bA.mono (by (try simp); (try omega)))) (by (try simp); (try omega)) _) (by (try simp); (try omega)) _) (bO.mono (by (try simp); (try omega)))) (bN.mono (by (try simp); (try omega)))) (by (try simp); (try omega)) _⟩
    · have t1 := lt_of_get cA2
      try simp at zA
      try simp at zO
      try simp at zN
      try simp at yA1 yA2 yA3
      try simp at yO1 yO2
      try simp only [Act.put, List.getElem_toArray, List.getElem_cons_zero, List.getElem_cons_succ, List.setIfInBounds_toArray, List.set_cons_zero, List.set_cons_succ]
      go_wp2_with fail
      go_meet
      exact ⟨_, rfl, SIx.new (CB.nw (by simp)) (CB.al (CB.over (CB.al (CB.over (CB.al (cA1)) bO)) bN)) (CB.al (CB.over (CB.al (CB.over (CB.al (cA2)) bO)) bN)) (CB.al (CB.over (CB.al (CB.over (CB.al (cA3)) bO)) bN)) (CB.al (CB.over (CB.nw (by simp)) bN)) (CB.al (CB.over (CB.al (cO1)) bN)) (CB.al (CB.over (CB.al (cO2)) bN)) (CB.al (CB.over (CB.al (CB.over (CB.nw (by simp)) bO)) bN)) ⟨by (try simp); (try omega), by omega, by omega, by omega, by omega, by omega, by omega⟩ ⟨by omega, by omega⟩ nO, Below.alloc (Below.trans (Below.alloc (Below.trans (Below.alloc (Below.trans (Below.drew (Below.refl w.heap.size w)) (bA.mono (by (try simp); (try omega)))) (by (try simp); (try omega)) _) (bO.mono (by (try simp); (try omega)))) (by (try simp); (try omega)) _) (bN.mono (by (try simp); (try omega)))) (by (try simp); (try omega)) _⟩
    · have t1 := lt_of_get cA2
      try simp at zA
      try simp at zO
      try simp at zN
      try simp at yA1 yA2 yA3
      try simp at yO1 yO2
      try simp only [Act.put, List.getElem_toArray, List.getElem_cons_zero, List.getElem_cons_succ, List.setIfInBounds_toArray, List.set_cons_zero, List.set_cons_succ]
      go_wp2_with fail
      go_meet
      exact ⟨_, rfl, SIx.new (CB.nw (by simp)) (CB.al (CB.al (CB.over (CB.over (CB.al (cA1)) bO) bN))) (CB.al (CB.al (CB.over (CB.over (CB.al (cA2)) bO) bN))) (CB.al (CB.al (CB.over (CB.over (CB.al (cA3)) bO) bN))) (CB.al (CB.nw (by simp))) (CB.al (CB.al (CB.over (cO1) bN))) (CB.al (CB.al (CB.over (cO2) bN))) (CB.al (CB.al (CB.over (CB.over (CB.nw (by simp)) bO) bN))) ⟨by (try simp); (try omega), by omega, by omega, by omega, by omega, by omega, by omega⟩ ⟨by omega, by omega⟩ nO, Below.alloc (Below.alloc (Below.trans (Below.trans (Below.alloc (Below.trans (Below.drew (Below.refl w.heap.size w)) (bA.mono (by (try simp); (try omega)))) (by (try simp); (try omega)) _) (bO.mono (by (try simp); (try omega)))) (bN.mono (by (try simp); (try omega)))) (by (try simp); (try omega)) _) (by (try simp); (try omega)) _⟩
    · have t1 := lt_of_get cA2
      try simp at zA
      try simp at zO
      try simp at zN
      try simp at yA1 yA2 yA3
      try simp at yO1 yO2
      try simp only [Act.put, List.getElem_toArray, List.getElem_cons_zero, List.getElem_cons_succ, List.setIfInBounds_toArray, List.set_cons_zero, List.set_cons_succ]
      go_wp2_with fail
      go_meet
      exact ⟨_, rfl, SIx.new (CB.nw (by simp)) (CB.al (CB.over (CB.al (CB.over (cA1) bO)) bN)) (CB.al (CB.over (CB.al (CB.over (cA2) bO)) bN)) (CB.al (CB.over (CB.al (CB.over (cA3) bO)) bN)) (CB.al (CB.over (CB.al (CB.over (CB.over (CB.drew (CB.nw (by simp))) bA) bO)) bN)) (CB.al (CB.over (CB.al (cO1)) bN)) (CB.al (CB.over (CB.al (cO2)) bN)) (CB.al (CB.over (CB.nw (by simp)) bN)) ⟨by (try simp); (try omega), by omega, by omega, by omega, by omega, by omega, by omega⟩ ⟨by omega, by omega⟩ nO, Below.alloc (Below.trans (Below.alloc (Below.trans (Below.trans (Below.drew (Below.alloc (Below.refl w.heap.size w) (by (try simp); (try omega)) _)) (bA.mono (by (try simp); (try omega)))) (bO.mono (by (try simp); (try omega)))) (by (try simp); (try omega)) _) (bN.mono (by (try simp); (try omega)))) (by (try simp); (try omega)) _⟩
    · have t1 := lt_of_get cA2
      try simp at zA
      try simp at zO
      try simp at zN
      try simp at yA1 yA2 yA3
      try simp at yO1 yO2
      try simp only [Act.put, List.getElem_toArray, List.getElem_cons_zero, List.getElem_cons_succ, List.setIfInBounds_toArray, List.set_cons_zero, List.set_cons_succ]
      go_wp2_with fail
      go_meet
      exact ⟨_, rfl, SIx.new (CB.nw (by simp)) (CB.al (CB.al (CB.over (CB.over (cA1) bO) bN))) (CB.al (CB.al (CB.over (CB.over (cA2) bO) bN))) (CB.al (CB.al (CB.over (CB.over (cA3) bO) bN))) (CB.al (CB.al (CB.over (CB.over (CB.over (CB.drew (CB.nw (by simp))) bA) bO) bN))) (CB.al (CB.al (CB.over (cO1) bN))) (CB.al (CB.al (CB.over (cO2) bN))) (CB.al (CB.nw (by simp))) ⟨by (try simp); (try omega), by omega, by omega, by omega, by omega, by omega, by omega⟩ ⟨by omega, by omega⟩ nO, Below.alloc (Below.alloc (Below.trans (Below.trans (Below.trans (Below.drew (Below.alloc (Below.refl w.heap.size w) (by (try simp); (try omega)) _)) (bA.mono (by (try simp); (try omega)))) (bO.mono (by (try simp); (try omega)))) (bN.mono (by (try simp); (try omega)))) (by (try simp); (try omega)) _) (by (try simp); (try omega)) _⟩
    · have t1 := lt_of_get cA2
      try simp at zA
      try simp at zO
      try simp at zN
      try simp at yA1 yA2 yA3
      try simp at yO1 yO2
      try simp only [Act.put, List.getElem_toArray, List.getElem_cons_zero, List.getElem_cons_succ, List.setIfInBounds_toArray, List.set_cons_zero, List.set_cons_succ]
      go_wp2_with fail
      go_meet
      exact ⟨_, rfl, SIx.new (CB.nw (by simp)) (CB.al (CB.over (CB.over (CB.al (cA1)) bO) bN)) (CB.al (CB.over (CB.over (CB.al (cA2)) bO) bN)) (CB.al (CB.over (CB.over (CB.al (cA3)) bO) bN)) (CB.al (CB.over (CB.over (CB.al (CB.over (CB.drew (CB.nw (by simp))) bA)) bO) bN)) (CB.al (CB.over (cO1) bN)) (CB.al (CB.over (cO2) bN)) (CB.al (CB.over (CB.over (CB.nw (by simp)) bO) bN)) ⟨by (try simp); (try omega), by omega, by omega, by omega, by omega, by omega, by omega⟩ ⟨by omega, by omega⟩ nO, Below.alloc (Below.trans (Below.trans (Below.alloc (Below.trans (Below.drew (Below.alloc (Below.refl w.heap.size w) (by (try simp); (try omega)) _)) (bA.mono (by (try simp); (try omega)))) (by (try simp); (try omega)) _) (bO.mono (by (try simp); (try omega)))) (bN.mono (by (try simp); (try omega)))) (by (try simp); (try omega)) _⟩
    · have t1 := lt_of_get cA2
      try simp at zA
      try simp at zO
      try simp at zN
      try simp at yA1 yA2 yA3
      try simp at yO1 yO2
      try simp only [Act.put, List.getElem_toArray, List.getElem_cons_zero, List.getElem_cons_succ, List.setIfInBounds_toArray, List.set_cons_zero, List.set_cons_succ]
      go_wp2_with fail
      go_meet
      exact ⟨_, rfl, SIx.new (CB.nw (by simp)) (CB.al (CB.over (CB.over (cA1) bO) bN)) (CB.al (CB.over (CB.over (cA2) bO) bN)) (CB.al (CB.over (CB.over (cA3) bO) bN)) (CB.al (CB.over (CB.over (CB.over (CB.drew (CB.al (CB.nw (by simp)))) bA) bO) bN)) (CB.al (CB.over (cO1) bN)) (CB.al (CB.over (cO2) bN)) (CB.al (CB.over (CB.over (CB.over (CB.drew (CB.nw (by simp))) bA) bO) bN)) ⟨by (try simp); (try omega), by omega, by omega, by omega, by omega, by omega, by omega⟩ ⟨by omega, by omega⟩ nO, Below.alloc (Below.trans (Below.trans (Below.trans (Below.drew (Below.alloc (Below.alloc (Below.refl w.heap.size w) (by (try simp); (try omega)) _) (by (try simp); (try omega)) _)) (bA.mono (by (try simp); (try omega)))) (bO.mono (by (try simp); (try omega)))) (bN.mono (by (try simp); (try omega)))) (by (try simp); (try omega)) _⟩
    · have t1 := lt_of_get cA2
      try simp at zA
      try simp at zO
      try simp at zN
      try simp at yA1 yA2 yA3
      try simp at yO1 yO2
      try simp only [Act.put, List.getElem_toArray, List.getElem_cons_zero, List.getElem_cons_succ, List.setIfInBounds_toArray, List.set_cons_zero, List.set_cons_succ]
      go_wp2_with fail
      go_meet
      exact ⟨_, rfl, SIx.new (CB.nw (by simp)) (CB.al (CB.over (CB.over (CB.al (cA1)) bO) bN)) (CB.al (CB.over (CB.over (CB.al (cA2)) bO) bN)) (CB.al (CB.over (CB.over (CB.al (cA3)) bO) bN)) (CB.al (CB.over (CB.over (CB.nw (by simp)) bO) bN)) (CB.al (CB.over (cO1) bN)) (CB.al (CB.over (cO2) bN)) (CB.al (CB.over (CB.over (CB.al (CB.over (CB.drew (CB.nw (by simp))) bA)) bO) bN)) ⟨by (try simp); (try omega), by omega, by omega, by omega, by omega, by omega, by omega⟩ ⟨by omega, by omega⟩ nO, Below.alloc (Below.trans (Below.trans (Below.alloc (Below.trans (Below.drew (Below.alloc (Below.refl w.heap.size w) (by (try simp); (try omega)) _)) (bA.mono (by (try simp); (try omega)))) (by (try simp); (try omega)) _) (bO.mono (by (try simp); (try omega)))) (bN.mono (by (try simp); (try omega)))) (by (try simp); (try omega)) _⟩
    · have t1 := lt_of_get cA2
      try simp at zA
      try simp at zO
      try simp at zN
      try simp at yA1 yA2 yA3
      try simp at yO1 yO2
      try simp only [Act.put, List.getElem_toArray, List.getElem_cons_zero, List.getElem_cons_succ, List.setIfInBounds_toArray, List.set_cons_zero, List.set_cons_succ]
      go_wp2_with fail
      go_meet
      exact ⟨_, rfl, SIx.new (CB.nw (by simp)) (CB.al (CB.over (CB.al (CB.over (cA1) bO)) bN)) (CB.al (CB.over (CB.al (CB.over (cA2) bO)) bN)) (CB.al (CB.over (CB.al (CB.over (cA3) bO)) bN)) (CB.al (CB.over (CB.nw (by simp)) bN)) (CB.al (CB.over (CB.al (cO1)) bN)) (CB.al (CB.over (CB.al (cO2)) bN)) (CB.al (CB.over (CB.al (CB.over (CB.over (CB.drew (CB.nw (by simp))) bA) bO)) bN)) ⟨by (try simp); (try omega), by omega, by omega, by omega, by omega, by omega, by omega⟩ ⟨by omega, by omega⟩ nO, Below.alloc (Below.trans (Below.alloc (Below.trans (Below.trans (Below.drew (Below.alloc (Below.refl w.heap.size w) (by (try simp); (try omega)) _)) (bA.mono (by (try simp); (try omega)))) (bO.mono (by (try simp); (try omega)))) (by (try simp); (try omega)) _) (bN.mono (by (try simp); (try omega)))) (by (try simp); (try omega)) _⟩
    · have t1 := lt_of_get cA2
      try simp at zA
      try simp at zO
      try simp at zN
      try simp at yA1 yA2 yA3
      try simp at yO1 yO2
      try simp only [Act.put, List.getElem_toArray, List.getElem_cons_zero, List.getElem_cons_succ, List.setIfInBounds_toArray, List.set_cons_zero, List.set_cons_succ]
      go_wp2_with fail
      go_meet
      exact ⟨_, rfl, SIx.new (CB.nw (by simp)) (CB.al (CB.al (CB.over (CB.over (cA1) bO) bN))) (CB.al (CB.al (CB.over (CB.over (cA2) bO) bN))) (CB.al (CB.al (CB.over (CB.over (cA3) bO) bN))) (CB.al (CB.nw (by simp))) (CB.al (CB.al (CB.over (cO1) bN))) (CB.al (CB.al (CB.over (cO2) bN))) (CB.al (CB.al (CB.over (CB.over (CB.over (CB.drew (CB.nw (by simp))) bA) bO) bN))) ⟨by (try simp); (try omega), by omega, by omega, by omega, by omega, by omega, by omega⟩ ⟨by omega, by omega⟩ nO, Below.alloc (Below.alloc (Below.trans (Below.trans (Below.trans (Below.drew (Below.alloc (Below.refl w.heap.size w) (by (try simp); (try omega)) _)) (bA.mono (by (try simp); (try omega)))) (bO.mono (by (try simp); (try omega)))) (bN.mono (by (try simp); (try omega)))) (by (try simp); (try omega)) _) (by (try simp); (try omega)) _⟩
    · have t1 := lt_of_get cA2
      try simp at zA
      try simp at zO
      try simp at zN
      try simp at yA1 yA2 yA3
      try simp at yO1 yO2
      try simp only [Act.put, List.getElem_toArray, List.getElem_cons_zero, List.getElem_cons_succ, List.setIfInBounds_toArray, List.set_cons_zero, List.set_cons_succ]
      go_wp2_with fail
      go_meet
      exact ⟨_, rfl, SIx.new (CB.nw (by simp)) (CB.al (CB.over (CB.over (cA1) bO) bN)) (CB.al (CB.over (CB.over (cA2) bO) bN)) (CB.al (CB.over (CB.over (cA3) bO) bN)) (CB.al (CB.over (CB.over (CB.over (CB.drew (CB.nw (by simp))) bA) bO) bN)) (CB.al (CB.over (cO1) bN)) (CB.al (CB.over (cO2) bN)) (CB.al (CB.over (CB.over (CB.over (CB.drew (CB.al (CB.nw (by simp)))) bA) bO) bN)) ⟨by (try simp); (try omega), by omega, by omega, by omega, by omega, by omega, by omega⟩ ⟨by omega, by omega⟩ nO, Below.alloc (Below.trans (Below.trans (Below.trans (Below.drew (Below.alloc (Below.alloc (Below.refl w.heap.size w) (by (try simp); (try omega)) _) (by (try simp); (try omega)) _)) (bA.mono (by (try simp); (try omega)))) (bO.mono (by (try simp); (try omega)))) (bN.mono (by (try simp); (try omega)))) (by (try simp); (try omega)) _⟩
  case rest =>
    obtain ⟨q, rfl, ⟨k, sk0⟩, hb0⟩ := hcut
    have hF0 := h.out.over hb0
    have hLn := Len_t hF0
    replace hLn := Lib.hid hLn
    clear hV m1 m2 m3
    go_wp2_with fail
    (with_reducible refine hLn.out.mono ?_)
    rintro e w2 ⟨rfl, hw2⟩
    subst hw2
    clear hLn
    rcases hcs with ⟨rfl, HS⟩ | ⟨rfl, HS⟩
    · go_wp2_with fail
      refine wp_loop_rounds 2 ?_
      rw [rounds_succ]
      have hC : Calls Tryz.prog 36 #[pv p, iz 0] wc (OV wc.heap.size wc [1, 2]) := Clause_t hF0 0 (by decide)
      replace hC := Lib.hid hC
      replace sk0 := Lib.hid sk0
      replace hF0 := Lib.hid hF0
      replace hb0 := Lib.hid hb0
      go_wp2_with fail
      (with_reducible refine hC.out.mono ?_)
      rintro e wv ⟨v, rfl, hv, bv⟩
      obtain ⟨g, c, rfl, gl, gc⟩ := own_cells hv (by decide)
      have g0 : wv.cell? ⟨g, 0, none⟩ = some (iz 1) := gc 0 (by decide)
      have g1 : wv.cell? ⟨g, 1, none⟩ = some (iz 2) := gc 1 (by decide)
      have hL := Lib.hid (lits_2 wv g c gl g0 g1)
      replace bv := Lib.hid bv
      clear hC hv gc g0 g1 gl
      go_wp2_with fail
      (with_reducible refine hL.out.mono ?_)
      rintro e wl ⟨cl, rfl, hcl, hBl, bl⟩
      have bvl := below_call bl bv.out bv.out.size
      have sL := sk0.out.over bvl
      have hBw : w.heap.size ≤ wl.heap.size := Nat.le_trans hb0.out.size bvl.size
      have hA := accept_2 wl sL rfl ⟨rfl, rfl⟩ hcl (by have := hb0.out.size; have := bv.out.size; omega) (fun g hg => by
        have h1 := (own_ltT sk0.out.tro g hg).2
        have h2 := bv.out.size
        show g ≠ cl
        omega) hBw
      replace hA := Lib.hid hA
      have hb' := Lib.hid (hb0.out.trans (bvl.mono hb0.out.size))
      have hF' := Lib.hid (hF0.out.over bvl)
      clear hL hcl bl bv sL sk0 hF0 hb0 bvl hBl hBw
      go_wp2_with fail
      (with_reducible refine hA.out.mono ?_)
      rintro e w3 ⟨rfl, ⟨k1, s1⟩, ba⟩
      have hb1 := hb'.out.trans ba
      have hF1 := h.out.over hb1
      clear hA hb' hF' ba
      replace s1 := Lib.hid s1
      replace hb1 := Lib.hid hb1
      clear hF1
      go_wp2_with fail
      rw [rounds_succ]
      go_wp2_with fail
      go_ret
      exact ⟨q, _, rfl, by rw [HS]; exact s1.out, hb1.out⟩
    · go_wp2_with fail
      refine wp_loop_rounds 4 ?_
      rw [rounds_succ]
      have hC : Calls Tryz.prog 36 #[pv p, iz 0] wc (OV wc.heap.size wc [1, 2]) := Clause_t hF0 0 (by decide)
      replace hC := Lib.hid hC
      replace sk0 := Lib.hid sk0
      replace hF0 := Lib.hid hF0
      replace hb0 := Lib.hid hb0
      go_wp2_with fail
      (with_reducible refine hC.out.mono ?_)
      rintro e wv ⟨v, rfl, hv, bv⟩
      obtain ⟨g, c, rfl, gl, gc⟩ := own_cells hv (by decide)
      have g0 : wv.cell? ⟨g, 0, none⟩ = some (iz 1) := gc 0 (by decide)
      have g1 : wv.cell? ⟨g, 1, none⟩ = some (iz 2) := gc 1 (by decide)
      have hL := Lib.hid (lits_2 wv g c gl g0 g1)
      replace bv := Lib.hid bv
      clear hC hv gc g0 g1 gl
      go_wp2_with fail
      (with_reducible refine hL.out.mono ?_)
      rintro e wl ⟨cl, rfl, hcl, hBl, bl⟩
      have bvl := below_call bl bv.out bv.out.size
      have sL := sk0.out.over bvl
      have hBw : w.heap.size ≤ wl.heap.size := Nat.le_trans hb0.out.size bvl.size
      have hA := accept_2 wl sL rfl ⟨rfl, rfl⟩ hcl (by have := hb0.out.size; have := bv.out.size; omega) (fun g hg => by
        have h1 := (own_ltT sk0.out.tro g hg).2
        have h2 := bv.out.size
        show g ≠ cl
        omega) hBw
      replace hA := Lib.hid hA
      have hb' := Lib.hid (hb0.out.trans (bvl.mono hb0.out.size))
      have hF' := Lib.hid (hF0.out.over bvl)
      clear hL hcl bl bv sL sk0 hF0 hb0 bvl hBl hBw
      go_wp2_with fail
      (with_reducible refine hA.out.mono ?_)
      rintro e w3 ⟨rfl, ⟨k1, s1⟩, ba⟩
      have hb1 := hb'.out.trans ba
      have hF1 := h.out.over hb1
      clear hA hb' hF' ba
      go_wp2_with fail
      rw [rounds_succ]
      have hC : Calls Tryz.prog 36 #[pv p, iz 1] w3 (OV w3.heap.size w3 [-1]) := Clause_t hF1 1 (by decide)
      replace hC := Lib.hid hC
      replace s1 := Lib.hid s1
      replace hF1 := Lib.hid hF1
      replace hb1 := Lib.hid hb1
      go_wp2_with fail
      (with_reducible refine hC.out.mono ?_)
      rintro e wv ⟨v, rfl, hv, bv⟩
      obtain ⟨g, c, rfl, gl, gc⟩ := own_cells hv (by decide)
      have g0 : wv.cell? ⟨g, 0, none⟩ = some (iz (-1)) := gc 0 (by decide)
      have hL := Lib.hid (lits_m1 wv g c gl g0)
      replace bv := Lib.hid bv
      clear hC hv gc g0 gl
      go_wp2_with fail
      (with_reducible refine hL.out.mono ?_)
      rintro e wl ⟨cl, rfl, hcl, hBl, bl⟩
      have bvl := below_call bl bv.out bv.out.size
      have sL := s1.out.over bvl
      have hBw : w.heap.size ≤ wl.heap.size := Nat.le_trans hb1.out.size bvl.size
      have hA := accept_l1 wl sL hcl rfl (by decide) hBw
      replace hA := Lib.hid hA
      have hb' := Lib.hid (hb1.out.trans (bvl.mono hb1.out.size))
      have hF' := Lib.hid (hF1.out.over bvl)
      clear hL hcl bl bv sL s1 hF1 hb1 bvl hBl hBw
      go_wp2_with fail
      (with_reducible refine hA.out.mono ?_)
      rintro e w4 ⟨rfl, ⟨k2, s2⟩, ba⟩
      have hb2 := hb'.out.trans ba
      have hF2 := h.out.over hb2
      clear hA hb' hF' ba
      go_wp2_with fail
      rw [rounds_succ]
      have hC : Calls Tryz.prog 36 #[pv p, iz 2] w4 (OV w4.heap.size w4 [-2]) := Clause_t hF2 2 (by decide)
      replace hC := Lib.hid hC
      replace s2 := Lib.hid s2
      replace hF2 := Lib.hid hF2
      replace hb2 := Lib.hid hb2
      go_wp2_with fail
      (with_reducible refine hC.out.mono ?_)
      rintro e wv ⟨v, rfl, hv, bv⟩
      obtain ⟨g, c, rfl, gl, gc⟩ := own_cells hv (by decide)
      have g0 : wv.cell? ⟨g, 0, none⟩ = some (iz (-2)) := gc 0 (by decide)
      have hL := Lib.hid (lits_m2 wv g c gl g0)
      replace bv := Lib.hid bv
      clear hC hv gc g0 gl
      go_wp2_with fail
      (with_reducible refine hL.out.mono ?_)
      rintro e wl ⟨cl, rfl, hcl, hBl, bl⟩
      have bvl := below_call bl bv.out bv.out.size
      have sL := s2.out.over bvl
      have hBw : w.heap.size ≤ wl.heap.size := Nat.le_trans hb2.out.size bvl.size
      have hA := accept_l3 wl sL hcl rfl (by decide) hBw
      replace hA := Lib.hid hA
      have hb' := Lib.hid (hb2.out.trans (bvl.mono hb2.out.size))
      have hF' := Lib.hid (hF2.out.over bvl)
      clear hL hcl bl bv sL s2 hF2 hb2 bvl hBl hBw
      go_wp2_with fail
      (with_reducible refine hA.out.mono ?_)
      rintro e w5 ⟨rfl, ⟨k3, s3⟩, ba⟩
      have hb3 := hb'.out.trans ba
      have hF3 := h.out.over hb3
      clear hA hb' hF' ba
      replace s3 := Lib.hid s3
      replace hb3 := Lib.hid hb3
      clear hF3
      go_wp2_with fail
      rw [rounds_succ]
      go_wp2_with fail
      go_ret
      exact ⟨q, _, rfl, by rw [HS]; exact s3.out, hb3.out⟩
end Go.Proofs.YtpkmpbnedoldlaaGreat
