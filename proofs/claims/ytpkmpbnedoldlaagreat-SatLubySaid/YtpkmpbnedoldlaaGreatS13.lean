/-
  search, twice; model.
-/
import Derived.Test.YtpkmpbnedoldlaaGreatS12
import Derived.Test.YtpkmpbnedoldlaaGreatS14
namespace Go.Proofs.YtpkmpbnedoldlaaGreat
open Go.RowKit Go.Lib
section
variable {B p : Nat} {k : Bk} {s : St} (w : World)
set_option maxRecDepth 100000 in
set_option maxHeartbeats 6400000 in
theorem search_2 (h : SIx B w p k s) (hs : s.ws = true) (h0 : s.c0 = 0) (h1 : s.c1 = 2) (ho : s.o0 = 2) (h2 : s.v2 = -1) (ht : s.tr = [1, 3]) (hh : s.hd = 0) (hss : s.ss = []) (hB : B ≤ w.heap.size) :
    Calls Tryz.prog 21 #[pp p, iz 9] w fun e w' => e = .returned (iz 2) ∧ (∃ k' s', SIx B w' p k' s') ∧ (s.eb = true → CB w' s.E s.ec 32) ∧ Below B w w' := by
  have b19 : w.cell? ⟨p, 19, none⟩ = some (.bool false) := h.blk.c 19
  have bl := lt_of_get h.blk
  have hP := Lib.hid (prop_2 w h hs h0 h1 ho h2 ht hh hB)
  replace hss := Lib.hid hss
  clear h hs h0 h1 ho h2 ht hh
  go_enter Tryz.func21, Tryz.ntmps21
  go_wp2_with fail
  refine wp_loop_rounds 1 ?_
  rw [rounds_succ]
  go_wp2_with fail
  (with_reducible refine hP.out.mono ?_)
  rintro e w1 ⟨rfl, s1, b1⟩
  have hD : Calls Tryz.prog 38 #[pp p] w1 (RW w1 (iz (([] : List Int).length : Int))) := by
    have := depth_t w1 s1
    rw [show ({ s with c0 := 2, c1 := 0, o0 := 2, hd := 1 } : St).ss = s.ss from rfl, hss.out] at this
    exact this
  have hD' : Calls Tryz.prog 38 #[pp p] w1 (RW w1 (iz 0)) := hD
  have bl1 := lt_of_get s1.blk
  replace s1 := Lib.hid s1
  replace b1 := Lib.hid b1
  replace hD' := Lib.hid hD'
  clear hP b19 bl hD
  go_wp2_with fail
  (with_reducible refine hD'.out.mono ?_)
  rintro e w2 ⟨rfl, hw2⟩
  subst hw2
  go_wp2_with fail
  go_ret
  exact ⟨rfl, ⟨_, _, s1.out⟩, s1.out.exb, b1.out⟩
set_option maxRecDepth 100000 in
set_option maxHeartbeats 6400000 in
theorem search_1 (h : SIx B w p k s) (hs : s.ws = true) (h0 : s.c0 = 0) (h1 : s.c1 = 2) (ho : s.o0 = 2) (hv1 : s.v1 = 0) (h2 : s.v2 = 0) (ht : s.tr = []) (hh : s.hd = 0) (hss : s.ss = []) (hn : s.hn = 2) (p0 : s.h0 = 0) (p1 : s.h1 = 1) (hB : B ≤ w.heap.size) :
    Calls Tryz.prog 21 #[pp p, iz 9] w fun e w' => e = .returned (iz 1) ∧ (∃ k' s', SIx B w' p k' s') ∧ (s.eb = true → CB w' s.E s.ec 32) ∧ Below B w w' := by
  have b19 : w.cell? ⟨p, 19, none⟩ = some (.bool false) := h.blk.c 19
  have bl := lt_of_get h.blk
  have hP := Lib.hid (prop_0 w h (by rw [hh, ht]; rfl))
  replace hs := Lib.hid hs
  replace h0 := Lib.hid h0
  replace h1 := Lib.hid h1
  replace ho := Lib.hid ho
  replace hv1 := Lib.hid hv1
  replace h2 := Lib.hid h2
  replace ht := Lib.hid ht
  replace hh := Lib.hid hh
  replace hss := Lib.hid hss
  replace hn := Lib.hid hn
  replace p0 := Lib.hid p0
  replace p1 := Lib.hid p1
  replace hB := Lib.hid hB
  clear h
  go_enter Tryz.func21, Tryz.ntmps21
  go_wp2_with fail
  refine wp_loop_rounds 2 ?_
  rw [rounds_succ]
  go_wp2_with fail
  (with_reducible refine hP.out.mono ?_)
  rintro e w1 ⟨rfl, s1, b1⟩
  have hB1 : B ≤ w1.heap.size := Nat.le_trans hB.out b1.size
  have hA := assume_A w1 s1 hn.out p0.out p1.out hv1.out (by rw [ht.out]; decide) (by rw [hss.out]; decide) hB1
  have c18 : w1.cell? ⟨p, 18, none⟩ = some (iz 0) := s1.blk.c 18
  have bl1 := lt_of_get s1.blk
  replace hA := Lib.hid hA
  replace b1 := Lib.hid b1
  clear hP b19 bl s1
  go_wp2_with fail
  (with_reducible refine hA.out.mono ?_)
  rintro e w2 ⟨rfl, ⟨k2, s2⟩, b2⟩
  have hB2 : B ≤ w2.heap.size := Nat.le_trans hB1 b2.size
  have hP1 := prop_1 w2 s2 hs.out h0.out h1.out ho.out h2.out (by show s.tr ++ [1] = [1]; rw [ht.out]; rfl) hh.out hB2
  replace b2 := b1.out.trans b2
  replace hP1 := Lib.hid hP1
  replace b2 := Lib.hid b2
  clear hA b1 c18 bl1 s2
  go_wp2_with fail
  rw [rounds_succ]
  go_wp2_with fail
  (with_reducible refine hP1.out.mono ?_)
  rintro e w3 ⟨rfl, ⟨k3, s3⟩, b3⟩
  have hA2 := assume_B w3 s3 rfl rfl rfl
  have c18 : w3.cell? ⟨p, 18, none⟩ = some (iz 0) := s3.blk.c 18
  have bl1 := lt_of_get s3.blk
  replace b3 := b2.out.trans b3
  replace hA2 := Lib.hid hA2
  replace b3 := Lib.hid b3
  clear hP1 b2 s3
  go_wp2_with fail
  (with_reducible refine hA2.out.mono ?_)
  rintro e w4 ⟨rfl, ⟨k4, s4⟩, b4⟩
  replace b4 := b3.out.trans b4
  replace s4 := Lib.hid s4
  replace b4 := Lib.hid b4
  clear hA2 b3 c18 bl1
  go_wp2_with fail
  go_ret
  exact ⟨rfl, ⟨_, _, s4.out⟩, s4.out.exb, b4.out⟩
set_option maxRecDepth 100000 in
set_option maxHeartbeats 6400000 in
theorem model_t (h : SIx B w p k s) (_hB : B ≤ w.heap.size) : Calls Tryz.prog 22 #[pp p] w fun e w' => (∃ A n c, e = .returned (.slice A n c)) ∧ Below w.heap.size w w' := by
  have b4 : w.cell? ⟨p, 4, none⟩ = some (sl k.lb 2) := h.blk.c 4
  have bl := lt_of_get h.blk
  have hT0 : ∀ W, Below w.heap.size w W → Calls Tryz.prog 43 #[pp p, lv 0] W (RW W (.bool (s.v0 == 1))) := fun W hW => isTru_t W (h.over hW) 0 (by decide)
  have hT1 : ∀ W, Below w.heap.size w W → Calls Tryz.prog 43 #[pp p, lv 2] W (RW W (.bool (s.v2 == 1))) := fun W hW => isTru_t W (h.over hW) 2 (by decide)
  have hL0 : ∀ W, Calls Tryz.prog 44 #[.int .i64 0, .bool true] W (RW W (lv 0)) := fun W => litOf_t 0 (by decide) true W
  have hL1 : ∀ W, Calls Tryz.prog 44 #[.int .i64 1, .bool true] W (RW W (lv 2)) := fun W => litOf_t 1 (by decide) true W
  obtain ⟨x0, hx0⟩ : ∃ x, (s.v0 == 1) = x := ⟨_, rfl⟩
  obtain ⟨x1, hx1⟩ : ∃ x, (s.v2 == 1) = x := ⟨_, rfl⟩
  rw [hx0] at hT0
  rw [hx1] at hT1
  have m1 := mk_b2
  replace hT0 := Lib.hid hT0
  replace hT1 := Lib.hid hT1
  replace hL0 := Lib.hid hL0
  replace hL1 := Lib.hid hL1
  clear h hx0 hx1
  go_enter Tryz.func22, Tryz.ntmps22
  go_wp2_with fail
  refine wp_loop_rounds 3 ?_
  rw [rounds_succ]
  go_wp2_with fail
  (with_reducible refine (hL0.out _).mono ?_)
  rintro e w9 ⟨rfl, hw9⟩
  subst hw9
  go_wp2_with fail
  (with_reducible refine (hT0.out _ ((Below.refl w.heap.size w).alloc (Nat.le_refl _) _)).mono ?_)
  rintro e w9 ⟨rfl, hw9⟩
  subst hw9
  go_wp2_with fail
  rw [rounds_succ]
  go_wp2_with fail
  (with_reducible refine (hL1.out _).mono ?_)
  rintro e w9 ⟨rfl, hw9⟩
  subst hw9
  go_wp2_with fail
  (with_reducible refine (hT1.out _ ((Below.refl w.heap.size w).alloc (Nat.le_refl _) _)).mono ?_)
  rintro e w9 ⟨rfl, hw9⟩
  subst hw9
  go_wp2_with fail
  rw [rounds_succ]
  go_wp2_with fail
  go_ret
  exact ⟨⟨_, _, _, rfl⟩, by go_grown⟩
end
end Go.Proofs.YtpkmpbnedoldlaaGreat
