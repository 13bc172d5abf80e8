/-
  The evaluator on trees: binary.
-/
import Derived.Test.YtcifljbcoioogaaGreatDoorXk
namespace Go.Proofs.YtcifljbcoioogaaGreatDoor
open Go.RowKit Go.Lib Go.Maps
section
variable {B p : Nat} {M : Value} {es : List (List UInt8 × Int)}
set_option maxRecDepth 100000 in
set_option maxHeartbeats 3200000 in
theorem binary_and (h : XH) (a1 a2 : XT) (A : Option Addr) (c : Nat) (w : World) (hBp : B ≤ p) (hMp : ∀ m, M = .map (some m) → m ≠ p) (hp : EVB w p M 0 0 0 0) (hM : EnvIs w M es) (hX : XAr w B (.b h a1 a2) A)
    (hW1 : WX a1) (hW2 : WX a2) (hk : h.k = 4) (hE1 : EvOk B p M es a1) (hE2 : EvOk B p M es a2) (hs : h.s.toList = [38, 38]) :
    Calls Tryz.prog 46 #[pe p, xv h A 2 c] w (VP p M w (rawB h (ev (envB es) a1) (ev (envB es) a2))) := by
  unfold rawB
  rw [if_pos hk]
  clear hk
  obtain ⟨b, o, rfl, hb, ⟨A1, c1, hx, hy⟩, A2, c2, hx2, hy2⟩ := hX
  have hpl := hp.lt
  have hbl : b < w.heap.size := by omega
  have hF := fun (W : World) (e : Int) (hb : EVB W p M 0 0 0 0) => fail_t h (some ⟨b, o, none⟩) 2 c e p M W hb
  have hB0 := BX.new w 47 h (some ⟨b, o, none⟩) 2 c
  have hbA := (Below.refl w.heap.size w).alloc (Nat.le_refl _) (.cells #[.int .i64 h.k, .int .i64 h.f, .int .i64 h.l, .int .i64 h.c, .string h.s, .slice (some ⟨b, o, none⟩) 2 c] 47)
  have hp1 := hp.over hbA
  have hM1 := hM.alloc (.cells #[.int .i64 h.k, .int .i64 h.f, .int .i64 h.l, .int .i64 h.c, .string h.s, .slice (some ⟨b, o, none⟩) 2 c] 47)
  have hk1 := Keep.of_below (F := (· = p)) hbA
  have hbAB := hbA.mono (show B ≤ w.heap.size by omega)
  have hy1 := hy.over hbAB
  have hs1 := hx
  have hs2 := hx2
  have hz1 := ev_z (envB es) a1
  have hz2 := ev_z (envB es) a2
  have hi1 := z_in hz1 (ev_in (envB es) a1)
  have hi2 := z_in hz2 (ev_in (envB es) a2)
  have h1 := fun W (q1 : EVB W p M 0 0 0 0) (q2 : EnvIs W M es) (q3 : XAr W B a1 A1) => holds_t a1 hE1 A1 c1 W hBp hMp q1 q2 q3 hW1
  have h2 := fun W (q1 : EVB W p M 0 0 0 0) (q2 : EnvIs W M es) (q3 : XAr W B a2 A2) => holds_t a2 hE2 A2 c2 W hBp hMp q1 q2 q3 hW2
  obtain ⟨x, hx0⟩ : ∃ r, ev (envB es) a1 = r := ⟨_, rfl⟩
  obtain ⟨y, hy0⟩ : ∃ r, ev (envB es) a2 = r := ⟨_, rfl⟩
  rw [hx0] at h1 hz1 hi1 ⊢
  rw [hy0] at h2 hz2 hi2 ⊢
  obtain ⟨x0, x1, x2, x3, x4, x5⟩ := hx
  clear hE1 hE2 hx0 hy0 hbA hbAB hs1
  have hg : (if x.e ≠ 0 then x else if h.s.toList = [38, 38] then (if x.n = 0 then okR 0 else if y.e ≠ 0 then y else okR (ofB (decide (y.n ≠ 0)))) else if h.s.toList = [124, 124] then (if x.n ≠ 0 then okR 1 else if y.e ≠ 0 then y else okR (ofB (decide (y.n ≠ 0)))) else if y.e ≠ 0 then y else if pmt h.s.toList y.n then okR (opV h.s.toList x.n y.n) else badR h 3) = (if x.e ≠ 0 then x else if x.n = 0 then okR 0 else if y.e ≠ 0 then y else okR (ofB (decide (y.n ≠ 0)))) := by rw [if_pos hs]
  rw [hg]
  clear hg
  replace hF := Lib.hid hF
  replace hB0 := Lib.hid hB0
  replace hp1 := Lib.hid hp1
  replace hM1 := Lib.hid hM1
  replace hk1 := Lib.hid hk1
  replace hy1 := Lib.hid hy1
  replace hy := Lib.hid hy
  replace hy2 := Lib.hid hy2
  replace hx2 := Lib.hid hx2
  replace hs2 := Lib.hid hs2
  replace h1 := Lib.hid h1
  replace h2 := Lib.hid h2
  replace hz1 := Lib.hid hz1
  replace hz2 := Lib.hid hz2
  replace hi1 := Lib.hid hi1
  replace hi2 := Lib.hid hi2
  replace hp := Lib.hid hp
  replace hM := Lib.hid hM
  replace hMp := Lib.hid hMp
  by_cases hc : (x.n != 0) = false
  · have hxn : x.n = 0 := by simpa using hc
    obtain ⟨R, hR⟩ : ∃ R, (if x.e ≠ 0 then x else if x.n = 0 then okR 0 else if y.e ≠ 0 then y else okR (ofB (decide (y.n ≠ 0)))) = R := ⟨_, rfl⟩
    have hR1 : R.e = 0 → ofB false = R.n := by
      intro h0
      by_cases h1 : x.e = 0
      · rw [← hR, if_neg (by simpa using h1), if_pos hxn]; rfl
      · rw [← hR, if_pos h1] at h0; exact absurd h0 h1
    have hR2 : R.f = x.f ∧ R.l = x.l ∧ R.c = x.c ∧ R.e = x.e := by
      by_cases h1 : x.e = 0
      · rw [← hR, if_neg (by simpa using h1), if_pos hxn]
        obtain ⟨f0, l0, c0⟩ := hz1.out.2 h1
        rw [f0, l0, c0, h1]
        exact ⟨rfl, rfl, rfl, rfl⟩
      · rw [← hR, if_pos h1]; exact ⟨rfl, rfl, rfl, rfl⟩
    rw [hR]
    clear hR
    replace hR1 := Lib.hid hR1
    replace hR2 := Lib.hid hR2
    have h1b := h1.out
    rw [hc] at h1b
    replace h1b := Lib.hid h1b
    clear hc hxn
    go_enter Tryz.func46, Tryz.ntmps46
    go_wp2_with fail
    (with_reducible refine (h1b.out _ hp1.out hM1.out hy1.out).mono ?_)
    rintro e w2 ⟨rfl, hp3, hk3⟩
    have hk4 := hk1.out.both hk3
    have hb4 := hk4.belowB hBp hpl
    have hM4 := Lib.hid (hM.out.over hk4 hMp.out)
    have hy4 := Lib.hid (hy2.out.over hb4)
    obtain ⟨y0, y1, y2, y3, y4, y5⟩ := hx2.out.over hb hb4
    have hB4 := hB0.out.keep hk3 (by omega)
    obtain ⟨b0, b1, b2, b3, b4, b5⟩ := hB4.all
    have bl := hB4.lt
    have z2 := hk4.size
    replace hB4 := Lib.hid hB4
    clear hk3 hb4
    obtain ⟨e0, e1, e2, e3, e4, ef⟩ := hp3.all
    have el := hp3.lt
    replace hp3 := Lib.hid hp3
    replace hk4 := Lib.hid hk4
    go_wp2_with fail
    (with_reducible refine (truth_t _ _).mono ?_)
    rintro e w' ⟨rfl, hw⟩
    subst hw
    go_wp2_with fail
    go_ret
    refine ⟨_, rfl, hR1.out, ?_, hk4.out⟩
    obtain ⟨q1, q2, q3, q4⟩ := hR2.out
    rw [q1, q2, q3, q4]
    exact hp3.out
  · have hc2 : (x.n != 0) = true := by simpa using hc
    have hxn : ¬ x.n = 0 := by simpa using hc2
    have hxe : x.e = 0 := by
      by_cases h1 : x.e = 0
      · exact h1
      · exact absurd (hz1.out.1 h1) hxn
    obtain ⟨f0, l0, c0⟩ := hz1.out.2 hxe
    obtain ⟨R, hR⟩ : ∃ R, (if x.e ≠ 0 then x else if x.n = 0 then okR 0 else if y.e ≠ 0 then y else okR (ofB (decide (y.n ≠ 0)))) = R := ⟨_, rfl⟩
    have hR1 : R.e = 0 → ofB (y.n != 0) = R.n := by
      intro h0
      rw [if_neg (by simpa using hxe), if_neg hxn] at hR
      by_cases h1 : y.e = 0
      · rw [← hR, if_neg (by simpa using h1)]; show _ = ofB _; congr 1; by_cases h2 : y.n = 0 <;> simp [h2]
      · rw [← hR, if_pos h1] at h0; exact absurd h0 h1
    have hR2 : R.f = y.f ∧ R.l = y.l ∧ R.c = y.c ∧ R.e = y.e := by
      rw [if_neg (by simpa using hxe), if_neg hxn] at hR
      by_cases h1 : y.e = 0
      · rw [← hR, if_neg (by simpa using h1)]
        obtain ⟨f0, l0, c0⟩ := hz2.out.2 h1
        rw [f0, l0, c0, h1]
        exact ⟨rfl, rfl, rfl, rfl⟩
      · rw [← hR, if_pos h1]; exact ⟨rfl, rfl, rfl, rfl⟩
    rw [hR]
    clear hR
    replace hR1 := Lib.hid hR1
    replace hR2 := Lib.hid hR2
    have h1b := h1.out
    rw [hc2, f0, l0, c0, hxe] at h1b
    replace h1b := Lib.hid h1b
    clear hc hc2 hxn hxe f0 l0 c0
    go_enter Tryz.func46, Tryz.ntmps46
    go_wp2_with fail
    (with_reducible refine (h1b.out _ hp1.out hM1.out hy1.out).mono ?_)
    rintro e w2 ⟨rfl, hp3, hk3⟩
    have hk4 := hk1.out.both hk3
    have hb4 := hk4.belowB hBp hpl
    have hM4 := Lib.hid (hM.out.over hk4 hMp.out)
    have hy4 := Lib.hid (hy2.out.over hb4)
    obtain ⟨y0, y1, y2, y3, y4, y5⟩ := hx2.out.over hb hb4
    have hB4 := hB0.out.keep hk3 (by omega)
    obtain ⟨b0, b1, b2, b3, b4, b5⟩ := hB4.all
    have bl := hB4.lt
    have z2 := hk4.size
    replace hB4 := Lib.hid hB4
    clear hk3 hb4
    obtain ⟨e0, e1, e2, e3, e4, ef⟩ := hp3.all
    have el := hp3.lt
    replace hp3 := Lib.hid hp3
    replace hk4 := Lib.hid hk4
    go_wp2_with fail
    (with_reducible refine (h2.out _ hp3.out hM4.out hy4.out).mono ?_)
    rintro e w3 ⟨rfl, hp5, hk5⟩
    have hk6 := hk4.out.both hk5
    have hB6 := hB4.out.keep hk5 (by omega)
    obtain ⟨g0, g1, g2, g3, g4, g5⟩ := hB6.all
    have gl := hB6.lt
    clear hk5 hB6
    obtain ⟨i0, i1, i2, i3, i4, jf⟩ := hp5.all
    have il := hp5.lt
    replace hk6 := Lib.hid hk6
    replace hp5 := Lib.hid hp5
    go_wp2_with fail
    (with_reducible refine (truth_t _ _).mono ?_)
    rintro e w' ⟨rfl, hw⟩
    subst hw
    go_wp2_with fail
    go_ret
    refine ⟨_, rfl, hR1.out, ?_, hk6.out⟩
    obtain ⟨q1, q2, q3, q4⟩ := hR2.out
    rw [q1, q2, q3, q4]
    exact hp5.out
set_option maxRecDepth 100000 in
set_option maxHeartbeats 3200000 in
theorem binary_or (h : XH) (a1 a2 : XT) (A : Option Addr) (c : Nat) (w : World) (hBp : B ≤ p) (hMp : ∀ m, M = .map (some m) → m ≠ p) (hp : EVB w p M 0 0 0 0) (hM : EnvIs w M es) (hX : XAr w B (.b h a1 a2) A)
    (hW1 : WX a1) (hW2 : WX a2) (hk : h.k = 4) (hE1 : EvOk B p M es a1) (hE2 : EvOk B p M es a2) (hs : h.s.toList = [124, 124]) :
    Calls Tryz.prog 46 #[pe p, xv h A 2 c] w (VP p M w (rawB h (ev (envB es) a1) (ev (envB es) a2))) := by
  unfold rawB
  rw [if_pos hk]
  clear hk
  obtain ⟨b, o, rfl, hb, ⟨A1, c1, hx, hy⟩, A2, c2, hx2, hy2⟩ := hX
  have hpl := hp.lt
  have hbl : b < w.heap.size := by omega
  have hF := fun (W : World) (e : Int) (hb : EVB W p M 0 0 0 0) => fail_t h (some ⟨b, o, none⟩) 2 c e p M W hb
  have hB0 := BX.new w 47 h (some ⟨b, o, none⟩) 2 c
  have hbA := (Below.refl w.heap.size w).alloc (Nat.le_refl _) (.cells #[.int .i64 h.k, .int .i64 h.f, .int .i64 h.l, .int .i64 h.c, .string h.s, .slice (some ⟨b, o, none⟩) 2 c] 47)
  have hp1 := hp.over hbA
  have hM1 := hM.alloc (.cells #[.int .i64 h.k, .int .i64 h.f, .int .i64 h.l, .int .i64 h.c, .string h.s, .slice (some ⟨b, o, none⟩) 2 c] 47)
  have hk1 := Keep.of_below (F := (· = p)) hbA
  have hbAB := hbA.mono (show B ≤ w.heap.size by omega)
  have hy1 := hy.over hbAB
  have hs1 := hx
  have hs2 := hx2
  have hz1 := ev_z (envB es) a1
  have hz2 := ev_z (envB es) a2
  have hi1 := z_in hz1 (ev_in (envB es) a1)
  have hi2 := z_in hz2 (ev_in (envB es) a2)
  have h1 := fun W (q1 : EVB W p M 0 0 0 0) (q2 : EnvIs W M es) (q3 : XAr W B a1 A1) => holds_t a1 hE1 A1 c1 W hBp hMp q1 q2 q3 hW1
  have h2 := fun W (q1 : EVB W p M 0 0 0 0) (q2 : EnvIs W M es) (q3 : XAr W B a2 A2) => holds_t a2 hE2 A2 c2 W hBp hMp q1 q2 q3 hW2
  obtain ⟨x, hx0⟩ : ∃ r, ev (envB es) a1 = r := ⟨_, rfl⟩
  obtain ⟨y, hy0⟩ : ∃ r, ev (envB es) a2 = r := ⟨_, rfl⟩
  rw [hx0] at h1 hz1 hi1 ⊢
  rw [hy0] at h2 hz2 hi2 ⊢
  obtain ⟨x0, x1, x2, x3, x4, x5⟩ := hx
  clear hE1 hE2 hx0 hy0 hbA hbAB hs1
  have hg : (if x.e ≠ 0 then x else if h.s.toList = [38, 38] then (if x.n = 0 then okR 0 else if y.e ≠ 0 then y else okR (ofB (decide (y.n ≠ 0)))) else if h.s.toList = [124, 124] then (if x.n ≠ 0 then okR 1 else if y.e ≠ 0 then y else okR (ofB (decide (y.n ≠ 0)))) else if y.e ≠ 0 then y else if pmt h.s.toList y.n then okR (opV h.s.toList x.n y.n) else badR h 3) = (if x.e ≠ 0 then x else if x.n ≠ 0 then okR 1 else if y.e ≠ 0 then y else okR (ofB (decide (y.n ≠ 0)))) := by rw [if_neg (c := h.s.toList = [38, 38]) (by rw [hs]; decide), if_pos hs]
  rw [hg]
  clear hg
  have hS := fun (W : World) (f l cc e : Int) (q : EVB W p M f l cc e) (he : e ≠ 0) => holds_skip (p := p) (M := M) a2.h A2 a2.args.length c2 f l cc e W q he
  replace hF := Lib.hid hF
  replace hB0 := Lib.hid hB0
  replace hp1 := Lib.hid hp1
  replace hM1 := Lib.hid hM1
  replace hk1 := Lib.hid hk1
  replace hy1 := Lib.hid hy1
  replace hy := Lib.hid hy
  replace hy2 := Lib.hid hy2
  replace hx2 := Lib.hid hx2
  replace hs2 := Lib.hid hs2
  replace h1 := Lib.hid h1
  replace h2 := Lib.hid h2
  replace hz1 := Lib.hid hz1
  replace hz2 := Lib.hid hz2
  replace hi1 := Lib.hid hi1
  replace hi2 := Lib.hid hi2
  replace hp := Lib.hid hp
  replace hM := Lib.hid hM
  replace hMp := Lib.hid hMp
  replace hS := Lib.hid hS
  by_cases hxe : x.e = 0
  · obtain ⟨f0, l0, c0⟩ := hz1.out.2 hxe
    by_cases hxn : x.n = 0
    · have hc : (x.n != 0) = false := by simpa using hxn
      obtain ⟨R, hR⟩ : ∃ R, (if x.e ≠ 0 then x else if x.n ≠ 0 then okR 1 else if y.e ≠ 0 then y else okR (ofB (decide (y.n ≠ 0)))) = R := ⟨_, rfl⟩
      have hR1 : R.e = 0 → ofB (y.n != 0) = R.n := by
        intro h0
        rw [if_neg (by simpa using hxe), if_neg (by simpa using hxn)] at hR
        by_cases h1 : y.e = 0
        · rw [← hR, if_neg (by simpa using h1)]; show _ = ofB _; congr 1; by_cases h2 : y.n = 0 <;> simp [h2]
        · rw [← hR, if_pos h1] at h0; exact absurd h0 h1
      have hR2 : R.f = y.f ∧ R.l = y.l ∧ R.c = y.c ∧ R.e = y.e := by
        rw [if_neg (by simpa using hxe), if_neg (by simpa using hxn)] at hR
        by_cases h1 : y.e = 0
        · rw [← hR, if_neg (by simpa using h1)]
          obtain ⟨f0, l0, c0⟩ := hz2.out.2 h1
          rw [f0, l0, c0, h1]
          exact ⟨rfl, rfl, rfl, rfl⟩
        · rw [← hR, if_pos h1]; exact ⟨rfl, rfl, rfl, rfl⟩
      rw [hR]
      clear hR
      replace hR1 := Lib.hid hR1
      replace hR2 := Lib.hid hR2
      have h1b := h1.out
      rw [hc, f0, l0, c0, hxe] at h1b
      replace h1b := Lib.hid h1b
      clear hc hxn hxe f0 l0 c0
      go_enter Tryz.func46, Tryz.ntmps46
      go_wp2_with fail
      (with_reducible refine (h1b.out _ hp1.out hM1.out hy1.out).mono ?_)
      rintro e w2 ⟨rfl, hp3, hk3⟩
      have hk4 := hk1.out.both hk3
      have hb4 := hk4.belowB hBp hpl
      have hM4 := Lib.hid (hM.out.over hk4 hMp.out)
      have hy4 := Lib.hid (hy2.out.over hb4)
      obtain ⟨y0, y1, y2, y3, y4, y5⟩ := hx2.out.over hb hb4
      have hB4 := hB0.out.keep hk3 (by omega)
      obtain ⟨b0, b1, b2, b3, b4, b5⟩ := hB4.all
      have bl := hB4.lt
      have z2 := hk4.size
      replace hB4 := Lib.hid hB4
      clear hk3 hb4
      obtain ⟨e0, e1, e2, e3, e4, ef⟩ := hp3.all
      have el := hp3.lt
      replace hp3 := Lib.hid hp3
      replace hk4 := Lib.hid hk4
      go_wp2_with fail
      (with_reducible refine (h2.out _ hp3.out hM4.out hy4.out).mono ?_)
      rintro e w3 ⟨rfl, hp5, hk5⟩
      have hk6 := hk4.out.both hk5
      have hB6 := hB4.out.keep hk5 (by omega)
      obtain ⟨g0, g1, g2, g3, g4, g5⟩ := hB6.all
      have gl := hB6.lt
      clear hk5 hB6
      obtain ⟨i0, i1, i2, i3, i4, jf⟩ := hp5.all
      have il := hp5.lt
      replace hk6 := Lib.hid hk6
      replace hp5 := Lib.hid hp5
      go_wp2_with fail
      (with_reducible refine (truth_t _ _).mono ?_)
      rintro e w' ⟨rfl, hw⟩
      subst hw
      go_wp2_with fail
      go_ret
      refine ⟨_, rfl, hR1.out, ?_, hk6.out⟩
      obtain ⟨q1, q2, q3, q4⟩ := hR2.out
      rw [q1, q2, q3, q4]
      exact hp5.out
    · have hc : (x.n != 0) = true := by simpa using hxn
      obtain ⟨R, hR⟩ : ∃ R, (if x.e ≠ 0 then x else if x.n ≠ 0 then okR 1 else if y.e ≠ 0 then y else okR (ofB (decide (y.n ≠ 0)))) = R := ⟨_, rfl⟩
      have hR1 : R.e = 0 → ofB true = R.n := by
        intro h0
        rw [if_neg (by simpa using hxe), if_pos hxn] at hR
        rw [← hR]; rfl
      have hR2 : R.f = x.f ∧ R.l = x.l ∧ R.c = x.c ∧ R.e = x.e := by
        rw [if_neg (by simpa using hxe), if_pos hxn] at hR
        rw [← hR, f0, l0, c0, hxe]
        exact ⟨rfl, rfl, rfl, rfl⟩
      rw [hR]
      clear hR
      replace hR1 := Lib.hid hR1
      replace hR2 := Lib.hid hR2
      have h1b := h1.out
      rw [hc] at h1b
      replace h1b := Lib.hid h1b
      clear hc hxn hxe f0 l0 c0
      go_enter Tryz.func46, Tryz.ntmps46
      go_wp2_with fail
      (with_reducible refine (h1b.out _ hp1.out hM1.out hy1.out).mono ?_)
      rintro e w2 ⟨rfl, hp3, hk3⟩
      have hk4 := hk1.out.both hk3
      have hb4 := hk4.belowB hBp hpl
      have hM4 := Lib.hid (hM.out.over hk4 hMp.out)
      have hy4 := Lib.hid (hy2.out.over hb4)
      obtain ⟨y0, y1, y2, y3, y4, y5⟩ := hx2.out.over hb hb4
      have hB4 := hB0.out.keep hk3 (by omega)
      obtain ⟨b0, b1, b2, b3, b4, b5⟩ := hB4.all
      have bl := hB4.lt
      have z2 := hk4.size
      replace hB4 := Lib.hid hB4
      clear hk3 hb4
      obtain ⟨e0, e1, e2, e3, e4, ef⟩ := hp3.all
      have el := hp3.lt
      replace hp3 := Lib.hid hp3
      replace hk4 := Lib.hid hk4
      go_wp2_with fail
      (with_reducible refine (truth_t _ _).mono ?_)
      rintro e w' ⟨rfl, hw⟩
      subst hw
      go_wp2_with fail
      go_ret
      refine ⟨_, rfl, hR1.out, ?_, hk4.out⟩
      obtain ⟨q1, q2, q3, q4⟩ := hR2.out
      rw [q1, q2, q3, q4]
      exact hp3.out
  · have hc : (x.n != 0) = false := by rw [hz1.out.1 hxe]; rfl
    obtain ⟨R, hR⟩ : ∃ R, (if x.e ≠ 0 then x else if x.n ≠ 0 then okR 1 else if y.e ≠ 0 then y else okR (ofB (decide (y.n ≠ 0)))) = R := ⟨_, rfl⟩
    have hR1 : R.e = 0 → ofB false = R.n := by
      intro h0
      rw [← hR, if_pos hxe] at h0
      exact absurd h0 hxe
    have hR2 : R.f = x.f ∧ R.l = x.l ∧ R.c = x.c ∧ R.e = x.e := by
      rw [← hR, if_pos hxe]
      exact ⟨rfl, rfl, rfl, rfl⟩
    rw [hR]
    clear hR
    replace hR1 := Lib.hid hR1
    replace hR2 := Lib.hid hR2
    have h1b := h1.out
    rw [hc] at h1b
    replace h1b := Lib.hid h1b
    replace hxe := Lib.hid hxe
    clear hc
    go_enter Tryz.func46, Tryz.ntmps46
    go_wp2_with fail
    (with_reducible refine (h1b.out _ hp1.out hM1.out hy1.out).mono ?_)
    rintro e w2 ⟨rfl, hp3, hk3⟩
    have hk4 := hk1.out.both hk3
    have hb4 := hk4.belowB hBp hpl
    have hM4 := Lib.hid (hM.out.over hk4 hMp.out)
    have hy4 := Lib.hid (hy2.out.over hb4)
    obtain ⟨y0, y1, y2, y3, y4, y5⟩ := hx2.out.over hb hb4
    have hB4 := hB0.out.keep hk3 (by omega)
    obtain ⟨b0, b1, b2, b3, b4, b5⟩ := hB4.all
    have bl := hB4.lt
    have z2 := hk4.size
    replace hB4 := Lib.hid hB4
    clear hk3 hb4
    obtain ⟨e0, e1, e2, e3, e4, ef⟩ := hp3.all
    have el := hp3.lt
    replace hp3 := Lib.hid hp3
    replace hk4 := Lib.hid hk4
    go_wp2_with fail
    (with_reducible refine (hS.out _ _ _ _ _ hp3.out hxe.out).mono ?_)
    rintro e w3 ⟨rfl, hp5, hk5⟩
    have hk6 := hk4.out.both hk5
    have hB6 := hB4.out.keep hk5 (by omega)
    obtain ⟨g0, g1, g2, g3, g4, g5⟩ := hB6.all
    have gl := hB6.lt
    clear hk5 hB6
    obtain ⟨i0, i1, i2, i3, i4, jf⟩ := hp5.all
    have il := hp5.lt
    replace hk6 := Lib.hid hk6
    replace hp5 := Lib.hid hp5
    go_wp2_with fail
    (with_reducible refine (truth_t _ _).mono ?_)
    rintro e w' ⟨rfl, hw⟩
    subst hw
    go_wp2_with fail
    go_ret
    refine ⟨_, rfl, hR1.out, ?_, hk6.out⟩
    obtain ⟨q1, q2, q3, q4⟩ := hR2.out
    rw [q1, q2, q3, q4]
    exact hp5.out
set_option maxRecDepth 100000 in
set_option maxHeartbeats 3200000 in
theorem binary_op (h : XH) (a1 a2 : XT) (A : Option Addr) (c : Nat) (w : World) (hBp : B ≤ p) (hMp : ∀ m, M = .map (some m) → m ≠ p) (hp : EVB w p M 0 0 0 0) (hM : EnvIs w M es) (hX : XAr w B (.b h a1 a2) A)
    (hW1 : WX a1) (hW2 : WX a2) (hk : h.k = 4) (hE1 : EvOk B p M es a1) (hE2 : EvOk B p M es a2) (op : List UInt8) (hs : h.s.toList = op) (ho : op ∈ bin19) :
    Calls Tryz.prog 46 #[pe p, xv h A 2 c] w (VP p M w (rawB h (ev (envB es) a1) (ev (envB es) a2))) := by
  unfold rawB
  rw [if_pos hk]
  clear hk
  obtain ⟨b, o, rfl, hb, ⟨A1, c1, hx, hy⟩, A2, c2, hx2, hy2⟩ := hX
  have hpl := hp.lt
  have hbl : b < w.heap.size := by omega
  have hF := fun (W : World) (e : Int) (hb : EVB W p M 0 0 0 0) => fail_t h (some ⟨b, o, none⟩) 2 c e p M W hb
  have hB0 := BX.new w 47 h (some ⟨b, o, none⟩) 2 c
  have hbA := (Below.refl w.heap.size w).alloc (Nat.le_refl _) (.cells #[.int .i64 h.k, .int .i64 h.f, .int .i64 h.l, .int .i64 h.c, .string h.s, .slice (some ⟨b, o, none⟩) 2 c] 47)
  have hp1 := hp.over hbA
  have hM1 := hM.alloc (.cells #[.int .i64 h.k, .int .i64 h.f, .int .i64 h.l, .int .i64 h.c, .string h.s, .slice (some ⟨b, o, none⟩) 2 c] 47)
  have hk1 := Keep.of_below (F := (· = p)) hbA
  have hbAB := hbA.mono (show B ≤ w.heap.size by omega)
  have hy1 := hy.over hbAB
  have hs1 := hx
  have hs2 := hx2
  have hz1 := ev_z (envB es) a1
  have hz2 := ev_z (envB es) a2
  have hi1 := z_in hz1 (ev_in (envB es) a1)
  have hi2 := z_in hz2 (ev_in (envB es) a2)
  have h1 := fun W (q1 : EVB W p M 0 0 0 0) (q2 : EnvIs W M es) (q3 : XAr W B a1 A1) => hE1 A1 c1 W hBp hMp q1 q2 q3 hW1
  have h2 := fun W (q1 : EVB W p M 0 0 0 0) (q2 : EnvIs W M es) (q3 : XAr W B a2 A2) => hE2 A2 c2 W hBp hMp q1 q2 q3 hW2
  obtain ⟨x, hx0⟩ : ∃ r, ev (envB es) a1 = r := ⟨_, rfl⟩
  obtain ⟨y, hy0⟩ : ∃ r, ev (envB es) a2 = r := ⟨_, rfl⟩
  rw [hx0] at h1 hz1 hi1 ⊢
  rw [hy0] at h2 hz2 hi2 ⊢
  obtain ⟨x0, x1, x2, x3, x4, x5⟩ := hx
  clear hE1 hE2 hx0 hy0 hbA hbAB hs1
  have t1 : ¬ h.s.toList = [38, 38] := by rw [hs]; intro e; rw [e] at ho; revert ho; decide
  have t2 : ¬ h.s.toList = [124, 124] := by rw [hs]; intro e; rw [e] at ho; revert ho; decide
  have hg : (if x.e ≠ 0 then x else if h.s.toList = [38, 38] then (if x.n = 0 then okR 0 else if y.e ≠ 0 then y else okR (ofB (decide (y.n ≠ 0)))) else if h.s.toList = [124, 124] then (if x.n ≠ 0 then okR 1 else if y.e ≠ 0 then y else okR (ofB (decide (y.n ≠ 0)))) else if y.e ≠ 0 then y else if pmt h.s.toList y.n then okR (opV h.s.toList x.n y.n) else badR h 3) = (if x.e ≠ 0 then x else if y.e ≠ 0 then y else if pmt op y.n then okR (opV op x.n y.n) else badR h 3) := by rw [if_neg t1, if_neg t2, hs]
  rw [hg]
  clear hg
  have u1 : (h.s.toList == [38, 38]) = false := by simpa using t1
  have u2 : (h.s.toList == [124, 124]) = false := by simpa using t2
  have hS := fun (W : World) (f l cc e : Int) (q : EVB W p M f l cc e) (he : e ≠ 0) => eval_skip (p := p) (M := M) a2.h A2 a2.args.length c2 f l cc e W q he
  have hO := fun W => binaryOf_t h.s op W hs ho
  have hP := fun W b => permits_t h.s op b W hs ho
  have n2 := nil2_f
  unfold BO at hO
  unfold PO at hP
  clear hs ho
  replace hF := Lib.hid hF
  replace hB0 := Lib.hid hB0
  replace hp1 := Lib.hid hp1
  replace hM1 := Lib.hid hM1
  replace hk1 := Lib.hid hk1
  replace hy1 := Lib.hid hy1
  replace hy := Lib.hid hy
  replace hy2 := Lib.hid hy2
  replace hx2 := Lib.hid hx2
  replace hs2 := Lib.hid hs2
  replace h1 := Lib.hid h1
  replace h2 := Lib.hid h2
  replace hz1 := Lib.hid hz1
  replace hz2 := Lib.hid hz2
  replace hi1 := Lib.hid hi1
  replace hi2 := Lib.hid hi2
  replace hp := Lib.hid hp
  replace hM := Lib.hid hM
  replace hMp := Lib.hid hMp
  replace hS := Lib.hid hS
  replace hO := Lib.hid hO
  replace hP := Lib.hid hP
  by_cases hxe : x.e = 0
  · obtain ⟨f0, l0, c0⟩ := hz1.out.2 hxe
    have h1b := h1.out
    unfold FR at h1b
    rw [f0, l0, c0, hxe] at h1b
    replace h1b := Lib.hid h1b
    by_cases hye : y.e = 0
    · obtain ⟨f1, l1, g1⟩ := hz2.out.2 hye
      have h2b := h2.out
      unfold FR at h2b
      rw [f1, l1, g1, hye] at h2b
      replace h2b := Lib.hid h2b
      by_cases hpm : pmt op y.n = true
      · rw [if_neg (by simpa using hxe), if_neg (by simpa using hye), if_pos hpm]
        have hP2 : ∀ W, _ := fun W => hP.out W y.n
        rw [hpm] at hP2
        replace hP2 := Lib.hid hP2
        replace hpm := Lib.hid hpm
        clear hxe f0 l0 c0 hye f1 l1 g1
        go_enter Tryz.func46, Tryz.ntmps46
        go_wp2_with fail
        (with_reducible refine (hO.out _).mono ?_)
        rintro e w' ⟨k, rfl, hw, hcf, hkf⟩
        subst hw
        replace hkf := Lib.hid hkf
        go_wp2_with fail
        (with_reducible refine (h1b.out _ hp1.out hM1.out hy1.out).mono ?_)
        rintro e w2 ⟨rfl, hp3, hk3⟩
        have hk4 := hk1.out.both hk3
        have hb4 := hk4.belowB hBp hpl
        have hM4 := Lib.hid (hM.out.over hk4 hMp.out)
        have hy4 := Lib.hid (hy2.out.over hb4)
        obtain ⟨y0, y1, y2, y3, y4, y5⟩ := hx2.out.over hb hb4
        have hB4 := hB0.out.keep hk3 (by omega)
        obtain ⟨b0, b1, b2, b3, b4, b5⟩ := hB4.all
        have bl := hB4.lt
        have z2 := hk4.size
        replace hB4 := Lib.hid hB4
        clear hk3 hb4
        obtain ⟨e0, e1, e2, e3, e4, ef⟩ := hp3.all
        have el := hp3.lt
        replace hp3 := Lib.hid hp3
        replace hk4 := Lib.hid hk4
        go_wp2_with fail
        (with_reducible refine (h2b.out _ hp3.out hM4.out hy4.out).mono ?_)
        rintro e w3 ⟨rfl, hp5, hk5⟩
        have hk6 := hk4.out.both hk5
        have hB6 := hB4.out.keep hk5 (by omega)
        obtain ⟨g0, g1, g2, g3, g4, g5⟩ := hB6.all
        have gl := hB6.lt
        clear hk5 hB6
        obtain ⟨i0, i1, i2, i3, i4, jf⟩ := hp5.all
        have il := hp5.lt
        replace hk6 := Lib.hid hk6
        replace hp5 := Lib.hid hp5
        go_wp2_with fail
        (with_reducible refine (hP2.out _).mono ?_)
        rintro e w' ⟨rfl, hw⟩
        subst hw
        go_wp2_with fail
        (with_reducible refine (hkf.out _ _ _ hi1.out hi2.out hpm.out).mono ?_)
        rintro e w' ⟨rfl, hw⟩
        subst hw
        go_wp2_with fail
        go_ret
        exact ⟨_, rfl, fun _ => rfl, hp5.out, hk6.out⟩
      · rw [if_neg (by simpa using hxe), if_neg (by simpa using hye), if_neg hpm]
        have hpm2 : pmt op y.n = false := by simpa using hpm
        have hP2 : ∀ W, _ := fun W => hP.out W y.n
        rw [hpm2] at hP2
        replace hP2 := Lib.hid hP2
        clear hxe f0 l0 c0 hye f1 l1 g1 hpm hpm2
        go_enter Tryz.func46, Tryz.ntmps46
        go_wp2_with fail
        (with_reducible refine (hO.out _).mono ?_)
        rintro e w' ⟨k, rfl, hw, hcf, hkf⟩
        subst hw
        replace hkf := Lib.hid hkf
        go_wp2_with fail
        (with_reducible refine (h1b.out _ hp1.out hM1.out hy1.out).mono ?_)
        rintro e w2 ⟨rfl, hp3, hk3⟩
        have hk4 := hk1.out.both hk3
        have hb4 := hk4.belowB hBp hpl
        have hM4 := Lib.hid (hM.out.over hk4 hMp.out)
        have hy4 := Lib.hid (hy2.out.over hb4)
        obtain ⟨y0, y1, y2, y3, y4, y5⟩ := hx2.out.over hb hb4
        have hB4 := hB0.out.keep hk3 (by omega)
        obtain ⟨b0, b1, b2, b3, b4, b5⟩ := hB4.all
        have bl := hB4.lt
        have z2 := hk4.size
        replace hB4 := Lib.hid hB4
        clear hk3 hb4
        obtain ⟨e0, e1, e2, e3, e4, ef⟩ := hp3.all
        have el := hp3.lt
        replace hp3 := Lib.hid hp3
        replace hk4 := Lib.hid hk4
        go_wp2_with fail
        (with_reducible refine (h2b.out _ hp3.out hM4.out hy4.out).mono ?_)
        rintro e w3 ⟨rfl, hp5, hk5⟩
        have hk6 := hk4.out.both hk5
        have hB6 := hB4.out.keep hk5 (by omega)
        obtain ⟨g0, g1, g2, g3, g4, g5⟩ := hB6.all
        have gl := hB6.lt
        clear hk5 hB6
        obtain ⟨i0, i1, i2, i3, i4, jf⟩ := hp5.all
        have il := hp5.lt
        replace hk6 := Lib.hid hk6
        replace hp5 := Lib.hid hp5
        go_wp2_with fail
        (with_reducible refine (hP2.out _).mono ?_)
        rintro e w' ⟨rfl, hw⟩
        subst hw
        go_wp2_with fail
        (with_reducible refine (hF.out _ _ hp5.out).mono ?_)
        rintro e w4 ⟨rfl, hp7, hk7⟩
        have hk8 := Lib.hid (hk6.out.both hk7)
        clear hk7
        obtain ⟨j0, j1, j2, j3, j4, jff⟩ := hp7.all
        replace hp7 := Lib.hid hp7
        go_wp2_with fail
        go_ret
        exact ⟨_, rfl, fun h => absurd h (by simp [badR]), hp7.out, hk8.out⟩
    · rw [if_neg (by simpa using hxe), if_pos hye]
      have v1 : (y.e == 0) = false := by simpa using hye
      have v2 : (y.e != 0) = true := by simpa using hye
      have v3 : decide (y.e = 0) = false := by simpa using hye
      replace hye := Lib.hid hye
      clear hxe f0 l0 c0
      go_enter Tryz.func46, Tryz.ntmps46
      go_wp2_with fail
      (with_reducible refine (hO.out _).mono ?_)
      rintro e w' ⟨k, rfl, hw, hcf, hkf⟩
      subst hw
      replace hkf := Lib.hid hkf
      go_wp2_with fail
      (with_reducible refine (h1b.out _ hp1.out hM1.out hy1.out).mono ?_)
      rintro e w2 ⟨rfl, hp3, hk3⟩
      have hk4 := hk1.out.both hk3
      have hb4 := hk4.belowB hBp hpl
      have hM4 := Lib.hid (hM.out.over hk4 hMp.out)
      have hy4 := Lib.hid (hy2.out.over hb4)
      obtain ⟨y0, y1, y2, y3, y4, y5⟩ := hx2.out.over hb hb4
      have hB4 := hB0.out.keep hk3 (by omega)
      obtain ⟨b0, b1, b2, b3, b4, b5⟩ := hB4.all
      have bl := hB4.lt
      have z2 := hk4.size
      replace hB4 := Lib.hid hB4
      clear hk3 hb4
      obtain ⟨e0, e1, e2, e3, e4, ef⟩ := hp3.all
      have el := hp3.lt
      replace hp3 := Lib.hid hp3
      replace hk4 := Lib.hid hk4
      go_wp2_with fail
      (with_reducible refine (h2.out _ hp3.out hM4.out hy4.out).mono ?_)
      rintro e w3 ⟨rfl, hp5, hk5⟩
      have hk6 := hk4.out.both hk5
      have hB6 := hB4.out.keep hk5 (by omega)
      obtain ⟨g0, g1, g2, g3, g4, g5⟩ := hB6.all
      have gl := hB6.lt
      clear hk5 hB6
      obtain ⟨i0, i1, i2, i3, i4, jf⟩ := hp5.all
      have il := hp5.lt
      replace hk6 := Lib.hid hk6
      replace hp5 := Lib.hid hp5
      go_wp2_with fail
      go_ret
      exact ⟨_, rfl, fun h => absurd h hye.out, hp5.out, hk6.out⟩
  · rw [if_pos hxe]
    have v1 : (x.e == 0) = false := by simpa using hxe
    have v2 : (x.e != 0) = true := by simpa using hxe
    have v3 : decide (x.e = 0) = false := by simpa using hxe
    replace hxe := Lib.hid hxe
    go_enter Tryz.func46, Tryz.ntmps46
    go_wp2_with fail
    (with_reducible refine (hO.out _).mono ?_)
    rintro e w' ⟨k, rfl, hw, hcf, hkf⟩
    subst hw
    replace hkf := Lib.hid hkf
    go_wp2_with fail
    (with_reducible refine (h1.out _ hp1.out hM1.out hy1.out).mono ?_)
    rintro e w2 ⟨rfl, hp3, hk3⟩
    have hk4 := hk1.out.both hk3
    have hb4 := hk4.belowB hBp hpl
    have hM4 := Lib.hid (hM.out.over hk4 hMp.out)
    have hy4 := Lib.hid (hy2.out.over hb4)
    obtain ⟨y0, y1, y2, y3, y4, y5⟩ := hx2.out.over hb hb4
    have hB4 := hB0.out.keep hk3 (by omega)
    obtain ⟨b0, b1, b2, b3, b4, b5⟩ := hB4.all
    have bl := hB4.lt
    have z2 := hk4.size
    replace hB4 := Lib.hid hB4
    clear hk3 hb4
    obtain ⟨e0, e1, e2, e3, e4, ef⟩ := hp3.all
    have el := hp3.lt
    replace hp3 := Lib.hid hp3
    replace hk4 := Lib.hid hk4
    go_wp2_with fail
    (with_reducible refine (hS.out _ _ _ _ _ hp3.out hxe.out).mono ?_)
    rintro e w3 ⟨rfl, hp5, hk5⟩
    have hk6 := hk4.out.both hk5
    have hB6 := hB4.out.keep hk5 (by omega)
    obtain ⟨g0, g1, g2, g3, g4, g5⟩ := hB6.all
    have gl := hB6.lt
    clear hk5 hB6
    obtain ⟨i0, i1, i2, i3, i4, jf⟩ := hp5.all
    have il := hp5.lt
    replace hk6 := Lib.hid hk6
    replace hp5 := Lib.hid hp5
    go_wp2_with fail
    go_ret
    exact ⟨_, rfl, fun h => absurd h hxe.out, hp5.out, hk6.out⟩
end
end Go.Proofs.YtcifljbcoioogaaGreatDoor
