/-
  The steps of Or, Xor and Mux.
-/
import Derived.Test.YtinfkjflomdhbaaGh
namespace Go.Proofs.Ytinfkjflomdhbaa
open Go.RowKit Go.Lib Go.Maps
set_option maxRecDepth 100000 in
theorem Or1_t {B p bg bf ba bb : Nat} {F : List PN} (a b : Nat) (w : World) (h : BV w B p F bg bf) (qa : BI w ba 3 (.int .i64 (a : Int))) (qb : BI w bb 3 (.int .i64 (b : Int))) (hl : F.length < 49990) (ha : a / 2 < F.length) (hb : b / 2 < F.length) :
    Calls Try.prog 32 #[gt bg bf, pt ba, pt bb] w (GV w B p (orF F a b).1 (.int .i64 (((orF F a b).2 : Nat) : Int))) := by
  have hO := or_t a b w h (by omega) ha hb
  have a0 := qa.c
  have al := qa.lt
  have b0 := qb.c
  have bl := qb.lt
  unfold GV at hO
  obtain ⟨r, hr⟩ : ∃ r, orF F a b = r := ⟨_, rfl⟩
  rw [hr] at hO ⊢
  replace hO := Lib.hid hO
  clear h qa qb hr hl ha hb
  go_enter Try.func32, Try.ntmps32
  go_wp2_with fail
  (with_reducible refine hO.out.mono ?_)
  rintro e w2 ⟨rfl, hg2, hw2⟩
  replace hg2 := Lib.hid hg2
  replace hw2 := Lib.hid hw2
  go_wp2_with fail
  go_ret
  exact ⟨rfl, hg2.out, hw2.out⟩
set_option maxRecDepth 100000 in
set_option maxHeartbeats 1600000 in
theorem Xor1_t {B p bg bf ba bb : Nat} {F : List PN} (a b : Nat) (w : World) (h : BV w B p F bg bf) (qa : BI w ba 3 (.int .i64 (a : Int))) (qb : BI w bb 3 (.int .i64 (b : Int))) (hl : F.length < 49990) (ha : a / 2 < F.length) (hb : b / 2 < F.length) :
    Calls Try.prog 36 #[gt bg bf, pt ba, pt bb] w (GV w B p (xorF F a b).1 (.int .i64 (((xorF F a b).2 : Nat) : Int))) := by
  obtain ⟨r1, _⟩ := orF_ok h.g.wf ha hb
  have hr1 := r1.le
  have hr2 := r1.len
  have hr3 := r1.lit
  obtain ⟨s1, _⟩ := andF_ok r1.wf (a := a) (b := b) (by omega) (by omega)
  have hs1 := s1.le
  have hs2 := s1.len
  have hs3 := s1.lit
  have hO := fun W (q : BV W B p F bg bf) => or_t a b W q (by omega) ha hb
  have hG1 := fun W (q : BV W B p (orF F a b).1 bg bf) => gate_t a b W q (by omega) (by omega) (by omega)
  have hN := fun W => Not_t (andF (orF F a b).1 a b).2 W (by omega)
  have hG2 := fun W (q : BV W B p (andF (orF F a b).1 a b).1 bg bf) => gate_t (orF F a b).2 (nt (andF (orF F a b).1 a b).2) W q (by omega) (by omega) (by rw [nt_div]; exact hs3)
  unfold xorF
  simp only
  obtain ⟨r, hr⟩ : ∃ r, orF F a b = r := ⟨_, rfl⟩
  rw [hr] at hO hG1 hN hG2 ⊢
  obtain ⟨s, hs⟩ : ∃ s, andF r.1 a b = s := ⟨_, rfl⟩
  rw [hs] at hG1 hN hG2 ⊢
  obtain ⟨t, ht⟩ : ∃ t, andF s.1 r.2 (nt s.2) = t := ⟨_, rfl⟩
  rw [ht] at hG2 ⊢
  obtain ⟨x, hx⟩ : ∃ x, nt s.2 = x := ⟨_, rfl⟩
  rw [hx] at hN hG2
  unfold GV at hO hG1 hG2
  unfold RW at hN
  have hB0 : BV w.drew B p F bg bf := h.over ((Below.refl _ _).drew)
  have a0 := qa.c
  have al := qa.lt
  have b0 := qb.c
  have bl := qb.lt
  have qa0 : BI w.drew ba 3 (.int .i64 (a : Int)) := qa
  have qb0 : BI w.drew bb 3 (.int .i64 (b : Int)) := qb
  have kk : w.drew.cell? ⟨ba, 0, none⟩ = some (.int .i64 (a : Int)) ∧ w.drew.cell? ⟨bb, 0, none⟩ = some (.int .i64 (b : Int)) := ⟨a0, b0⟩
  have hp := h.g.lt
  have hWd : WP p w w.drew := WP.of ((Below.refl _ _).drew) hp
  have tok1 : True := trivial
  have tok2 : True := trivial
  replace hO := Lib.hid hO
  replace hG1 := Lib.hid hG1
  replace hG2 := Lib.hid hG2
  replace hN := Lib.hid hN
  replace hB0 := Lib.hid hB0
  replace qa0 := Lib.hid qa0
  replace qb0 := Lib.hid qb0
  replace hWd := Lib.hid hWd
  clear h qa qb hr hs ht hx hl ha hb r1 s1 hr1 hr2 hr3 hs1 hs2 hs3
  go_enter Try.func36, Try.ntmps36
  go_wp2_with fail
  go_region_held3 (fun w' => w'.cell? ⟨ba, 0, none⟩ = some (.int .i64 (a : Int)) ∧ w'.cell? ⟨bb, 0, none⟩ = some (.int .i64 (b : Int)))
    (first | (with_reducible exact kk) | (with_reducible exact kk1) | (with_reducible exact kk2) | (with_reducible exact kk3))
    (first
      | (go_at_call 33; (with_reducible refine (hO.out _ hB0.out).mono ?_); rintro e w1 ⟨rfl, hg1, hk1⟩; have hB1 := hB0.out.wp hg1 hk1; have qa1 := qa0.out.wp hB0.out.g hk1 (by decide) (by decide); have qb1 := qb0.out.wp hB0.out.g hk1 (by decide) (by decide); have kk1 := And.intro qa1.c qb1.c; have hW1 := hWd.out.trans hk1)
      | (go_at_call 14; (with_reducible refine (hN.out _).mono ?_); rintro e w9 ⟨rfl, hw9⟩; subst hw9)
      | (go_at_call 39; have _t := tok1; (with_reducible refine (hG1.out _ hB1).mono ?_); clear tok1; rintro e w2 ⟨rfl, hg2, hk2⟩; have hB2 := hB1.wp hg2 hk2; have qa2 := qa1.wp hB1.g hk2 (by decide) (by decide); have qb2 := qb1.wp hB1.g hk2 (by decide) (by decide); have kk2 := And.intro qa2.c qb2.c; have hW2 := hW1.trans hk2)
      | (go_at_call 39; have _t := tok2; (with_reducible refine (hG2.out _ hB2).mono ?_); clear tok2; rintro e w3 ⟨rfl, hg3, hk3⟩; have qa3 := qa2.wp hB2.g hk3 (by decide) (by decide); have qb3 := qb2.wp hB2.g hk3 (by decide) (by decide); have kk3 := And.intro qa3.c qb3.c; have hW3 := hW2.trans hk3))
  all_goals (
    replace hg3 := Lib.hid hg3
    replace hW3 := Lib.hid hW3
    clear hG1 hG2 hO hN hB0 qa0 qb0 hWd hB1 hB2 qa1 qa2 qa3 qb1 qb2 qb3 hk1 hk2 hk3 hg1 hg2
    go_wp2_with fail
    go_ret
    exact ⟨rfl, hg3.out, hW3.out⟩)
set_option maxRecDepth 100000 in
set_option maxHeartbeats 1600000 in
theorem Mux1_t {B p bg bf ba bb bc : Nat} {F : List PN} (a b c : Nat) (w : World) (h : BV w B p F bg bf) (qa : BI w ba 3 (.int .i64 (a : Int))) (qb : BI w bb 3 (.int .i64 (b : Int))) (qc : BI w bc 3 (.int .i64 (c : Int))) (hl : F.length < 49990) (ha : a / 2 < F.length) (hb : b / 2 < F.length) (hc : c / 2 < F.length) :
    Calls Try.prog 34 #[gt bg bf, pt ba, pt bb, pt bc] w (GV w B p (muxF F c a b).1 (.int .i64 (((muxF F c a b).2 : Nat) : Int))) := by
  have a0 := qa.c
  have al := qa.lt
  have b0 := qb.c
  have bl := qb.lt
  have c0 := qc.c
  have cl := qc.lt
  have hp := h.g.lt
  have hnc : nt c / 2 < F.length := by rw [nt_div]; exact hc
  have hN := fun W => Not_t c W (by omega)
  unfold RW at hN
  unfold muxF
  by_cases e1 : a = b
  · rw [if_pos e1]
    have d1 : ((a : Int) == (b : Int)) = true := by simp [e1]
    have hg := Lib.hid h.g
    clear h hN ha hb hc hnc qa qb qc
    replace e1 := Lib.hid e1
    go_enter Try.func34, Try.ntmps34
    go_wp2_with fail
    go_ret
    exact ⟨rfl, hg.out, WP.refl _ _⟩
  rw [if_neg e1]
  have d1 : ((a : Int) == (b : Int)) = false := by simp; omega
  replace e1 := Lib.hid e1
  by_cases e2 : a = c ∨ a = 1
  · rw [if_pos e2]
    have hO := or_t c b w h (by omega) hc hb
    obtain ⟨r, hr⟩ : ∃ r, orF F c b = r := ⟨_, rfl⟩
    rw [hr] at hO ⊢
    unfold GV at hO
    replace hO := Lib.hid hO
    clear h hN hr ha hb hc hnc qa qb qc hl
    by_cases e3 : a = c
    · have d2 : ((a : Int) == (c : Int)) = true := by simp [e3]
      replace e3 := Lib.hid e3
      replace e2 := Lib.hid e2
      go_enter Try.func34, Try.ntmps34
      go_wp2_with fail
      (with_reducible refine hO.out.mono ?_)
      rintro e w2 ⟨rfl, hg2, hw2⟩
      replace hg2 := Lib.hid hg2
      replace hw2 := Lib.hid hw2
      go_wp2_with fail
      go_ret
      exact ⟨rfl, hg2.out, hw2.out⟩
    · have d2 : ((a : Int) == (c : Int)) = false := by simp; omega
      have d3 : ((a : Int) == 1) = true := by simp; omega
      replace e3 := Lib.hid e3
      replace e2 := Lib.hid e2
      go_enter Try.func34, Try.ntmps34
      go_wp2_with fail
      (with_reducible refine hO.out.mono ?_)
      rintro e w2 ⟨rfl, hg2, hw2⟩
      replace hg2 := Lib.hid hg2
      replace hw2 := Lib.hid hw2
      go_wp2_with fail
      go_ret
      exact ⟨rfl, hg2.out, hw2.out⟩
  rw [if_neg e2]
  have d2 : ((a : Int) == (c : Int)) = false := by simp; omega
  have d3 : ((a : Int) == 1) = false := by simp; omega
  replace e2 := Lib.hid e2
  obtain ⟨x, hx⟩ : ∃ x, nt c = x := ⟨_, rfl⟩
  rw [hx] at hN hnc ⊢
  replace hN := Lib.hid hN
  by_cases e3 : b = x ∨ b = 1
  · rw [if_pos e3]
    have hO := fun W (q : BV W B p F bg bf) => or_t x a W q (by omega) hnc ha
    obtain ⟨r, hr⟩ : ∃ r, orF F x a = r := ⟨_, rfl⟩
    rw [hr] at hO ⊢
    unfold GV at hO
    replace hO := Lib.hid hO
    replace hx := Lib.hid hx
    replace qa := Lib.hid qa
    replace qb := Lib.hid qb
    replace qc := Lib.hid qc
    replace h := Lib.hid h
    clear hr ha hb hc hnc hl
    have arm : b = x ∨ (b ≠ x ∧ b = 1) := by omega
    replace e3 := Lib.hid e3
    rcases arm with e4 | ⟨e4, e5⟩
    · have d4 : ((b : Int) == (x : Int)) = true := by simp [e4]
      replace e4 := Lib.hid e4
      go_enter Try.func34, Try.ntmps34
      go_wp2_with fail
      go_quiet ((go_at_call 14; (with_reducible refine (hN.out _).mono ?_); exact (fun e w1 ⟨he, hw1⟩ => ⟨he, _, hw1.symm⟩)))
      obtain ⟨w0, hw0⟩ : ∃ W, w.drewN nq = W := ⟨_, rfl⟩
      have hB0 : BV w0.drew B p F bg bf := by
        rw [← hw0]
        exact h.out.over ((bdn w nq).drew)
      have hWd : WP p w w0.drew := by
        rw [← hw0]
        exact WP.of ((bdn w nq).drew) hp
      have qa0 : BI w0.drew ba 3 (.int .i64 (a : Int)) := by rw [← hw0]; exact qa.out
      have qb0 : BI w0.drew bb 3 (.int .i64 (b : Int)) := by rw [← hw0]; exact qb.out
      have qc0 : BI w0.drew bc 3 (.int .i64 (c : Int)) := by rw [← hw0]; exact qc.out
      have g0 : w0.cell? ⟨ba, 0, none⟩ = some (.int .i64 (a : Int)) := qa0.c
      have g1 : w0.cell? ⟨bb, 0, none⟩ = some (.int .i64 (b : Int)) := qb0.c
      have g2 : w0.cell? ⟨bc, 0, none⟩ = some (.int .i64 (c : Int)) := qc0.c
      have gl0 : ba < w0.heap.size := qa0.lt
      have gl1 : bb < w0.heap.size := qb0.lt
      have gl2 : bc < w0.heap.size := qc0.lt
      rw [hw0]
      have kk := And.intro qa0.c (And.intro qb0.c qc0.c)
      replace hB0 := Lib.hid hB0
      replace hWd := Lib.hid hWd
      replace qa0 := Lib.hid qa0
      replace qb0 := Lib.hid qb0
      replace qc0 := Lib.hid qc0
      clear hw0 a0 al b0 bl c0 cl h qa qb qc
      go_wp2_with fail
      go_region_held3 (fun w' => w'.cell? ⟨ba, 0, none⟩ = some (.int .i64 (a : Int)) ∧ w'.cell? ⟨bb, 0, none⟩ = some (.int .i64 (b : Int)) ∧ w'.cell? ⟨bc, 0, none⟩ = some (.int .i64 (c : Int)))
        (first | (with_reducible exact kk) | (with_reducible exact kk1))
        (first
          | (go_at_call 14; (with_reducible refine (hN.out _).mono ?_); rintro e w9 ⟨rfl, hw9⟩; subst hw9)
          | (go_at_call 33; (with_reducible refine (hO.out _ hB0.out).mono ?_); rintro e w1 ⟨rfl, hg1, hk1⟩; have qa1 := qa0.out.wp hB0.out.g hk1 (by decide) (by decide); have qb1 := qb0.out.wp hB0.out.g hk1 (by decide) (by decide); have qc1 := qc0.out.wp hB0.out.g hk1 (by decide) (by decide); have kk1 := And.intro qa1.c (And.intro qb1.c qc1.c); have hW1 := hWd.out.trans hk1))
      all_goals (
        replace hg1 := Lib.hid hg1
        replace hW1 := Lib.hid hW1
        clear hO hN hB0 qa0 qb0 qc0 hWd qa1 qb1 qc1 hk1
        go_wp2_with fail
        go_ret
        exact ⟨rfl, hg1.out, hW1.out⟩)
    · have d4 : ((b : Int) == (x : Int)) = false := by simp; omega
      have d5 : ((b : Int) == 1) = true := by simp; omega
      replace e4 := Lib.hid e4
      replace e5 := Lib.hid e5
      go_enter Try.func34, Try.ntmps34
      go_wp2_with fail
      go_quiet ((go_at_call 14; (with_reducible refine (hN.out _).mono ?_); exact (fun e w1 ⟨he, hw1⟩ => ⟨he, _, hw1.symm⟩)))
      obtain ⟨w0, hw0⟩ : ∃ W, w.drewN nq = W := ⟨_, rfl⟩
      have hB0 : BV w0.drew B p F bg bf := by
        rw [← hw0]
        exact h.out.over ((bdn w nq).drew)
      have hWd : WP p w w0.drew := by
        rw [← hw0]
        exact WP.of ((bdn w nq).drew) hp
      have qa0 : BI w0.drew ba 3 (.int .i64 (a : Int)) := by rw [← hw0]; exact qa.out
      have qb0 : BI w0.drew bb 3 (.int .i64 (b : Int)) := by rw [← hw0]; exact qb.out
      have qc0 : BI w0.drew bc 3 (.int .i64 (c : Int)) := by rw [← hw0]; exact qc.out
      have g0 : w0.cell? ⟨ba, 0, none⟩ = some (.int .i64 (a : Int)) := qa0.c
      have g1 : w0.cell? ⟨bb, 0, none⟩ = some (.int .i64 (b : Int)) := qb0.c
      have g2 : w0.cell? ⟨bc, 0, none⟩ = some (.int .i64 (c : Int)) := qc0.c
      have gl0 : ba < w0.heap.size := qa0.lt
      have gl1 : bb < w0.heap.size := qb0.lt
      have gl2 : bc < w0.heap.size := qc0.lt
      rw [hw0]
      have kk := And.intro qa0.c (And.intro qb0.c qc0.c)
      replace hB0 := Lib.hid hB0
      replace hWd := Lib.hid hWd
      replace qa0 := Lib.hid qa0
      replace qb0 := Lib.hid qb0
      replace qc0 := Lib.hid qc0
      clear hw0 a0 al b0 bl c0 cl h qa qb qc
      go_wp2_with fail
      go_region_held3 (fun w' => w'.cell? ⟨ba, 0, none⟩ = some (.int .i64 (a : Int)) ∧ w'.cell? ⟨bb, 0, none⟩ = some (.int .i64 (b : Int)) ∧ w'.cell? ⟨bc, 0, none⟩ = some (.int .i64 (c : Int)))
        (first | (with_reducible exact kk) | (with_reducible exact kk1))
        (first
          | (go_at_call 14; (with_reducible refine (hN.out _).mono ?_); rintro e w9 ⟨rfl, hw9⟩; subst hw9)
          | (go_at_call 33; (with_reducible refine (hO.out _ hB0.out).mono ?_); rintro e w1 ⟨rfl, hg1, hk1⟩; have qa1 := qa0.out.wp hB0.out.g hk1 (by decide) (by decide); have qb1 := qb0.out.wp hB0.out.g hk1 (by decide) (by decide); have qc1 := qc0.out.wp hB0.out.g hk1 (by decide) (by decide); have kk1 := And.intro qa1.c (And.intro qb1.c qc1.c); have hW1 := hWd.out.trans hk1))
      all_goals (
        replace hg1 := Lib.hid hg1
        replace hW1 := Lib.hid hW1
        clear hO hN hB0 qa0 qb0 qc0 hWd qa1 qb1 qc1 hk1
        go_wp2_with fail
        go_ret
        exact ⟨rfl, hg1.out, hW1.out⟩)
  rw [if_neg e3]
  have d4 : ((b : Int) == (x : Int)) = false := by simp; omega
  have d5 : ((b : Int) == 1) = false := by simp; omega
  replace e3 := Lib.hid e3
  obtain ⟨r1, _⟩ := andF_ok h.g.wf (a := c) (b := a) hc ha
  have hr1 := r1.le
  have hr2 := r1.len
  have hr3 := r1.lit
  obtain ⟨s1, _⟩ := andF_ok r1.wf (a := x) (b := b) (by omega) (by omega)
  have hs1 := s1.le
  have hs2 := s1.len
  have hs3 := s1.lit
  have hG1 := fun W (q : BV W B p F bg bf) => gate_t c a W q (by omega) hc ha
  have hG2 := fun W (q : BV W B p (andF F c a).1 bg bf) => gate_t x b W q (by omega) (by omega) (by omega)
  have hO := fun W (q : BV W B p (andF (andF F c a).1 x b).1 bg bf) => or_t (andF F c a).2 (andF (andF F c a).1 x b).2 W q (by omega) (by omega) hs3
  simp only
  obtain ⟨r, hr⟩ : ∃ r, andF F c a = r := ⟨_, rfl⟩
  rw [hr] at hG1 hG2 hO ⊢
  obtain ⟨s, hs⟩ : ∃ s, andF r.1 x b = s := ⟨_, rfl⟩
  rw [hs] at hG2 hO ⊢
  obtain ⟨t, ht⟩ : ∃ t, orF s.1 r.2 s.2 = t := ⟨_, rfl⟩
  rw [ht] at hO ⊢
  unfold GV at hO hG1 hG2
  have tok1 : True := trivial
  have tok2 : True := trivial
  replace hO := Lib.hid hO
  replace hG1 := Lib.hid hG1
  replace hG2 := Lib.hid hG2
  replace hx := Lib.hid hx
  replace qa := Lib.hid qa
  replace qb := Lib.hid qb
  replace qc := Lib.hid qc
  replace h := Lib.hid h
  clear hr hs ht hl ha hb hc hnc r1 s1 hr1 hr2 hr3 hs1 hs2 hs3
  go_enter Try.func34, Try.ntmps34
  go_wp2_with fail
  go_quiet ((go_at_call 14; (with_reducible refine (hN.out _).mono ?_); exact (fun e w1 ⟨he, hw1⟩ => ⟨he, _, hw1.symm⟩)))
  obtain ⟨w0, hw0⟩ : ∃ W, w.drewN nq = W := ⟨_, rfl⟩
  have hB0 : BV w0.drew B p F bg bf := by
    rw [← hw0]
    exact h.out.over ((bdn w nq).drew)
  have hWd : WP p w w0.drew := by
    rw [← hw0]
    exact WP.of ((bdn w nq).drew) hp
  have qa0 : BI w0.drew ba 3 (.int .i64 (a : Int)) := by rw [← hw0]; exact qa.out
  have qb0 : BI w0.drew bb 3 (.int .i64 (b : Int)) := by rw [← hw0]; exact qb.out
  have qc0 : BI w0.drew bc 3 (.int .i64 (c : Int)) := by rw [← hw0]; exact qc.out
  have g0 : w0.cell? ⟨ba, 0, none⟩ = some (.int .i64 (a : Int)) := qa0.c
  have g1 : w0.cell? ⟨bb, 0, none⟩ = some (.int .i64 (b : Int)) := qb0.c
  have g2 : w0.cell? ⟨bc, 0, none⟩ = some (.int .i64 (c : Int)) := qc0.c
  have gl0 : ba < w0.heap.size := qa0.lt
  have gl1 : bb < w0.heap.size := qb0.lt
  have gl2 : bc < w0.heap.size := qc0.lt
  rw [hw0]
  have kk := And.intro qa0.c (And.intro qb0.c qc0.c)
  replace hB0 := Lib.hid hB0
  replace hWd := Lib.hid hWd
  replace qa0 := Lib.hid qa0
  replace qb0 := Lib.hid qb0
  replace qc0 := Lib.hid qc0
  clear hw0 a0 al b0 bl c0 cl h qa qb qc
  go_wp2_with fail
  go_region_held3 (fun w' => w'.cell? ⟨ba, 0, none⟩ = some (.int .i64 (a : Int)) ∧ w'.cell? ⟨bb, 0, none⟩ = some (.int .i64 (b : Int)) ∧ w'.cell? ⟨bc, 0, none⟩ = some (.int .i64 (c : Int)))
    (first | (with_reducible exact kk) | (with_reducible exact kk1) | (with_reducible exact kk2) | (with_reducible exact kk3))
    (first
      | (go_at_call 14; (with_reducible refine (hN.out _).mono ?_); rintro e w9 ⟨rfl, hw9⟩; subst hw9)
      | (go_at_call 39; have _t := tok1; (with_reducible refine (hG1.out _ hB0.out).mono ?_); clear tok1; rintro e w1 ⟨rfl, hg1, hk1⟩; have hB1 := hB0.out.wp hg1 hk1; have qa1 := qa0.out.wp hB0.out.g hk1 (by decide) (by decide); have qb1 := qb0.out.wp hB0.out.g hk1 (by decide) (by decide); have qc1 := qc0.out.wp hB0.out.g hk1 (by decide) (by decide); have kk1 := And.intro qa1.c (And.intro qb1.c qc1.c); have hW1 := hWd.out.trans hk1)
      | (go_at_call 39; have _t := tok2; (with_reducible refine (hG2.out _ hB1).mono ?_); clear tok2; rintro e w2 ⟨rfl, hg2, hk2⟩; have hB2 := hB1.wp hg2 hk2; have qa2 := qa1.wp hB1.g hk2 (by decide) (by decide); have qb2 := qb1.wp hB1.g hk2 (by decide) (by decide); have qc2 := qc1.wp hB1.g hk2 (by decide) (by decide); have kk2 := And.intro qa2.c (And.intro qb2.c qc2.c); have hW2 := hW1.trans hk2)
      | (go_at_call 33; (with_reducible refine (hO.out _ hB2).mono ?_); rintro e w3 ⟨rfl, hg3, hk3⟩; have qa3 := qa2.wp hB2.g hk3 (by decide) (by decide); have qb3 := qb2.wp hB2.g hk3 (by decide) (by decide); have qc3 := qc2.wp hB2.g hk3 (by decide) (by decide); have kk3 := And.intro qa3.c (And.intro qb3.c qc3.c); have hW3 := hW2.trans hk3))
  all_goals (
    replace hg3 := Lib.hid hg3
    replace hW3 := Lib.hid hW3
    clear hG1 hG2 hO hN hB0 qa0 qb0 qc0 hWd hB1 hB2 qa1 qa2 qa3 qb1 qb2 qb3 qc1 qc2 qc3 hk1 hk2 hk3 hg1 hg2
    go_wp2_with fail
    go_ret
    exact ⟨rfl, hg3.out, hW3.out⟩)
end Go.Proofs.Ytinfkjflomdhbaa
