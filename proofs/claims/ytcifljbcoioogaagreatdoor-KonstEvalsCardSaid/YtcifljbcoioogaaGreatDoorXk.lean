/-
  The evaluator on trees: unary, choice, holds, given what eval does on the operands.
  The evaluator on trees: eval behind an error, holds, choice, binary.
-/
import Derived.Test.YtcifljbcoioogaaGreatDoorXf
namespace Go.Proofs.YtcifljbcoioogaaGreatDoor
open Go.RowKit Go.Lib Go.Maps
theorem nil1_t (w : World) : (binOp BinOp.eql 79 Value.nilFunc Value.nilFunc).run Tryz.prog w = .ok (.bool true) w := by kernel_rfl
theorem nil1_f (k : Nat) (w : World) : (binOp BinOp.eql 79 (fnv k) Value.nilFunc).run Tryz.prog w = .ok (.bool false) w := by kernel_rfl
theorem nil2_f (k : Nat) (w : World) : (binOp BinOp.eql 111 (fnv k) Value.nilFunc).run Tryz.prog w = .ok (.bool false) w := by kernel_rfl
theorem z_in {r : KR} (hz : Z0 r) (hi : r.e = 0 → InR r.n) : InR r.n := by
  by_cases h : r.e = 0
  · exact hi h
  · rw [hz.1 h]; exact ⟨by decide, by decide⟩
/-- What eval leaves. -/
def FR (p : Nat) (M : Value) (w : World) (r : KR) (x : Ending) (w' : World) : Prop := x = .returned (.int .i64 r.n) ∧ EVB w' p M r.f r.l r.c r.e ∧ Keep (· = p) w w'
/-- eval does on t what it should, wherever t lies below B. -/
def EvOk (B p : Nat) (M : Value) (es : List (List UInt8 × Int)) (t : XT) : Prop := ∀ (A : Option Addr) (c : Nat) (w : World), B ≤ p → (∀ m, M = .map (some m) → m ≠ p) → EVB w p M 0 0 0 0 → EnvIs w M es → XAr w B t A → WX t →
  Calls Tryz.prog 21 #[pe p, xv t.h A t.args.length c] w (FR p M w (ev (envB es) t))
theorem Keep.belowB {p B : Nat} {w w' : World} (k : Keep (· = p) w w') (hB : B ≤ p) (hp : p < w.heap.size) : Below B w w' := k.below (by omega) fun b hb => by rw [hb]; exact hB
section
variable {B p : Nat} {M : Value} {es : List (List UInt8 × Int)}
set_option maxRecDepth 100000 in
set_option maxHeartbeats 1600000 in
theorem unary_t (h : XH) (a : XT) (A : Option Addr) (c : Nat) (w : World) (hBp : B ≤ p) (hMp : ∀ m, M = .map (some m) → m ≠ p) (hp : EVB w p M 0 0 0 0) (hM : EnvIs w M es) (hX : XAr w B (.u h a) A) (hW : WX a)
    (hk : h.k = 3) (ho : h.s.toList ∈ un9) (hE : EvOk B p M es a) :
    Calls Tryz.prog 45 #[pe p, xv h A 1 c] w (VP p M w (rawU h (ev (envB es) a))) := by
  unfold rawU
  rw [if_pos hk]
  obtain ⟨b, o, rfl, hb, A1, c1, hx, hy⟩ := hX
  have hpl := hp.lt
  have hbl : b < w.heap.size := by omega
  have hz := ev_z (envB es) a
  have hin := z_in hz (ev_in (envB es) a)
  have hU := fun W => unaryOf_t h.s h.s.toList W rfl ho
  have hF := fun (W : World) (hb : EVB W p M 0 0 0 0) => fail_t h (some ⟨b, o, none⟩) 1 c 12 p M W hb
  have hEc := fun W (q1 : EVB W p M 0 0 0 0) (q2 : EnvIs W M es) (q3 : XAr W B a A1) => hE A1 c1 W hBp hMp q1 q2 q3 hW
  have hB0 := BX.new w 47 h (some ⟨b, o, none⟩) 1 c
  have hbA := (Below.refl w.heap.size w).alloc (Nat.le_refl _) (.cells #[.int .i64 h.k, .int .i64 h.f, .int .i64 h.l, .int .i64 h.c, .string h.s, .slice (some ⟨b, o, none⟩) 1 c] 47)
  have hp1 := hp.over hbA
  have hM1 := hM.alloc (.cells #[.int .i64 h.k, .int .i64 h.f, .int .i64 h.l, .int .i64 h.c, .string h.s, .slice (some ⟨b, o, none⟩) 1 c] 47)
  have hk1 := Keep.of_below (F := (· = p)) hbA
  have hx1 := hx.over hbl hbA
  have hy1 := hy.over (hbA.mono (show B ≤ w.heap.size by omega))
  obtain ⟨x0, x1, x2, x3, x4, x5⟩ := hx
  obtain ⟨op, hop⟩ : ∃ op, h.s.toList = op := ⟨_, rfl⟩
  obtain ⟨r, hr⟩ : ∃ r, ev (envB es) a = r := ⟨_, rfl⟩
  rw [hop] at hU ⊢
  rw [hr] at hEc hin hz ⊢
  unfold UO at hU
  clear hE hW hx1 hr hbA hM hop ho hk
  replace hF := Lib.hid hF
  replace hEc := Lib.hid hEc
  replace hB0 := Lib.hid hB0
  replace hp1 := Lib.hid hp1
  replace hM1 := Lib.hid hM1
  replace hk1 := Lib.hid hk1
  replace hy1 := Lib.hid hy1
  replace hy := Lib.hid hy
  replace hp := Lib.hid hp
  replace hz := Lib.hid hz
  replace hin := Lib.hid hin
  cases hi : isUn op
  · rw [hi] at hU
    simp only [Bool.false_eq_true, if_false] at hU ⊢
    replace hU := Lib.hid hU
    have n1 := nil1_t
    have n2 := nil1_f
    go_enter Tryz.func45, Tryz.ntmps45
    go_wp2_with fail
    (with_reducible refine (hU.out _).mono ?_)
    rintro e w' ⟨hw, rfl⟩
    subst hw
    go_wp2_with fail
    (with_reducible refine (hF.out _ hp1.out).mono ?_)
    rintro e w2 ⟨rfl, hp3, hk3⟩
    have hk4 := Lib.hid (hk1.out.both hk3)
    clear hk3
    replace hp3 := Lib.hid hp3
    go_wp2_with fail
    go_ret
    exact ⟨_, rfl, fun h => absurd h (by simp [badR]), hp3.out, hk4.out⟩
  · rw [hi] at hU
    simp only [if_true] at hU ⊢
    obtain ⟨R, hR⟩ : ∃ R, (if r.e ≠ 0 then r else okR (unV op r.n)) = R := ⟨_, rfl⟩
    have hR1 : R.e = 0 → unV op r.n = R.n := by
      intro h0
      by_cases h1 : r.e = 0
      · rw [← hR, if_neg (by simpa using h1)]; rfl
      · rw [← hR, if_pos h1] at h0; exact absurd h0 h1
    have hR2 : R.f = r.f ∧ R.l = r.l ∧ R.c = r.c ∧ R.e = r.e := by
      by_cases h1 : r.e = 0
      · rw [← hR, if_neg (by simpa using h1)]
        obtain ⟨f0, l0, c0⟩ := hz.out.2 h1
        rw [f0, l0, c0, h1]
        exact ⟨rfl, rfl, rfl, rfl⟩
      · rw [← hR, if_pos h1]; exact ⟨rfl, rfl, rfl, rfl⟩
    rw [hR]
    clear hR
    replace hR1 := Lib.hid hR1
    replace hR2 := Lib.hid hR2
    replace hU := Lib.hid hU
    have n1 := nil1_t
    have n2 := nil1_f
    go_enter Tryz.func45, Tryz.ntmps45
    go_wp2_with fail
    (with_reducible refine (hU.out _).mono ?_)
    rintro e w' ⟨hw, k, rfl, hkf⟩
    subst hw
    obtain ⟨hcf, hkf⟩ := hkf
    replace hkf := Lib.hid hkf
    go_wp2_with fail
    (with_reducible refine (hEc.out _ hp1.out hM1.out hy1.out).mono ?_)
    rintro e w2 ⟨rfl, hp3, hk3⟩
    have hk4 := Lib.hid (hk1.out.both hk3)
    clear hk3
    replace hp3 := Lib.hid hp3
    go_wp2_with fail
    (with_reducible refine (hkf.out _ _ hin.out).mono ?_)
    rintro e w3 ⟨rfl, hw⟩
    subst hw
    go_wp2_with fail
    go_ret
    refine ⟨_, rfl, hR1.out, ?_, hk4.out⟩
    obtain ⟨q1, q2, q3, q4⟩ := hR2.out
    rw [q1, q2, q3, q4]
    exact hp3.out
end
end Go.Proofs.YtcifljbcoioogaaGreatDoor
namespace Go.Proofs.YtcifljbcoioogaaGreatDoor
open Go.RowKit Go.Lib Go.Maps
section
variable {B p : Nat} {M : Value} {es : List (List UInt8 × Int)}
set_option maxRecDepth 100000 in
theorem eval_skip (h : XH) (A : Option Addr) (n c : Nat) (f l cc e : Int) (w : World) (hp : EVB w p M f l cc e) (he : e ≠ 0) :
    Calls Tryz.prog 21 #[pe p, xv h A n c] w fun x w' => x = .returned (.int .i64 0) ∧ EVB w' p M f l cc e ∧ Keep (· = p) w w' := by
  obtain ⟨c0, c1, c2, c3, c4, fz⟩ := hp.all
  have hlt := hp.lt
  have d1 : (e != 0) = true := by simpa using he
  have d2 : (e == 0) = false := by simpa using he
  have hK := hp.alloc (.cells #[.int .i64 h.k, .int .i64 h.f, .int .i64 h.l, .int .i64 h.c, .string h.s, .slice A n c] 47)
  have hk1 := (Keep.refl (· = p) w).alloc (.cells #[.int .i64 h.k, .int .i64 h.f, .int .i64 h.l, .int .i64 h.c, .string h.s, .slice A n c] 47)
  replace hK := Lib.hid hK
  replace hk1 := Lib.hid hk1
  replace he := Lib.hid he
  replace hp := Lib.hid hp
  go_enter Tryz.func21, Tryz.ntmps21
  go_wp2_with fail
  go_ret
  exact ⟨rfl, hK.out, hk1.out⟩
/-- What holds leaves. -/
def HR (p : Nat) (M : Value) (w : World) (b : Bool) (f l c e : Int) (x : Ending) (w' : World) : Prop := x = .returned (.bool b) ∧ EVB w' p M f l c e ∧ Keep (· = p) w w'
theorem holds_any (h : XH) (A : Option Addr) (n c : Nat) (v f l cc e : Int) (w : World) (_hp : EVB (w.alloc (.cells #[.int .i64 h.k, .int .i64 h.f, .int .i64 h.l, .int .i64 h.c, .string h.s, .slice A n c] 47)) p M 0 0 0 0 ∨ True)
    (hE : Calls Tryz.prog 21 #[pe p, xv h A n c] (w.alloc (.cells #[.int .i64 h.k, .int .i64 h.f, .int .i64 h.l, .int .i64 h.c, .string h.s, .slice A n c] 47)) fun x w' => x = .returned (.int .i64 v) ∧ EVB w' p M f l cc e ∧ Keep (· = p) (w.alloc (.cells #[.int .i64 h.k, .int .i64 h.f, .int .i64 h.l, .int .i64 h.c, .string h.s, .slice A n c] 47)) w') :
    Calls Tryz.prog 57 #[pe p, xv h A n c] w (HR p M w (v != 0) f l cc e) := by
  have hk1 := (Keep.refl (· = p) w).alloc (.cells #[.int .i64 h.k, .int .i64 h.f, .int .i64 h.l, .int .i64 h.c, .string h.s, .slice A n c] 47)
  replace hk1 := Lib.hid hk1
  replace hE := Lib.hid hE
  clear _hp
  go_enter Tryz.func57, Tryz.ntmps57
  go_wp2_with fail
  (with_reducible refine hE.out.mono ?_)
  rintro e w1 ⟨rfl, hp2, hk2⟩
  have hk3 := Lib.hid (hk1.out.both hk2)
  replace hp2 := Lib.hid hp2
  clear hk2
  go_wp2_with fail
  go_ret
  exact ⟨rfl, hp2.out, hk3.out⟩
theorem holds_t (t : XT) (hE : EvOk B p M es t) (A : Option Addr) (c : Nat) (w : World) (hBp : B ≤ p) (hMp : ∀ m, M = .map (some m) → m ≠ p) (hp : EVB w p M 0 0 0 0) (hM : EnvIs w M es) (hX : XAr w B t A) (hW : WX t) :
    Calls Tryz.prog 57 #[pe p, xv t.h A t.args.length c] w (HR p M w ((ev (envB es) t).n != 0) (ev (envB es) t).f (ev (envB es) t).l (ev (envB es) t).c (ev (envB es) t).e) :=
  have hpl := hp.lt
  holds_any t.h A t.args.length c _ _ _ _ _ w (.inr trivial) (hE A c _ hBp hMp (hp.alloc _) (hM.alloc _) (hX.over ((Below.refl B w).alloc (by omega) _)) hW)
theorem holds_skip (h : XH) (A : Option Addr) (n c : Nat) (f l cc e : Int) (w : World) (hp : EVB w p M f l cc e) (he : e ≠ 0) :
    Calls Tryz.prog 57 #[pe p, xv h A n c] w (HR p M w false f l cc e) :=
  holds_any h A n c 0 f l cc e w (.inr trivial) (eval_skip h A n c f l cc e _ (hp.alloc _) he)
set_option maxRecDepth 100000 in
set_option maxHeartbeats 3200000 in
theorem choice_t (h : XH) (a1 a2 a3 : XT) (A : Option Addr) (c : Nat) (w : World) (hBp : B ≤ p) (hMp : ∀ m, M = .map (some m) → m ≠ p) (hp : EVB w p M 0 0 0 0) (hM : EnvIs w M es) (hX : XAr w B (.t h a1 a2 a3) A)
    (hW1 : WX a1) (hW2 : WX a2) (hW3 : WX a3) (hk : h.k = 5) (hE1 : EvOk B p M es a1) (hE2 : EvOk B p M es a2) (hE3 : EvOk B p M es a3) :
    Calls Tryz.prog 47 #[pe p, xv h A 3 c] w (VP p M w (rawT h (ev (envB es) a1) (ev (envB es) a2) (ev (envB es) a3))) := by
  unfold rawT
  rw [if_pos hk]
  obtain ⟨b, o, rfl, hb, ⟨A1, c1, hx, hy⟩, ⟨A2, c2, hx2, hy2⟩, A3, c3, hx3, hy3⟩ := hX
  have hpl := hp.lt
  have hbl : b < w.heap.size := by omega
  have hF := fun (W : World) (e : Int) (hb : EVB W p M 0 0 0 0) => fail_t h (some ⟨b, o, none⟩) 3 c e p M W hb
  have hB0 := BX.new w 47 h (some ⟨b, o, none⟩) 3 c
  have hbA := (Below.refl w.heap.size w).alloc (Nat.le_refl _) (.cells #[.int .i64 h.k, .int .i64 h.f, .int .i64 h.l, .int .i64 h.c, .string h.s, .slice (some ⟨b, o, none⟩) 3 c] 47)
  have hp1 := hp.over hbA
  have hM1 := hM.alloc (.cells #[.int .i64 h.k, .int .i64 h.f, .int .i64 h.l, .int .i64 h.c, .string h.s, .slice (some ⟨b, o, none⟩) 3 c] 47)
  have hk1 := Keep.of_below (F := (· = p)) hbA
  have hbAB := hbA.mono (show B ≤ w.heap.size by omega)
  have hy1 := hy.over hbAB
  have hs1 := hx
  have hs2 := hx2
  have hs3 := hx3
  have hz1 := ev_z (envB es) a1
  have hH := fun W (q1 : EVB W p M 0 0 0 0) (q2 : EnvIs W M es) (q3 : XAr W B a1 A1) => holds_t a1 hE1 A1 c1 W hBp hMp q1 q2 q3 hW1
  have h2 := fun W (q1 : EVB W p M 0 0 0 0) (q2 : EnvIs W M es) (q3 : XAr W B a2 A2) => hE2 A2 c2 W hBp hMp q1 q2 q3 hW2
  have h3 := fun W (q1 : EVB W p M 0 0 0 0) (q2 : EnvIs W M es) (q3 : XAr W B a3 A3) => hE3 A3 c3 W hBp hMp q1 q2 q3 hW3
  have hS := fun (W : World) (f l cc e : Int) (q : EVB W p M f l cc e) (he : e ≠ 0) => eval_skip (p := p) (M := M) a3.h A3 a3.args.length c3 f l cc e W q he
  obtain ⟨r, hr⟩ : ∃ r, ev (envB es) a1 = r := ⟨_, rfl⟩
  obtain ⟨r2, hr2⟩ : ∃ r, ev (envB es) a2 = r := ⟨_, rfl⟩
  obtain ⟨r3, hr3⟩ : ∃ r, ev (envB es) a3 = r := ⟨_, rfl⟩
  rw [hr] at hH hz1 ⊢
  rw [hr2] at h2 ⊢
  rw [hr3] at h3 ⊢
  obtain ⟨x0, x1, x2, x3, x4, x5⟩ := hx
  clear hE1 hE2 hE3 hr hr2 hr3 hbA hbAB hk hs1
  replace hF := Lib.hid hF
  replace hB0 := Lib.hid hB0
  replace hp1 := Lib.hid hp1
  replace hM1 := Lib.hid hM1
  replace hk1 := Lib.hid hk1
  replace hy1 := Lib.hid hy1
  replace hy := Lib.hid hy
  replace hy2 := Lib.hid hy2
  replace hy3 := Lib.hid hy3
  replace hx2 := Lib.hid hx2
  replace hx3 := Lib.hid hx3
  replace hs2 := Lib.hid hs2
  replace hs3 := Lib.hid hs3
  replace hH := Lib.hid hH
  replace h2 := Lib.hid h2
  replace h3 := Lib.hid h3
  replace hS := Lib.hid hS
  replace hz1 := Lib.hid hz1
  replace hp := Lib.hid hp
  replace hM := Lib.hid hM
  replace hMp := Lib.hid hMp
  by_cases e1 : r.e = 0
  · rw [if_neg (by simpa using e1)]
    obtain ⟨f0, l0, c0⟩ := hz1.out.2 e1
    by_cases e2 : r.n = 0
    · rw [if_neg (by simpa using e2)]
      have d1 : (r.n != 0) = false := by simpa using e2
      rw [d1, f0, l0, c0, e1] at hH
      replace hH := Lib.hid hH.out
      clear e1 e2 d1 f0 l0 c0
      go_enter Tryz.func47, Tryz.ntmps47
      go_wp2_with fail
      (with_reducible refine (hH.out _ hp1.out hM1.out hy1.out).mono ?_)
      rintro e w2 ⟨rfl, hp3, hk3⟩
      have hk4 := hk1.out.both hk3
      have hb4 := hk4.belowB hBp hpl
      have hM4 := Lib.hid (hM.out.over hk4 hMp.out)
      have hy4 := Lib.hid (hy3.out.over hb4)
      obtain ⟨y0, y1, y2, y3, y4, y5⟩ := hx3.out.over hb hb4
      have hB4 := hB0.out.keep hk3 (by omega)
      obtain ⟨b0, b1, b2, b3, b4, b5⟩ := hB4.all
      have bl := hB4.lt
      have z2 := hk4.size
      clear hk3 hb4 hB4
      replace hp3 := Lib.hid hp3
      replace hk4 := Lib.hid hk4
      go_wp2_with fail
      (with_reducible refine (h3.out _ hp3.out hM4.out hy4.out).mono ?_)
      rintro e w3 ⟨rfl, hp5, hk5⟩
      have hk6 := Lib.hid (hk4.out.both hk5)
      replace hp5 := Lib.hid hp5
      clear hk5
      go_wp2_with fail
      go_ret
      exact ⟨_, rfl, fun _ => rfl, hp5.out, hk6.out⟩
    · rw [if_pos (by simpa using e2)]
      have d1 : (r.n != 0) = true := by simpa using e2
      rw [d1, f0, l0, c0, e1] at hH
      replace hH := Lib.hid hH.out
      clear e1 e2 d1 f0 l0 c0
      go_enter Tryz.func47, Tryz.ntmps47
      go_wp2_with fail
      (with_reducible refine (hH.out _ hp1.out hM1.out hy1.out).mono ?_)
      rintro e w2 ⟨rfl, hp3, hk3⟩
      have hk4 := hk1.out.both hk3
      have hb4 := hk4.belowB hBp hpl
      have hM4 := Lib.hid (hM.out.over hk4 hMp.out)
      have hy4 := Lib.hid (hy2.out.over hb4)
      obtain ⟨y0, y1, y2, y3, y4, y5⟩ := hx2.out.over hb hb4
      have hB4 := hB0.out.keep hk3 (by omega)
      obtain ⟨b0, b1, b2, b3, b4, b5⟩ := hB4.all
      have bl := hB4.lt
      have z2 := hk4.size
      clear hk3 hb4 hB4
      replace hp3 := Lib.hid hp3
      replace hk4 := Lib.hid hk4
      go_wp2_with fail
      (with_reducible refine (h2.out _ hp3.out hM4.out hy4.out).mono ?_)
      rintro e w3 ⟨rfl, hp5, hk5⟩
      have hk6 := Lib.hid (hk4.out.both hk5)
      replace hp5 := Lib.hid hp5
      clear hk5
      go_wp2_with fail
      go_ret
      exact ⟨_, rfl, fun _ => rfl, hp5.out, hk6.out⟩
  · rw [if_pos e1]
    have d1 : (r.n != 0) = false := by rw [hz1.out.1 e1]; rfl
    rw [d1] at hH
    replace hH := Lib.hid hH.out
    clear d1
    replace e1 := Lib.hid e1
    go_enter Tryz.func47, Tryz.ntmps47
    go_wp2_with fail
    (with_reducible refine (hH.out _ hp1.out hM1.out hy1.out).mono ?_)
    rintro e w2 ⟨rfl, hp3, hk3⟩
    have hk4 := hk1.out.both hk3
    have hb4 := hk4.belowB hBp hpl
    obtain ⟨y0, y1, y2, y3, y4, y5⟩ := hx3.out.over hb hb4
    have hB4 := hB0.out.keep hk3 (by omega)
    obtain ⟨b0, b1, b2, b3, b4, b5⟩ := hB4.all
    have bl := hB4.lt
    have z2 := hk4.size
    clear hk3 hb4 hB4
    replace hp3 := Lib.hid hp3
    replace hk4 := Lib.hid hk4
    go_wp2_with fail
    (with_reducible refine (hS.out _ _ _ _ _ hp3.out e1.out).mono ?_)
    rintro e w3 ⟨rfl, hp5, hk5⟩
    have hk6 := Lib.hid (hk4.out.both hk5)
    replace hp5 := Lib.hid hp5
    clear hk5
    go_wp2_with fail
    go_ret
    exact ⟨_, rfl, fun h => absurd h e1.out, hp5.out, hk6.out⟩
end
end Go.Proofs.YtcifljbcoioogaaGreatDoor
