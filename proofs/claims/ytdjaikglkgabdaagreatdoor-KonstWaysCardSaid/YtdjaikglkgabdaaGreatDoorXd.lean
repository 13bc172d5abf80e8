/-
  The walks of konst's small functions: fail, truth, permits, unaryOf, the operators, literal.
-/
import Derived.Test.YtdjaikglkgabdaaGreatDoorXa
import Derived.Test.YtdjaikglkgabdaaGreatDoorXc
import Derived.BigQuiet
import Derived.Handy
namespace Go.Proofs.YtdjaikglkgabdaaGreatDoor
open Go.RowKit Go.Lib
abbrev pe (p : Nat) : Value := .pointer (some ⟨p, 0, none⟩)
/-- What a call on the evaluator leaves: a number, the evaluator's place and error, and nothing else changed. -/
def FP (p : Nat) (M : Value) (w : World) (n f l c e : Int) (x : Ending) (w' : World) : Prop := x = .returned (.int .i64 n) ∧ EVB w' p M f l c e ∧ Keep (· = p) w w'
/-- What a reading of an expression leaves. -/
def VP (p : Nat) (M : Value) (w : World) (r : KR) (x : Ending) (w' : World) : Prop := ∃ n, x = .returned (.int .i64 n) ∧ (r.e = 0 → n = r.n) ∧ EVB w' p M r.f r.l r.c r.e ∧ Keep (· = p) w w'
theorem EVB.alloc {w : World} {p : Nat} {M : Value} {f l c e : Int} (h : EVB w p M f l c e) (o : Obj) : EVB (w.alloc o) p M f l c e := h.over ((Below.refl _ w).alloc (Nat.le_refl _) o)
theorem Keep.alloc {F : Nat → Prop} {w w' : World} (h : Keep F w w') (o : Obj) : Keep F w (w'.alloc o) :=
  h.trans (Keep.of_below (F := fun _ => False) ((Below.refl _ w').alloc (Nat.le_refl _) o)) fun _ hx => hx.elim
theorem Keep.then_below {F : Nat → Prop} {a b c : World} (h : Keep F a b) (k : Below b.heap.size b c) : Keep F a c := h.trans (Keep.of_below (F := fun _ => False) k) fun _ hx => hx.elim
theorem Keep.both {F : Nat → Prop} {a b c : World} (h : Keep F a b) (k : Keep F b c) : Keep F a c := h.trans k fun _ hx => Or.inl hx
theorem BX.over {w w' : World} {g : Nat} {T : TypeId} {h : XH} {A : Option Addr} {n c : Nat} (x : BX w g T h A n c) (k : Below w.heap.size w w') : BX w' g T h A n c := (k.block g x.lt).trans x
theorem BX.alloc {w : World} {g : Nat} {T : TypeId} {h : XH} {A : Option Addr} {n c : Nat} (x : BX w g T h A n c) (o : Obj) : BX (w.alloc o) g T h A n c := x.over ((Below.refl _ w).alloc (Nat.le_refl _) o)
set_option maxRecDepth 100000 in
theorem fail_t (h : XH) (A : Option Addr) (n c : Nat) (e : Int) (p : Nat) (M : Value) (w : World) (hp : EVB w p M 0 0 0 0) :
    Calls Tryz.prog 38 #[pe p, xv h A n c, .int .i64 e] w (FP p M w 0 h.f h.l h.c e) := by
  obtain ⟨c0, c1, c2, c3, c4, fz⟩ := hp.all
  have hlt := hp.lt
  have hK := (hp.fail h.f h.l h.c e).alloc (.cells #[.int .i64 h.k, .int .i64 h.f, .int .i64 h.l, .int .i64 h.c, .string h.s, .slice A n c] 36)
  have hk1 := (((((Keep.refl (· = p) w).set ⟨p, 1, none⟩ rfl (.int .i64 h.f)).set ⟨p, 2, none⟩ rfl (.int .i64 h.l)).set ⟨p, 3, none⟩ rfl (.int .i64 h.c)).set ⟨p, 4, none⟩ rfl (.int .i64 e)).alloc (.cells #[.int .i64 h.k, .int .i64 h.f, .int .i64 h.l, .int .i64 h.c, .string h.s, .slice A n c] 36)
  replace hK := Lib.hid hK
  replace hk1 := Lib.hid hk1
  go_enter Tryz.func38, Tryz.ntmps38
  go_wp2
  go_ret
  exact ⟨rfl, hK.out, hk1.out⟩
theorem truth_t (b : Bool) (w : World) : Calls Tryz.prog 60 #[.bool b] w fun x w' => x = .returned (.int .i64 (ofB b)) ∧ w' = w := by
  cases b <;> (go_enter Tryz.func60, Tryz.ntmps60; go_wp2; go_ret; exact ⟨rfl, rfl⟩)
set_option maxRecDepth 100000 in
set_option maxHeartbeats 1600000 in
theorem literal_bad (h : XH) (A : Option Addr) (n c : Nat) (p : Nat) (M : Value) (w : World) (hp : EVB w p M 0 0 0 0) (hs : h.s.size ≤ maxLen) (a x : Nat) (sg sz : Bool) (e e2 : Int)
    (hP : paV h.s = ⟨a, x, sg, sz, e⟩) (he : e ≠ 0) (he2 : e2 = if e = 3 then 3 else 5) :
    Calls Tryz.prog 48 #[pe p, xv h A n c] w (FP p M w 0 h.f h.l h.c e2) := by
  have hPt := fun W => Parse_t h.s W hs
  rw [hP] at hPt
  have hPt2 : ∀ W, Calls Tryz.prog 57 #[.string h.s] W (RV W (.tuple #[lv a x sg sz, .int .i64 e])) := hPt
  clear hPt
  have hF := fun (W : World) (e : Int) (hb : EVB W p M 0 0 0 0) => fail_t h A n c e p M W hb
  have hB := BX.new w 36 h A n c
  have hp1 := hp.alloc (.cells #[.int .i64 h.k, .int .i64 h.f, .int .i64 h.l, .int .i64 h.c, .string h.s, .slice A n c] 36)
  have hk1 := (Keep.refl (· = p) w).alloc (.cells #[.int .i64 h.k, .int .i64 h.f, .int .i64 h.l, .int .i64 h.c, .string h.s, .slice A n c] 36)
  have d1 : (e == 0) = false := by simpa using he
  have d2 : decide (e = 0) = false := by simpa using he
  clear hP he
  unfold lv at hPt2
  replace hPt2 := Lib.hid hPt2
  replace hF := Lib.hid hF
  replace hB := Lib.hid hB
  replace hp1 := Lib.hid hp1
  replace hk1 := Lib.hid hk1
  replace hp := Lib.hid hp
  by_cases h3 : e = 3
  · rw [if_pos h3] at he2
    subst h3
    subst he2
    go_enter Tryz.func48, Tryz.ntmps48
    go_wp2_with fail
    (with_reducible refine (hPt2.out _).mono ?_)
    rintro e w1 ⟨rfl, hb1⟩
    obtain ⟨b0, b1, b2, b3, b4, b5⟩ := (hB.out.over hb1).all
    have bl := (hB.out.over hb1).lt
    have hp2 := Lib.hid (hp1.out.over hb1)
    have hk2 := Lib.hid (hk1.out.then_below hb1)
    clear hb1
    go_wp2_with fail
    (with_reducible refine (hF.out _ 3 (hp2.out.alloc _)).mono ?_)
    rintro e w2 ⟨rfl, hp3, hk3⟩
    have hk4 := Lib.hid ((hk2.out.alloc _).both hk3)
    clear hk3
    replace hp3 := Lib.hid hp3
    go_wp2_with fail
    go_ret
    exact ⟨rfl, hp3.out, hk4.out⟩
  · rw [if_neg h3] at he2
    subst he2
    have d3 : (e != 3) = true := by simpa using h3
    have d4 : (e == 3) = false := by simpa using h3
    have d5 : decide (e = 3) = false := by simpa using h3
    clear h3
    go_enter Tryz.func48, Tryz.ntmps48
    go_wp2_with fail
    (with_reducible refine (hPt2.out _).mono ?_)
    rintro e w1 ⟨rfl, hb1⟩
    obtain ⟨b0, b1, b2, b3, b4, b5⟩ := (hB.out.over hb1).all
    have bl := (hB.out.over hb1).lt
    have hp2 := Lib.hid (hp1.out.over hb1)
    have hk2 := Lib.hid (hk1.out.then_below hb1)
    clear hb1
    go_wp2_with fail
    (with_reducible refine (hF.out _ 5 (hp2.out.alloc _)).mono ?_)
    rintro e w2 ⟨rfl, hp3, hk3⟩
    have hk4 := Lib.hid ((hk2.out.alloc _).both hk3)
    clear hk3
    replace hp3 := Lib.hid hp3
    go_wp2_with fail
    go_ret
    exact ⟨rfl, hp3.out, hk4.out⟩
set_option maxRecDepth 100000 in
set_option maxHeartbeats 1600000 in
theorem literal_ok (h : XH) (A : Option Addr) (n c : Nat) (p : Nat) (M : Value) (w : World) (hp : EVB w p M 0 0 0 0) (hs : h.s.size ≤ maxLen) (a x : Nat) (sg sz : Bool)
    (hP : paV h.s = ⟨a, x, sg, sz, 0⟩) (ha : a ≤ 128) (hx : x < 2 ^ a) :
    Calls Tryz.prog 48 #[pe p, xv h A n c] w (VP p M w (if (inV a x sg).2 = 0 then okR (inV a x sg).1 else badR h (inV a x sg).2)) := by
  have hPt := fun W => Parse_t h.s W hs
  rw [hP] at hPt
  have hPt2 : ∀ W, Calls Tryz.prog 57 #[.string h.s] W (RV W (.tuple #[lv a x sg sz, .int .i64 0])) := hPt
  clear hPt
  have hI := fun W => Int_t a x sg sz W ha hx
  obtain ⟨m, hm⟩ : ∃ m, (inV a x sg).1 = m := ⟨_, rfl⟩
  obtain ⟨e, he⟩ : ∃ e, (inV a x sg).2 = e := ⟨_, rfl⟩
  rw [hm, he] at hI ⊢
  clear hm he hP
  have hF := fun (W : World) (e : Int) (hb : EVB W p M 0 0 0 0) => fail_t h A n c e p M W hb
  have hB := BX.new w 36 h A n c
  have hp1 := hp.alloc (.cells #[.int .i64 h.k, .int .i64 h.f, .int .i64 h.l, .int .i64 h.c, .string h.s, .slice A n c] 36)
  have hk1 := (Keep.refl (· = p) w).alloc (.cells #[.int .i64 h.k, .int .i64 h.f, .int .i64 h.l, .int .i64 h.c, .string h.s, .slice A n c] 36)
  unfold lv at hPt2 hI
  replace hPt2 := Lib.hid hPt2
  replace hI := Lib.hid hI
  replace hF := Lib.hid hF
  replace hB := Lib.hid hB
  replace hp1 := Lib.hid hp1
  replace hk1 := Lib.hid hk1
  replace hp := Lib.hid hp
  clear ha hx hs
  by_cases h0 : e = 0
  · rw [if_pos h0]
    subst h0
    go_enter Tryz.func48, Tryz.ntmps48
    go_wp2_with fail
    (with_reducible refine (hPt2.out _).mono ?_)
    rintro e w1 ⟨rfl, hb1⟩
    obtain ⟨b0, b1, b2, b3, b4, b5⟩ := (hB.out.over hb1).all
    have bl := (hB.out.over hb1).lt
    have hp2 := Lib.hid (hp1.out.over hb1)
    have hk2 := Lib.hid (hk1.out.then_below hb1)
    clear hb1
    go_wp2_with fail
    (with_reducible refine (hI.out _).mono ?_)
    rintro e w2 ⟨rfl, hb2⟩
    have hp3 := Lib.hid ((hp2.out.alloc _).over hb2)
    have hk3 := Lib.hid ((hk2.out.alloc _).then_below hb2)
    clear hb2
    go_wp2_with fail
    go_ret
    exact ⟨_, rfl, fun _ => rfl, hp3.out, hk3.out⟩
  · rw [if_neg h0]
    have d1 : (e == 0) = false := by simpa using h0
    have d2 : (e != 0) = true := by simpa using h0
    have d3 : decide (e = 0) = false := by simpa using h0
    replace h0 := Lib.hid h0
    go_enter Tryz.func48, Tryz.ntmps48
    go_wp2_with fail
    (with_reducible refine (hPt2.out _).mono ?_)
    rintro e w1 ⟨rfl, hb1⟩
    obtain ⟨b0, b1, b2, b3, b4, b5⟩ := (hB.out.over hb1).all
    have bl := (hB.out.over hb1).lt
    have hB1 := Lib.hid (hB.out.over hb1)
    have hp2 := Lib.hid (hp1.out.over hb1)
    have hk2 := Lib.hid (hk1.out.then_below hb1)
    clear hb1
    go_wp2_with fail
    (with_reducible refine (hI.out _).mono ?_)
    rintro e w2 ⟨rfl, hb2⟩
    have hp3 := Lib.hid ((hp2.out.alloc _).over hb2)
    have hk3 := Lib.hid ((hk2.out.alloc _).then_below hb2)
    have hB2 := (hB1.out.alloc _).over hb2
    obtain ⟨e0, e1, e2, e3, e4, e5⟩ := hB2.all
    have el := hB2.lt
    clear hb2 hB2
    go_wp2_with fail
    (with_reducible refine (hF.out _ _ hp3.out).mono ?_)
    rintro e w3 ⟨rfl, hp4, hk4⟩
    have hk5 := Lib.hid (hk3.out.both hk4)
    clear hk4
    replace hp4 := Lib.hid hp4
    go_wp2_with fail
    go_ret
    exact ⟨_, rfl, fun h => absurd h h0.out, hp4.out, hk5.out⟩
theorem FP.bad {p : Nat} {M : Value} {w : World} {h : XH} {e : Int} (he : e ≠ 0) {x : Ending} {w' : World} (hf : FP p M w 0 h.f h.l h.c e x w') : VP p M w (badR h e) x w' :=
  ⟨0, hf.1, fun h0 => absurd h0 he, hf.2.1, hf.2.2⟩
theorem literal_t (h : XH) (A : Option Addr) (n c : Nat) (p : Nat) (M : Value) (w : World) (hp : EVB w p M 0 0 0 0) (hs : h.s.size ≤ maxLen) (hok : (paV h.s).e = 0 → (paV h.s).n ≤ 128 ∧ (paV h.s).x < 2 ^ (paV h.s).n) :
    Calls Tryz.prog 48 #[pe p, xv h A n c] w (VP p M w (litR h)) := by
  unfold litR
  obtain ⟨a, x, sg, sz, e, hP⟩ : ∃ a x sg sz e, paV h.s = ⟨a, x, sg, sz, e⟩ := ⟨_, _, _, _, _, rfl⟩
  rw [hP] at hok ⊢
  by_cases h0 : e = 0
  · subst h0
    rw [if_pos rfl]
    exact literal_ok h A n c p M w hp hs a x sg sz hP (hok rfl).1 (hok rfl).2
  · rw [if_neg h0]
    have hb := literal_bad h A n c p M w hp hs a x sg sz e _ hP h0 rfl
    by_cases h3 : e = 3
    · rw [if_pos h3] at hb ⊢
      exact hb.mono fun _ _ hf => hf.bad (by decide)
    · rw [if_neg h3] at hb ⊢
      exact hb.mono fun _ _ hf => hf.bad (by decide)
end Go.Proofs.YtdjaikglkgabdaaGreatDoor
