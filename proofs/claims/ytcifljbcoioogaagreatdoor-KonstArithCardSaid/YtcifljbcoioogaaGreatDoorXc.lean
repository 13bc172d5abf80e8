/-
  Arithmetic of konst: the bits of a number as the document takes them, operators on bits, division and shifts as the document writes them. Nothing here is walked.
  The walks of konst's small functions: fail, truth, permits, unaryOf, the operators, literal.
  The names of konst: a map that reads as a list of names with their numbers; maps.Copy; With, Find, Len.
-/
import Derived.Test.YtcifljbcoioogaaGreatDoorXa
import Derived.Test.YtcifljbcoioogaaGreatDoorZa
import Derived.Test.YtcifljbcoioogaaGreatDoorBa
import Derived.BigQuiet
import Derived.Handy
import Derived.Maps.OwnSet
import Derived.Maps.RangeWalk
import Derived.Maps.Ext
namespace Go.Proofs.YtcifljbcoioogaaGreatDoor
open Go.RowKit Go.Lib
def bF (a : Int) (i : Nat) : Bool := decide ((a / 2 ^ i) % 2 = 1)
theorem bF_tb (a : Int) (i : Nat) (hi : i < 33) : bF a i = tb (BitVec.ofInt 33 a).toNat i := by
  unfold bF tb
  rw [BitVec.toNat_ofInt, Nat.testBit_eq_decide_div_mod_eq]
  have hM : (2 : Int) ^ 33 = 2 ^ i * (2 * 2 ^ (32 - i)) := by
    rw [← Int.pow_succ', ← Int.pow_add]; congr 1; omega
  have hp : (2 : Int) ^ i ≠ 0 := Int.ne_of_gt (Int.pow_pos (by decide))
  obtain ⟨r, hr⟩ : ∃ r, r = a % ((2 ^ 33 : Nat) : Int) := ⟨_, rfl⟩
  have h0 : 0 ≤ r := by rw [hr]; exact Int.emod_nonneg _ (by decide)
  have ha : a = r + 2 ^ i * (2 * (2 ^ (32 - i) * (a / ((2 ^ 33 : Nat) : Int)))) := by
    have := Int.emod_add_mul_ediv a ((2 ^ 33 : Nat) : Int)
    rw [← hr] at this
    rw [show ((2 ^ 33 : Nat) : Int) = 2 ^ 33 from rfl, hM] at this ⊢
    simp only [Int.mul_assoc] at this ⊢
    exact this.symm
  obtain ⟨K, hK⟩ : ∃ K, K = 2 ^ (32 - i) * (a / ((2 ^ 33 : Nat) : Int)) := ⟨_, rfl⟩
  rw [← hr]
  rw [← hK] at ha
  have e : a / 2 ^ i = r / 2 ^ i + 2 * K := by rw [ha, Int.add_mul_ediv_left _ _ hp]
  have e2 : ((r.toNat / 2 ^ i : Nat) : Int) = r / 2 ^ i := by
    rw [Int.natCast_ediv, Int.toNat_of_nonneg h0]
    rfl
  rw [e, ← e2]
  generalize r.toNat / 2 ^ i = m
  rw [decide_eq_decide]
  omega
/-- The number of 33 bits. -/
def nmF (f : Nat → Bool) : Int := (valB f 32 : Int) - (if f 32 then 4294967296 else 0)
theorem nmF_congr {f g : Nat → Bool} (h : ∀ j, j < 33 → f j = g j) : nmF f = nmF g := by
  unfold nmF
  rw [valB_congr 32 (fun j hj => h j (by omega)), h 32 (by decide)]
theorem nmF_bv (v : BitVec 33) : nmF (tb v.toNat) = v.toInt := by
  unfold nmF
  rw [valB_tb, BitVec.toInt_eq_toNat_cond]
  have h := v.isLt
  unfold tb
  rw [Nat.testBit_eq_decide_div_mod_eq]
  by_cases hc : 2 * v.toNat < 2 ^ 33
  · rw [if_pos hc, if_neg (by simp; omega)]; omega
  · rw [if_neg hc, if_pos (by simp; omega)]; omega
theorem nmF_not (f : Nat → Bool) : nmF (fun j => !f j) = -1 - nmF f := by
  have h := valB_not f 32
  unfold nmF
  generalize valB (fun j => !f j) 32 = x at h ⊢
  cases hf : f 32
  · simp only [hf, Bool.not_false, if_true, Bool.false_eq_true, if_false]; omega
  · simp only [hf, Bool.not_true, if_true, Bool.false_eq_true, if_false]; omega
theorem sx33 (a : Int) (h : InR a) : (BitVec.ofInt 33 a).signExtend 64 = BitVec.ofInt 64 a := by
  apply BitVec.eq_of_toInt_eq
  rw [BitVec.toInt_signExtend_of_le (by decide), BitVec.toInt_ofInt, BitVec.toInt_ofInt]
  unfold InR at h
  simp only [Int.bmod_def]
  omega
theorem bw_and (a b : Int) (ha : InR a) (hb : InR b) : nmF (fun j => bF a j && bF b j) = bw (· &&& ·) a b := by
  unfold bw
  rw [← sx33 a ha, ← sx33 b hb]
  simp only []
  rw [← BitVec.signExtend_and, BitVec.toInt_signExtend_of_le (by decide), ← nmF_bv]
  refine nmF_congr fun j hj => ?_
  rw [bF_tb a j hj, bF_tb b j hj]
  simp [tb, BitVec.toNat_and, Nat.testBit_and]
theorem bw_or (a b : Int) (ha : InR a) (hb : InR b) : nmF (fun j => bF a j || bF b j) = bw (· ||| ·) a b := by
  unfold bw
  rw [← sx33 a ha, ← sx33 b hb]
  simp only []
  rw [← BitVec.signExtend_or, BitVec.toInt_signExtend_of_le (by decide), ← nmF_bv]
  refine nmF_congr fun j hj => ?_
  rw [bF_tb a j hj, bF_tb b j hj]
  simp [tb, BitVec.toNat_or, Nat.testBit_or]
theorem bw_xor (a b : Int) (ha : InR a) (hb : InR b) : nmF (fun j => bF a j != bF b j) = bw (· ^^^ ·) a b := by
  unfold bw
  rw [← sx33 a ha, ← sx33 b hb]
  simp only []
  rw [← BitVec.signExtend_xor, BitVec.toInt_signExtend_of_le (by decide), ← nmF_bv]
  refine nmF_congr fun j hj => ?_
  rw [bF_tb a j hj, bF_tb b j hj]
  simp [tb, BitVec.toNat_xor, Nat.testBit_xor]
theorem bw_xnor (a b : Int) (ha : InR a) (hb : InR b) : nmF (fun j => bF a j == bF b j) = -1 - bw (· ^^^ ·) a b := by
  rw [← bw_xor a b ha hb, ← nmF_not]
  refine nmF_congr fun j _ => ?_
  cases bF a j <;> cases bF b j <;> rfl
theorem rem_eq (a b : Int) : a - a.tdiv b * b = a.tmod b := by
  have := Int.tmod_add_mul_tdiv a b
  rw [Int.mul_comm] at this
  omega
/-- Floor division by a power, as the document writes it. -/
theorem shr_eq (a p q : Int) (hp : 0 < p) (hq : q = a.tdiv p) : (if a < q * p then q - 1 else q) = a / p := by
  subst hq
  have h2 := Int.mul_ediv_add_emod a p
  have h3 := Int.emod_nonneg a (Int.ne_of_gt hp)
  have h4 := Int.emod_lt_of_pos a hp
  rw [Int.mul_comm] at h2
  rw [Int.tdiv_eq_ediv]
  split
  · rw [Int.add_zero, if_neg (by omega)]
  · rw [Int.sign_eq_one_of_pos hp, Int.add_mul, if_pos (by omega)]; omega
end Go.Proofs.YtcifljbcoioogaaGreatDoor
namespace Go.Proofs.YtcifljbcoioogaaGreatDoor
open Go.RowKit Go.Lib
abbrev pe (p : Nat) : Value := .pointer (some ⟨p, 0, none⟩)
/-- What a call on the evaluator leaves: a number, the evaluator's place and error, and nothing else changed. -/
def FP (p : Nat) (M : Value) (w : World) (n f l c e : Int) (x : Ending) (w' : World) : Prop := x = .returned (.int .i64 n) ∧ EVB w' p M f l c e ∧ Keep (· = p) w w'
/-- What a reading of an expression leaves. -/
def VP (p : Nat) (M : Value) (w : World) (r : KR) (x : Ending) (w' : World) : Prop := ∃ n, x = .returned (.int .i64 n) ∧ (r.e = 0 → n = r.n) ∧ EVB w' p M r.f r.l r.c r.e ∧ Keep (· = p) w w'
theorem EVB.alloc {w : World} {p : Nat} {M : Value} {f l c e : Int} (h : EVB w p M f l c e) (o : Obj) : EVB (w.alloc o) p M f l c e := h.over ((Below.refl _ w).alloc (Nat.le_refl _) o)
theorem Keep.alloc {F : Nat → Prop} {w w' : World} (h : Keep F w w') (o : Obj) : Keep F w (w'.alloc o) :=
  h.trans (Keep.of_below (F := fun _ => False) ((Below.refl _ w').alloc (Nat.le_refl _) o)) fun _ hx => hx.elim
theorem Keep.then_below {F : Nat → Prop} {a b c : World} (h : Keep F a b) (k : Below b.heap.size b c) : Keep F a c := h.trans (Keep.of_below (F := fun _ => False) k) fun _ hx => hx.elim
theorem Keep.both {F : Nat → Prop} {a b c : World} (h : Keep F a b) (k : Keep F b c) : Keep F a c := h.trans k fun _ hx => Or.inl hx
theorem BX.over {w w' : World} {g : Nat} {T : TypeId} {h : XH} {A : Option Addr} {n c : Nat} (x : BX w g T h A n c) (k : Below w.heap.size w w') : BX w' g T h A n c := (k.block g x.lt).trans x
theorem BX.alloc {w : World} {g : Nat} {T : TypeId} {h : XH} {A : Option Addr} {n c : Nat} (x : BX w g T h A n c) (o : Obj) : BX (w.alloc o) g T h A n c := x.over ((Below.refl _ w).alloc (Nat.le_refl _) o)
set_option maxRecDepth 100000 in
theorem fail_t (h : XH) (A : Option Addr) (n c : Nat) (e : Int) (p : Nat) (M : Value) (w : World) (hp : EVB w p M 0 0 0 0) :
    Calls Tryz.prog 33 #[pe p, xv h A n c, .int .i64 e] w (FP p M w 0 h.f h.l h.c e) := by
  obtain ⟨c0, c1, c2, c3, c4, fz⟩ := hp.all
  have hlt := hp.lt
  have hK := (hp.fail h.f h.l h.c e).alloc (.cells #[.int .i64 h.k, .int .i64 h.f, .int .i64 h.l, .int .i64 h.c, .string h.s, .slice A n c] 47)
  have hk1 := (((((Keep.refl (· = p) w).set ⟨p, 1, none⟩ rfl (.int .i64 h.f)).set ⟨p, 2, none⟩ rfl (.int .i64 h.l)).set ⟨p, 3, none⟩ rfl (.int .i64 h.c)).set ⟨p, 4, none⟩ rfl (.int .i64 e)).alloc (.cells #[.int .i64 h.k, .int .i64 h.f, .int .i64 h.l, .int .i64 h.c, .string h.s, .slice A n c] 47)
  replace hK := Lib.hid hK
  replace hk1 := Lib.hid hk1
  go_enter Tryz.func33, Tryz.ntmps33
  go_wp2
  go_ret
  exact ⟨rfl, hK.out, hk1.out⟩
theorem truth_t (b : Bool) (w : World) : Calls Tryz.prog 56 #[.bool b] w fun x w' => x = .returned (.int .i64 (ofB b)) ∧ w' = w := by
  cases b <;> (go_enter Tryz.func56, Tryz.ntmps56; go_wp2; go_ret; exact ⟨rfl, rfl⟩)
set_option maxRecDepth 100000 in
set_option maxHeartbeats 1600000 in
theorem literal_bad (h : XH) (A : Option Addr) (n c : Nat) (p : Nat) (M : Value) (w : World) (hp : EVB w p M 0 0 0 0) (hs : h.s.size ≤ maxLen) (a x : Nat) (sg sz : Bool) (e e2 : Int)
    (hP : paV h.s = ⟨a, x, sg, sz, e⟩) (he : e ≠ 0) (he2 : e2 = if e = 3 then 3 else 5) :
    Calls Tryz.prog 43 #[pe p, xv h A n c] w (FP p M w 0 h.f h.l h.c e2) := by
  have hPt := fun W => Parse_t h.s W hs
  rw [hP] at hPt
  have hPt2 : ∀ W, Calls Tryz.prog 52 #[.string h.s] W (RV W (.tuple #[lv a x sg sz, .int .i64 e])) := hPt
  clear hPt
  have hF := fun (W : World) (e : Int) (hb : EVB W p M 0 0 0 0) => fail_t h A n c e p M W hb
  have hB := BX.new w 47 h A n c
  have hp1 := hp.alloc (.cells #[.int .i64 h.k, .int .i64 h.f, .int .i64 h.l, .int .i64 h.c, .string h.s, .slice A n c] 47)
  have hk1 := (Keep.refl (· = p) w).alloc (.cells #[.int .i64 h.k, .int .i64 h.f, .int .i64 h.l, .int .i64 h.c, .string h.s, .slice A n c] 47)
  have d1 : (e == 0) = false := by simpa using he
  have d2 : decide (e = 0) = false := by simpa using he
  clear hP he
  unfold lv at hPt2
  replace hPt2 := Lib.hid hPt2
  replace hF := Lib.hid hF
  replace hB := Lib.hid hB
  replace hp1 := Lib.hid hp1
  replace hk1 := Lib.hid hk1
  replace hp := Lib.hid hp
  by_cases h3 : e = 3
  · rw [if_pos h3] at he2
    subst h3
    subst he2
    go_enter Tryz.func43, Tryz.ntmps43
    go_wp2_with fail
    (with_reducible refine (hPt2.out _).mono ?_)
    rintro e w1 ⟨rfl, hb1⟩
    obtain ⟨b0, b1, b2, b3, b4, b5⟩ := (hB.out.over hb1).all
    have bl := (hB.out.over hb1).lt
    have hp2 := Lib.hid (hp1.out.over hb1)
    have hk2 := Lib.hid (hk1.out.then_below hb1)
    clear hb1
    go_wp2_with fail
    (with_reducible refine (hF.out _ 3 (hp2.out.alloc _)).mono ?_)
    rintro e w2 ⟨rfl, hp3, hk3⟩
    have hk4 := Lib.hid ((hk2.out.alloc _).both hk3)
    clear hk3
    replace hp3 := Lib.hid hp3
    go_wp2_with fail
    go_ret
    exact ⟨rfl, hp3.out, hk4.out⟩
  · rw [if_neg h3] at he2
    subst he2
    have d3 : (e != 3) = true := by simpa using h3
    have d4 : (e == 3) = false := by simpa using h3
    have d5 : decide (e = 3) = false := by simpa using h3
    clear h3
    go_enter Tryz.func43, Tryz.ntmps43
    go_wp2_with fail
    (with_reducible refine (hPt2.out _).mono ?_)
    rintro e w1 ⟨rfl, hb1⟩
    obtain ⟨b0, b1, b2, b3, b4, b5⟩ := (hB.out.over hb1).all
    have bl := (hB.out.over hb1).lt
    have hp2 := Lib.hid (hp1.out.over hb1)
    have hk2 := Lib.hid (hk1.out.then_below hb1)
    clear hb1
    go_wp2_with fail
    (with_reducible refine (hF.out _ 5 (hp2.out.alloc _)).mono ?_)
    rintro e w2 ⟨rfl, hp3, hk3⟩
    have hk4 := Lib.hid ((hk2.out.alloc _).both hk3)
    clear hk3
    replace hp3 := Lib.hid hp3
    go_wp2_with fail
    go_ret
    exact ⟨rfl, hp3.out, hk4.out⟩
set_option maxRecDepth 100000 in
set_option maxHeartbeats 1600000 in
theorem literal_ok (h : XH) (A : Option Addr) (n c : Nat) (p : Nat) (M : Value) (w : World) (hp : EVB w p M 0 0 0 0) (hs : h.s.size ≤ maxLen) (a x : Nat) (sg sz : Bool)
    (hP : paV h.s = ⟨a, x, sg, sz, 0⟩) (ha : a ≤ 128) (hx : x < 2 ^ a) :
    Calls Tryz.prog 43 #[pe p, xv h A n c] w (VP p M w (if (inV a x sg).2 = 0 then okR (inV a x sg).1 else badR h (inV a x sg).2)) := by
  have hPt := fun W => Parse_t h.s W hs
  rw [hP] at hPt
  have hPt2 : ∀ W, Calls Tryz.prog 52 #[.string h.s] W (RV W (.tuple #[lv a x sg sz, .int .i64 0])) := hPt
  clear hPt
  have hI := fun W => Int_t a x sg sz W ha hx
  obtain ⟨m, hm⟩ : ∃ m, (inV a x sg).1 = m := ⟨_, rfl⟩
  obtain ⟨e, he⟩ : ∃ e, (inV a x sg).2 = e := ⟨_, rfl⟩
  rw [hm, he] at hI ⊢
  clear hm he hP
  have hF := fun (W : World) (e : Int) (hb : EVB W p M 0 0 0 0) => fail_t h A n c e p M W hb
  have hB := BX.new w 47 h A n c
  have hp1 := hp.alloc (.cells #[.int .i64 h.k, .int .i64 h.f, .int .i64 h.l, .int .i64 h.c, .string h.s, .slice A n c] 47)
  have hk1 := (Keep.refl (· = p) w).alloc (.cells #[.int .i64 h.k, .int .i64 h.f, .int .i64 h.l, .int .i64 h.c, .string h.s, .slice A n c] 47)
  unfold lv at hPt2 hI
  replace hPt2 := Lib.hid hPt2
  replace hI := Lib.hid hI
  replace hF := Lib.hid hF
  replace hB := Lib.hid hB
  replace hp1 := Lib.hid hp1
  replace hk1 := Lib.hid hk1
  replace hp := Lib.hid hp
  clear ha hx hs
  by_cases h0 : e = 0
  · rw [if_pos h0]
    subst h0
    go_enter Tryz.func43, Tryz.ntmps43
    go_wp2_with fail
    (with_reducible refine (hPt2.out _).mono ?_)
    rintro e w1 ⟨rfl, hb1⟩
    obtain ⟨b0, b1, b2, b3, b4, b5⟩ := (hB.out.over hb1).all
    have bl := (hB.out.over hb1).lt
    have hp2 := Lib.hid (hp1.out.over hb1)
    have hk2 := Lib.hid (hk1.out.then_below hb1)
    clear hb1
    go_wp2_with fail
    (with_reducible refine (hI.out _).mono ?_)
    rintro e w2 ⟨rfl, hb2⟩
    have hp3 := Lib.hid ((hp2.out.alloc _).over hb2)
    have hk3 := Lib.hid ((hk2.out.alloc _).then_below hb2)
    clear hb2
    go_wp2_with fail
    go_ret
    exact ⟨_, rfl, fun _ => rfl, hp3.out, hk3.out⟩
  · rw [if_neg h0]
    have d1 : (e == 0) = false := by simpa using h0
    have d2 : (e != 0) = true := by simpa using h0
    have d3 : decide (e = 0) = false := by simpa using h0
    replace h0 := Lib.hid h0
    go_enter Tryz.func43, Tryz.ntmps43
    go_wp2_with fail
    (with_reducible refine (hPt2.out _).mono ?_)
    rintro e w1 ⟨rfl, hb1⟩
    obtain ⟨b0, b1, b2, b3, b4, b5⟩ := (hB.out.over hb1).all
    have bl := (hB.out.over hb1).lt
    have hB1 := Lib.hid (hB.out.over hb1)
    have hp2 := Lib.hid (hp1.out.over hb1)
    have hk2 := Lib.hid (hk1.out.then_below hb1)
    clear hb1
    go_wp2_with fail
    (with_reducible refine (hI.out _).mono ?_)
    rintro e w2 ⟨rfl, hb2⟩
    have hp3 := Lib.hid ((hp2.out.alloc _).over hb2)
    have hk3 := Lib.hid ((hk2.out.alloc _).then_below hb2)
    have hB2 := (hB1.out.alloc _).over hb2
    obtain ⟨e0, e1, e2, e3, e4, e5⟩ := hB2.all
    have el := hB2.lt
    clear hb2 hB2
    go_wp2_with fail
    (with_reducible refine (hF.out _ _ hp3.out).mono ?_)
    rintro e w3 ⟨rfl, hp4, hk4⟩
    have hk5 := Lib.hid (hk3.out.both hk4)
    clear hk4
    replace hp4 := Lib.hid hp4
    go_wp2_with fail
    go_ret
    exact ⟨_, rfl, fun h => absurd h h0.out, hp4.out, hk5.out⟩
theorem FP.bad {p : Nat} {M : Value} {w : World} {h : XH} {e : Int} (he : e ≠ 0) {x : Ending} {w' : World} (hf : FP p M w 0 h.f h.l h.c e x w') : VP p M w (badR h e) x w' :=
  ⟨0, hf.1, fun h0 => absurd h0 he, hf.2.1, hf.2.2⟩
theorem literal_t (h : XH) (A : Option Addr) (n c : Nat) (p : Nat) (M : Value) (w : World) (hp : EVB w p M 0 0 0 0) (hs : h.s.size ≤ maxLen) (hok : (paV h.s).e = 0 → (paV h.s).n ≤ 128 ∧ (paV h.s).x < 2 ^ (paV h.s).n) :
    Calls Tryz.prog 43 #[pe p, xv h A n c] w (VP p M w (litR h)) := by
  unfold litR
  obtain ⟨a, x, sg, sz, e, hP⟩ : ∃ a x sg sz e, paV h.s = ⟨a, x, sg, sz, e⟩ := ⟨_, _, _, _, _, rfl⟩
  rw [hP] at hok ⊢
  by_cases h0 : e = 0
  · subst h0
    rw [if_pos rfl]
    exact literal_ok h A n c p M w hp hs a x sg sz hP (hok rfl).1 (hok rfl).2
  · rw [if_neg h0]
    have hb := literal_bad h A n c p M w hp hs a x sg sz e _ hP h0 rfl
    by_cases h3 : e = 3
    · rw [if_pos h3] at hb ⊢
      exact hb.mono fun _ _ hf => hf.bad (by decide)
    · rw [if_neg h3] at hb ⊢
      exact hb.mono fun _ _ hf => hf.bad (by decide)
end Go.Proofs.YtcifljbcoioogaaGreatDoor
namespace Go.Proofs.YtcifljbcoioogaaGreatDoor
open Go.RowKit Go.Lib Go.Maps
abbrev DU := DataW Unit
def putL (D : DU) (x : List UInt8 × Int) : DU := D.put (.string x.1) (.lit (.int .i64 x.2))
/-- The names with their numbers, in the order in which they were given, as a map. -/
def DM (es : List (List UInt8 × Int)) : DU := es.foldl putL (.map [])
def stepE (env : List UInt8 → Option Int) (x : List UInt8 × Int) : List UInt8 → Option Int := fun s => if s = x.1 then some x.2 else env s
def envL (es : List (List UInt8 × Int)) : List UInt8 → Option Int := es.foldl stepE (fun _ => none)
def AgE (D : DU) (env : List UInt8 → Option Int) : Prop := IsMap D ∧ ∀ s, Maps.has D (.string s) = (env s).isSome ∧ ∀ n z, env s = some n → D.atKey (.string s) z = .lit (.int .i64 n)
theorem AgE.put {D : DU} {env : List UInt8 → Option Int} (h : AgE D env) (x : List UInt8 × Int) : AgE (putL D x) (stepE env x) := by
  refine ⟨h.1.put _ _, fun s => ?_⟩
  unfold putL stepE
  by_cases e : s = x.1
  · subst e
    rw [if_pos rfl]
    exact ⟨has_put_same h.1 (by exact trivial) _, fun n z hn => by cases hn; exact atKey_put_same h.1 (by exact trivial) _ _⟩
  · rw [if_neg e]
    have hne : Lit.string s ≠ Lit.string x.1 := fun h' => e (by injection h')
    refine ⟨by rw [has_put_other hne]; exact (h.2 s).1, fun n z hn => ?_⟩
    rw [atKey_put_other hne]
    exact (h.2 s).2 n z hn
theorem AgE.fold : ∀ (es : List (List UInt8 × Int)) {D : DU} {env : List UInt8 → Option Int}, AgE D env → AgE (es.foldl putL D) (es.foldl stepE env)
  | [], _, _, h => h
  | x :: es, _, _, h => AgE.fold es (h.put x)
theorem DM_ag (es : List (List UInt8 × Int)) : AgE (DM es) (envL es) := AgE.fold es ⟨isMap_empty, fun _ => ⟨rfl, fun _ _ h => by cases h⟩⟩
theorem DM_snoc (es : List (List UInt8 × Int)) (x : List UInt8 × Int) : DM (es ++ [x]) = putL (DM es) x := by unfold DM; rw [List.foldl_append]; rfl
theorem kS : Keyed Tryz.prog 9 := string_keyed Tryz.underlying9
theorem zI (w : World) : (zeroValue 3).run Tryz.prog w = .ok (.int .i64 0) w := by kernel_rfl
/-- Block m is a map that reads as D. -/
abbrev MapIs (w : World) (m n : Nat) (D : DU) : Prop := w.ownsMap Tryz.prog 9 (plainElem (H := Unit) Tryz.prog 3) m n D
/-- The map of an Env. -/
def EnvIs (w : World) (M : Value) (es : List (List UInt8 × Int)) : Prop := (M = .map none ∧ es = []) ∨ ∃ m n, M = .map (some m) ∧ MapIs w m n (DM es) ∧ n ≤ 1000 * es.length
theorem MapIs.keep {w w' : World} {F : Nat → Prop} {m n : Nat} {D : DU} (h : MapIs w m n D) (k : Keep F w w') (hm : ¬ F m) : MapIs w' m n D := by
  unfold MapIs World.ownsMap at *
  rw [k.block m (by obtain ⟨es, c, e, _⟩ := h; exact lt_of_get e) hm]
  exact h
/-- THE RANGE's STEP, keys that are strings, integers as elements. -/
theorem next_si {w : World} {ops : Array Oper} {rest : List Oper} {o : Oper} {a : Act} {Q : Exit → Act → World → Prop}
    (hg : o.guard = none) (it : Operand) (hop : o.op = Op.next it false)
    (b r n : Nat) (D : DU) (left : Lit → Bool) (cnt : Nat) (hit : a.eval it = .pointer (some ⟨r, 0, none⟩)) (h : w.ranges Tryz.prog 9 (plainElem (H := Unit) Tryz.prog 3) b r n D left cnt)
    (hDone : cnt = 0 → (∀ kl, left kl = false) → wpList Tryz.prog ops Q rest (a.put o.dst (.tuple #[.bool false])) w)
    (hMore : ∀ (x : ByteArray) (c : Int) (w' : World) (cnt' : Nat), x.size ≤ maxLen → (Lit.int .i64 c).wf = true → left (.string x.data.toList) = true → (∀ zd, D.atKey (.string x.data.toList) zd = .lit (.int .i64 c)) → w'.ranges Tryz.prog 9 (plainElem (H := Unit) Tryz.prog 3) b r n D (fun z => left z && !z.sameKey (.string x.data.toList)) cnt' → cnt' < cnt →
      w.grownBy w' (some r) → w'.heap.size = w.heap.size → (Instr.entry (.pointer (some ⟨r, 0, none⟩))).run Tryz.prog w' = .ok (.tuple #[.string x, .int .i64 c]) w' → wpList Tryz.prog ops Q rest (a.put o.dst (.tuple #[.bool true, .string x, .int .i64 c])) w') :
    wpList Tryz.prog ops Q (o :: rest) a w :=
  wpList_next_ranges w hg it hop 9 kS (plainElem Tryz.prog 3) Value.string (Value.int .i64) (fun key kl hkey => by obtain ⟨x, rfl, _⟩ := WideMaps.string_of_keyOf Tryz.underlying9 hkey; exact ⟨x, rfl⟩) (fun v y hv => by obtain ⟨c, rfl, _⟩ := plainElem_int_inv Tryz.underlying3 hv; exact ⟨c, rfl⟩)
    b r n D left cnt hit h hDone (fun x c kl y w' cnt' hkey hlk hv hat hrg hlt hgr hsz hen => by
      obtain ⟨x', ex, rfl, hwx⟩ := WideMaps.string_of_keyOf Tryz.underlying9 hkey
      cases ex
      obtain ⟨c', ec, rfl, hwc⟩ := plainElem_int_inv Tryz.underlying3 hv
      cases ec
      exact hMore x c w' cnt' hwx hwc hlk hat hrg hlt hgr hsz hen)
set_option maxRecDepth 100000 in
set_option maxHeartbeats 1600000 in
theorem Copy_some (b n d n0 : Nat) (D0 : DU) (w : World) (hown : MapIs w b n D0) (hdst : MapIs w d n0 (.map [])) (hbd : b ≠ d) (hmax : n0 + Maps.size D0 < maxLen) :
    Calls Tryz.prog 31 #[.map (some d), .map (some b)] w fun e w' => e = .returned (.tuple #[]) ∧ MapIs w' d (n0 + Maps.size D0) D0 ∧ w.grownBy w' (some d) := by
  have hbl := hown.lt
  have hdl := hdst.lt
  go_enter Tryz.func31, Tryz.ntmps31
  go_wp2_with (first
    | (at_range; refine wpList_range_own _ rfl _ 37 rfl 9 3 kS Tryz.underlying37 _ b n _ rfl hown ?_; intro w0 hrg0 hg0 hs0)
    | fail)
  go_frame
  go_loopw [4] (fun _ wr => ∃ (left : Lit → Bool) (cnt : Nat) (Dout : DU), wr.ranges Tryz.prog 9 (plainElem (H := Unit) Tryz.prog 3) b w.heap.size n D0 left cnt ∧ cnt ≤ Maps.size D0 ∧
      MapIs wr d (n0 + (Maps.size D0 - cnt)) Dout ∧ Agree Dout D0 left ∧ w.grownBy wr (some d))
    (fun _ wr => wr.rangeLeft b w.heap.size)
  case atStart =>
    exact ⟨_, _, .map [], hrg0, Nat.le_refl _, (hdst.kept hg0 (by simp)).mono (Nat.le_add_right _ _), agree_start D0, hg0.but _⟩
  case round =>
    obtain ⟨left, cnt, Dout, hrg, hcs, hout, hA, hnx⟩ := hrel
    go_wp2_with (first
      | (at_next; refine next_si rfl _ rfl b w.heap.size n _ _ _ rfl hrg ?_ ?_)
      | fail)
    · intro hc0 hl0
      go_wp2_with fail
      subst hc0
      have e := agree_end hA hl0 (hout.canon kS) (hown.canon kS)
      subst e
      refine bodyPost_end (v := .tuple #[]) (by simp [results, Tryz.results31, go_sem]) rfl ⟨rfl, by simpa using hout, hnx⟩
    · intro x c w1 cnt1 hwx hwc hlx hat hrg1 hlt hg1 hs1 hen
      have hout1 := hout.kept hg1 (fun e => by have := Option.some.inj e; omega)
      go_wp2_with (first
        | (at_mapUpdate; refine wpList_mapUpdate_own _ rfl _ _ _ 37 rfl 9 3 kS Tryz.underlying37 _ d _ _ rfl hout1 (by omega) _ _ _ rfl rfl (WideMaps.keyOf_string_mk Tryz.underlying9 hwx) _ [] (plainElem_int Tryz.underlying3 hwc) ?_; intro w2 hout2 hg2; go_frame)
        | fail)
      have hrg2 := hrg1.kept hg2 (fun e => by have := Option.some.inj e; omega) (fun e => by have := Option.some.inj e; omega)
      go_roundw
      case rel =>
        exact ⟨_, cnt1, _, hrg2, by omega, hout2.mono (by omega), agree_step hA hout.isMap trivial hat,
          (hnx.andThen hg1 (fun j hj => Or.inl (by cases hj; exact Nat.le_refl _))).andThen hg2 (fun j hj => Or.inr (by rw [← hj]))⟩
      case measure => rw [hrg2.left_eq, hrg.left_eq]; exact hlt
end Go.Proofs.YtcifljbcoioogaaGreatDoor
