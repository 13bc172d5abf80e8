/-
  Plain mathematics of konst: expressions of at most three operands as trees, and what Eval says of one: its number, or the first error with its place.
  How an expression lies in memory: six cells (the kind, the place, the text, the operands); the evaluator's block; what a call may change.
-/
import Derived.Test.YtcifljbcoioogaaGreatDoorFa
import Derived.Test.YtcifljbcoioogaaGreatDoorGa
import Derived.Test.YtcifljbcoioogaaGreatDoorRows
import Derived.WalkKit
import Derived.Below
import Derived.Lib.Hide
namespace Go.Proofs.YtcifljbcoioogaaGreatDoor
open Go.RowKit Go.Lib
structure XH where
  k : Int
  f : Int
  l : Int
  c : Int
  s : ByteArray
inductive XT where
  | z (h : XH)
  | u (h : XH) (a : XT)
  | b (h : XH) (a b : XT)
  | t (h : XH) (a b c : XT)
def XT.h : XT → XH
  | .z h => h
  | .u h _ => h
  | .b h _ _ => h
  | .t h _ _ _ => h
def XT.args : XT → List XT
  | .z _ => []
  | .u _ p => [p]
  | .b _ p q => [p, q]
  | .t _ p q r => [p, q, r]
def XT.dep : XT → Nat
  | .z _ => 0
  | .u _ p => p.dep + 1
  | .b _ p q => max p.dep q.dep + 1
  | .t _ p q r => max p.dep (max q.dep r.dep) + 1
/-- A number, or the place of an error. -/
structure KR where
  n : Int
  f : Int
  l : Int
  c : Int
  e : Int
def okR (n : Int) : KR := ⟨n, 0, 0, 0, 0⟩
def badR (h : XH) (e : Int) : KR := ⟨0, h.f, h.l, h.c, e⟩
def chk (h : XH) (r : KR) : KR := if r.e ≠ 0 then r else if r.n < -2147483648 ∨ 2147483647 < r.n then badR h 3 else r
def ofB (b : Bool) : Int := if b then 1 else 0
abbrev bw (f : BitVec 64 → BitVec 64 → BitVec 64) (a b : Int) : Int := (f (BitVec.ofInt 64 a) (BitVec.ofInt 64 b)).toInt
/-- The operators of two. -/
def opV : List UInt8 → Int → Int → Int
  | [43], a, b => a + b
  | [45], a, b => a - b
  | [42], a, b => a * b
  | [47], a, b => a.tdiv b
  | [37], a, b => a.tmod b
  | [38], a, b => bw (· &&& ·) a b
  | [124], a, b => bw (· ||| ·) a b
  | [94], a, b => bw (· ^^^ ·) a b
  | [126, 94], a, b => -1 - bw (· ^^^ ·) a b
  | [60, 60], a, b => a * 2 ^ b.toNat
  | [60, 60, 60], a, b => a * 2 ^ b.toNat
  | [62, 62], a, b => a / 2 ^ b.toNat
  | [62, 62, 62], a, b => a / 2 ^ b.toNat
  | [60], a, b => ofB (decide (a < b))
  | [60, 61], a, b => ofB (decide (a ≤ b))
  | [62], a, b => ofB (decide (b < a))
  | [62, 61], a, b => ofB (decide (b ≤ a))
  | [61, 61], a, b => ofB (decide (a = b))
  | [33, 61], a, b => ofB (decide (a ≠ b))
  | _, _, _ => 0
def pmt : List UInt8 → Int → Bool
  | [47], b => decide (b ≠ 0)
  | [37], b => decide (b ≠ 0)
  | [60, 60], b => decide (0 ≤ b ∧ b ≤ 31)
  | [60, 60, 60], b => decide (0 ≤ b ∧ b ≤ 31)
  | [62, 62], b => decide (0 ≤ b ∧ b ≤ 31)
  | [62, 62, 62], b => decide (0 ≤ b ∧ b ≤ 31)
  | _, _ => true
def unV : List UInt8 → Int → Int
  | [45], n => -n
  | [126], n => -1 - n
  | _, n => ofB (decide (n = 0))
def isUn (s : List UInt8) : Bool := s == [45] || s == [126] || s == [33]
def un9 : List (List UInt8) := [[45], [126], [33], [38], [124], [94], [126, 38], [126, 124], [126, 94]]
/-- The operators of two that evaluate both, and the two that don't. -/
def bin19 : List (List UInt8) := [[43], [45], [42], [47], [37], [38], [124], [94], [126, 94], [60, 60], [62, 62], [60, 60, 60], [62, 62, 62], [60], [60, 61], [62], [62, 61], [61, 61], [33, 61]]
def litR (h : XH) : KR :=
  if (paV h.s).e = 0 then
    if (inV (paV h.s).n (paV h.s).x (paV h.s).sg).2 = 0 then okR (inV (paV h.s).n (paV h.s).x (paV h.s).sg).1 else badR h (inV (paV h.s).n (paV h.s).x (paV h.s).sg).2
  else if (paV h.s).e = 3 then badR h 3 else badR h 5
def namR (env : ByteArray → Option Int) (h : XH) : KR :=
  match env h.s with
  | some n => okR n
  | none => badR h 9
def rawZ (env : ByteArray → Option Int) (h : XH) : KR := if h.k = 1 then litR h else namR env h
def rawU (h : XH) (x : KR) : KR := if h.k = 3 then (if isUn h.s.toList then (if x.e ≠ 0 then x else okR (unV h.s.toList x.n)) else badR h 12) else badR h 12
def rawB (h : XH) (x y : KR) : KR :=
  if h.k = 4 then
    if x.e ≠ 0 then x
    else if h.s.toList = [38, 38] then (if x.n = 0 then okR 0 else if y.e ≠ 0 then y else okR (ofB (decide (y.n ≠ 0))))
    else if h.s.toList = [124, 124] then (if x.n ≠ 0 then okR 1 else if y.e ≠ 0 then y else okR (ofB (decide (y.n ≠ 0))))
    else if y.e ≠ 0 then y
    else if pmt h.s.toList y.n then okR (opV h.s.toList x.n y.n) else badR h 3
  else badR h 12
def rawT (h : XH) (x y z : KR) : KR := if h.k = 5 then (if x.e ≠ 0 then x else if x.n ≠ 0 then y else z) else badR h 12
def ev (env : ByteArray → Option Int) : XT → KR
  | .z h => chk h (rawZ env h)
  | .u h a => chk h (rawU h (ev env a))
  | .b h a b => chk h (rawB h (ev env a) (ev env b))
  | .t h a b c => chk h (rawT h (ev env a) (ev env b) (ev env c))
/-- What the makers make. -/
def WX : XT → Prop
  | .z h => (h.k = 1 ∨ h.k = 2) ∧ h.s.size ≤ 64
  | .u h a => ((h.k = 3 ∧ h.s.toList ∈ un9) ∨ h.k = 6 ∨ h.k = 8 ∨ h.k = 10) ∧ WX a
  | .b h a b => ((h.k = 4 ∧ (h.s.toList ∈ bin19 ∨ h.s.toList = [38, 38] ∨ h.s.toList = [124, 124])) ∨ h.k = 6 ∨ h.k = 7 ∨ h.k = 9 ∨ h.k = 10) ∧ WX a ∧ WX b
  | .t h a b c => (h.k = 5 ∨ h.k = 6 ∨ h.k = 7) ∧ WX a ∧ WX b ∧ WX c
def InR (n : Int) : Prop := -2147483648 ≤ n ∧ n ≤ 2147483647
theorem chk_ok (h : XH) (r : KR) : ((chk h r).e = 0 → InR (chk h r).n) := by
  unfold chk badR InR
  intro h1
  split
  · rename_i h2; rw [if_pos h2] at h1; exact absurd h1 h2
  · rename_i h2
    rw [if_neg h2] at h1
    split
    · rename_i h3; rw [if_pos h3] at h1; cases h1
    · rename_i h3; omega
theorem ev_in (env : ByteArray → Option Int) : ∀ t, (ev env t).e = 0 → InR (ev env t).n
  | .z h => chk_ok h _
  | .u h _ => chk_ok h _
  | .b h _ _ => chk_ok h _
  | .t h _ _ _ => chk_ok h _
def Z0 (r : KR) : Prop := (r.e ≠ 0 → r.n = 0) ∧ (r.e = 0 → r.f = 0 ∧ r.l = 0 ∧ r.c = 0)
theorem Z0_ok (n : Int) : Z0 (okR n) := ⟨fun h => absurd rfl h, fun _ => ⟨rfl, rfl, rfl⟩⟩
theorem Z0_bad (h : XH) (e : Int) (he : e ≠ 0) : Z0 (badR h e) := ⟨fun _ => rfl, fun h => absurd h he⟩
theorem Z0_chk (h : XH) (r : KR) (hr : Z0 r) : Z0 (chk h r) := by
  unfold chk
  split
  · exact hr
  · split
    · exact Z0_bad h 3 (by decide)
    · exact hr
theorem ev_z (env : ByteArray → Option Int) : ∀ t, Z0 (ev env t)
  | .z h => by
    refine Z0_chk h _ ?_
    unfold rawZ litR namR
    (repeat' split) <;> first | exact Z0_ok _ | (refine Z0_bad h _ ?_; first | assumption | decide)
  | .u h a => by
    have := ev_z env a
    refine Z0_chk h _ ?_
    unfold rawU
    (repeat' split) <;> first | exact Z0_ok _ | assumption | (refine Z0_bad h _ ?_; decide)
  | .b h a b => by
    have h1 := ev_z env a
    have h2 := ev_z env b
    refine Z0_chk h _ ?_
    unfold rawB
    (repeat' split) <;> first | exact Z0_ok _ | exact h1 | exact h2 | (refine Z0_bad h _ ?_; decide)
  | .t h a b c => by
    have h1 := ev_z env a
    have h2 := ev_z env b
    have h3 := ev_z env c
    refine Z0_chk h _ ?_
    unfold rawT
    (repeat' split) <;> first | exact h1 | exact h2 | exact h3 | (refine Z0_bad h _ ?_; decide)
/-- The expression of a number. -/
def decB (n : Nat) : ByteArray := ⟨(decDigits n).toArray⟩
def leastB : ByteArray := ⟨#[39, 115, 104, 56, 48, 48, 48, 48, 48, 48, 48]⟩
def XVal (n : Int) : XT :=
  if n = -2147483648 then .z ⟨1, 0, 0, 0, leastB⟩
  else if n < 0 then .u ⟨3, 0, 0, 0, ⟨#[45]⟩⟩ (.z ⟨1, 0, 0, 0, decB (-n).toNat⟩)
  else .z ⟨1, 0, 0, 0, decB n.toNat⟩
end Go.Proofs.YtcifljbcoioogaaGreatDoor
namespace Go.Proofs.YtcifljbcoioogaaGreatDoor
open Go.RowKit Go.Lib
/-- Outside of the blocks F all that lay lies as it lay. -/
structure Keep (F : Nat → Prop) (w w' : World) : Prop where
  os : w'.os = w.os
  tape : w'.tape = w.tape
  output : w'.output = w.output
  size : w.heap.size ≤ w'.heap.size
  block : ∀ k, k < w.heap.size → ¬ F k → w'.heap[k]? = w.heap[k]?
theorem Keep.of_below {F : Nat → Prop} {w w' : World} (h : Below w.heap.size w w') : Keep F w w' := ⟨h.os, h.tape, h.output, h.size, fun k hk _ => h.block k hk⟩
theorem Keep.below {F : Nat → Prop} {w w' : World} (h : Keep F w w') {B : Nat} (hB : B ≤ w.heap.size) (hF : ∀ b, F b → B ≤ b) : Below B w w' :=
  ⟨h.os, h.tape, h.output, h.size, fun k hk => h.block k (by omega) fun hf => by have := hF k hf; omega⟩
theorem Keep.trans {F G : Nat → Prop} {a b c : World} (h : Keep F a b) (k : Keep G b c) (hG : ∀ x, G x → F x ∨ a.heap.size ≤ x) : Keep F a c :=
  ⟨k.os.trans h.os, k.tape.trans h.tape, k.output.trans h.output, Nat.le_trans h.size k.size, fun i hi hn => (k.block i (Nat.lt_of_lt_of_le hi h.size) fun hg => by
    rcases hG i hg with e | e
    · exact hn e
    · omega).trans (h.block i hi hn)⟩
theorem Keep.refl (F : Nat → Prop) (w : World) : Keep F w w := ⟨rfl, rfl, rfl, Nat.le_refl _, fun _ _ _ => rfl⟩
theorem Keep.set {F : Nat → Prop} {w w' : World} (h : Keep F w w') (p : Addr) (hp : F p.block) (u : Value) : Keep F w (w'.setCell p u) :=
  ⟨h.os, h.tape, h.output, by rw [World.size_setCell]; exact h.size, fun k hk hn => (Below.heap_setCell w' p u k (fun e => hn (by rw [e]; exact hp))).trans (h.block k hk hn)⟩
/-- An expression's six cells. -/
def XC (w : World) (b o : Nat) (h : XH) (A : Option Addr) (n c : Nat) : Prop :=
  w.cell? ⟨b, o, none⟩ = some (.int .i64 h.k) ∧ w.cell? ⟨b, o + 1, none⟩ = some (.int .i64 h.f) ∧ w.cell? ⟨b, o + 2, none⟩ = some (.int .i64 h.l) ∧ w.cell? ⟨b, o + 3, none⟩ = some (.int .i64 h.c) ∧
    w.cell? ⟨b, o + 4, none⟩ = some (.string h.s) ∧ w.cell? ⟨b, o + 5, none⟩ = some (.slice A n c)
theorem XC.over {w w' : World} {b o : Nat} {h : XH} {A : Option Addr} {n c B : Nat} (x : XC w b o h A n c) (hb : b < B) (k : Below B w w') : XC w' b o h A n c := by
  obtain ⟨x0, x1, x2, x3, x4, x5⟩ := x
  exact ⟨(k.cell (p := ⟨b, o, none⟩) hb).trans x0, (k.cell (p := ⟨b, o + 1, none⟩) hb).trans x1, (k.cell (p := ⟨b, o + 2, none⟩) hb).trans x2, (k.cell (p := ⟨b, o + 3, none⟩) hb).trans x3, (k.cell (p := ⟨b, o + 4, none⟩) hb).trans x4, (k.cell (p := ⟨b, o + 5, none⟩) hb).trans x5⟩
/-- The operands of a tree lie at A, in blocks below B. -/
def XAr (w : World) (B : Nat) : XT → Option Addr → Prop
  | .z _, _ => True
  | .u _ a, A => ∃ b o, A = some ⟨b, o, none⟩ ∧ b < B ∧ ∃ A1 c1, XC w b o a.h A1 a.args.length c1 ∧ XAr w B a A1
  | .b _ a1 a2, A => ∃ b o, A = some ⟨b, o, none⟩ ∧ b < B ∧ (∃ A1 c1, XC w b o a1.h A1 a1.args.length c1 ∧ XAr w B a1 A1) ∧ ∃ A2 c2, XC w b (o + 6) a2.h A2 a2.args.length c2 ∧ XAr w B a2 A2
  | .t _ a1 a2 a3, A => ∃ b o, A = some ⟨b, o, none⟩ ∧ b < B ∧ (∃ A1 c1, XC w b o a1.h A1 a1.args.length c1 ∧ XAr w B a1 A1) ∧ (∃ A2 c2, XC w b (o + 6) a2.h A2 a2.args.length c2 ∧ XAr w B a2 A2) ∧
      ∃ A3 c3, XC w b (o + 12) a3.h A3 a3.args.length c3 ∧ XAr w B a3 A3
theorem XAr.over {w w' : World} {B : Nat} (k : Below B w w') : ∀ {t : XT} {A : Option Addr}, XAr w B t A → XAr w' B t A
  | .z _, _, _ => trivial
  | .u _ _, _, ⟨b, o, e, hb, A1, c1, x1, y1⟩ => ⟨b, o, e, hb, A1, c1, x1.over hb k, XAr.over k y1⟩
  | .b _ _ _, _, ⟨b, o, e, hb, ⟨A1, c1, x1, y1⟩, A2, c2, x2, y2⟩ => ⟨b, o, e, hb, ⟨A1, c1, x1.over hb k, XAr.over k y1⟩, A2, c2, x2.over hb k, XAr.over k y2⟩
  | .t _ _ _ _, _, ⟨b, o, e, hb, ⟨A1, c1, x1, y1⟩, ⟨A2, c2, x2, y2⟩, A3, c3, x3, y3⟩ =>
    ⟨b, o, e, hb, ⟨A1, c1, x1.over hb k, XAr.over k y1⟩, ⟨A2, c2, x2.over hb k, XAr.over k y2⟩, A3, c3, x3.over hb k, XAr.over k y3⟩
theorem XAr.mono {w : World} {B B' : Nat} (hB : B ≤ B') : ∀ {t : XT} {A : Option Addr}, XAr w B t A → XAr w B' t A
  | .z _, _, _ => trivial
  | .u _ a, _, ⟨b, o, e, hb, A1, c1, x1, y1⟩ => ⟨b, o, e, by omega, A1, c1, x1, XAr.mono hB y1⟩
  | .b _ a1 a2, _, ⟨b, o, e, hb, ⟨A1, c1, x1, y1⟩, A2, c2, x2, y2⟩ => ⟨b, o, e, by omega, ⟨A1, c1, x1, XAr.mono hB y1⟩, A2, c2, x2, XAr.mono hB y2⟩
  | .t _ a1 a2 a3, _, ⟨b, o, e, hb, ⟨A1, c1, x1, y1⟩, ⟨A2, c2, x2, y2⟩, A3, c3, x3, y3⟩ =>
    ⟨b, o, e, by omega, ⟨A1, c1, x1, XAr.mono hB y1⟩, ⟨A2, c2, x2, XAr.mono hB y2⟩, A3, c3, x3, XAr.mono hB y3⟩
/-- An expression as a value. -/
abbrev xv (h : XH) (A : Option Addr) (n c : Nat) : Value := .agg #[.int .i64 h.k, .int .i64 h.f, .int .i64 h.l, .int .i64 h.c, .string h.s, .slice A n c]
theorem heap_set (w : World) (b i : Nat) (cs : Array Value) (t : TypeId) (u : Value) (h : w.heap[b]? = some (.cells cs t (0, 0))) : (w.setCell ⟨b, i, none⟩ u).heap[b]? = some (.cells (cs.setIfInBounds i u) t (0, 0)) := by
  simp [World.setCell, Array.getElem?_modify, h]
theorem lt_of_get {w : World} {b : Nat} {o : Obj} (h : w.heap[b]? = some o) : b < w.heap.size := (Array.getElem?_eq_some_iff.1 h).1
/-- The evaluator's block: the names, the place, the error. -/
def EVB (w : World) (p : Nat) (M : Value) (f l c e : Int) : Prop := w.heap[p]? = some (.cells #[M, .int .i64 f, .int .i64 l, .int .i64 c, .int .i64 e] 66 (0, 0))
theorem EVB.lt {w : World} {p : Nat} {M : Value} {f l c e : Int} (h : EVB w p M f l c e) : p < w.heap.size := lt_of_get h
theorem EVB.all {w : World} {p : Nat} {M : Value} {f l c e : Int} (h : EVB w p M f l c e) : w.cell? ⟨p, 0, none⟩ = some M ∧ w.cell? ⟨p, 1, none⟩ = some (.int .i64 f) ∧ w.cell? ⟨p, 2, none⟩ = some (.int .i64 l) ∧ w.cell? ⟨p, 3, none⟩ = some (.int .i64 c) ∧ w.cell? ⟨p, 4, none⟩ = some (.int .i64 e) ∧ ∀ i, w.frozen? ⟨p, i, none⟩ = false := by
  unfold EVB at h
  refine ⟨?_, ?_, ?_, ?_, ?_, fun i => Lib.frozen_of_heap h i⟩ <;> rw [Lib.cell_of_heap h] <;> rfl
theorem EVB.over {w w' : World} {p : Nat} {M : Value} {f l c e : Int} (h : EVB w p M f l c e) (k : Below w.heap.size w w') : EVB w' p M f l c e := (k.block p h.lt).trans h
theorem EVB.fail {w : World} {p : Nat} {M : Value} {f l c e : Int} (h : EVB w p M f l c e) (f' l' c' e' : Int) :
    EVB ((((w.setCell ⟨p, 1, none⟩ (.int .i64 f')).setCell ⟨p, 2, none⟩ (.int .i64 l')).setCell ⟨p, 3, none⟩ (.int .i64 c')).setCell ⟨p, 4, none⟩ (.int .i64 e')) p M f' l' c' e' :=
  heap_set _ p 4 _ _ _ (heap_set _ p 3 _ _ _ (heap_set _ p 2 _ _ _ (heap_set _ p 1 _ _ _ h)))
/-- A variable that holds an expression. -/
def BX (w : World) (g : Nat) (T : TypeId) (h : XH) (A : Option Addr) (n c : Nat) : Prop := w.heap[g]? = some (.cells #[.int .i64 h.k, .int .i64 h.f, .int .i64 h.l, .int .i64 h.c, .string h.s, .slice A n c] T (0, 0))
theorem BX.lt {w : World} {g : Nat} {T : TypeId} {h : XH} {A : Option Addr} {n c : Nat} (x : BX w g T h A n c) : g < w.heap.size := lt_of_get x
theorem BX.new (w : World) (T : TypeId) (h : XH) (A : Option Addr) (n c : Nat) : BX (w.alloc (.cells #[.int .i64 h.k, .int .i64 h.f, .int .i64 h.l, .int .i64 h.c, .string h.s, .slice A n c] T)) w.heap.size T h A n c := heap_alloc_new w _
theorem BX.all {w : World} {g : Nat} {T : TypeId} {h : XH} {A : Option Addr} {n c : Nat} (x : BX w g T h A n c) : w.cell? ⟨g, 0, none⟩ = some (.int .i64 h.k) ∧ w.cell? ⟨g, 1, none⟩ = some (.int .i64 h.f) ∧ w.cell? ⟨g, 2, none⟩ = some (.int .i64 h.l) ∧ w.cell? ⟨g, 3, none⟩ = some (.int .i64 h.c) ∧ w.cell? ⟨g, 4, none⟩ = some (.string h.s) ∧ w.cell? ⟨g, 5, none⟩ = some (.slice A n c) := by
  unfold BX at x
  refine ⟨?_, ?_, ?_, ?_, ?_, ?_⟩ <;> rw [Lib.cell_of_heap x] <;> rfl
theorem BX.keep {w w' : World} {g : Nat} {T : TypeId} {h : XH} {A : Option Addr} {n c p : Nat} (x : BX w g T h A n c) (k : Keep (· = p) w w') (hp : g ≠ p) : BX w' g T h A n c := (k.block g x.lt hp).trans x
end Go.Proofs.YtcifljbcoioogaaGreatDoor
