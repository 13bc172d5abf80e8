/-
  Expressions of at most three operands as trees, and how one lies in memory: six cells (the kind, the place, the text, the operands); what a call may change.
-/
import Derived.Test.YtljiiniocnljmaaProg
import Derived.Test.YtljiiniocnljmaaRows
import Derived.WalkKit
import Derived.WalkSpells
import Derived.WalkLawsBesides
import Derived.StillTailTactics
import Derived.BigQuiet
import Derived.Deep.QuietTactic
import Derived.Lib.Hide
import Derived.Handy
import Derived.Below
import Derived.Lib.Strings
namespace Go.Proofs.Ytljiiniocnljmaa
open Go.RowKit Go.Lib
/-- What a call that returns v and touches nothing that was there leaves. -/
def RV (w : World) (v : Value) (e : Ending) (w' : World) : Prop := e = .returned v ∧ Below w.heap.size w w'
theorem below_call {w W w1 : World} (h : Below W.heap.size W w1) (h0 : Below w.heap.size w W) : Below w.heap.size w w1 := h0.trans (h.mono h0.size)
structure XH where
  k : Int
  f : Int
  l : Int
  c : Int
  s : ByteArray
inductive XT where
  | z (h : XH)
  | u (h : XH) (a : XT)
  | b (h : XH) (a b : XT)
  | t (h : XH) (a b c : XT)
def XT.h : XT → XH
  | .z h => h
  | .u h _ => h
  | .b h _ _ => h
  | .t h _ _ _ => h
def XT.args : XT → List XT
  | .z _ => []
  | .u _ p => [p]
  | .b _ p q => [p, q]
  | .t _ p q r => [p, q, r]
def XT.dep : XT → Nat
  | .z _ => 0
  | .u _ p => p.dep + 1
  | .b _ p q => max p.dep q.dep + 1
  | .t _ p q r => max p.dep (max q.dep r.dep) + 1
def un9 : List (List UInt8) := [[45], [126], [33], [38], [124], [94], [126, 38], [126, 124], [126, 94]]
/-- The operators of two that evaluate both, and the two that don't. -/
def bin19 : List (List UInt8) := [[43], [45], [42], [47], [37], [38], [124], [94], [126, 94], [60, 60], [62, 62], [60, 60, 60], [62, 62, 62], [60], [60, 61], [62], [62, 61], [61, 61], [33, 61]]
/-- What the makers make. -/
def WX : XT → Prop
  | .z h => (h.k = 1 ∨ h.k = 2) ∧ h.s.size ≤ 64
  | .u h a => ((h.k = 3 ∧ h.s.toList ∈ un9) ∨ h.k = 6 ∨ h.k = 8 ∨ h.k = 10) ∧ WX a
  | .b h a b => ((h.k = 4 ∧ (h.s.toList ∈ bin19 ∨ h.s.toList = [38, 38] ∨ h.s.toList = [124, 124])) ∨ h.k = 6 ∨ h.k = 7 ∨ h.k = 9 ∨ h.k = 10) ∧ WX a ∧ WX b
  | .t h a b c => (h.k = 5 ∨ h.k = 6 ∨ h.k = 7) ∧ WX a ∧ WX b ∧ WX c
/-- Outside of the blocks F all that lay lies as it lay. -/
structure Keep (F : Nat → Prop) (w w' : World) : Prop where
  os : w'.os = w.os
  tape : w'.tape = w.tape
  output : w'.output = w.output
  size : w.heap.size ≤ w'.heap.size
  block : ∀ k, k < w.heap.size → ¬ F k → w'.heap[k]? = w.heap[k]?
theorem Keep.of_below {F : Nat → Prop} {w w' : World} (h : Below w.heap.size w w') : Keep F w w' := ⟨h.os, h.tape, h.output, h.size, fun k hk _ => h.block k hk⟩
theorem Keep.below {F : Nat → Prop} {w w' : World} (h : Keep F w w') {B : Nat} (hB : B ≤ w.heap.size) (hF : ∀ b, F b → B ≤ b) : Below B w w' :=
  ⟨h.os, h.tape, h.output, h.size, fun k hk => h.block k (by omega) fun hf => by have := hF k hf; omega⟩
theorem Keep.trans {F G : Nat → Prop} {a b c : World} (h : Keep F a b) (k : Keep G b c) (hG : ∀ x, G x → F x ∨ a.heap.size ≤ x) : Keep F a c :=
  ⟨k.os.trans h.os, k.tape.trans h.tape, k.output.trans h.output, Nat.le_trans h.size k.size, fun i hi hn => (k.block i (Nat.lt_of_lt_of_le hi h.size) fun hg => by
    rcases hG i hg with e | e
    · exact hn e
    · omega).trans (h.block i hi hn)⟩
theorem Keep.refl (F : Nat → Prop) (w : World) : Keep F w w := ⟨rfl, rfl, rfl, Nat.le_refl _, fun _ _ _ => rfl⟩
theorem Keep.set {F : Nat → Prop} {w w' : World} (h : Keep F w w') (p : Addr) (hp : F p.block) (u : Value) : Keep F w (w'.setCell p u) :=
  ⟨h.os, h.tape, h.output, by rw [World.size_setCell]; exact h.size, fun k hk hn => (Below.heap_setCell w' p u k (fun e => hn (by rw [e]; exact hp))).trans (h.block k hk hn)⟩
/-- An expression's six cells. -/
def XC (w : World) (b o : Nat) (h : XH) (A : Option Addr) (n c : Nat) : Prop :=
  w.cell? ⟨b, o, none⟩ = some (.int .i64 h.k) ∧ w.cell? ⟨b, o + 1, none⟩ = some (.int .i64 h.f) ∧ w.cell? ⟨b, o + 2, none⟩ = some (.int .i64 h.l) ∧ w.cell? ⟨b, o + 3, none⟩ = some (.int .i64 h.c) ∧
    w.cell? ⟨b, o + 4, none⟩ = some (.string h.s) ∧ w.cell? ⟨b, o + 5, none⟩ = some (.slice A n c)
theorem XC.over {w w' : World} {b o : Nat} {h : XH} {A : Option Addr} {n c B : Nat} (x : XC w b o h A n c) (hb : b < B) (k : Below B w w') : XC w' b o h A n c := by
  obtain ⟨x0, x1, x2, x3, x4, x5⟩ := x
  exact ⟨(k.cell (p := ⟨b, o, none⟩) hb).trans x0, (k.cell (p := ⟨b, o + 1, none⟩) hb).trans x1, (k.cell (p := ⟨b, o + 2, none⟩) hb).trans x2, (k.cell (p := ⟨b, o + 3, none⟩) hb).trans x3, (k.cell (p := ⟨b, o + 4, none⟩) hb).trans x4, (k.cell (p := ⟨b, o + 5, none⟩) hb).trans x5⟩
/-- The operands of a tree lie at A, in blocks below B. -/
def XAr (w : World) (B : Nat) : XT → Option Addr → Prop
  | .z _, _ => True
  | .u _ a, A => ∃ b o, A = some ⟨b, o, none⟩ ∧ b < B ∧ ∃ A1 c1, XC w b o a.h A1 a.args.length c1 ∧ XAr w B a A1
  | .b _ a1 a2, A => ∃ b o, A = some ⟨b, o, none⟩ ∧ b < B ∧ (∃ A1 c1, XC w b o a1.h A1 a1.args.length c1 ∧ XAr w B a1 A1) ∧ ∃ A2 c2, XC w b (o + 6) a2.h A2 a2.args.length c2 ∧ XAr w B a2 A2
  | .t _ a1 a2 a3, A => ∃ b o, A = some ⟨b, o, none⟩ ∧ b < B ∧ (∃ A1 c1, XC w b o a1.h A1 a1.args.length c1 ∧ XAr w B a1 A1) ∧ (∃ A2 c2, XC w b (o + 6) a2.h A2 a2.args.length c2 ∧ XAr w B a2 A2) ∧
      ∃ A3 c3, XC w b (o + 12) a3.h A3 a3.args.length c3 ∧ XAr w B a3 A3
theorem XAr.over {w w' : World} {B : Nat} (k : Below B w w') : ∀ {t : XT} {A : Option Addr}, XAr w B t A → XAr w' B t A
  | .z _, _, _ => trivial
  | .u _ _, _, ⟨b, o, e, hb, A1, c1, x1, y1⟩ => ⟨b, o, e, hb, A1, c1, x1.over hb k, XAr.over k y1⟩
  | .b _ _ _, _, ⟨b, o, e, hb, ⟨A1, c1, x1, y1⟩, A2, c2, x2, y2⟩ => ⟨b, o, e, hb, ⟨A1, c1, x1.over hb k, XAr.over k y1⟩, A2, c2, x2.over hb k, XAr.over k y2⟩
  | .t _ _ _ _, _, ⟨b, o, e, hb, ⟨A1, c1, x1, y1⟩, ⟨A2, c2, x2, y2⟩, A3, c3, x3, y3⟩ =>
    ⟨b, o, e, hb, ⟨A1, c1, x1.over hb k, XAr.over k y1⟩, ⟨A2, c2, x2.over hb k, XAr.over k y2⟩, A3, c3, x3.over hb k, XAr.over k y3⟩
theorem XAr.mono {w : World} {B B' : Nat} (hB : B ≤ B') : ∀ {t : XT} {A : Option Addr}, XAr w B t A → XAr w B' t A
  | .z _, _, _ => trivial
  | .u _ a, _, ⟨b, o, e, hb, A1, c1, x1, y1⟩ => ⟨b, o, e, by omega, A1, c1, x1, XAr.mono hB y1⟩
  | .b _ a1 a2, _, ⟨b, o, e, hb, ⟨A1, c1, x1, y1⟩, A2, c2, x2, y2⟩ => ⟨b, o, e, by omega, ⟨A1, c1, x1, XAr.mono hB y1⟩, A2, c2, x2, XAr.mono hB y2⟩
  | .t _ a1 a2 a3, _, ⟨b, o, e, hb, ⟨A1, c1, x1, y1⟩, ⟨A2, c2, x2, y2⟩, A3, c3, x3, y3⟩ =>
    ⟨b, o, e, by omega, ⟨A1, c1, x1, XAr.mono hB y1⟩, ⟨A2, c2, x2, XAr.mono hB y2⟩, A3, c3, x3, XAr.mono hB y3⟩
/-- An expression as a value. -/
abbrev xv (h : XH) (A : Option Addr) (n c : Nat) : Value := .agg #[.int .i64 h.k, .int .i64 h.f, .int .i64 h.l, .int .i64 h.c, .string h.s, .slice A n c]
theorem heap_set (w : World) (b i : Nat) (cs : Array Value) (t : TypeId) (u : Value) (h : w.heap[b]? = some (.cells cs t (0, 0))) : (w.setCell ⟨b, i, none⟩ u).heap[b]? = some (.cells (cs.setIfInBounds i u) t (0, 0)) := by
  simp [World.setCell, Array.getElem?_modify, h]
theorem lt_of_get {w : World} {b : Nat} {o : Obj} (h : w.heap[b]? = some o) : b < w.heap.size := (Array.getElem?_eq_some_iff.1 h).1
/-- A variable that holds an expression. -/
def BX (w : World) (g : Nat) (T : TypeId) (h : XH) (A : Option Addr) (n c : Nat) : Prop := w.heap[g]? = some (.cells #[.int .i64 h.k, .int .i64 h.f, .int .i64 h.l, .int .i64 h.c, .string h.s, .slice A n c] T (0, 0))
theorem BX.lt {w : World} {g : Nat} {T : TypeId} {h : XH} {A : Option Addr} {n c : Nat} (x : BX w g T h A n c) : g < w.heap.size := lt_of_get x
theorem BX.new (w : World) (T : TypeId) (h : XH) (A : Option Addr) (n c : Nat) : BX (w.alloc (.cells #[.int .i64 h.k, .int .i64 h.f, .int .i64 h.l, .int .i64 h.c, .string h.s, .slice A n c] T)) w.heap.size T h A n c := heap_alloc_new w _
theorem BX.all {w : World} {g : Nat} {T : TypeId} {h : XH} {A : Option Addr} {n c : Nat} (x : BX w g T h A n c) : w.cell? ⟨g, 0, none⟩ = some (.int .i64 h.k) ∧ w.cell? ⟨g, 1, none⟩ = some (.int .i64 h.f) ∧ w.cell? ⟨g, 2, none⟩ = some (.int .i64 h.l) ∧ w.cell? ⟨g, 3, none⟩ = some (.int .i64 h.c) ∧ w.cell? ⟨g, 4, none⟩ = some (.string h.s) ∧ w.cell? ⟨g, 5, none⟩ = some (.slice A n c) := by
  unfold BX at x
  refine ⟨?_, ?_, ?_, ?_, ?_, ?_⟩ <;> rw [Lib.cell_of_heap x] <;> rfl
theorem BX.keep {w w' : World} {g : Nat} {T : TypeId} {h : XH} {A : Option Addr} {n c p : Nat} (x : BX w g T h A n c) (k : Keep (· = p) w w') (hp : g ≠ p) : BX w' g T h A n c := (k.block g x.lt hp).trans x
end Go.Proofs.Ytljiiniocnljmaa
