/-
  Trees in memory, by the blocks in which they lie; a row of trees.
-/
import Derived.Test.YtljiiniocnljmaaAa
import Derived.Lib.OwnBridge
import Derived.Lib.AppendIntMem
import Derived.Deep.AppendLies
namespace Go.Proofs.Ytljiiniocnljmaa
open Go.RowKit Go.Lib
/-- The operands of a tree lie at A, in blocks of F. -/
def XQ (w : World) (F : Nat → Prop) : XT → Option Addr → Prop
  | .z _, _ => True
  | .u _ a, A => ∃ b o, A = some ⟨b, o, none⟩ ∧ F b ∧ ∃ A1 c1, XC w b o a.h A1 a.args.length c1 ∧ XQ w F a A1
  | .b _ a1 a2, A => ∃ b o, A = some ⟨b, o, none⟩ ∧ F b ∧ (∃ A1 c1, XC w b o a1.h A1 a1.args.length c1 ∧ XQ w F a1 A1) ∧ ∃ A2 c2, XC w b (o + 6) a2.h A2 a2.args.length c2 ∧ XQ w F a2 A2
  | .t _ a1 a2 a3, A => ∃ b o, A = some ⟨b, o, none⟩ ∧ F b ∧ (∃ A1 c1, XC w b o a1.h A1 a1.args.length c1 ∧ XQ w F a1 A1) ∧ (∃ A2 c2, XC w b (o + 6) a2.h A2 a2.args.length c2 ∧ XQ w F a2 A2) ∧
      ∃ A3 c3, XC w b (o + 12) a3.h A3 a3.args.length c3 ∧ XQ w F a3 A3
theorem XC.blk {w w' : World} {b o : Nat} {h : XH} {A : Option Addr} {n c : Nat} (x : XC w b o h A n c) (k : w'.heap[b]? = w.heap[b]?) : XC w' b o h A n c := by
  have hk : ∀ i, w'.cell? ⟨b, i, none⟩ = w.cell? ⟨b, i, none⟩ := fun i => World.cell?_of_block k
  unfold XC at *
  simp only [hk]
  exact x
theorem XQ.over {w w' : World} {F G : Nat → Prop} (k : ∀ b, F b → w'.heap[b]? = w.heap[b]?) (g : ∀ b, F b → G b) : ∀ {t : XT} {A : Option Addr}, XQ w F t A → XQ w' G t A
  | .z _, _, _ => trivial
  | .u _ _, _, ⟨b, o, e, hb, A1, c1, x1, y1⟩ => ⟨b, o, e, g b hb, A1, c1, x1.blk (k b hb), XQ.over k g y1⟩
  | .b _ _ _, _, ⟨b, o, e, hb, ⟨A1, c1, x1, y1⟩, A2, c2, x2, y2⟩ => ⟨b, o, e, g b hb, ⟨A1, c1, x1.blk (k b hb), XQ.over k g y1⟩, A2, c2, x2.blk (k b hb), XQ.over k g y2⟩
  | .t _ _ _ _, _, ⟨b, o, e, hb, ⟨A1, c1, x1, y1⟩, ⟨A2, c2, x2, y2⟩, A3, c3, x3, y3⟩ =>
    ⟨b, o, e, g b hb, ⟨A1, c1, x1.blk (k b hb), XQ.over k g y1⟩, ⟨A2, c2, x2.blk (k b hb), XQ.over k g y2⟩, A3, c3, x3.blk (k b hb), XQ.over k g y3⟩
theorem XQ.ar {w : World} {F : Nat → Prop} {B : Nat} (k : ∀ b, F b → b < B) : ∀ {t : XT} {A : Option Addr}, XQ w F t A → XAr w B t A
  | .z _, _, _ => trivial
  | .u _ _, _, ⟨b, o, e, hb, A1, c1, x1, y1⟩ => ⟨b, o, e, k b hb, A1, c1, x1, XQ.ar k y1⟩
  | .b _ _ _, _, ⟨b, o, e, hb, ⟨A1, c1, x1, y1⟩, A2, c2, x2, y2⟩ => ⟨b, o, e, k b hb, ⟨A1, c1, x1, XQ.ar k y1⟩, A2, c2, x2, XQ.ar k y2⟩
  | .t _ _ _ _, _, ⟨b, o, e, hb, ⟨A1, c1, x1, y1⟩, ⟨A2, c2, x2, y2⟩, A3, c3, x3, y3⟩ =>
    ⟨b, o, e, k b hb, ⟨A1, c1, x1, XQ.ar k y1⟩, ⟨A2, c2, x2, XQ.ar k y2⟩, A3, c3, x3, XQ.ar k y3⟩
theorem XAr.q {w : World} {B : Nat} : ∀ {t : XT} {A : Option Addr}, XAr w B t A → XQ w (· < B) t A
  | .z _, _, _ => trivial
  | .u _ _, _, ⟨b, o, e, hb, A1, c1, x1, y1⟩ => ⟨b, o, e, hb, A1, c1, x1, XAr.q y1⟩
  | .b _ _ _, _, ⟨b, o, e, hb, ⟨A1, c1, x1, y1⟩, A2, c2, x2, y2⟩ => ⟨b, o, e, hb, ⟨A1, c1, x1, XAr.q y1⟩, A2, c2, x2, XAr.q y2⟩
  | .t _ _ _ _, _, ⟨b, o, e, hb, ⟨A1, c1, x1, y1⟩, ⟨A2, c2, x2, y2⟩, A3, c3, x3, y3⟩ =>
    ⟨b, o, e, hb, ⟨A1, c1, x1, XAr.q y1⟩, ⟨A2, c2, x2, XAr.q y2⟩, A3, c3, x3, XAr.q y3⟩
/-- An operand's cells. -/
theorem XQ.get {w : World} {F : Nat → Prop} : ∀ {t : XT} {A : Option Addr}, XQ w F t A → ∀ j (hj : j < t.args.length), ∃ b o, A = some ⟨b, o, none⟩ ∧ F b ∧ ∃ Aj cj, XC w b (o + j * 6) t.args[j].h Aj t.args[j].args.length cj ∧ XQ w F t.args[j] Aj
  | .z _, _, _, j, hj => by simp [XT.args] at hj
  | .u _ _, _, ⟨b, o, e, hb, A1, c1, x1, y1⟩, j, hj => by
    have : j = 0 := by simp [XT.args] at hj; omega
    subst this
    exact ⟨b, o, e, hb, A1, c1, x1, y1⟩
  | .b _ _ _, _, ⟨b, o, e, hb, ⟨A1, c1, x1, y1⟩, A2, c2, x2, y2⟩, j, hj => by
    have : j = 0 ∨ j = 1 := by simp [XT.args] at hj; omega
    rcases this with rfl | rfl
    · exact ⟨b, o, e, hb, A1, c1, x1, y1⟩
    · exact ⟨b, o, e, hb, A2, c2, x2, y2⟩
  | .t _ _ _ _, _, ⟨b, o, e, hb, ⟨A1, c1, x1, y1⟩, ⟨A2, c2, x2, y2⟩, A3, c3, x3, y3⟩, j, hj => by
    have : j = 0 ∨ j = 1 ∨ j = 2 := by simp [XT.args] at hj; omega
    rcases this with rfl | rfl | rfl
    · exact ⟨b, o, e, hb, A1, c1, x1, y1⟩
    · exact ⟨b, o, e, hb, A2, c2, x2, y2⟩
    · exact ⟨b, o, e, hb, A3, c3, x3, y3⟩
theorem XQ.nil {w : World} {F : Nat → Prop} {t : XT} {A : Option Addr} (h : t.args = []) : XQ w F t A := by
  cases t <;> simp [XT.args] at h
  trivial
theorem XT.args_le (t : XT) : t.args.length ≤ 3 := by cases t <;> simp [XT.args]
theorem XT.dep_arg {t a : XT} (h : a ∈ t.args) : a.dep < t.dep := by
  cases t <;> simp [XT.args] at h <;> simp only [XT.dep]
  · subst h; omega
  · rcases h with rfl | rfl <;> omega
  · rcases h with rfl | rfl | rfl <;> omega
/-- A tree of given operands. -/
def mkT (h : XH) : List XT → XT
  | [] => .z h
  | [a] => .u h a
  | [a, b] => .b h a b
  | a :: b :: c :: _ => .t h a b c
theorem mkT_h (h : XH) (l : List XT) : (mkT h l).h = h := by
  match l with
  | [] => rfl
  | [_] => rfl
  | [_, _] => rfl
  | _ :: _ :: _ :: _ => rfl
theorem mkT_args (h : XH) (l : List XT) (hl : l.length ≤ 3) : (mkT h l).args = l := by
  match l, hl with
  | [], _ => rfl
  | [_], _ => rfl
  | [_, _], _ => rfl
  | [_, _, _], _ => rfl
  | _ :: _ :: _ :: _ :: _, hl => simp at hl
theorem mkT_eta (t : XT) : mkT t.h t.args = t := by cases t <;> rfl
/-- A tree with what its cells say of its operands. -/
structure XE where
  t : XT
  A : Option Addr
  c : Nat
def ec (r : XE) : List Value := [.int .i64 r.t.h.k, .int .i64 r.t.h.f, .int .i64 r.t.h.l, .int .i64 r.t.h.c, .string r.t.h.s, .slice r.A r.t.args.length r.c]
def ecs (rs : List XE) : List Value := rs.flatMap ec
theorem ecs_len (l : List XE) : (ecs l).length = l.length * 6 := by
  induction l with
  | nil => rfl
  | cons x l ih =>
    have : ecs (x :: l) = ec x ++ ecs l := rfl
    rw [this, List.length_append, ih, List.length_cons]
    simp [ec]; omega
theorem ecs_app (a b : List XE) : ecs (a ++ b) = ecs a ++ ecs b := by simp [ecs]
theorem ecs_get : ∀ (l : List XE) (j : Nat) (hj : j < l.length) (i : Nat) (_ : i < 6), (ecs l)[j * 6 + i]? = (ec l[j])[i]?
  | [], j, hj, _, _ => by simp at hj
  | x :: l, 0, hj, i, hi => by
    have e : ecs (x :: l) = ec x ++ ecs l := rfl
    rw [e, Nat.zero_mul, Nat.zero_add, List.getElem?_append_left (by simp [ec]; omega)]
    rfl
  | x :: l, j + 1, hj, i, hi => by
    have e : ecs (x :: l) = ec x ++ ecs l := rfl
    rw [e, show (j + 1) * 6 + i = 6 + (j * 6 + i) by omega, List.getElem?_append_right (by simp [ec])]
    have : 6 + (j * 6 + i) - (ec x).length = j * 6 + i := by simp [ec]
    rw [this, ecs_get l j (by simpa using hj) i hi]
    rfl
/-- Trees of a row lie in blocks of F. -/
def XRow (w : World) (F : Nat → Prop) (rs : List XE) : Prop := ∀ r ∈ rs, XQ w F r.t r.A
theorem XRow.nil (w : World) (F : Nat → Prop) : XRow w F [] := fun r hr => by cases hr
theorem XRow.over {w w' : World} {F G : Nat → Prop} {rs : List XE} (h : XRow w F rs) (k : ∀ b, F b → w'.heap[b]? = w.heap[b]?) (g : ∀ b, F b → G b) : XRow w' G rs := fun r hr => (h r hr).over k g
theorem XRow.snoc {w : World} {F : Nat → Prop} {rs : List XE} {r : XE} (h : XRow w F rs) (hr : XQ w F r.t r.A) : XRow w F (rs ++ [r]) := fun x hx => by
  rcases List.mem_append.1 hx with h1 | h1
  · exact h x h1
  · rw [List.mem_singleton.1 h1]; exact hr
/-- A row that the call owns is a tree's operands. -/
theorem row_XQ {w : World} {B n c : Nat} {A : Option Addr} {T : TypeId} {rs : List XE} {F : Nat → Prop} (h : w.ownsRow B T 6 (.slice A n c) rs.length (ecs rs)) (hr : XRow w F rs) (hB : ∀ g, B ≤ g → g < w.heap.size → F g) (h3 : rs.length ≤ 3) (hd : XH) :
    n = rs.length ∧ XQ w F (mkT hd (rs.map XE.t)) A := by
  rcases h.2 with ⟨e, h0⟩ | ⟨g, cap, cur, e, hb, hg, h1, h2, h3', h4⟩
  · cases e
    refine ⟨h0.symm, XQ.nil ?_⟩
    rw [mkT_args _ _ (by simpa using h3)]
    have := List.eq_nil_of_length_eq_zero h0
    subst this; rfl
  · cases e
    have hgl := (Array.getElem?_eq_some_iff.1 hg).1
    have hcell : ∀ (o : Nat) (v : Value), (ecs rs)[o]? = some v → w.cell? ⟨g, 0 + o, none⟩ = some v := fun o v hv => by
      rw [← h4] at hv
      rw [List.getElem?_take] at hv
      split at hv
      · simpa [World.cell?, hg] using hv
      · cases hv
    have hel : ∀ j (hj : j < rs.length), XC w g (0 + j * 6) rs[j].t.h rs[j].A rs[j].t.args.length rs[j].c := fun j hj => by
      have q : ∀ i (hi : i < 6) v, (ec rs[j])[i]? = some v → w.cell? ⟨g, 0 + j * 6 + i, none⟩ = some v := fun i hi v hv => by
        have := hcell (j * 6 + i) v ((ecs_get rs j hj i hi).trans hv)
        rwa [← Nat.add_assoc] at this
      exact ⟨q 0 (by decide) _ rfl, q 1 (by decide) _ rfl, q 2 (by decide) _ rfl, q 3 (by decide) _ rfl, q 4 (by decide) _ rfl, q 5 (by decide) _ rfl⟩
    have hF := hB g hb hgl
    have hq : ∀ j (hj : j < rs.length), XQ w F rs[j].t rs[j].A := fun j hj => hr _ (List.getElem_mem hj)
    refine ⟨rfl, ?_⟩
    match rs, h3, hel, hq with
    | [], _, _, _ => trivial
    | [a], _, hel, hq => exact ⟨g, 0, rfl, hF, a.A, a.c, by simpa using hel 0 (by simp), by simpa using hq 0 (by simp)⟩
    | [a, b], _, hel, hq => exact ⟨g, 0, rfl, hF, ⟨a.A, a.c, by simpa using hel 0 (by simp), by simpa using hq 0 (by simp)⟩, b.A, b.c, by simpa using hel 1 (by simp), by simpa using hq 1 (by simp)⟩
    | [a, b, c], _, hel, hq => exact ⟨g, 0, rfl, hF, ⟨a.A, a.c, by simpa using hel 0 (by simp), by simpa using hq 0 (by simp)⟩, ⟨b.A, b.c, by simpa using hel 1 (by simp), by simpa using hq 1 (by simp)⟩, c.A, c.c, by simpa using hel 2 (by simp), by simpa using hq 2 (by simp)⟩
    | a :: b :: c :: d :: l, h3, _, _ => simp at h3
/-- A tree in new memory. -/
def XN (w : World) (w' : World) (t : XT) (A : Option Addr) : Prop := XQ w' (fun b => w.heap.size ≤ b ∧ b < w'.heap.size) t A
end Go.Proofs.Ytljiiniocnljmaa
