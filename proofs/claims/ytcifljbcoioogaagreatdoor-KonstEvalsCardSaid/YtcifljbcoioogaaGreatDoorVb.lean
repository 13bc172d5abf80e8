/-
  Trees in memory, by the blocks in which they lie; a row of trees.
  The maker of trees: a number below n out of the next byte; a name, a literal, the operators of two.
  What the maker makes; a tree is appended to a row; a row of trees is made.
  MakeExprs.
-/
import Derived.Test.YtcifljbcoioogaaGreatDoorXa
import Derived.Lib.OwnBridge
import Derived.Lib.AppendIntMem
import Derived.Deep.AppendLies
namespace Go.Proofs.YtcifljbcoioogaaGreatDoor
open Go.RowKit Go.Lib
/-- The operands of a tree lie at A, in blocks of F. -/
def XQ (w : World) (F : Nat → Prop) : XT → Option Addr → Prop
  | .z _, _ => True
  | .u _ a, A => ∃ b o, A = some ⟨b, o, none⟩ ∧ F b ∧ ∃ A1 c1, XC w b o a.h A1 a.args.length c1 ∧ XQ w F a A1
  | .b _ a1 a2, A => ∃ b o, A = some ⟨b, o, none⟩ ∧ F b ∧ (∃ A1 c1, XC w b o a1.h A1 a1.args.length c1 ∧ XQ w F a1 A1) ∧ ∃ A2 c2, XC w b (o + 6) a2.h A2 a2.args.length c2 ∧ XQ w F a2 A2
  | .t _ a1 a2 a3, A => ∃ b o, A = some ⟨b, o, none⟩ ∧ F b ∧ (∃ A1 c1, XC w b o a1.h A1 a1.args.length c1 ∧ XQ w F a1 A1) ∧ (∃ A2 c2, XC w b (o + 6) a2.h A2 a2.args.length c2 ∧ XQ w F a2 A2) ∧
      ∃ A3 c3, XC w b (o + 12) a3.h A3 a3.args.length c3 ∧ XQ w F a3 A3
theorem XC.blk {w w' : World} {b o : Nat} {h : XH} {A : Option Addr} {n c : Nat} (x : XC w b o h A n c) (k : w'.heap[b]? = w.heap[b]?) : XC w' b o h A n c := by
  have hk : ∀ i, w'.cell? ⟨b, i, none⟩ = w.cell? ⟨b, i, none⟩ := fun i => World.cell?_of_block k
  unfold XC at *
  simp only [hk]
  exact x
theorem XQ.over {w w' : World} {F G : Nat → Prop} (k : ∀ b, F b → w'.heap[b]? = w.heap[b]?) (g : ∀ b, F b → G b) : ∀ {t : XT} {A : Option Addr}, XQ w F t A → XQ w' G t A
  | .z _, _, _ => trivial
  | .u _ _, _, ⟨b, o, e, hb, A1, c1, x1, y1⟩ => ⟨b, o, e, g b hb, A1, c1, x1.blk (k b hb), XQ.over k g y1⟩
  | .b _ _ _, _, ⟨b, o, e, hb, ⟨A1, c1, x1, y1⟩, A2, c2, x2, y2⟩ => ⟨b, o, e, g b hb, ⟨A1, c1, x1.blk (k b hb), XQ.over k g y1⟩, A2, c2, x2.blk (k b hb), XQ.over k g y2⟩
  | .t _ _ _ _, _, ⟨b, o, e, hb, ⟨A1, c1, x1, y1⟩, ⟨A2, c2, x2, y2⟩, A3, c3, x3, y3⟩ =>
    ⟨b, o, e, g b hb, ⟨A1, c1, x1.blk (k b hb), XQ.over k g y1⟩, ⟨A2, c2, x2.blk (k b hb), XQ.over k g y2⟩, A3, c3, x3.blk (k b hb), XQ.over k g y3⟩
theorem XQ.ar {w : World} {F : Nat → Prop} {B : Nat} (k : ∀ b, F b → b < B) : ∀ {t : XT} {A : Option Addr}, XQ w F t A → XAr w B t A
  | .z _, _, _ => trivial
  | .u _ _, _, ⟨b, o, e, hb, A1, c1, x1, y1⟩ => ⟨b, o, e, k b hb, A1, c1, x1, XQ.ar k y1⟩
  | .b _ _ _, _, ⟨b, o, e, hb, ⟨A1, c1, x1, y1⟩, A2, c2, x2, y2⟩ => ⟨b, o, e, k b hb, ⟨A1, c1, x1, XQ.ar k y1⟩, A2, c2, x2, XQ.ar k y2⟩
  | .t _ _ _ _, _, ⟨b, o, e, hb, ⟨A1, c1, x1, y1⟩, ⟨A2, c2, x2, y2⟩, A3, c3, x3, y3⟩ =>
    ⟨b, o, e, k b hb, ⟨A1, c1, x1, XQ.ar k y1⟩, ⟨A2, c2, x2, XQ.ar k y2⟩, A3, c3, x3, XQ.ar k y3⟩
theorem XAr.q {w : World} {B : Nat} : ∀ {t : XT} {A : Option Addr}, XAr w B t A → XQ w (· < B) t A
  | .z _, _, _ => trivial
  | .u _ _, _, ⟨b, o, e, hb, A1, c1, x1, y1⟩ => ⟨b, o, e, hb, A1, c1, x1, XAr.q y1⟩
  | .b _ _ _, _, ⟨b, o, e, hb, ⟨A1, c1, x1, y1⟩, A2, c2, x2, y2⟩ => ⟨b, o, e, hb, ⟨A1, c1, x1, XAr.q y1⟩, A2, c2, x2, XAr.q y2⟩
  | .t _ _ _ _, _, ⟨b, o, e, hb, ⟨A1, c1, x1, y1⟩, ⟨A2, c2, x2, y2⟩, A3, c3, x3, y3⟩ =>
    ⟨b, o, e, hb, ⟨A1, c1, x1, XAr.q y1⟩, ⟨A2, c2, x2, XAr.q y2⟩, A3, c3, x3, XAr.q y3⟩
/-- An operand's cells. -/
theorem XQ.get {w : World} {F : Nat → Prop} : ∀ {t : XT} {A : Option Addr}, XQ w F t A → ∀ j (hj : j < t.args.length), ∃ b o, A = some ⟨b, o, none⟩ ∧ F b ∧ ∃ Aj cj, XC w b (o + j * 6) t.args[j].h Aj t.args[j].args.length cj ∧ XQ w F t.args[j] Aj
  | .z _, _, _, j, hj => by simp [XT.args] at hj
  | .u _ _, _, ⟨b, o, e, hb, A1, c1, x1, y1⟩, j, hj => by
    have : j = 0 := by simp [XT.args] at hj; omega
    subst this
    exact ⟨b, o, e, hb, A1, c1, x1, y1⟩
  | .b _ _ _, _, ⟨b, o, e, hb, ⟨A1, c1, x1, y1⟩, A2, c2, x2, y2⟩, j, hj => by
    have : j = 0 ∨ j = 1 := by simp [XT.args] at hj; omega
    rcases this with rfl | rfl
    · exact ⟨b, o, e, hb, A1, c1, x1, y1⟩
    · exact ⟨b, o, e, hb, A2, c2, x2, y2⟩
  | .t _ _ _ _, _, ⟨b, o, e, hb, ⟨A1, c1, x1, y1⟩, ⟨A2, c2, x2, y2⟩, A3, c3, x3, y3⟩, j, hj => by
    have : j = 0 ∨ j = 1 ∨ j = 2 := by simp [XT.args] at hj; omega
    rcases this with rfl | rfl | rfl
    · exact ⟨b, o, e, hb, A1, c1, x1, y1⟩
    · exact ⟨b, o, e, hb, A2, c2, x2, y2⟩
    · exact ⟨b, o, e, hb, A3, c3, x3, y3⟩
theorem XQ.nil {w : World} {F : Nat → Prop} {t : XT} {A : Option Addr} (h : t.args = []) : XQ w F t A := by
  cases t <;> simp [XT.args] at h
  trivial
theorem XT.args_le (t : XT) : t.args.length ≤ 3 := by cases t <;> simp [XT.args]
/-- A tree of given operands. -/
def mkT (h : XH) : List XT → XT
  | [] => .z h
  | [a] => .u h a
  | [a, b] => .b h a b
  | a :: b :: c :: _ => .t h a b c
theorem mkT_h (h : XH) (l : List XT) : (mkT h l).h = h := by
  match l with
  | [] => rfl
  | [_] => rfl
  | [_, _] => rfl
  | _ :: _ :: _ :: _ => rfl
theorem mkT_args (h : XH) (l : List XT) (hl : l.length ≤ 3) : (mkT h l).args = l := by
  match l, hl with
  | [], _ => rfl
  | [_], _ => rfl
  | [_, _], _ => rfl
  | [_, _, _], _ => rfl
  | _ :: _ :: _ :: _ :: _, hl => simp at hl
theorem mkT_eta (t : XT) : mkT t.h t.args = t := by cases t <;> rfl
/-- A tree with what its cells say of its operands. -/
structure XE where
  t : XT
  A : Option Addr
  c : Nat
def ec (r : XE) : List Value := [.int .i64 r.t.h.k, .int .i64 r.t.h.f, .int .i64 r.t.h.l, .int .i64 r.t.h.c, .string r.t.h.s, .slice r.A r.t.args.length r.c]
def ecs (rs : List XE) : List Value := rs.flatMap ec
theorem ecs_app (a b : List XE) : ecs (a ++ b) = ecs a ++ ecs b := by simp [ecs]
theorem ecs_get : ∀ (l : List XE) (j : Nat) (hj : j < l.length) (i : Nat) (_ : i < 6), (ecs l)[j * 6 + i]? = (ec l[j])[i]?
  | [], j, hj, _, _ => by simp at hj
  | x :: l, 0, hj, i, hi => by
    have e : ecs (x :: l) = ec x ++ ecs l := rfl
    rw [e, Nat.zero_mul, Nat.zero_add, List.getElem?_append_left (by simp [ec]; omega)]
    rfl
  | x :: l, j + 1, hj, i, hi => by
    have e : ecs (x :: l) = ec x ++ ecs l := rfl
    rw [e, show (j + 1) * 6 + i = 6 + (j * 6 + i) by omega, List.getElem?_append_right (by simp [ec])]
    have : 6 + (j * 6 + i) - (ec x).length = j * 6 + i := by simp [ec]
    rw [this, ecs_get l j (by simpa using hj) i hi]
    rfl
/-- Trees of a row lie in blocks of F. -/
def XRow (w : World) (F : Nat → Prop) (rs : List XE) : Prop := ∀ r ∈ rs, XQ w F r.t r.A
theorem XRow.nil (w : World) (F : Nat → Prop) : XRow w F [] := fun r hr => by cases hr
theorem XRow.over {w w' : World} {F G : Nat → Prop} {rs : List XE} (h : XRow w F rs) (k : ∀ b, F b → w'.heap[b]? = w.heap[b]?) (g : ∀ b, F b → G b) : XRow w' G rs := fun r hr => (h r hr).over k g
theorem XRow.snoc {w : World} {F : Nat → Prop} {rs : List XE} {r : XE} (h : XRow w F rs) (hr : XQ w F r.t r.A) : XRow w F (rs ++ [r]) := fun x hx => by
  rcases List.mem_append.1 hx with h1 | h1
  · exact h x h1
  · rw [List.mem_singleton.1 h1]; exact hr
/-- A row that the call owns is a tree's operands. -/
theorem row_XQ {w : World} {B n c : Nat} {A : Option Addr} {T : TypeId} {rs : List XE} {F : Nat → Prop} (h : w.ownsRow B T 6 (.slice A n c) rs.length (ecs rs)) (hr : XRow w F rs) (hB : ∀ g, B ≤ g → g < w.heap.size → F g) (h3 : rs.length ≤ 3) (hd : XH) :
    n = rs.length ∧ XQ w F (mkT hd (rs.map XE.t)) A := by
  rcases h.2 with ⟨e, h0⟩ | ⟨g, cap, cur, e, hb, hg, h1, h2, h3', h4⟩
  · cases e
    refine ⟨h0.symm, XQ.nil ?_⟩
    rw [mkT_args _ _ (by simpa using h3)]
    have := List.eq_nil_of_length_eq_zero h0
    subst this; rfl
  · cases e
    have hgl := (Array.getElem?_eq_some_iff.1 hg).1
    have hcell : ∀ (o : Nat) (v : Value), (ecs rs)[o]? = some v → w.cell? ⟨g, 0 + o, none⟩ = some v := fun o v hv => by
      rw [← h4] at hv
      rw [List.getElem?_take] at hv
      split at hv
      · simpa [World.cell?, hg] using hv
      · cases hv
    have hel : ∀ j (hj : j < rs.length), XC w g (0 + j * 6) rs[j].t.h rs[j].A rs[j].t.args.length rs[j].c := fun j hj => by
      have q : ∀ i (hi : i < 6) v, (ec rs[j])[i]? = some v → w.cell? ⟨g, 0 + j * 6 + i, none⟩ = some v := fun i hi v hv => by
        have := hcell (j * 6 + i) v ((ecs_get rs j hj i hi).trans hv)
        rwa [← Nat.add_assoc] at this
      exact ⟨q 0 (by decide) _ rfl, q 1 (by decide) _ rfl, q 2 (by decide) _ rfl, q 3 (by decide) _ rfl, q 4 (by decide) _ rfl, q 5 (by decide) _ rfl⟩
    have hF := hB g hb hgl
    have hq : ∀ j (hj : j < rs.length), XQ w F rs[j].t rs[j].A := fun j hj => hr _ (List.getElem_mem hj)
    refine ⟨rfl, ?_⟩
    match rs, h3, hel, hq with
    | [], _, _, _ => trivial
    | [a], _, hel, hq => exact ⟨g, 0, rfl, hF, a.A, a.c, by simpa using hel 0 (by simp), by simpa using hq 0 (by simp)⟩
    | [a, b], _, hel, hq => exact ⟨g, 0, rfl, hF, ⟨a.A, a.c, by simpa using hel 0 (by simp), by simpa using hq 0 (by simp)⟩, b.A, b.c, by simpa using hel 1 (by simp), by simpa using hq 1 (by simp)⟩
    | [a, b, c], _, hel, hq => exact ⟨g, 0, rfl, hF, ⟨a.A, a.c, by simpa using hel 0 (by simp), by simpa using hq 0 (by simp)⟩, ⟨b.A, b.c, by simpa using hel 1 (by simp), by simpa using hq 1 (by simp)⟩, c.A, c.c, by simpa using hel 2 (by simp), by simpa using hq 2 (by simp)⟩
    | a :: b :: c :: d :: l, h3, _, _ => simp at h3
end Go.Proofs.YtcifljbcoioogaaGreatDoor
namespace Go.Proofs.YtcifljbcoioogaaGreatDoor
open Go.RowKit Go.Lib
def nm8 : List (List UInt8) := [[97], [98], [99], [100], [120, 49], [95, 121], [113], [114]]
def nu8 : List (List UInt8) := [[48], [49], [50], [55], [52, 39, 98, 49, 48, 49, 48], [56, 39, 104, 102, 102], [51, 39, 115, 100, 50], [49, 95, 48]]
def op21 : List (List UInt8) := [[43], [45], [42], [47], [37], [38], [124], [94], [126, 94], [60, 60], [62, 62], [60, 60, 60], [62, 62, 62], [60], [60, 61], [62], [62, 61], [61, 61], [33, 61], [38, 38], [124, 124]]
def cl4 : List (List UInt8) := [[102], [103], [36, 115, 105, 103, 110, 101, 100], [36, 117, 110, 115, 105, 103, 110, 101, 100]]
abbrev tabS (L : List (List UInt8)) : Array Value := (L.map fun l => Value.string ⟨l.toArray⟩).toArray
theorem tab_cell {w : World} {g : Nat} {L : List (List UInt8)} {T : TypeId} (h : w.heap[g]? = some (.cells (tabS L) T (0, 0))) (r : Nat) (hr : r < L.length) : w.cell? ⟨g, r, none⟩ = some (.string ⟨L[r].toArray⟩) := by
  rw [Lib.cell_of_heap h]
  simp [tabS, hr]
theorem tab_list (l : List UInt8) : (⟨l.toArray⟩ : ByteArray).toList = l := by rw [Go.Lib.toList_data]
/-- The maker's block: the bytes, and how many of them are used; all of it lies below B. -/
def MKm (w : World) (p B : Nat) : Prop := p < B ∧ B ≤ w.heap.size ∧ ∃ A n c k, w.heap[p]? = some (.cells #[.slice A n c, .int .i64 ((k : Nat) : Int)] 28 (0, 0)) ∧ k ≤ n ∧ n ≤ 300 ∧ (0 < n → ∃ b o : Nat, A = some ⟨b, o, none⟩ ∧ b ≠ p ∧ b < B ∧ ∀ i, i < n → ∃ u : Nat, u < 256 ∧ w.cell? ⟨b, o + i, none⟩ = some (.int .u8 (u : Int)))
theorem MKm.kept {w w' : World} {p B : Nat} (h : MKm w p B) (k : ∀ b, b < B → w'.heap[b]? = w.heap[b]?) (hs : w.heap.size ≤ w'.heap.size) : MKm w' p B := by
  obtain ⟨hp, hB, A, n, c, q, hg, hq, hn, hd⟩ := h
  refine ⟨hp, Nat.le_trans hB hs, A, n, c, q, (k p hp).trans hg, hq, hn, fun h0 => ?_⟩
  obtain ⟨b, o, e, hb, hl, hc⟩ := hd h0
  refine ⟨b, o, e, hb, hl, fun i hi => ?_⟩
  obtain ⟨u, hu, hc⟩ := hc i hi
  exact ⟨u, hu, (World.cell?_of_block (k b hl)).trans hc⟩
theorem MKm.over {w w' : World} {p B : Nat} (h : MKm w p B) (k : Below w.heap.size w w') : MKm w' p B := h.kept (fun b hb => k.block b (Nat.lt_of_lt_of_le hb h.2.1)) k.size
theorem MKm.alloc {w : World} {p B : Nat} (h : MKm w p B) (o : Obj) : MKm (w.alloc o) p B := h.over ((Below.refl _ w).alloc (Nat.le_refl _) o)
theorem MKm.drew {w : World} {p B : Nat} (h : MKm w p B) : MKm w.drew p B := h
theorem MKm.lt {w : World} {p B : Nat} (h : MKm w p B) : p < w.heap.size := Nat.lt_of_lt_of_le h.1 h.2.1
theorem Keep.dr {F : Nat → Prop} {w w' : World} (h : Keep F w w') : Keep F w w'.drew := ⟨h.os, h.tape, h.output, h.size, h.block⟩
/-- What Next leaves. -/
def NX (n p B : Nat) (w : World) (e : Ending) (w' : World) : Prop := ∃ r : Nat, r < n ∧ e = .returned (.int .i64 (r : Int)) ∧ MKm w' p B ∧ Keep (· = p) w w'
set_option maxRecDepth 100000 in
set_option maxHeartbeats 1600000 in
theorem Next_t (p B n : Nat) (w : World) (hn : 0 < n) (hn2 : n ≤ 1000) (hM : MKm w p B) : Calls Tryz.prog 16 #[.pointer (some ⟨p, 0, none⟩), .int .i64 (n : Int)] w (NX n p B w) := by
  have hM0 := hM
  obtain ⟨hpB, hBs, A, m, c, k, hg, hk, hm, hd⟩ := hM
  have hpl := lt_of_get hg
  have c0 : w.cell? ⟨p, 0, none⟩ = some (.slice A m c) := by rw [Lib.cell_of_heap hg]; rfl
  have c1 : w.cell? ⟨p, 1, none⟩ = some (.int .i64 (k : Int)) := by rw [Lib.cell_of_heap hg]; rfl
  have cf : ∀ i, w.frozen? ⟨p, i, none⟩ = false := fun i => Lib.frozen_of_heap hg i
  by_cases h0 : k < m
  · obtain ⟨b, o, rfl, hbp, hbl, hc⟩ := hd (by omega)
    obtain ⟨u, hu, cu⟩ := hc k h0
    have hN1 : MKm (w.setCell ⟨p, 1, none⟩ (.int .i64 (((k + 1 : Nat) : Int)))) p B := by
      refine ⟨hpB, by rw [World.size_setCell]; exact hBs, _, m, c, k + 1, heap_set w p 1 _ _ _ hg, by omega, hm, fun _ => ⟨b, o, rfl, hbp, hbl, fun i hi => ?_⟩⟩
      obtain ⟨v, hv, cv⟩ := hc i hi
      refine ⟨v, hv, ?_⟩
      rw [← cv]
      exact World.cell?_of_block (Below.heap_setCell w ⟨p, 1, none⟩ _ b hbp)
    have hK1 : Keep (· = p) w (w.setCell ⟨p, 1, none⟩ (.int .i64 (((k + 1 : Nat) : Int)))) := (Keep.refl (fun x => x = p) w).set ⟨p, 1, none⟩ rfl _
    have ht : ((u : Int)).tmod (n : Int) = ((u % n : Nat) : Int) := rfl
    have hr := Nat.mod_lt u hn
    obtain ⟨r, hre⟩ : ∃ r, u % n = r := ⟨_, rfl⟩
    rw [hre] at ht hr
    have hcu : (w.setCell ⟨p, 1, none⟩ (.int .i64 (((k + 1 : Nat) : Int)))).cell? ⟨b, o + k, none⟩ = some (.int .u8 (u : Int)) := (World.cell?_of_block (Below.heap_setCell w ⟨p, 1, none⟩ _ b hbp)).trans cu
    have hkw : IntKind.i64.wrap ((k : Int) + 1) = ((k + 1 : Nat) : Int) := by rw [IntWalk.i64_in _ (by omega)]; rfl
    obtain ⟨q, hq⟩ : ∃ q, k + 1 = q := ⟨_, rfl⟩
    have hq1 : IntKind.i64.wrap ((q : Int) - 1) = (k : Int) := by rw [IntWalk.i64_in _ (by omega)]; omega
    have hqm : q ≤ m := by omega
    have hnz : ¬ n = 0 := by omega
    have hnz2 : ¬ (n : Int) = 0 := by omega
    rw [hq] at hN1 hK1 hcu hkw
    have hu64 : IntKind.i64.wrap (u : Int) = (u : Int) := IntWalk.i64_in _ (by omega)
    clear hd hM0 hg hre hc hq
    replace hN1 := Lib.hid hN1
    replace hK1 := Lib.hid hK1
    have hge : decide ((m : Int) ≤ (k : Int)) = false := by simp; omega
    go_enter Tryz.func16, Tryz.ntmps16
    go_wp2_with fail
    go_region
    go_wp2_with fail
    go_region
    go_wp2_with fail
    go_ret
    exact ⟨r, hr, rfl, hN1.out, hK1.out.dr.dr⟩
  · have hge : decide ((m : Int) ≤ (k : Int)) = true := by simp; omega
    have hge2 : (m : Int) ≤ (k : Int) := by omega
    replace hM0 := Lib.hid hM0
    clear hd hg
    go_enter Tryz.func16, Tryz.ntmps16
    go_wp2_with fail
    go_region
    go_wp2_with fail
    go_ret
    exact ⟨0, hn, rfl, hM0.out.drew, ⟨rfl, rfl, rfl, Nat.le_refl _, fun _ _ _ => rfl⟩⟩
/-- One of some texts; the maker went on. -/
def NS (L : List (List UInt8)) (p B : Nat) (w : World) (e : Ending) (w' : World) : Prop := ∃ s, e = .returned (.string s) ∧ s.toList ∈ L ∧ MKm w' p B ∧ Keep (· = p) w w'
theorem Keep.al0 (F : Nat → Prop) (w : World) (o : Obj) : Keep F w (w.alloc o) := Keep.of_below ((Below.refl _ w).alloc (Nat.le_refl _) o)
theorem Keep.then {F : Nat → Prop} {a b c : World} (h : Keep F a b) (k : Keep F b c) : Keep F a c := h.trans k fun _ hx => .inl hx
set_option maxRecDepth 100000 in
set_option maxHeartbeats 1600000 in
theorem mname_t (p B : Nat) (w : World) (hM : MKm w p B) : Calls Tryz.prog 17 #[.pointer (some ⟨p, 0, none⟩)] w (NS nm8 p B w) := by
  have hN : ∀ W, MKm W p B → Calls Tryz.prog 16 #[.pointer (some ⟨p, 0, none⟩), .int .i64 8] W (NX 8 p B W) := fun W q => Next_t p B 8 W (by decide) (by decide) q
  have hpl := hM.lt
  have hR : (w.alloc (.cells #[.string ⟨#[97]⟩, .string ⟨#[98]⟩, .string ⟨#[99]⟩, .string ⟨#[100]⟩, .string ⟨#[120, 49]⟩, .string ⟨#[95, 121]⟩, .string ⟨#[113]⟩, .string ⟨#[114]⟩] 9)).heap[w.heap.size]? = some (.cells (tabS nm8) 9 (0, 0)) := heap_alloc_new w _
  have hM1 := hM.alloc (.cells #[.string ⟨#[97]⟩, .string ⟨#[98]⟩, .string ⟨#[99]⟩, .string ⟨#[100]⟩, .string ⟨#[120, 49]⟩, .string ⟨#[95, 121]⟩, .string ⟨#[113]⟩, .string ⟨#[114]⟩] 9)
  have hk1 := Keep.al0 (· = p) w (.cells #[.string ⟨#[97]⟩, .string ⟨#[98]⟩, .string ⟨#[99]⟩, .string ⟨#[100]⟩, .string ⟨#[120, 49]⟩, .string ⟨#[95, 121]⟩, .string ⟨#[113]⟩, .string ⟨#[114]⟩] 9)
  have hz : (w.alloc (.cells #[.string ⟨#[97]⟩, .string ⟨#[98]⟩, .string ⟨#[99]⟩, .string ⟨#[100]⟩, .string ⟨#[120, 49]⟩, .string ⟨#[95, 121]⟩, .string ⟨#[113]⟩, .string ⟨#[114]⟩] 9)).heap.size = w.heap.size + 1 := by simp
  unfold NX at hN
  replace hN := Lib.hid hN
  replace hR := Lib.hid hR
  replace hM1 := Lib.hid hM1
  replace hk1 := Lib.hid hk1
  replace hz := Lib.hid hz
  go_enter Tryz.func17, Tryz.ntmps17
  go_wp2_with fail
  (with_reducible refine (hN.out _ hM1.out).mono ?_)
  rintro e w1 ⟨r, hr, rfl, hM2, hk2⟩
  have hR1 := (hk2.block w.heap.size (by rw [hz.out]; omega) (by omega)).trans hR.out
  have cr := tab_cell hR1 r hr
  have hmem : (⟨(nm8[r]'hr).toArray⟩ : ByteArray).toList ∈ nm8 := by rw [tab_list]; exact List.getElem_mem hr
  have hl1 := lt_of_get hR1
  obtain ⟨s, hs⟩ : ∃ s, (⟨(nm8[r]'hr).toArray⟩ : ByteArray) = s := ⟨_, rfl⟩
  rw [hs] at cr hmem
  have hbw := hk1.out.then hk2
  clear hs hk2 hR1
  replace hbw := Lib.hid hbw
  replace hM2 := Lib.hid hM2
  replace hmem := Lib.hid hmem
  go_wp2_with fail
  go_ret
  exact ⟨s, rfl, hmem.out, hM2.out, hbw.out⟩
set_option maxRecDepth 100000 in
set_option maxHeartbeats 1600000 in
theorem mnumber_t (p B : Nat) (w : World) (hM : MKm w p B) : Calls Tryz.prog 18 #[.pointer (some ⟨p, 0, none⟩)] w (NS nu8 p B w) := by
  have hN : ∀ W, MKm W p B → Calls Tryz.prog 16 #[.pointer (some ⟨p, 0, none⟩), .int .i64 8] W (NX 8 p B W) := fun W q => Next_t p B 8 W (by decide) (by decide) q
  have hpl := hM.lt
  have hR : (w.alloc (.cells #[.string ⟨#[48]⟩, .string ⟨#[49]⟩, .string ⟨#[50]⟩, .string ⟨#[55]⟩, .string ⟨#[52, 39, 98, 49, 48, 49, 48]⟩, .string ⟨#[56, 39, 104, 102, 102]⟩, .string ⟨#[51, 39, 115, 100, 50]⟩, .string ⟨#[49, 95, 48]⟩] 9)).heap[w.heap.size]? = some (.cells (tabS nu8) 9 (0, 0)) := heap_alloc_new w _
  have hM1 := hM.alloc (.cells #[.string ⟨#[48]⟩, .string ⟨#[49]⟩, .string ⟨#[50]⟩, .string ⟨#[55]⟩, .string ⟨#[52, 39, 98, 49, 48, 49, 48]⟩, .string ⟨#[56, 39, 104, 102, 102]⟩, .string ⟨#[51, 39, 115, 100, 50]⟩, .string ⟨#[49, 95, 48]⟩] 9)
  have hk1 := Keep.al0 (· = p) w (.cells #[.string ⟨#[48]⟩, .string ⟨#[49]⟩, .string ⟨#[50]⟩, .string ⟨#[55]⟩, .string ⟨#[52, 39, 98, 49, 48, 49, 48]⟩, .string ⟨#[56, 39, 104, 102, 102]⟩, .string ⟨#[51, 39, 115, 100, 50]⟩, .string ⟨#[49, 95, 48]⟩] 9)
  have hz : (w.alloc (.cells #[.string ⟨#[48]⟩, .string ⟨#[49]⟩, .string ⟨#[50]⟩, .string ⟨#[55]⟩, .string ⟨#[52, 39, 98, 49, 48, 49, 48]⟩, .string ⟨#[56, 39, 104, 102, 102]⟩, .string ⟨#[51, 39, 115, 100, 50]⟩, .string ⟨#[49, 95, 48]⟩] 9)).heap.size = w.heap.size + 1 := by simp
  unfold NX at hN
  replace hN := Lib.hid hN
  replace hR := Lib.hid hR
  replace hM1 := Lib.hid hM1
  replace hk1 := Lib.hid hk1
  replace hz := Lib.hid hz
  go_enter Tryz.func18, Tryz.ntmps18
  go_wp2_with fail
  (with_reducible refine (hN.out _ hM1.out).mono ?_)
  rintro e w1 ⟨r, hr, rfl, hM2, hk2⟩
  have hR1 := (hk2.block w.heap.size (by rw [hz.out]; omega) (by omega)).trans hR.out
  have cr := tab_cell hR1 r hr
  have hmem : (⟨(nu8[r]'hr).toArray⟩ : ByteArray).toList ∈ nu8 := by rw [tab_list]; exact List.getElem_mem hr
  have hl1 := lt_of_get hR1
  obtain ⟨s, hs⟩ : ∃ s, (⟨(nu8[r]'hr).toArray⟩ : ByteArray) = s := ⟨_, rfl⟩
  rw [hs] at cr hmem
  have hbw := hk1.out.then hk2
  clear hs hk2 hR1
  replace hbw := Lib.hid hbw
  replace hM2 := Lib.hid hM2
  replace hmem := Lib.hid hmem
  go_wp2_with fail
  go_ret
  exact ⟨s, rfl, hmem.out, hM2.out, hbw.out⟩
/-- The operators of two, in a new row. -/
theorem mops_t (w : World) : Calls Tryz.prog 20 #[] w fun e w' => e = .returned (.slice (some ⟨w.heap.size, 0, none⟩) 21 21) ∧ w'.heap[w.heap.size]? = some (.cells (tabS op21) 9 (0, 0)) ∧ Below w.heap.size w w' := by
  have hR : (w.alloc (.cells #[.string ⟨#[43]⟩, .string ⟨#[45]⟩, .string ⟨#[42]⟩, .string ⟨#[47]⟩, .string ⟨#[37]⟩, .string ⟨#[38]⟩, .string ⟨#[124]⟩, .string ⟨#[94]⟩, .string ⟨#[126, 94]⟩, .string ⟨#[60, 60]⟩, .string ⟨#[62, 62]⟩, .string ⟨#[60, 60, 60]⟩, .string ⟨#[62, 62, 62]⟩, .string ⟨#[60]⟩, .string ⟨#[60, 61]⟩, .string ⟨#[62]⟩, .string ⟨#[62, 61]⟩, .string ⟨#[61, 61]⟩, .string ⟨#[33, 61]⟩, .string ⟨#[38, 38]⟩, .string ⟨#[124, 124]⟩] 9)).heap[w.heap.size]? = some (.cells (tabS op21) 9 (0, 0)) := heap_alloc_new w _
  have hb := (Below.refl w.heap.size w).alloc (Nat.le_refl _) (.cells #[.string ⟨#[43]⟩, .string ⟨#[45]⟩, .string ⟨#[42]⟩, .string ⟨#[47]⟩, .string ⟨#[37]⟩, .string ⟨#[38]⟩, .string ⟨#[124]⟩, .string ⟨#[94]⟩, .string ⟨#[126, 94]⟩, .string ⟨#[60, 60]⟩, .string ⟨#[62, 62]⟩, .string ⟨#[60, 60, 60]⟩, .string ⟨#[62, 62, 62]⟩, .string ⟨#[60]⟩, .string ⟨#[60, 61]⟩, .string ⟨#[62]⟩, .string ⟨#[62, 61]⟩, .string ⟨#[61, 61]⟩, .string ⟨#[33, 61]⟩, .string ⟨#[38, 38]⟩, .string ⟨#[124, 124]⟩] 9)
  replace hR := Lib.hid hR
  replace hb := Lib.hid hb
  go_enter Tryz.func20, Tryz.ntmps20
  go_wp2_with fail
  go_ret
  exact ⟨rfl, hR.out, hb.out⟩
end Go.Proofs.YtcifljbcoioogaaGreatDoor
namespace Go.Proofs.YtcifljbcoioogaaGreatDoor
open Go.RowKit Go.Lib
/-- What a node is that the maker makes. -/
structure NM (h : XH) : Prop where
  f : h.f = 0
  l : h.l = 0
  c : h.c = 0
  k1 : h.k = 1 → h.s.toList ∈ nu8
  k2 : h.k = 2 ∨ h.k = 8 ∨ h.k = 9 → h.s.toList ∈ nm8
  k3 : h.k = 3 → h.s.toList ∈ un9
  k4 : h.k = 4 → h.s.toList ∈ op21
  k5 : h.k = 5 ∨ h.k = 6 ∨ h.k = 7 → h.s.toList = []
  ka : h.k = 10 → h.s.toList ∈ cl4
def WM : XT → Prop
  | .z h => NM h ∧ (h.k = 1 ∨ h.k = 2)
  | .u h a => NM h ∧ (h.k = 3 ∨ h.k = 6 ∨ h.k = 8 ∨ h.k = 10) ∧ WM a
  | .b h a b => NM h ∧ (h.k = 4 ∨ h.k = 6 ∨ h.k = 7 ∨ h.k = 9 ∨ h.k = 10) ∧ WM a ∧ WM b
  | .t h a b c => NM h ∧ (h.k = 5 ∨ h.k = 6 ∨ h.k = 7) ∧ WM a ∧ WM b ∧ WM c
theorem sz_of {s : ByteArray} {L : List (List UInt8)} (h : s.toList ∈ L) (hL : ∀ l ∈ L, l.length ≤ 64) : s.size ≤ 64 := by
  have := hL _ h
  rw [Go.Lib.toList_data] at this
  simpa using this
theorem op_split (l : List UInt8) (h : l ∈ op21) : l ∈ bin19 ∨ l = [38, 38] ∨ l = [124, 124] := by
  have : ∀ x ∈ op21, x ∈ bin19 ∨ x = [38, 38] ∨ x = [124, 124] := by decide
  exact this l h
theorem WM.wx : ∀ {t : XT}, WM t → WX t
  | .z h, ⟨n, k⟩ => ⟨k, by
    rcases k with k | k
    · exact sz_of (n.k1 k) (by decide)
    · exact sz_of (n.k2 (.inl k)) (by decide)⟩
  | .u h a, ⟨n, k, x⟩ => ⟨by
    rcases k with k | k | k | k
    · exact .inl ⟨k, n.k3 k⟩
    · exact .inr (.inl k)
    · exact .inr (.inr (.inl k))
    · exact .inr (.inr (.inr k)), WM.wx x⟩
  | .b h a b, ⟨n, k, x, y⟩ => ⟨by
    rcases k with k | k | k | k | k
    · exact .inl ⟨k, op_split _ (n.k4 k)⟩
    · exact .inr (.inl k)
    · exact .inr (.inr (.inl k))
    · exact .inr (.inr (.inr (.inl k)))
    · exact .inr (.inr (.inr (.inr k))), WM.wx x, WM.wx y⟩
  | .t h a b c, ⟨n, k, x, y, z⟩ => ⟨k, WM.wx x, WM.wx y, WM.wx z⟩
theorem info_expr : (Tryz.prog.info? 33).map (fun i => (i.zero, i.size, i.bytes)) = some (some (.agg #[.int .i64 0, .int .i64 0, .int .i64 0, .int .i64 0, .string ⟨#[]⟩, .slice none 0 0]), 6, 72) := by kernel_rfl
/-- The blocks beside a row's own, from base on. -/
def GX (base : Nat) (v : Value) (w : World) (b : Nat) : Prop := base ≤ b ∧ b < w.heap.size ∧ some b ≠ v.ownBlock
theorem own_ltT {w : World} {B n s : Nat} {e : TypeId} {v : Value} {xs : List Value} (h : w.ownsRow B e s v n xs) : ∀ g, v.ownBlock = some g → B ≤ g ∧ g < w.heap.size := by
  rcases h.2 with ⟨rfl, _⟩ | ⟨g, cap, cur, rfl, hb, hg, h3⟩
  · intro g hg; cases hg
  · intro g' hg'
    cases hg'
    exact ⟨hb, (Array.getElem?_eq_some_iff.1 hg).1⟩
theorem own_keepT {w w' : World} {B n : Nat} {e : TypeId} {sz : Nat} {v : Value} {xs : List Value} (h : w.ownsRow B e sz v n xs) (hk : ∀ b, v.ownBlock = some b → w'.heap[b]? = w.heap[b]?) : w'.ownsRow B e sz v n xs := by
  refine ⟨h.1, ?_⟩
  rcases h.2 with hn | ⟨g, cap, cur, rfl, hb, hgg, rest⟩
  · exact .inl hn
  · exact .inr ⟨g, cap, cur, rfl, hb, (hk g rfl).trans hgg, rest⟩
theorem own_shape {w : World} {B n : Nat} {e : TypeId} {sz : Nat} {v : Value} {xs : List Value} (h : w.ownsRow B e sz v n xs) : ∃ A c, v = .slice A n c := by
  rcases h.2 with ⟨rfl, hn⟩ | ⟨g, cap, cur, rfl, _⟩
  · exact ⟨none, 0, by rw [hn]⟩
  · exact ⟨_, _, rfl⟩
theorem GX.grow {base : Nat} {v : Value} {w w' : World} (h : w.heap.size ≤ w'.heap.size) : ∀ b, GX base v w b → GX base v w' b := fun _ hb => ⟨hb.1, Nat.lt_of_lt_of_le hb.2.1 h, hb.2.2⟩
/-- Behind the append. -/
theorem row_grown {w2 w6 : World} {base g k cap : Nat} {v : Value} {rs : List XE} {r : XE} (hg : w2.grownBy w6 v.ownBlock) (hat : v.ownBlock = some g ∨ g = w2.heap.size) (hX : XRow w2 (GX base v w2) rs) (hr : XQ w2 (GX base v w2) r.t r.A) :
    XRow w6 (GX base (.slice (some ⟨g, 0, none⟩) k cap) w6) (rs ++ [r]) := by
  refine (hX.snoc hr).over (fun b hb => hg.block b hb.2.1 hb.2.2) fun b hb => ⟨hb.1, Nat.lt_of_lt_of_le hb.2.1 hg.size, fun e => ?_⟩
  have e1 : some b = some g := e
  injection e1 with e1
  subst e1
  rcases hat with h | h
  · exact hb.2.2 h.symm
  · have := hb.2.1; omega
theorem keep_grown {w2 w6 : World} {row : Option Nat} {F : Nat → Prop} (hg : w2.grownBy w6 row) (hF : ∀ b, row = some b → F b) : Keep F w2 w6 :=
  ⟨hg.os, hg.tape, hg.output, hg.size, fun b hb hn => hg.block b hb fun e => hn (hF b e.symm)⟩
/-- What MakeExpr leaves. -/
def MXm (D p B : Nat) (w : World) (e : Ending) (w' : World) : Prop := ∃ t A c, e = .returned (xv t.h A t.args.length c) ∧ WM t ∧ t.dep ≤ D ∧ XQ w' (fun b => w.heap.size ≤ b ∧ b < w'.heap.size) t A ∧ MKm w' p B ∧ Keep (· = p) w w'
/-- What MakeExprs leaves. -/
def MXms (D p B n : Nat) (w : World) (e : Ending) (w' : World) : Prop := ∃ (ts : List XT) (A : Option Addr) (c : Nat), ts.length = n ∧ e = .returned (.slice A n c) ∧ (∀ t ∈ ts, WM t ∧ t.dep ≤ D) ∧ (∀ hd, XQ w' (fun b => w.heap.size ≤ b ∧ b < w'.heap.size) (mkT hd ts) A) ∧ MKm w' p B ∧ Keep (· = p) w w'
end Go.Proofs.YtcifljbcoioogaaGreatDoor
namespace Go.Proofs.YtcifljbcoioogaaGreatDoor
open Go.RowKit Go.Lib
set_option maxRecDepth 100000 in
set_option maxHeartbeats 3200000 in
theorem MakeExprs_t (p B n D : Nat) (d : Int) (w : World) (hn : n ≤ 3) (hM : MKm w p B) (hE : ∀ W, MKm W p B → Calls Tryz.prog 8 #[.pointer (some ⟨p, 0, none⟩), .int .i64 d] W (MXm D p B W)) :
    Calls Tryz.prog 19 #[.pointer (some ⟨p, 0, none⟩), .int .i64 d, .int .i64 (n : Int)] w (MXms D p B n w) := by
  obtain ⟨i0, hi, hz0, hz1, hz2⟩ := info_parts info_expr
  have hpB := hM.1
  have hBw := hM.2.1
  unfold MXm at hE
  replace hE := Lib.hid hE
  replace hM := Lib.hid hM
  go_enter Tryz.func19, Tryz.ntmps19
  go_wp2_with fail
  go_loopw [7, 8] (fun v iv wr => ∃ (k : Nat) (rs : List XE), rs.length = k ∧ k ≤ n ∧ iv = .int .i64 (k : Int) ∧ wr.ownsRow w.heap.size 33 6 v k (ecs rs) ∧ XRow wr (GX w.heap.size v wr) rs ∧ (∀ r ∈ rs, WM r.t ∧ r.t.dep ≤ D) ∧ MKm wr p B ∧ Keep (· = p) w wr) (fun _ iv _ => n - (RowKit.intOf iv).toNat)
  case atStart => exact ⟨0, [], rfl, Nat.zero_le _, rfl, ⟨rfl, Or.inl ⟨rfl, rfl⟩⟩, XRow.nil _ _, (fun r hr => by cases hr), hM.out, Keep.refl _ _⟩
  case round =>
    obtain ⟨k, rs, hrk, hk, rfl, ho, hX, hP, hMr, hK⟩ := hrel
    obtain ⟨A1, c1, rfl⟩ := own_shape ho
    have hz := hK.size
    replace hrk := Lib.hid hrk
    replace hP := Lib.hid hP
    by_cases hlt : k < n
    · have hw1 : IntKind.i64.wrap ((k : Int) + 1) = (k : Int) + 1 := IntWalk.i64_in _ (by omega)
      replace ho := Lib.hid ho
      replace hX := Lib.hid hX
      replace hMr := Lib.hid hMr
      replace hK := Lib.hid hK
      go_wp2_with fail
      (with_reducible refine (hE.out _ hMr.out).mono ?_)
      rintro e w1 ⟨t, A2, c2, rfl, hWt, hdt, hXt, hM1, hK1⟩
      have hown := own_ltT ho.out
      have hnp : ∀ b, w.heap.size ≤ b → b ≠ p := fun b hb => by omega
      have ho1 := own_keepT ho.out fun b hb => hK1.block b (hown b hb).2 (hnp b (hown b hb).1)
      have hX1 := hX.out.over (G := GX w.heap.size (.slice A1 k c1) w1) (fun b hb => hK1.block b hb.2.1 (hnp b hb.1)) (GX.grow hK1.size)
      have hXt1 : XQ w1 (GX w.heap.size (.slice A1 k c1) w1) t A2 := hXt.over (fun _ _ => rfl) fun b hb => ⟨Nat.le_trans hz hb.1, hb.2, fun e => by have := (hown b e.symm).2; omega⟩
      have hKw1 := hK.out.then hK1
      clear hXt hK1 hown ho hX hMr hK
      have hR := heap_alloc_new w1 (.cells #[.int .i64 t.h.k, .int .i64 t.h.f, .int .i64 t.h.l, .int .i64 t.h.c, .string t.h.s, .slice A2 t.args.length c2] 33)
      have hba := (Below.refl w1.heap.size w1).alloc (Nat.le_refl _) (.cells #[.int .i64 t.h.k, .int .i64 t.h.f, .int .i64 t.h.l, .int .i64 t.h.c, .string t.h.s, .slice A2 t.args.length c2] 33)
      have ho2 := ho1.alloc (.cells #[.int .i64 t.h.k, .int .i64 t.h.f, .int .i64 t.h.l, .int .i64 t.h.c, .string t.h.s, .slice A2 t.args.length c2] 33)
      have hX2 := hX1.over (G := GX w.heap.size (.slice A1 k c1) (w1.alloc (.cells #[.int .i64 t.h.k, .int .i64 t.h.f, .int .i64 t.h.l, .int .i64 t.h.c, .string t.h.s, .slice A2 t.args.length c2] 33))) (fun b hb => hba.block b hb.2.1) (GX.grow hba.size)
      have hXt2 := hXt1.over (G := GX w.heap.size (.slice A1 k c1) (w1.alloc (.cells #[.int .i64 t.h.k, .int .i64 t.h.f, .int .i64 t.h.l, .int .i64 t.h.c, .string t.h.s, .slice A2 t.args.length c2] 33))) (fun b hb => hba.block b hb.2.1) (GX.grow hba.size)
      have hM2 := hM1.alloc (.cells #[.int .i64 t.h.k, .int .i64 t.h.f, .int .i64 t.h.l, .int .i64 t.h.c, .string t.h.s, .slice A2 t.args.length c2] 33)
      have hK2 := hKw1.then (Keep.al0 _ w1 (.cells #[.int .i64 t.h.k, .int .i64 t.h.f, .int .i64 t.h.l, .int .i64 t.h.c, .string t.h.s, .slice A2 t.args.length c2] 33))
      have hz1' : w.heap.size ≤ w1.heap.size := hKw1.size
      clear hba ho1 hX1 hXt1 hM1 hKw1
      replace hR := Lib.hid hR
      replace ho2 := Lib.hid ho2
      replace hX2 := Lib.hid hX2
      replace hXt2 := Lib.hid hXt2
      replace hM2 := Lib.hid hM2
      replace hK2 := Lib.hid hK2
      replace hWt := Lib.hid hWt
      replace hdt := Lib.hid hdt
      go_wp2_with (at_builtin; refine wpList_append_lies _ rfl _ _ 31 rfl w.heap.size 33 i0 (.agg #[.int .i64 0, .int .i64 0, .int .i64 0, .int .i64 0, .string ⟨#[]⟩, .slice none 0 0]) 6 72 Tryz.underlying31 hi hz0 hz1 hz2 rfl (by decide) _ k (ecs rs) rfl ho2.out ⟨w1.heap.size, 0, none⟩ 1 1 [.int .i64 t.h.k, .int .i64 t.h.f, .int .i64 t.h.l, .int .i64 t.h.c, .string t.h.s, .slice A2 t.args.length c2] rfl ?a0 ?a1 ?a2 ?a3 ?a4 ?a5 ?a6 (w1.heap.size + 1) ?a7 ?a8)
      case a0 => rfl
      case a1 => exact World.news_of_block hR.out
      case a2 => simp [Value.oneCell']
      case a3 => decide
      case a4 => unfold maxLen; omega
      case a5 => omega
      case a6 => simp; omega
      case a7 => simp
      case a8 =>
        intro g6 cap6 w6 ho6 hg6 hgb hlt6
        have hX6 := row_grown (k := k + 1) (cap := cap6) (r := ⟨t, A2, c2⟩) hg6 (by rw [World.size_alloc]; exact hgb) hX2.out hXt2.out
        have hown2 := own_ltT ho2.out
        have hM6 : MKm w6 p B := hM2.out.kept (fun b hb => hg6.block b (by have := hM2.out.2.1; omega) fun e => by have := (hown2 b e.symm).1; omega) hg6.size
        have hK6 : Keep (· = p) w w6 := hK2.out.trans (keep_grown (F := fun b => w.heap.size ≤ b) hg6 fun b hb => (hown2 b hb).1) fun x hx => .inr hx
        have hl6 : (rs ++ [(⟨t, A2, c2⟩ : XE)]).length = k + 1 := by rw [List.length_append, hrk.out]; rfl
        have he6 : ecs rs ++ [.int .i64 t.h.k, .int .i64 t.h.f, .int .i64 t.h.l, .int .i64 t.h.c, .string t.h.s, .slice A2 t.args.length c2] = ecs (rs ++ [(⟨t, A2, c2⟩ : XE)]) := by rw [ecs_app]; rfl
        rw [he6] at ho6
        have hP6 : ∀ r ∈ rs ++ [(⟨t, A2, c2⟩ : XE)], WM r.t ∧ r.t.dep ≤ D := fun r hr => by
          rcases List.mem_append.1 hr with h | h
          · exact hP.out r h
          · rw [List.mem_singleton.1 h]; exact ⟨hWt.out, hdt.out⟩
        clear ho2 hX2 hXt2 hM2 hK2 hR hg6 hgb he6 hown2
        replace ho6 := Lib.hid ho6
        replace hX6 := Lib.hid hX6
        replace hM6 := Lib.hid hM6
        replace hK6 := Lib.hid hK6
        replace hP6 := Lib.hid hP6
        replace hl6 := Lib.hid hl6
        go_wp2_with fail
        go_roundw
        case rel => exact ⟨k + 1, rs ++ [⟨t, A2, c2⟩], hl6.out, by omega, by go_num, ho6.out, hX6.out, hP6.out, hM6.out, hK6.out⟩
        case measure => (simp [RowKit.intOf]; omega)
    · obtain rfl : k = n := by omega
      have hl := hrk.out
      have hX0 := hX.over (G := fun b => w.heap.size ≤ b ∧ b < wr.heap.size) (fun _ _ => rfl) fun b hb => ⟨hb.1, hb.2.1⟩
      have ho0 : wr.ownsRow w.heap.size 33 6 (.slice A1 k c1) rs.length (ecs rs) := by rw [hl]; exact ho
      have hq := Lib.hid fun hd => (row_XQ ho0 hX0 (fun g h1 h2 => ⟨h1, h2⟩) (by omega) hd).2
      clear hX0 ho0
      replace hK := Lib.hid hK
      replace hMr := Lib.hid hMr
      clear ho hX
      go_wp2_with fail
      go_ret
      exact ⟨rs.map XE.t, A1, c1, by rw [List.length_map]; exact hl, rfl, fun t ht => by obtain ⟨r, hr, rfl⟩ := List.mem_map.1 ht; exact hP.out r hr, hq.out, hMr.out, hK.out⟩
end Go.Proofs.YtcifljbcoioogaaGreatDoor
