/-
  How a formula lies in memory: a block with the number of variables and two slices of numbers that the call owns: the literals of all clauses, one behind the other, and where each clause ends.
-/
import Derived.Test.YtembgefbmecdbaaKa
import Derived.Test.YtembgefbmecdbaaRows
import Derived.WalkKit
import Derived.Below
import Derived.Lib.Builder
import Derived.Lib.OwnBridge
import Derived.Lib.AppendIntMem
import Derived.Lib.Hide
namespace Go.Proofs.Ytembgefbmecdbaa
open Go Go.RowKit Go.Lib
/-- Returned v, and nothing below the heap's end has changed. -/
def RV (w : World) (v : Value) (e : Ending) (w' : World) : Prop := e = .returned v ∧ Below w.heap.size w w'
theorem below_call {B : Nat} {w a b : World} (h : Below a.heap.size a b) (k : Below B w a) (hB : B ≤ a.heap.size) : Below B w b := k.trans (h.mono hB)
abbrev iv (l : List Int) : List Value := l.map (Value.int .i64)
/-- Where the clauses end. -/
def ends : Nat → List (List Int) → List Int
  | _, [] => []
  | s, c :: cs => ((s + c.length : Nat) : Int) :: ends (s + c.length) cs
theorem ends_len : ∀ (s : Nat) (cs : List (List Int)), (ends s cs).length = cs.length
  | _, [] => rfl
  | s, c :: cs => by simp [ends, ends_len]
theorem ends_append : ∀ (s : Nat) (cs : List (List Int)) (c : List Int), ends s (cs ++ [c]) = ends s cs ++ [((s + cs.flatten.length + c.length : Nat) : Int)]
  | s, [], c => by simp [ends]
  | s, d :: cs, c => by
    simp only [List.cons_append, ends, ends_append, List.flatten_cons, List.length_append]
    rw [Nat.add_assoc s]
/-- Where clause i begins. -/
def beg (cs : List (List Int)) (i : Nat) : Nat := (cs.take i).flatten.length
theorem beg_zero (cs : List (List Int)) : beg cs 0 = 0 := by simp [beg]
theorem beg_succ (cs : List (List Int)) (i : Nat) (h : i < cs.length) : beg cs (i + 1) = beg cs i + (cs[i]).length := by
  unfold beg
  rw [List.take_succ_eq_append_getElem h, List.flatten_append, List.length_append]
  simp
theorem beg_le (cs : List (List Int)) (i : Nat) : beg cs i ≤ cs.flatten.length := by
  have h : cs.flatten = (cs.take i).flatten ++ (cs.drop i).flatten := by rw [← List.flatten_append, List.take_append_drop]
  unfold beg
  rw [h, List.length_append]
  omega
theorem ends_get : ∀ (s : Nat) (cs : List (List Int)) (i : Nat), i < cs.length → (ends s cs)[i]? = some ((s + beg cs (i + 1) : Nat) : Int)
  | s, [], i, h => by simp at h
  | s, c :: cs, 0, _ => by simp [ends, beg]
  | s, c :: cs, i + 1, h => by
    have := ends_get (s + c.length) cs i (by simpa using h)
    simp only [ends, List.getElem?_cons_succ, this, beg, List.take_succ_cons, List.flatten_cons, List.length_append]
    congr 2
    rw [Nat.add_assoc]
theorem flat_get (cs : List (List Int)) (i : Nat) (h : i < cs.length) (j : Nat) (hj : j < (cs[i]).length) : cs.flatten[beg cs i + j]? = some ((cs[i])[j]) := by
  have e : cs.flatten = (cs.take i).flatten ++ ((cs[i]) ++ (cs.drop (i + 1)).flatten) := by
    rw [← List.flatten_cons, ← List.flatten_append, ← List.drop_eq_getElem_cons h, List.take_append_drop]
  rw [e]
  unfold beg
  rw [List.getElem?_append_right (by omega), Nat.add_sub_cancel_left, List.getElem?_append_left hj, List.getElem?_eq_getElem hj]
/-- The blocks of a formula. -/
def FP (p : Nat) (vl ve : Value) (b : Nat) : Prop := b = p ∨ vl.ownBlock = some b ∨ ve.ownBlock = some b
/-- A formula of V variables with the clauses cs lies at block p. -/
structure CF (base : Nat) (w : World) (p V : Nat) (cs : List (List Int)) (vl ve : Value) : Prop where
  blk : w.heap[p]? = some (.cells #[.int .i64 (V : Int), vl, ve] 45 (0, 0))
  pb : base ≤ p
  lits : w.ownsRow base 3 1 vl cs.flatten.length (iv cs.flatten)
  ends : w.ownsRow base 3 1 ve cs.length (iv (ends 0 cs))
  apart : ∀ b, vl.ownBlock = some b → ve.ownBlock ≠ some b
  hV : V ≤ 60000
  hn : cs.length ≤ 200000
  hc : ∀ c, c ∈ cs → c.length ≤ 1000
  hd : ∀ c, c ∈ cs → Dom c
/-- Outside of the blocks F all that lay lies as it lay. -/
structure Keep (F : Nat → Prop) (w w' : World) : Prop where
  os : w'.os = w.os
  tape : w'.tape = w.tape
  output : w'.output = w.output
  size : w.heap.size ≤ w'.heap.size
  block : ∀ k, k < w.heap.size → ¬ F k → w'.heap[k]? = w.heap[k]?
theorem Keep.of_below {F : Nat → Prop} {w w' : World} (h : Below w.heap.size w w') : Keep F w w' := ⟨h.os, h.tape, h.output, h.size, fun k hk _ => h.block k hk⟩
theorem Keep.below {F : Nat → Prop} {w w' : World} (h : Keep F w w') {B : Nat} (hB : B ≤ w.heap.size) (hF : ∀ b, F b → B ≤ b) : Below B w w' :=
  ⟨h.os, h.tape, h.output, h.size, fun k hk => h.block k (by omega) fun hf => by have := hF k hf; omega⟩
theorem Keep.mono {F G : Nat → Prop} {w w' : World} (h : Keep F w w') (hG : ∀ b, F b → G b) : Keep G w w' := ⟨h.os, h.tape, h.output, h.size, fun k hk hn => h.block k hk fun hf => hn (hG k hf)⟩
theorem Keep.trans {F G : Nat → Prop} {a b c : World} (h : Keep F a b) (k : Keep G b c) (hG : ∀ x, G x → F x ∨ a.heap.size ≤ x) : Keep F a c :=
  ⟨k.os.trans h.os, k.tape.trans h.tape, k.output.trans h.output, Nat.le_trans h.size k.size, fun i hi hn => (k.block i (Nat.lt_of_lt_of_le hi h.size) fun hg => by
    rcases hG i hg with e | e
    · exact hn e
    · omega).trans (h.block i hi hn)⟩
theorem flat_le : ∀ (cs : List (List Int)), (∀ c, c ∈ cs → c.length ≤ 1000) → cs.flatten.length ≤ 1000 * cs.length
  | [], _ => by simp
  | c :: cs, h => by
    have := flat_le cs fun d hd => h d (List.mem_cons_of_mem _ hd)
    have h1 := h c (List.mem_cons_self ..)
    simp only [List.flatten_cons, List.length_append, List.length_cons]
    omega
theorem lt_of_get {w : World} {b : Nat} {o : Obj} (h : w.heap[b]? = some o) : b < w.heap.size := (Array.getElem?_eq_some_iff.1 h).1
section
variable {base : Nat} {w : World} {p V : Nat} {cs : List (List Int)} {vl ve : Value}
theorem CF.fl (h : CF base w p V cs vl ve) : cs.flatten.length ≤ 200000000 := by have := flat_le cs h.hc; have := h.hn; omega
theorem CF.lt (h : CF base w p V cs vl ve) : p < w.heap.size := lt_of_get h.blk
theorem CF.fp (h : CF base w p V cs vl ve) : ∀ b, FP p vl ve b → base ≤ b ∧ b < w.heap.size := by
  rintro b (rfl | e | e)
  · exact ⟨h.pb, h.lt⟩
  · exact h.lits.lt b e
  · exact h.ends.lt b e
theorem CF.c0 (h : CF base w p V cs vl ve) : w.cell? ⟨p, 0, none⟩ = some (.int .i64 (V : Int)) := by rw [Lib.cell_of_heap h.blk]; rfl
theorem CF.c1 (h : CF base w p V cs vl ve) : w.cell? ⟨p, 1, none⟩ = some vl := by rw [Lib.cell_of_heap h.blk]; rfl
theorem CF.c2 (h : CF base w p V cs vl ve) : w.cell? ⟨p, 2, none⟩ = some ve := by rw [Lib.cell_of_heap h.blk]; rfl
theorem CF.fz (h : CF base w p V cs vl ve) (o : Nat) : w.frozen? ⟨p, o, none⟩ = false := Lib.frozen_of_heap h.blk o
theorem CF.nl (h : CF base w p V cs vl ve) : vl.ownBlock ≠ some p := Lib.ownBlock_ne h.lits h.blk (by decide)
theorem CF.ne (h : CF base w p V cs vl ve) : ve.ownBlock ≠ some p := Lib.ownBlock_ne h.ends h.blk (by decide)
theorem own_keep {e : TypeId} {v : Value} {n : Nat} {xs : List Value} {w w' : World} (h : w.ownsRow base e 1 v n xs) (hk : ∀ b, v.ownBlock = some b → w'.heap[b]? = w.heap[b]?) : w'.ownsRow base e 1 v n xs := by
  refine ⟨h.1, ?_⟩
  rcases h.2 with hn | ⟨g, cap, cur, rfl, hb, hgg, rest⟩
  · exact .inl hn
  · exact .inr ⟨g, cap, cur, rfl, hb, (hk g rfl).trans hgg, rest⟩
theorem CF.keep (h : CF base w p V cs vl ve) {w' : World} {F : Nat → Prop} (k : Keep F w w') (hF : ∀ b, FP p vl ve b → ¬ F b) : CF base w' p V cs vl ve :=
  have e : ∀ b, FP p vl ve b → w'.heap[b]? = w.heap[b]? := fun b hb => k.block b (h.fp b hb).2 (hF b hb)
  { blk := (e p (Or.inl rfl)).trans h.blk, pb := h.pb, lits := own_keep h.lits fun b hb => e b (Or.inr (Or.inl hb)), ends := own_keep h.ends fun b hb => e b (Or.inr (Or.inr hb)), apart := h.apart, hV := h.hV, hn := h.hn, hc := h.hc, hd := h.hd }
theorem CF.over (h : CF base w p V cs vl ve) {w' : World} (k : Below w.heap.size w w') : CF base w' p V cs vl ve := h.keep (F := fun _ => False) (Keep.of_below k) fun _ _ hf => hf
end
/-- A slice of numbers reads as l. -/
def RL (w : World) (A : Option Addr) (l : List Int) : Prop := 0 < l.length → ∃ b off : Nat, A = some ⟨b, off, none⟩ ∧ b < w.heap.size ∧ ∀ j, j < l.length → w.cell? ⟨b, off + j, none⟩ = some (.int .i64 (l.getD j 0))
theorem RL.over {w w' : World} {A : Option Addr} {l : List Int} (h : RL w A l) (k : Below w.heap.size w w') : RL w' A l := fun h0 => by
  obtain ⟨b, off, e, hb, hc⟩ := h h0
  exact ⟨b, off, e, Nat.lt_of_lt_of_le hb k.size, fun j hj => (k.cell (p := ⟨b, off + j, none⟩) hb).trans (hc j hj)⟩
end Go.Proofs.Ytembgefbmecdbaa
