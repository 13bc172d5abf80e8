/-
  What AigCones needs beside: appends of whatever slice of literals or bools; marks in memory.
-/
import Derived.Test.YtinfkjflomdhbaaHe
import Derived.Test.YtinfkjflomdhbaaGu
import Derived.Laws.AppendOwnNone
import Derived.Deep.CutBlock
namespace Go.Proofs.Ytinfkjflomdhbaa
open Go.RowKit Go.Lib Go.Maps
section
variable {w : World} {ops : Array Oper} {rest : List Oper} {o : Oper} {a : Act} {Q : Exit → Act → World → Prop}
theorem wpList_append_IL (hgd : o.guard = none) (s x : Operand) (ho : o.op = .call { callee := .builtin .append, args := #[s, x], argTypes := #[27, 27] })
    (base : Nat) (v : Value) (n : Nat) (xs : List Value) (hs : a.eval s = v) (hown : w.ownsRow base 3 1 v n xs)
    (A : Option Addr) (m c : Nat) (l : List Nat) (hl : l.length = m) (hx : a.eval x = .slice A m c) (hnil : A = none → c = 0) (hR : LR w A l) (hm : n + m ≤ 1000000) (hbase : base ≤ w.heap.size)
    (h : ∀ v' w', w'.ownsRow base 3 1 v' (n + m) (xs ++ iv l) → w.grownBy w' v.ownBlock → wpList Try.prog ops Q rest (a.put o.dst v') w') : wpList Try.prog ops Q (o :: rest) a w := by
  obtain ⟨i0, hi, hz0, hz1, hz2⟩ := info_parts info_in1
  cases A with
  | none =>
    have hl0 : l = [] := by
      cases l with
      | nil => rfl
      | cons y l => obtain ⟨b, e, _⟩ := hR (by simp); cases e
    subst hl0
    obtain rfl : m = 0 := by simpa using hl.symm
    rw [hnil rfl] at hx
    refine wpList_append_own_none hgd s x 27 ho base 3 i0 1 Try.underlying27 hi v n xs hs hown hx (h v w ?_ ⟨rfl, rfl, rfl, Nat.le_refl _, fun _ _ _ => rfl⟩)
    simpa using hown
  | some ad =>
    refine wpList_append_own w hgd s x 27 ho base 3 i0 (.int .i64 0) 1 8 Try.underlying27 hi hz0 hz1 hz2 rfl (by decide) v n xs hs hown ad m c (iv l) hx (by simp [hl]) (fun j u hj => ?_) (fun u hu => by obtain ⟨y, _, rfl⟩ := List.mem_map.1 hu; rfl) (by unfold maxLen; omega) (by omega) hbase (fun v' w' h1 h2 _ => h v' w' h1 h2)
    have hlt : j < l.length := by simpa using (List.getElem?_eq_some_iff.1 hj).1
    obtain ⟨b, e, _, hc⟩ := hR (by omega)
    cases e
    rw [addr_add, hc j hlt, ← hj, List.getElem?_map, List.getElem?_eq_getElem hlt, List.getD_eq_getElem?_getD, List.getElem?_eq_getElem hlt]
    rfl
theorem wpList_append_BL (hgd : o.guard = none) (s x : Operand) (ho : o.op = .call { callee := .builtin .append, args := #[s, x], argTypes := #[23, 23] })
    (base : Nat) (v : Value) (n : Nat) (xs : List Value) (hs : a.eval s = v) (hown : w.ownsRow base 4 1 v n xs)
    (A : Option Addr) (m c : Nat) (l : List Bool) (hl : l.length = m) (hx : a.eval x = .slice A m c) (hnil : A = none → c = 0) (hR : BL w A l) (hm : n + m ≤ 140737488355328) (hbase : base ≤ w.heap.size)
    (h : ∀ v' w', w'.ownsRow base 4 1 v' (n + m) (xs ++ bcl l) → w.grownBy w' v.ownBlock → wpList Try.prog ops Q rest (a.put o.dst v') w') : wpList Try.prog ops Q (o :: rest) a w := by
  obtain ⟨i0, hi, hz0, hz1, hz2⟩ := info_parts info_bool
  cases A with
  | none =>
    have hl0 : l = [] := by
      cases l with
      | nil => rfl
      | cons y l => obtain ⟨b, o, e, _⟩ := hR (by simp); cases e
    subst hl0
    obtain rfl : m = 0 := by simpa using hl.symm
    rw [hnil rfl] at hx
    refine wpList_append_own_none hgd s x 23 ho base 4 i0 1 Try.underlying23 hi v n xs hs hown hx (h v w ?_ ⟨rfl, rfl, rfl, Nat.le_refl _, fun _ _ _ => rfl⟩)
    simpa [bcl] using hown
  | some ad =>
    refine wpList_append_own w hgd s x 23 ho base 4 i0 (.bool false) 1 1 Try.underlying23 hi hz0 hz1 hz2 rfl (by decide) v n xs hs hown ad m c (bcl l) hx (by simp [bcl, hl]) (fun j u hj => ?_) (fun u hu => by obtain ⟨y, _, rfl⟩ := List.mem_map.1 hu; rfl) (by unfold maxLen; omega) (by omega) hbase (fun v' w' h1 h2 _ => h v' w' h1 h2)
    have hlt : j < l.length := by simpa [bcl] using (List.getElem?_eq_some_iff.1 hj).1
    obtain ⟨b, off, e, _, hc⟩ := hR (by omega)
    cases e
    have hadd : ∀ o x, (⟨b, o, none⟩ : Addr).add x = ⟨b, o + x, none⟩ := fun o x => by unfold Addr.add; split <;> simp_all
    unfold bcl at hj
    rw [hadd, hc j hlt, ← hj, List.getElem?_map, List.getElem?_eq_getElem hlt, List.getD_eq_getElem?_getD, List.getElem?_eq_getElem hlt]
    rfl
end
/-- A mark as a number. -/
def bI (b : Bool) : Int := if b then 1 else 0
def icl (l : List Bool) : List Value := l.map fun b => Value.int .i64 (bI b)
theorem made_ints (N : Nat) : madeCells (Value.int .i64 0).cells (N * 1) = (icl (List.replicate N false)).toArray := by
  apply Array.ext'
  unfold madeCells icl bI
  simp [Value.cells]
  apply List.ext_getElem
  · simp
  · intro i h1 h2
    simp [Nat.mod_one]
theorem icl_set (xs : List Bool) (k : Nat) : (icl xs).toArray.setIfInBounds k (.int .i64 1) = (icl (xs.set k true)).toArray := by
  apply Array.ext'
  unfold icl
  simp [List.map_set, bI]
theorem icl_cell {w : World} {g : Nat} {xs : List Bool} {T : TypeId} (h : w.heap[g]? = some (.cells (icl xs).toArray T (0, 0))) (j : Nat) (hj : j < xs.length) : w.cell? ⟨g, j, none⟩ = some (.int .i64 (bI (xs.getD j false))) := by
  rw [Lib.cell_of_heap h]
  unfold icl
  simp [hj, List.getD_eq_getElem?_getD]
theorem made_block {w1 : World} {g B N : Nat} (h : w1.ownsRow B 3 1 (.slice (some ⟨g, 0, none⟩) N N) N (madeCells (Value.int .i64 0).cells (N * 1)).toList) (hN : 0 < N) : w1.heap[g]? = some (.cells (icl (List.replicate N false)).toArray 3 (0, 0)) := by
  obtain ⟨h2, h3⟩ := h
  rcases h3 with ⟨e, h4⟩ | ⟨g', cap, cur, e, hb, hgg, _, _, hsz, ht⟩
  · omega
  · cases e
    rw [hgg]
    have hcur : cur = (icl (List.replicate N false)).toArray := by
      rw [← made_ints]
      apply Array.ext'
      rw [← ht, List.take_of_length_le (by simp; omega)]
    rw [hcur]
/-- A slice of bools of one's own, as it stands in memory. -/
def OS (w : World) (B : Nat) (A : Option Addr) (o : List Bool) : Prop := 0 < o.length → ∃ g cur, A = some ⟨g, 0, none⟩ ∧ B ≤ g ∧ w.heap[g]? = some (.cells cur 4 (0, 0)) ∧ ∀ j, j < o.length → cur[j]? = some (.bool (o.getD j false))
theorem OS.of_own {w : World} {B n : Nat} {v : Value} {o : List Bool} (h : w.ownsRow B 4 1 v n (bcl o)) (hn : n = o.length) : ∃ A c, v = .slice A n c ∧ n ≤ c ∧ OS w B A o := by
  subst hn
  rcases h.2 with ⟨e, h0⟩ | ⟨g, cap, cur, e, hB, hg, hc, hm, hs, ht⟩
  · exact ⟨none, 0, by rw [e, h0], by omega, fun h1 => absurd h1 (by omega)⟩
  · refine ⟨_, cap, e, hc, fun h1 => ⟨g, cur, rfl, hB, hg, fun j hj => ?_⟩⟩
    have h2 : (cur.toList.take (o.length * 1))[j]? = (bcl o)[j]? := by rw [ht]
    rw [Nat.mul_one, List.getElem?_take_of_lt hj, Array.getElem?_toList] at h2
    rw [h2]
    unfold bcl
    rw [List.getElem?_map, List.getElem?_eq_getElem hj, List.getD_eq_getElem?_getD, List.getElem?_eq_getElem hj]
    rfl
theorem OS.bl {w : World} {B : Nat} {A : Option Addr} {o : List Bool} (h : OS w B A o) : BL w A o := fun h0 => by
  obtain ⟨g, cur, e, _, hg, hc⟩ := h h0
  refine ⟨g, 0, e, lt_of_get hg, fun j hj => ?_⟩
  rw [Nat.zero_add, Lib.cell_of_heap hg]
  exact hc j hj
theorem OS.keep {w w' : World} {B : Nat} {A : Option Addr} {o : List Bool} (h : OS w B A o) (k : w'.heap = w.heap) : OS w' B A o := fun h0 => by
  obtain ⟨g, cur, e, hB, hg, hc⟩ := h h0
  exact ⟨g, cur, e, hB, by rw [k]; exact hg, hc⟩
theorem OS.set {w : World} {B k : Nat} {A : Option Addr} {o : List Bool} (h : OS w B A o) (hk : k < o.length) (v : Bool) : ∃ g, A = some ⟨g, 0, none⟩ ∧ B ≤ g ∧ w.frozen? ⟨g, k, none⟩ = false ∧ w.cell? ⟨g, k, none⟩ = some (.bool (o.getD k false)) ∧ OS (w.setCell ⟨g, k, none⟩ (.bool v)) B A (o.set k v) := by
  obtain ⟨g, cur, e, hB, hg, hc⟩ := h (by omega)
  refine ⟨g, e, hB, Lib.frozen_of_heap hg k, ?_, fun h0 => ⟨g, cur.setIfInBounds k (.bool v), e, hB, heap_set w g k _ _ (.bool v) hg, fun j hj => ?_⟩⟩
  · rw [Lib.cell_of_heap hg]
    exact hc k hk
  · rw [List.length_set] at hj
    have h1 := hc j hj
    have h2 := hc k hk
    have hks : k < cur.size := by
      by_cases e : k < cur.size
      · exact e
      · rw [Array.getElem?_eq_none (by omega)] at h2; cases h2
    rw [Array.getElem?_setIfInBounds, getD_set]
    by_cases e : k = j
    · rw [if_pos e, if_pos hks, if_pos ⟨e, by omega⟩]
    · rw [if_neg e, if_neg (fun h => e h.1), h1]
theorem nds_roots (N : Nat) (R : List Nat) (h : ∀ a ∈ R, a / 2 < N) : nds N (R.map (fun a : Nat => (a : Int)) ++ [-5, 2 * (N : Int)]) = R.map (· / 2) := by
  unfold nds
  have h1 : (R.map (fun a : Nat => (a : Int))).filter (fun x => !foreign N x) = R.map (fun a : Nat => (a : Int)) := by
    rw [List.filter_eq_self]
    intro x hx
    obtain ⟨a, ha, rfl⟩ := List.mem_map.1 hx
    rw [foreign_not (h a ha)]
    rfl
  have h2 : ([-5, 2 * (N : Int)] : List Int).filter (fun x => !foreign N x) = [] := by
    unfold foreign
    simp
  rw [List.filter_append, h1, h2, List.append_nil, List.map_map]
  apply List.map_congr_left
  intro a _
  show (((a : Int)) / 2).toNat = a / 2
  omega
theorem LR.of_own {w : World} {B n : Nat} {v : Value} {L : List Nat} (h : w.ownsRow B 3 1 v n (iv L)) (hn : n = L.length) : ∃ A c, v = .slice A L.length c ∧ LR w A L ∧ (A = none → c = 0) := by
  subst hn
  obtain ⟨A, c, e, h1⟩ := RL.of_own h rfl
  refine ⟨A, c, e, h1, fun hA => ?_⟩
  rcases h.2 with ⟨e2, _⟩ | ⟨g, cap, cur, e2, _⟩
  · rw [e] at e2; injection e2
  · rw [e] at e2
    injection e2 with e3
    rw [hA] at e3
    cases e3
end Go.Proofs.Ytinfkjflomdhbaa
