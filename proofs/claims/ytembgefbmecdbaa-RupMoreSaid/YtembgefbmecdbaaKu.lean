/-
  What the rows of the statements of layer 3 share: the table that they list, and how an argument that is a slice of numbers, of truth values, or of slices of numbers is opened.
-/
import Derived.Test.YtembgefbmecdbaaKp
import Derived.Test.YtembgefbmecdbaaKo
import Derived.Test.YtembgefbmecdbaaRows
import Derived.WalkKit
import Derived.ProofKit
import Derived.Lay
import Derived.LaidMore
import Derived.OpenShut
import Derived.SevenTiedAt
import Derived.Stop.Joined
import Derived.Stop.LaidErr
import Derived.ShutString
import Derived.ChangeOld
import Derived.Deep.Slices
import Derived.Lib.SmallJoins
namespace Go.Proofs.Ytembgefbmecdbaa
open Go Go.ChangeShapes Go.WideShapes Go.ChangeAt Go.RowKit Go.Lib
theorem cellsI : Try.prog.cellsOf 3 = 1 := by kernel_rfl
theorem cellsS : Try.prog.cellsOf 23 = 1 := by kernel_rfl
/-- A slice of one-cell elements that can be read as data. -/
theorem slice_of {H : Type} {enc : TypeId × Value → H} {W : World} {T E : TypeId} {A : Option Addr} {n c : Nat} {d : DataW H} {p : List MemPlace} (hT : Try.prog.underlying T = some (.slice E)) (hE : Try.prog.cellsOf E = 1)
    (h : DataW.Trod enc Try.prog W 0 (fun _ => true) true T (.slice A n c) d p) (lt : ∀ x ∈ p, x.block < W.heap.size) :
    ∃ (V : Nat → Value) (D : Nat → DataW H) (Pl : Nat → List MemPlace) (k : Nat), (∀ j, j < n → DataW.trod enc Try.prog W 0 (fun _ => true) true k E [V j] = some (D j, Pl j) ∧ ∀ x ∈ Pl j, x.block < W.heap.size) ∧
      (0 < n → ∃ b off : Nat, A = some ⟨b, off, none⟩ ∧ b < W.heap.size ∧ ∀ j, j < n → W.cell? ⟨b, off + j, none⟩ = some (V j)) := by
  obtain ⟨fuel, hf⟩ := h
  rcases Go.Deep.open_slice1 hT hE hf with ⟨hcs, _⟩ | ⟨a, len, cap, m, k, V, D, Pl, hcs, _, hl, _, hm, hx, hV⟩
  · simp [Value.cells] at hcs
    obtain ⟨rfl, rfl, rfl⟩ := hcs
    exact ⟨fun _ => .slice none 0 0, fun _ => .nil, fun _ => [], 0, fun j hj => absurd hj (by omega), fun h => absurd h (by omega)⟩
  · simp [Value.cells] at hcs
    obtain ⟨rfl, rfl, rfl⟩ := hcs
    simp only [if_true] at hm
    subst hm
    simp only [Prod.mk.injEq] at hx
    refine ⟨V, D, Pl, k, fun j hj => ⟨(hV j (by omega)).2, fun x hxm => lt x ?_⟩, fun h0 => ?_⟩
    · rw [hx.2]
      exact List.mem_append_right _ (List.mem_flatMap.2 ⟨j, List.mem_range.2 (by omega), hxm⟩)
    · have hc0 := (hV 0 (by omega)).1
      obtain ⟨b, off, spot⟩ := a
      have hs : spot = none := by
        cases spot with
        | none => rfl
        | some s =>
          exfalso
          simp [World.cell?, Addr.add] at hc0
          split at hc0 <;> simp at hc0
      subst hs
      refine ⟨b, off, rfl, ?_, fun j hj => ?_⟩
      · exact lt (.cell b off) (by
          rw [hx.2]
          exact List.mem_append_left _ (List.mem_map.2 ⟨0, List.mem_range.2 (by omega), rfl⟩))
      · have hj' := (hV j (by omega)).1
        have hadd : (⟨b, off, none⟩ : Addr).add j = ⟨b, off + j, none⟩ := by unfold Addr.add; split <;> simp_all
        rw [hadd] at hj'
        exact hj'
theorem len_of {H : Type} {enc : TypeId × Value → H} {W : World} {T E : TypeId} {A : Option Addr} {n c : Nat} {d : DataW H} {p : List MemPlace} (hT : Try.prog.underlying T = some (.slice E)) (hE : Try.prog.cellsOf E = 1)
    (h : DataW.Trod enc Try.prog W 0 (fun _ => true) true T (.slice A n c) d p) : n ≤ c ∧ (A = none → c = 0) ∧ n ≤ 9223372036854775807 := by
  obtain ⟨fuel, hf⟩ := h
  rcases Go.Deep.open_slice1 hT hE hf with ⟨hcs, _⟩ | ⟨a, len, cap, m, k, V, D, Pl, hcs, _, hl, hcm, hm, hx, hV⟩
  · simp [Value.cells] at hcs
    obtain ⟨rfl, rfl, rfl⟩ := hcs
    exact ⟨Nat.le_refl _, fun _ => rfl, by omega⟩
  · simp [Value.cells] at hcs
    obtain ⟨rfl, rfl, rfl⟩ := hcs
    exact ⟨hl, (fun e => by cases e), by unfold maxLen at hcm; omega⟩
/-- All numbers are of 64 bits. -/
def I64 (l : List Int) : Prop := ∀ x, x ∈ l → -9223372036854775808 ≤ x ∧ x ≤ 9223372036854775807
theorem list_of_fn {α : Type} (f : Nat → α) (z : α) (n : Nat) : ∃ l : List α, l.length = n ∧ (∀ j, j < n → l.getD j z = f j) ∧ ∀ x, x ∈ l → ∃ j, j < n ∧ x = f j := by
  refine ⟨(List.range n).map f, by simp, fun j hj => by simp [List.getD, hj], fun x hx => ?_⟩
  obtain ⟨j, hj, rfl⟩ := List.mem_map.1 hx
  exact ⟨j, List.mem_range.1 hj, rfl⟩
theorem ints_of {H : Type} {enc : TypeId × Value → H} {W : World} {A : Option Addr} {n c : Nat} {d : DataW H} {p : List MemPlace}
    (h : DataW.Trod enc Try.prog W 0 (fun _ => true) true 23 (.slice A n c) d p) (lt : ∀ x ∈ p, x.block < W.heap.size) : ∃ l, l.length = n ∧ RL W A l ∧ I64 l := by
  obtain ⟨V, D, Pl, k, hV, hA⟩ := slice_of Try.underlying23 cellsI h lt
  have hb : ∀ i, ∃ x : Int, i < n → V i = .int .i64 x ∧ -9223372036854775808 ≤ x ∧ x ≤ 9223372036854775807 := fun i => by
    by_cases hi : i < n
    · obtain ⟨x, e, _, wf⟩ := DataW.trod_int Try.underlying3 (hV i hi).1
      exact ⟨x, fun _ => ⟨by simpa using e, by simpa [Lit.wf, IntKind.min, IntKind.max, IntKind.signed, IntKind.bits] using wf⟩⟩
    · exact ⟨0, fun h => absurd h hi⟩
  obtain ⟨l, hl, hg, hm⟩ := list_of_fn (fun i => Classical.choose (hb i)) 0 n
  refine ⟨l, hl, fun h0 => ?_, fun x hx => ?_⟩
  · obtain ⟨b, off, e, hlt, hc⟩ := hA (by omega)
    exact ⟨b, off, e, hlt, fun j hj => by rw [hc j (by omega), hg j (by omega)]; exact congrArg some (Classical.choose_spec (hb j) (by omega)).1⟩
  · obtain ⟨j, hj, rfl⟩ := hm x hx
    exact (Classical.choose_spec (hb j) hj).2
/-- A slice of slices of numbers reads as L. -/
def RLL (w : World) (A : Option Addr) (L : List (List Int)) : Prop := 0 < L.length → ∃ b off : Nat, A = some ⟨b, off, none⟩ ∧ b < w.heap.size ∧ ∀ j, j < L.length → ∃ A' c', w.cell? ⟨b, off + j, none⟩ = some (.slice A' (L.getD j []).length c') ∧ RL w A' (L.getD j []) ∧ (L.getD j []).length ≤ c' ∧ (A' = none → c' = 0)
theorem RLL.over {w w' : World} {A : Option Addr} {L : List (List Int)} (h : RLL w A L) (k : Below w.heap.size w w') : RLL w' A L := fun h0 => by
  obtain ⟨b, off, e, hb, hc⟩ := h h0
  refine ⟨b, off, e, Nat.lt_of_lt_of_le hb k.size, fun j hj => ?_⟩
  obtain ⟨A', c', h1, h2, h3⟩ := hc j hj
  exact ⟨A', c', (k.cell (p := ⟨b, off + j, none⟩) hb).trans h1, h2.over k, h3⟩
theorem lists_of {H : Type} {enc : TypeId × Value → H} {W : World} {A : Option Addr} {n c : Nat} {d : DataW H} {p : List MemPlace}
    (h : DataW.Trod enc Try.prog W 0 (fun _ => true) true 22 (.slice A n c) d p) (lt : ∀ x ∈ p, x.block < W.heap.size) : ∃ L, L.length = n ∧ RLL W A L ∧ ∀ l, l ∈ L → I64 l := by
  obtain ⟨V, D, Pl, k, hV, hA⟩ := slice_of Try.underlying22 cellsS h lt
  have hb : ∀ i, ∃ l : List Int, i < n → (∃ A' c', V i = .slice A' l.length c' ∧ RL W A' l ∧ l.length ≤ c' ∧ (A' = none → c' = 0)) ∧ I64 l := fun i => by
    by_cases hi : i < n
    · have h1 := (hV i hi).1
      have hs : ∃ A' n' c', V i = .slice A' n' c' ∧ n' ≤ c' ∧ (A' = none → c' = 0) := by
        rcases Go.Deep.open_slice1 Try.underlying23 cellsI h1 with ⟨hcs, _⟩ | ⟨a, len, cap, m, k, V, D, Pl, hcs, _, hl, _, hm, hx, hV⟩
        · exact ⟨none, 0, 0, by simpa using hcs, Nat.le_refl _, fun _ => rfl⟩
        · exact ⟨some a, len, cap, by simpa using hcs, hl, (fun e => by cases e)⟩
      obtain ⟨A', n', c', e, hle, hnl⟩ := hs
      rw [e] at h1
      obtain ⟨l, hl, hR, hI⟩ := ints_of ⟨k, h1⟩ (hV i hi).2
      exact ⟨l, fun _ => ⟨⟨A', c', by rw [e, hl], hR, by omega, hnl⟩, hI⟩⟩
    · exact ⟨[], fun h => absurd h hi⟩
  obtain ⟨L, hl, hg, hm⟩ := list_of_fn (fun i => Classical.choose (hb i)) [] n
  refine ⟨L, hl, fun h0 => ?_, fun l hx => ?_⟩
  · obtain ⟨b, off, e, hlt, hc⟩ := hA (by omega)
    refine ⟨b, off, e, hlt, fun j hj => ?_⟩
    obtain ⟨A', c', h1, h2, h3⟩ := (Classical.choose_spec (hb j) (by omega)).1
    rw [hg j (by omega)]
    exact ⟨A', c', (hc j (by omega)).trans (congrArg some h1), h2, h3⟩
  · obtain ⟨j, hj, rfl⟩ := hm l hx
    exact (Classical.choose_spec (hb j) hj).2
theorem two_of {α : Type} (xs : List α) (h : xs.length = 2) : ∃ y0 y1, xs = [y0, y1] := by
  rcases xs with _ | ⟨y0, xs⟩
  · simp at h
  · rcases xs with _ | ⟨y1, xs⟩
    · simp at h
    · rcases xs with _ | ⟨y2, xs⟩
      · exact ⟨y0, y1, rfl⟩
      · simp at h
end Go.Proofs.Ytembgefbmecdbaa
