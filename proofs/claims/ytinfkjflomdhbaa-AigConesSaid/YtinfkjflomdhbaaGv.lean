/-
  How arguments that are slices of acts, of bools and of numbers are opened.
-/
import Derived.Test.YtinfkjflomdhbaaGs
import Derived.WalkKit
import Derived.ProofKit
import Derived.Lay
import Derived.LaidMore
import Derived.OpenShut
import Derived.SevenTiedAt
import Derived.Stop.Joined
import Derived.Stop.LaidErr
import Derived.ShutString
import Derived.ChangeOld
import Derived.Deep.Slices
namespace Go.Proofs.Ytinfkjflomdhbaa
open Go Go.RowKit Go.Lib Go.ChangeShapes Go.WideShapes Go.ChangeAt
theorem own : ownKnob Try.prog.godebug = none := by kernel_rfl
theorem cells_bo : Try.prog.cellsOf 4 = 1 := by kernel_rfl
theorem cells_in : Try.prog.cellsOf 3 = 1 := by kernel_rfl
theorem cells_ac : Try.prog.cellsOf 52 = 4 := by kernel_rfl
theorem list_of_fn {α : Type} (f : Nat → α) (n : Nat) : ∃ l : List α, l.length = n ∧ (∀ j (h : j < l.length), l[j] = f j) := by
  refine ⟨(List.range n).map f, by simp, fun j hj => by simp⟩
theorem some_at {α : Type} {l : List α} {n i : Nat} (h : l.length = n) (hi : i < n) : ∃ y, l[i]? = some y := ⟨_, List.getElem?_eq_getElem (by omega)⟩
theorem len4 {α : Type} (l : List α) (h : l.length = 4) : ∃ a b c d, l = [a, b, c, d] := by
  match l, h with
  | [a, b, c, d], _ => exact ⟨a, b, c, d, rfl⟩
theorem spot_none {W : World} {a : Addr} {v : Value} (h : W.cell? (a.add 0) = some v) : a.spot = none := by
  obtain ⟨b, off, spot⟩ := a
  cases spot with
  | none => rfl
  | some s =>
    exfalso
    simp [World.cell?, Addr.add] at h
    split at h <;> simp at h
section
variable {H : Type} {enc : TypeId × Value → H} {W : World}
theorem bools_of {A : Option Addr} {n c : Nat} {d : DataW H} {p : List MemPlace}
    (h : DataW.Trod enc Try.prog W 0 (fun _ => true) true 23 (.slice A n c) d p) (lt : ∀ x ∈ p, x.block < W.heap.size) : ∃ l : List Bool, l.length = n ∧ BL W A l ∧ n ≤ c := by
  obtain ⟨fuel, hf⟩ := h
  rcases Go.Deep.open_slice1 Try.underlying23 cells_bo hf with ⟨hcs, _⟩ | ⟨a, len, cap, m, k, V, D, Pl, hcs, _, hl, hcm, hm, hx, hV⟩
  · simp [Value.cells] at hcs
    obtain ⟨rfl, rfl, rfl⟩ := hcs
    exact ⟨[], rfl, fun h => absurd h (by simp), Nat.le_refl _⟩
  · simp [Value.cells] at hcs
    obtain ⟨rfl, rfl, rfl⟩ := hcs
    simp only [if_true] at hm
    subst hm
    simp only [Prod.mk.injEq] at hx
    have hb : ∀ i, ∃ x : Bool, i < n → V i = .bool x := fun i => by
      by_cases hi : i < n
      · obtain ⟨x, e, _⟩ := DataW.trod_bool Try.underlying4 (hV i (by omega)).2
        exact ⟨x, fun _ => by simpa using e⟩
      · exact ⟨false, fun h => absurd h hi⟩
    obtain ⟨l, hll, hlg⟩ := list_of_fn (fun i => Classical.choose (hb i)) n
    refine ⟨l, hll, fun h0 => ?_, hl⟩
    have hs := spot_none (hV 0 (by omega)).1
    obtain ⟨b, off, spot⟩ := a
    simp only at hs
    subst hs
    have hadd : ∀ o x, (⟨b, o, none⟩ : Addr).add x = ⟨b, o + x, none⟩ := fun o x => by unfold Addr.add; split <;> simp_all
    refine ⟨b, off, rfl, ?_, fun j hj => ?_⟩
    · exact lt (.cell b off) (by rw [hx.2]; exact List.mem_append_left _ (List.mem_map.2 ⟨0, List.mem_range.2 (by omega), rfl⟩))
    · rw [← hadd off j, (hV j (by omega)).1, Classical.choose_spec (hb j) (by omega), List.getD_eq_getElem?_getD, List.getElem?_eq_getElem hj, hlg j hj]
      rfl
theorem act_cells {base : Nat} {sp : Nat → Bool} {held : Bool} {fuel : Nat} {cs : List Value} {x : DataW H × List MemPlace} (h : DataW.trod enc Try.prog W base sp held fuel 52 cs = some x) : ∃ q : AC, cs = [.int .i64 q.k, .int .i64 q.a, .int .i64 q.b, .int .i64 q.c] := by
  obtain ⟨xs, n, _, _, hl, hxl, hf⟩ := DataW.trod_struct Try.underlying52 h
  rw [cells_ac] at hl
  have hxl3 : xs.length = 4 := hxl
  obtain ⟨a, b, c, d, rfl⟩ := len4 cs hl
  have hi : ∀ i (v : Value), [a, b, c, d][i]? = some v → i < 4 → (∃ y, DataW.trod enc Try.prog W base sp held n 3 [v] = some y) → ∃ z : Int, v = .int .i64 z := fun i v _ _ ⟨y, hy⟩ => by
    obtain ⟨z, hz, _, _⟩ := DataW.trod_int Try.underlying3 hy
    exact ⟨z, by simpa using hz⟩
  obtain ⟨y0, e0⟩ := some_at hxl3 (show 0 < 4 by decide)
  obtain ⟨y1, e1⟩ := some_at hxl3 (show 1 < 4 by decide)
  obtain ⟨y2, e2⟩ := some_at hxl3 (show 2 < 4 by decide)
  obtain ⟨y3, e3⟩ := some_at hxl3 (show 3 < 4 by decide)
  obtain ⟨z0, rfl⟩ := hi 0 a rfl (by decide) ⟨y0, by have := hf 0 _ rfl; rw [e0] at this; simpa [cells_in] using this⟩
  obtain ⟨z1, rfl⟩ := hi 1 b rfl (by decide) ⟨y1, by have := hf 1 _ rfl; rw [e1] at this; simpa [cells_in] using this⟩
  obtain ⟨z2, rfl⟩ := hi 2 c rfl (by decide) ⟨y2, by have := hf 2 _ rfl; rw [e2] at this; simpa [cells_in] using this⟩
  obtain ⟨z3, rfl⟩ := hi 3 d rfl (by decide) ⟨y3, by have := hf 3 _ rfl; rw [e3] at this; simpa [cells_in] using this⟩
  exact ⟨⟨z0, z1, z2, z3⟩, rfl⟩
theorem acts_of {A : Option Addr} {n c : Nat} {d : DataW H} {p : List MemPlace}
    (h : DataW.Trod enc Try.prog W 0 (fun _ => true) true 22 (.slice A n c) d p) (lt : ∀ x ∈ p, x.block < W.heap.size) : ∃ l : List AC, l.length = n ∧ AL W A l := by
  obtain ⟨fuel, hf⟩ := h
  rcases Go.Deep.open_slice Try.underlying22 hf with ⟨hcs, _⟩ | ⟨a, len, cap, m, k, D, Pl, hcs, _, hl, hcm, hm, hx, hV⟩
  · simp [Value.cells] at hcs
    obtain ⟨rfl, rfl, rfl⟩ := hcs
    exact ⟨[], rfl, fun h => absurd h (by simp)⟩
  · simp [Value.cells] at hcs
    obtain ⟨rfl, rfl, rfl⟩ := hcs
    simp only [if_true] at hm
    subst hm
    rw [cells_ac] at hV hx
    simp only [Prod.mk.injEq] at hx
    have hb : ∀ i, ∃ q : AC, i < n → (∀ j v, [Value.int .i64 q.k, .int .i64 q.a, .int .i64 q.b, .int .i64 q.c][j]? = some v → W.cell? ((a.add (i * 4)).add j) = some v) := fun i => by
      by_cases hi : i < n
      · obtain ⟨cs', h1, h2⟩ := hV i (by omega)
        obtain ⟨q, rfl⟩ := act_cells h2
        obtain ⟨_, _, h3⟩ := World.cells?_some h1
        refine ⟨q, fun _ j v hj => ?_⟩
        have hj5 : j < 4 := by
          have := (List.getElem?_eq_some_iff.1 hj).1
          simpa using this
        rw [h3 j hj5, hj]
      · exact ⟨⟨0, 0, 0, 0⟩, fun h => absurd h hi⟩
    obtain ⟨l, hll, hlg⟩ := list_of_fn (fun i => Classical.choose (hb i)) n
    refine ⟨l, hll, fun h0 => ?_⟩
    have hc0 := (Classical.choose_spec (hb 0) (by omega)) 0 _ rfl
    have hs : a.spot = none := by
      obtain ⟨b, off, spot⟩ := a
      cases spot with
      | none => rfl
      | some s =>
        exfalso
        simp [World.cell?, Addr.add] at hc0
        split at hc0 <;> simp at hc0
    obtain ⟨b, off, spot⟩ := a
    simp only at hs
    subst hs
    have hadd : ∀ o x, (⟨b, o, none⟩ : Addr).add x = ⟨b, o + x, none⟩ := fun o x => by unfold Addr.add; split <;> simp_all
    refine ⟨b, off, rfl, ?_, fun j hj => ?_⟩
    · exact lt (.cell b off) (by rw [hx.2]; exact List.mem_append_left _ (List.mem_map.2 ⟨0, List.mem_range.2 (by omega), rfl⟩))
    · have hsp := (Classical.choose_spec (hb j) (by omega))
      rw [hlg j hj]
      generalize Classical.choose (hb j) = q at *
      rw [hadd off (j * 4)] at hsp
      simp only [hadd (off + j * 4)] at hsp
      exact ⟨hsp 0 _ rfl, hsp 1 _ rfl, hsp 2 _ rfl, hsp 3 _ rfl⟩
end
end Go.Proofs.Ytinfkjflomdhbaa
