/-
  How an argument that is a slice of bits is opened: its bits by index; for the rows of the statements of layer 1.
-/
import Derived.Test.YtalmhopbnaeamaaGreatDoorRows
import Derived.Test.YtalmhopbnaeamaaGreatDoorWx
import Derived.WalkKit
import Derived.ProofKit
import Derived.OpenShut
import Derived.ShutString
import Derived.ChangeOld
import Derived.Below
import Derived.Deep.Slices
namespace Go.Proofs.YtalmhopbnaeamaaGreatDoor
open Go.ChangeShapes Go.WideShapes Go.ChangeAt Go.RowKit
theorem own : ownKnob Tryz.prog.godebug = none := by kernel_rfl
theorem laidOut : laidOutB Tryz.prog = true := by kernel_rfl
theorem cells4 : Tryz.prog.cellsOf 4 = 1 := by kernel_rfl
/-- A slice of bits that can be read as data: its bits. -/
theorem bits_of {H : Type} {enc : TypeId × Value → H} {W : World} {A : Option Addr} {n c : Nat} {d : DataW H} {p : List MemPlace}
    (h : DataW.Trod enc Tryz.prog W 0 (fun _ => true) true 32 (.slice A n c) d p) (lt : ∀ x ∈ p, x.block < W.heap.size) : n ≤ c ∧ ∃ f, RB W A n f := by
  obtain ⟨fuel, hf⟩ := h
  rcases Go.Deep.open_slice1 Tryz.underlying32 cells4 hf with ⟨hcs, _⟩ | ⟨a, len, cap, m, k, V, D, Pl, hcs, _, hl, _, hm, hx, hV⟩
  · simp [Value.cells] at hcs
    obtain ⟨rfl, rfl, rfl⟩ := hcs
    exact ⟨Nat.le_refl _, fun _ => false, fun h => absurd h (by omega)⟩
  · simp [Value.cells] at hcs
    obtain ⟨rfl, rfl, rfl⟩ := hcs
    simp only [if_true] at hm
    subst hm
    refine ⟨hl, ?_⟩
    have hb : ∀ i, ∃ v, i < n → V i = .bool v := fun i => by
      by_cases hi : i < n
      · obtain ⟨b, e, _⟩ := DataW.trod_bool Tryz.underlying4 (hV i (by omega)).2
        exact ⟨b, fun _ => by simpa using e⟩
      · exact ⟨false, fun h => absurd h hi⟩
    refine ⟨fun i => Classical.choose (hb i), fun h0 => ?_⟩
    have hc0 := (hV 0 (by omega)).1
    obtain ⟨b, off, spot⟩ := a
    have hs : spot = none := by
      cases spot with
      | none => rfl
      | some s =>
        exfalso
        simp [World.cell?, Addr.add] at hc0
        split at hc0 <;> simp at hc0
    subst hs
    refine ⟨b, off, rfl, ?_, fun j hj => ?_⟩
    · have := lt (.cell b off) (by
        simp only [Prod.mk.injEq] at hx
        rw [hx.2]
        refine List.mem_append_left _ (List.mem_map.2 ⟨0, List.mem_range.2 (by omega), rfl⟩))
      exact this
    · have hj' := (hV j (by omega)).1
      rw [Classical.choose_spec (hb j) hj] at hj'
      have hadd : (⟨b, off, none⟩ : Addr).add j = ⟨b, off + j, none⟩ := by unfold Addr.add; split <;> simp_all
      rw [hadd] at hj'
      exact hj'
end Go.Proofs.YtalmhopbnaeamaaGreatDoor
