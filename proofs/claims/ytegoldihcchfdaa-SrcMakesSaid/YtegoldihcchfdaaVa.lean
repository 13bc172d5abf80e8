/-
  How a slice of files that is handed in is opened: its names and texts by index, each within the form's reach.
-/
import Derived.Test.YtegoldihcchfdaaRows
import Derived.Test.YtegoldihcchfdaaSd
import Derived.OpenShut
import Derived.ShutString
import Derived.SizedLaws
import Derived.Deep.SlicePairs
import Derived.ChangeMaps5
namespace Go.Proofs.Ytegoldihcchfdaa
open Go.ChangeShapes Go.WideShapes Go.ChangeAt Go.RowKit
theorem wAll_mem {H : Type} {P : Program} {e : TypeId} {d : DataW H} {n : Nat} (hn : n ∈ d.weights P e) : ∀ {l : List (DataW H)}, d ∈ l → n ∈ DataW.weightsAll P e l
  | x :: r, h => by
    simp only [DataW.weightsAll, List.mem_append]
    rcases List.mem_cons.1 h with rfl | h
    · exact Or.inl hn
    · exact Or.inr (wAll_mem hn h)
theorem files_of {H : Type} {enc : TypeId × Value → H} {W : World} {A : Option Addr} {n c : Nat} {d : DataW H} {p : List MemPlace}
    (h : DataW.Trod enc Try.prog W 0 (fun _ => true) true 22 (.slice A n c) d p) (lt : ∀ x ∈ p, x.block < W.heap.size) :
    n ≤ c ∧ ∃ nm tx : Nat → ByteArray, RF W A n nm tx ∧ ∀ j, j < n → (nm j).size ∈ d.weights Try.prog 22 ∧ (tx j).size ∈ d.weights Try.prog 22 := by
  obtain ⟨fuel, hf⟩ := h
  rcases Go.Deep.open_slice_pairs Try.underlying22 Try.underlying33 (by kernel_rfl) rfl rfl (by kernel_rfl) (by kernel_rfl) hf with ⟨hcs, _⟩ | ⟨a, len, cap, m, k, V0, V1, D0, D1, P0, P1, hcs, _, hl, _, hm, hx, hV⟩
  · simp [Value.cells] at hcs
    obtain ⟨rfl, rfl, rfl⟩ := hcs
    exact ⟨Nat.le_refl _, fun _ => ⟨#[]⟩, fun _ => ⟨#[]⟩, fun h => absurd h (by omega), fun j hj => absurd hj (by omega)⟩
  · simp [Value.cells] at hcs
    obtain ⟨rfl, rfl, rfl⟩ := hcs
    simp only [if_true] at hm
    subst hm
    refine ⟨hl, ?_⟩
    have hb : ∀ i, ∃ q : ByteArray × ByteArray, i < n → V0 i = .string q.1 ∧ V1 i = .string q.2 ∧ D0 i = .lit (.string q.1.data.toList) ∧ D1 i = .lit (.string q.2.data.toList) := fun i => by
      by_cases hi : i < n
      · obtain ⟨_, _, h2, h3⟩ := hV i (by omega)
        obtain ⟨s0, e0, x0, _⟩ := DataW.trod_string Try.underlying9 h2
        obtain ⟨s1, e1, x1, _⟩ := DataW.trod_string Try.underlying9 h3
        exact ⟨(s0, s1), fun _ => ⟨by simpa using e0, by simpa using e1, by simpa using congrArg Prod.fst x0, by simpa using congrArg Prod.fst x1⟩⟩
      · exact ⟨(⟨#[]⟩, ⟨#[]⟩), fun h => absurd h hi⟩
    simp only [Prod.mk.injEq] at hx
    obtain ⟨hx1, hx2⟩ := hx
    refine ⟨fun i => (Classical.choose (hb i)).1, fun i => (Classical.choose (hb i)).2, fun h0 => ?_, fun j hj => ?_⟩
    · have hc0 := (hV 0 (by omega)).1
      obtain ⟨b, off, spot⟩ := a
      have hs : spot = none := by
        cases spot with
        | none => rfl
        | some s =>
          exfalso
          simp [World.cell?, Addr.add] at hc0
          split at hc0 <;> simp at hc0
      subst hs
      have hadd : ∀ x, (⟨b, off, none⟩ : Addr).add x = ⟨b, off + x, none⟩ := fun x => by unfold Addr.add; split <;> simp_all
      refine ⟨b, off, rfl, ?_, fun j hj => ?_⟩
      · exact lt (.cell b off) (by rw [hx2]; exact List.mem_append_left _ (List.mem_map.2 ⟨0, List.mem_range.2 (by omega), rfl⟩))
      · obtain ⟨k0, k1, _, _⟩ := hV j (by omega)
        obtain ⟨g0, g1, _, _⟩ := Classical.choose_spec (hb j) hj
        rw [g0, hadd] at k0
        rw [g1, hadd, ← Nat.add_assoc] at k1
        exact ⟨k0, k1⟩
    · obtain ⟨_, _, g2, g3⟩ := Classical.choose_spec (hb j) hj
      show (Classical.choose (hb j)).1.size ∈ _ ∧ (Classical.choose (hb j)).2.size ∈ _
      generalize Classical.choose (hb j) = qj at g2 g3 ⊢
      have hmem : DataW.agg [D0 j, D1 j] ∈ (List.range n).map fun i => DataW.agg [D0 i, D1 i] := List.mem_map.2 ⟨j, List.mem_range.2 hj, rfl⟩
      have hw : ∀ s : Nat, s ∈ (DataW.agg [D0 j, D1 j] : DataW H).weights Try.prog 33 → s ∈ d.weights Try.prog 22 := fun s hs => by
        rw [hx1]
        simp only [DataW.weights, Try.underlying22, List.mem_cons, List.mem_append]
        exact Or.inr (Or.inl (wAll_mem hs hmem))
      constructor
      · refine hw _ ?_
        simp only [DataW.weights, Try.underlying33]
        rw [g2]
        simp [DataW.weightsEach, DataW.weights]
      · refine hw _ ?_
        simp only [DataW.weights, Try.underlying33]
        rw [g3]
        simp [DataW.weightsEach, DataW.weights]
end Go.Proofs.Ytegoldihcchfdaa
