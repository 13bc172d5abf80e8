/-
  How an argument that is a slice of numbers is opened.
-/
import Derived.Test.YtomjokpgcijccaaDoorHv
import Derived.Test.YtomjokpgcijccaaDoorHq
namespace Go.Proofs.YtomjokpgcijccaaDoor
open Go Go.ChangeShapes Go.WideShapes Go.ChangeAt Go.RowKit Go.Lib
theorem ints_of {H : Type} {enc : TypeId × Value → H} {W : World} {A : Option Addr} {n c : Nat} {d : DataW H} {p : List MemPlace}
    (h : DataW.Trod enc Tryd.prog W 0 (fun _ => true) true 42 (.slice A n c) d p) (lt : ∀ x ∈ p, x.block < W.heap.size) :
    ∃ l : List Int, l.length = n ∧ RI W A l ∧ l.length ≤ 9223372036854775807 := by
  obtain ⟨fuel, hf⟩ := h
  rcases Go.Deep.open_slice1 Tryd.underlying42 cells_i hf with ⟨hcs, _⟩ | ⟨a, len, cap, m, k, V, D, Pl, hcs, _, hl, hcm, hm, hx, hV⟩
  · simp [Value.cells] at hcs
    obtain ⟨rfl, rfl, rfl⟩ := hcs
    exact ⟨[], rfl, fun h => absurd h (by simp), by simp⟩
  · simp [Value.cells] at hcs
    obtain ⟨rfl, rfl, rfl⟩ := hcs
    simp only [if_true] at hm
    subst hm
    simp only [Prod.mk.injEq] at hx
    have hb : ∀ i, ∃ x : Int, i < n → W.cell? (a.add i) = some (.int .i64 x) := fun i => by
      by_cases hi : i < n
      · obtain ⟨h1, h2⟩ := hV i (by omega)
        obtain ⟨x, e, _, _⟩ := DataW.trod_int Tryd.underlying3 h2
        have e' : V i = .int .i64 x := by simpa using e
        rw [e'] at h1
        exact ⟨x, fun _ => h1⟩
      · exact ⟨0, fun h => absurd h hi⟩
    obtain ⟨l, hll, hlg, hlm⟩ := list_of_fn (fun i => Classical.choose (hb i)) n
    refine ⟨l, hll, fun h0 => ?_, by unfold maxLen at hcm; omega⟩
    obtain ⟨x0, hc0⟩ : ∃ x0, W.cell? (a.add 0) = some x0 := ⟨_, Classical.choose_spec (hb 0) (by omega)⟩
    have hlg2 : ∀ j (hj : j < l.length), W.cell? (a.add j) = some (.int .i64 l[j]) := fun j hj => by rw [hlg j hj]; exact Classical.choose_spec (hb j) (by omega)

    clear hlm hlg hb
    obtain ⟨b, off, spot⟩ := a
    have hs : spot = none := by
      cases spot with
      | none => rfl
      | some s =>
        exfalso
        simp [World.cell?, Addr.add] at hc0
        split at hc0 <;> simp at hc0
    subst hs
    have hadd : ∀ o x, (⟨b, o, none⟩ : Addr).add x = ⟨b, o + x, none⟩ := fun o x => by unfold Addr.add; split <;> simp_all
    refine ⟨b, off, rfl, ?_, fun j hj => ?_⟩
    · exact lt (.cell b off) (by rw [hx.2]; exact List.mem_append_left _ (List.mem_map.2 ⟨0, List.mem_range.2 (by omega), rfl⟩))
    · have hsp := hlg2 j hj
      rw [hadd] at hsp
      exact hsp
end Go.Proofs.YtomjokpgcijccaaDoor
