/-
  How numbers are opened; bools with their weight.
-/
import Derived.Test.YtinfkjflomdhbaaHf
import Derived.Test.YtinfkjflomdhbaaGv
import Derived.SizedLaws
namespace Go.Proofs.Ytinfkjflomdhbaa
open Go Go.RowKit Go.Lib Go.ChangeShapes Go.WideShapes Go.ChangeAt
theorem bytes_bo : Try.prog.bytesOf 4 = 1 := by kernel_rfl
section
variable {H : Type} {enc : TypeId × Value → H} {W : World}
theorem ints_of {A : Option Addr} {n c : Nat} {d : DataW H} {p : List MemPlace}
    (h : DataW.Trod enc Try.prog W 0 (fun _ => true) true 27 (.slice A n c) d p) (lt : ∀ x ∈ p, x.block < W.heap.size) : ∃ l : List Int, l.length = n ∧ RL W A l := by
  obtain ⟨fuel, hf⟩ := h
  rcases Go.Deep.open_slice1 Try.underlying27 cells_in hf with ⟨hcs, _⟩ | ⟨a, len, cap, m, k, V, D, Pl, hcs, _, hl, hcm, hm, hx, hV⟩
  · simp [Value.cells] at hcs
    obtain ⟨rfl, rfl, rfl⟩ := hcs
    exact ⟨[], rfl, fun h => absurd h (by simp)⟩
  · simp [Value.cells] at hcs
    obtain ⟨rfl, rfl, rfl⟩ := hcs
    simp only [if_true] at hm
    subst hm
    simp only [Prod.mk.injEq] at hx
    have hb : ∀ i, ∃ x : Int, i < n → V i = .int .i64 x := fun i => by
      by_cases hi : i < n
      · obtain ⟨x, e, _⟩ := DataW.trod_int Try.underlying3 (hV i (by omega)).2
        exact ⟨x, fun _ => by simpa using e⟩
      · exact ⟨0, fun h => absurd h hi⟩
    obtain ⟨l, hll, hlg⟩ := list_of_fn (fun i => Classical.choose (hb i)) n
    refine ⟨l, hll, fun h0 => ?_⟩
    have hs := spot_none (hV 0 (by omega)).1
    obtain ⟨b, off, spot⟩ := a
    simp only at hs
    subst hs
    have hadd : ∀ o x, (⟨b, o, none⟩ : Addr).add x = ⟨b, o + x, none⟩ := fun o x => by unfold Addr.add; split <;> simp_all
    refine ⟨b, off, rfl, ?_, fun j hj => ?_⟩
    · exact lt (.cell b off) (by rw [hx.2]; exact List.mem_append_left _ (List.mem_map.2 ⟨0, List.mem_range.2 (by omega), rfl⟩))
    · rw [← hadd off j, (hV j (by omega)).1, Classical.choose_spec (hb j) (by omega), List.getD_eq_getElem?_getD, List.getElem?_eq_getElem hj, hlg j hj]
      rfl
theorem bools_ofW {A : Option Addr} {n c : Nat} {d : DataW H} {p : List MemPlace}
    (h : DataW.Trod enc Try.prog W 0 (fun _ => true) true 23 (.slice A n c) d p) : (A = none → c = 0) ∧ (n = 0 ∨ ∃ elems spare, d = .slice elems spare ∧ elems.length = n) := by
  obtain ⟨fuel, hf⟩ := h
  rcases Go.Deep.open_slice1 Try.underlying23 cells_bo hf with ⟨hcs, _⟩ | ⟨a, len, cap, m, k, V, D, Pl, hcs, _, hl, hcm, hm, hx, hV⟩
  · simp [Value.cells] at hcs
    obtain ⟨rfl, rfl, rfl⟩ := hcs
    exact ⟨fun _ => rfl, .inl rfl⟩
  · simp [Value.cells] at hcs
    obtain ⟨rfl, rfl, rfl⟩ := hcs
    simp only [Prod.mk.injEq] at hx
    exact ⟨(fun h => by cases h), .inr ⟨_, _, hx.1, by simp⟩⟩
end
end Go.Proofs.Ytinfkjflomdhbaa
