/-
  BvMakes for every input: what New and Of do at every width and length; a slice of words that is handed in, opened.
-/
import Derived.Test.YtmgkidfikikjpaaYg
import Derived.Test.YtmgkidfikikjpaaYi
import Derived.Test.YtmgkidfikikjpaaPa
namespace Go.Proofs.Ytmgkidfikikjpaa
open Go.ChangeShapes Go.WideShapes Go.ChangeAt Go.RowKit
theorem short_pack (n0 c : Nat) (B : Option Addr) (f : Nat → Bool) (w : World) (hB : RB w B n0 f) (hc : n0 ≤ c) :
    ∃ n, RB w B n f ∧ ∀ w, Calls Try.prog 7 #[.slice B n0 c] w fun e w' => e = .returned (.slice B n c) ∧ w' = w := by
  by_cases h : n0 ≤ 140
  · exact ⟨n0, hB, fun w => short_le n0 c B w h⟩
  · have hl := hB.less (show 140 ≤ n0 by omega)
    obtain ⟨b, off, rfl, _, _⟩ := hB (by omega)
    exact ⟨140, hl, fun w => short_gt n0 c b off w (by omega) hc⟩
theorem cellsU : Try.prog.cellsOf 25 = 1 := by kernel_rfl
/-- A slice of words that can be read as data: its words. -/
theorem words_of {H : Type} {enc : TypeId × Value → H} {W : World} {A : Option Addr} {n c : Nat} {d : DataW H} {p : List MemPlace}
    (h : DataW.Trod enc Try.prog W 0 (fun _ => true) true 69 (.slice A n c) d p) (lt : ∀ x ∈ p, x.block < W.heap.size) : n ≤ c ∧ ∃ g, RW W A n g ∧ ∀ j, j < n → g j < 2 ^ 64 := by
  obtain ⟨fuel, hf⟩ := h
  rcases Go.Deep.open_slice1 Try.underlying69 cellsU hf with ⟨hcs, _⟩ | ⟨a, len, cap, m, k, V, D, Pl, hcs, _, hl, _, hm, hx, hV⟩
  · simp [Value.cells] at hcs
    obtain ⟨rfl, rfl, rfl⟩ := hcs
    exact ⟨Nat.le_refl _, fun _ => 0, fun h => absurd h (by omega), fun j h => absurd h (by omega)⟩
  · simp [Value.cells] at hcs
    obtain ⟨rfl, rfl, rfl⟩ := hcs
    simp only [if_true] at hm
    subst hm
    refine ⟨hl, ?_⟩
    have hb : ∀ i, ∃ v : Nat, v < 2 ^ 64 ∧ (i < n → V i = .int .u64 (v : Int)) := fun i => by
      by_cases hi : i < n
      · obtain ⟨z, e, _, hw⟩ := DataW.trod_int Try.underlying25 (hV i (by omega)).2
        have hr : 0 ≤ z ∧ z ≤ 18446744073709551615 := by
          simp only [Lit.wf, Bool.and_eq_true, decide_eq_true_eq] at hw
          exact hw
        refine ⟨z.toNat, by omega, fun _ => ?_⟩
        rw [Int.toNat_of_nonneg hr.1]
        simpa using e
      · exact ⟨0, by decide, fun h => absurd h hi⟩
    refine ⟨fun i => Classical.choose (hb i), fun h0 => ?_, fun j _ => (Classical.choose_spec (hb j)).1⟩
    have hc0 := (hV 0 (by omega)).1
    obtain ⟨b, off, spot⟩ := a
    have hs : spot = none := by
      cases spot with
      | none => rfl
      | some s =>
        exfalso
        simp [World.cell?, Addr.add] at hc0
        split at hc0 <;> simp at hc0
    subst hs
    refine ⟨b, off, rfl, ?_, fun j hj => ?_⟩
    · have := lt (.cell b off) (by
        simp only [Prod.mk.injEq] at hx
        rw [hx.2]
        refine List.mem_append_left _ (List.mem_map.2 ⟨0, List.mem_range.2 (by omega), rfl⟩))
      exact this
    · have hj' := (hV j (by omega)).1
      rw [(Classical.choose_spec (hb j)).2 hj] at hj'
      have hadd : (⟨b, off, none⟩ : Addr).add j = ⟨b, off + j, none⟩ := by unfold Addr.add; split <;> simp_all
      rw [hadd] at hj'
      exact hj'
end Go.Proofs.Ytmgkidfikikjpaa
