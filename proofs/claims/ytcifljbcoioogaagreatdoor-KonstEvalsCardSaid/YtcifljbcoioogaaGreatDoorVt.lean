/-
  What the rows of konst share: the tables that they list, and how an argument that is a slice of names with their numbers is opened.
-/
import Derived.Test.YtcifljbcoioogaaGreatDoorVr
import Derived.Test.YtcifljbcoioogaaGreatDoorCards
import Derived.Test.YtcifljbcoioogaaGreatDoorTie
import Derived.WalkKit
import Derived.ProofKit
import Derived.Lay
import Derived.LaidMore
import Derived.OpenShut
import Derived.SevenTiedAt
import Derived.Stop.Joined
import Derived.Stop.LaidErr
import Derived.Lib.TrailingZeros
import Derived.ShutString
import Derived.ChangeOld
import Derived.Deep.Slices
import Derived.Lib.SmallJoins
import Derived.Lib.LaidTab
namespace Go.Proofs.YtcifljbcoioogaaGreatDoor
open Go Go.RowKit Go.Lib
/-- The list of tables of the rows. -/
def laid6 : List (String × DataW Unit) := Rows.konstEvalsRow.laid
theorem own6 : ownKnob Tryz.prog.godebug = none := by kernel_rfl
theorem pow_datum : (Rows.laid_internal_strconv_uint64pow10 : DataW Unit) = tabData .u64 pow10Tab := by kernel_rfl
theorem bru_datum : (Rows.laid_math_bits_deBruijn64tab : DataW Unit) = tabData .u8 (deBruijn64tab.map Int.ofNat) := by kernel_rfl
theorem LT_of_laid {W : World} (h : laidMetH Tryz.prog laid6 W) : LT W := by
  rw [MakeChecks.laidMetH_plain _ _ _ (by kernel_rfl)] at h
  unfold laid6 Rows.konstEvalsRow at h
  dsimp only at h
  have h1 := laidMet.tail h
  have h2 := laidMet.tail h1
  have e1 : TabIs Tryz.prog W "math/bits.deBruijn64tab" .u8 (deBruijn64tab.map Int.ofNat) :=
    tabIs_of_head (g := 2) (t := 144) (e := 5) (by kernel_rfl) (by kernel_rfl) Tryz.underlying144 Tryz.underlying5 (by kernel_rfl) (by kernel_rfl) (bru_datum ▸ h1)
  have e2 : TabIs Tryz.prog W "internal/strconv.uint64pow10" .u64 pow10Tab :=
    tabIs_of_head (g := 0) (t := 129) (e := 87) (by kernel_rfl) (by kernel_rfl) Tryz.underlying129 Tryz.underlying87 (by kernel_rfl) (by kernel_rfl) (pow_datum ▸ h2)
  exact ⟨e2, e1.cell (by kernel_rfl) 15 (by decide)⟩
/-- The witness's world. -/
theorem witness_met (os : Os) (args : Array Value) : laidMetH Tryz.prog laid6 ((World.laidAll Tryz.prog os laid6).forCall (fun _ _ => 0) ⟨#[], args, []⟩).memory := by
  rw [MakeChecks.laidMetH_plain _ _ _ (by kernel_rfl)]
  exact laidMet_laidAll _ (by kernel_rfl) (by kernel_rfl)
theorem witness_shape (os : Os) (args : Array Value) : ((World.laidAll Tryz.prog os laid6).forCall (fun _ _ => 0) ⟨#[], args, []⟩).Shaped Tryz.prog := World.shaped_of_ZipB (by kernel_rfl) (by kernel_rfl)
open Go.ChangeShapes Go.WideShapes Go.ChangeAt
theorem laidOut : laidOutB Tryz.prog = true := by kernel_rfl
theorem cells_ne : Tryz.prog.cellsOf 58 = 2 := by kernel_rfl
theorem cells_s : Tryz.prog.cellsOf 9 = 1 := by kernel_rfl
theorem cells_i : Tryz.prog.cellsOf 3 = 1 := by kernel_rfl
theorem len2 {α : Type} (l : List α) (h : l.length = 2) : ∃ a b, l = [a, b] := by
  match l, h with
  | [a, b], _ => exact ⟨a, b, rfl⟩
theorem some_at {α : Type} {l : List α} {n i : Nat} (h : l.length = n) (hi : i < n) : ∃ y, l[i]? = some y := ⟨_, List.getElem?_eq_getElem (by omega)⟩
section
variable {H : Type} {enc : TypeId × Value → H} {W : World} {base : Nat} {sp : Nat → Bool} {held : Bool} {fuel : Nat} {cs : List Value} {x : DataW H × List MemPlace}
theorem named_cells (h : DataW.trod enc Tryz.prog W base sp held fuel 58 cs = some x) : ∃ q : NE, cs = [.string q.1, .int .i64 q.2] ∧ q.1.size ≤ maxLen := by
  obtain ⟨xs, n, _, _, hl, hxl, hf⟩ := DataW.trod_struct Tryz.underlying58 h
  rw [cells_ne] at hl
  have hxl3 : xs.length = 2 := hxl
  obtain ⟨a, b, rfl⟩ := len2 cs hl
  obtain ⟨y0, e0⟩ := some_at hxl3 (show 0 < 2 by decide)
  obtain ⟨y1, e1⟩ := some_at hxl3 (show 1 < 2 by decide)
  have h0 : DataW.trod enc Tryz.prog W base sp held n 9 [a] = some y0 := by
    have := hf 0 _ rfl
    rw [e0] at this
    simpa [cells_s] using this
  have h1 : DataW.trod enc Tryz.prog W base sp held n 3 [b] = some y1 := by
    have := hf 1 _ rfl
    rw [e1] at this
    simpa [cells_i] using this
  obtain ⟨s, hs, _, hz⟩ := DataW.trod_string Tryz.underlying9 h0
  obtain ⟨f, hf0, _, wf0⟩ := DataW.trod_int Tryz.underlying3 h1
  cases hs
  cases hf0
  exact ⟨(s, f), rfl, hz⟩
end
theorem list_of_fn {α : Type} (f : Nat → α) (n : Nat) : ∃ l : List α, l.length = n ∧ (∀ j (h : j < l.length), l[j] = f j) ∧ ∀ x, x ∈ l → ∃ j, j < n ∧ x = f j := by
  refine ⟨(List.range n).map f, by simp, fun j hj => by simp, fun x hx => ?_⟩
  obtain ⟨j, hj, rfl⟩ := List.mem_map.1 hx
  exact ⟨j, List.mem_range.1 hj, rfl⟩
theorem named_of {H : Type} {enc : TypeId × Value → H} {W : World} {A : Option Addr} {n c : Nat} {d : DataW H} {p : List MemPlace}
    (h : DataW.Trod enc Tryz.prog W 0 (fun _ => true) true 23 (.slice A n c) d p) (lt : ∀ x ∈ p, x.block < W.heap.size) :
    ∃ qs : List NE, qs.length = n ∧ NL W A qs ∧ (∀ q, q ∈ qs → q.1.size ≤ maxLen) ∧ qs.length ≤ 9223372036854775807 := by
  obtain ⟨fuel, hf⟩ := h
  rcases Go.Deep.open_slice Tryz.underlying23 hf with ⟨hcs, _⟩ | ⟨a, len, cap, m, k, D, Pl, hcs, _, hl, hcm, hm, hx, hV⟩
  · simp [Value.cells] at hcs
    obtain ⟨rfl, rfl, rfl⟩ := hcs
    exact ⟨[], rfl, fun h => absurd h (by simp), fun q hq => absurd hq (by simp), by simp⟩
  · simp [Value.cells] at hcs
    obtain ⟨rfl, rfl, rfl⟩ := hcs
    simp only [if_true] at hm
    subst hm
    rw [cells_ne] at hV hx
    simp only [Prod.mk.injEq] at hx
    have hb : ∀ i, ∃ q : NE, i < n → (∀ j v, [Value.string q.1, .int .i64 q.2][j]? = some v → W.cell? ((a.add (i * 2)).add j) = some v) ∧ q.1.size ≤ maxLen := fun i => by
      by_cases hi : i < n
      · obtain ⟨cs', h1, h2⟩ := hV i (by omega)
        obtain ⟨q, rfl, hq⟩ := named_cells h2
        obtain ⟨_, _, h3⟩ := World.cells?_some h1
        refine ⟨q, fun _ => ⟨fun j v hj => ?_, hq⟩⟩
        have hj5 : j < 2 := by
          have := (List.getElem?_eq_some_iff.1 hj).1
          simpa using this
        rw [h3 j hj5, hj]
      · exact ⟨(⟨#[]⟩, 0), fun h => absurd h hi⟩
    obtain ⟨l, hll, hlg, hlm⟩ := list_of_fn (fun i => Classical.choose (hb i)) n
    refine ⟨l, hll, fun h0 => ?_, fun q hq => ?_, by unfold maxLen at hcm; omega⟩
    · have hc0 := (Classical.choose_spec (hb 0) (by omega)).1 0 _ rfl
      obtain ⟨b, off, spot⟩ := a
      have hs : spot = none := by
        cases spot with
        | none => rfl
        | some s =>
          exfalso
          simp [World.cell?, Addr.add] at hc0
          split at hc0 <;> simp at hc0
      subst hs
      have hadd : ∀ o x, (⟨b, o, none⟩ : Addr).add x = ⟨b, o + x, none⟩ := fun o x => by unfold Addr.add; split <;> simp_all
      refine ⟨b, off, rfl, ?_, fun j hj => ?_⟩
      · exact lt (.cell b off) (by rw [hx.2]; exact List.mem_append_left _ (List.mem_map.2 ⟨0, List.mem_range.2 (by omega), rfl⟩))
      · have hsp := (Classical.choose_spec (hb j) (by omega)).1
        rw [hlg j hj]
        generalize Classical.choose (hb j) = q at *
        rw [hadd off (j * 2)] at hsp
        simp only [hadd (off + j * 2)] at hsp
        exact ⟨hsp 0 _ rfl, hsp 1 _ rfl⟩
    · obtain ⟨j, hj, rfl⟩ := hlm q hq
      exact (Classical.choose_spec (hb j) hj).2
theorem cells_u8 : Tryz.prog.cellsOf 5 = 1 := by kernel_rfl
theorem bytes_of {H : Type} {enc : TypeId × Value → H} {W : World} {A : Option Addr} {n c : Nat} {d : DataW H} {p : List MemPlace}
    (h : DataW.Trod enc Tryz.prog W 0 (fun _ => true) true 22 (.slice A n c) d p) (lt : ∀ x ∈ p, x.block < W.heap.size) : BY W A n ∧ n ≤ c ∧ c ≤ 9223372036854775807 := by
  obtain ⟨fuel, hf⟩ := h
  rcases Go.Deep.open_slice1 Tryz.underlying22 cells_u8 hf with ⟨hcs, _⟩ | ⟨a, len, cap, m, k, V, D, Pl, hcs, _, hl, hcm, hm, hx, hV⟩
  · simp [Value.cells] at hcs
    obtain ⟨rfl, rfl, rfl⟩ := hcs
    exact ⟨fun h => absurd h (by simp), Nat.le_refl _, by decide⟩
  · simp [Value.cells] at hcs
    obtain ⟨rfl, rfl, rfl⟩ := hcs
    simp only [if_true] at hm
    subst hm
    simp only [Prod.mk.injEq] at hx
    refine ⟨fun h0 => ?_, hl, by unfold maxLen at hcm; omega⟩
    have hc0 := (hV 0 (by omega)).1
    obtain ⟨x0, ex0, _⟩ := DataW.trod_int Tryz.underlying5 (hV 0 (by omega)).2
    obtain ⟨b, off, spot⟩ := a
    have hs : spot = none := by
      cases spot with
      | none => rfl
      | some s =>
        exfalso
        simp [World.cell?, Addr.add] at hc0
        split at hc0 <;> simp at hc0
    subst hs
    have hadd : ∀ o x, (⟨b, o, none⟩ : Addr).add x = ⟨b, o + x, none⟩ := fun o x => by unfold Addr.add; split <;> simp_all
    refine ⟨b, off, rfl, ?_, fun j hj => ?_⟩
    · exact lt (.cell b off) (by rw [hx.2]; exact List.mem_append_left _ (List.mem_map.2 ⟨0, List.mem_range.2 (by omega), rfl⟩))
    · obtain ⟨h1, h2⟩ := hV j (by omega)
      obtain ⟨x, ex, _, wf⟩ := DataW.trod_int Tryz.underlying5 h2
      have hxr : 0 ≤ x ∧ x ≤ 255 := by simpa [Lit.wf, IntKind.min, IntKind.max, IntKind.signed, IntKind.bits] using wf
      have ev : V j = .int .u8 x := by simpa using ex
      refine ⟨x.toNat, by omega, ?_⟩
      rw [← hadd off j, h1, ev, Int.toNat_of_nonneg hxr.1]
end Go.Proofs.YtcifljbcoioogaaGreatDoor
