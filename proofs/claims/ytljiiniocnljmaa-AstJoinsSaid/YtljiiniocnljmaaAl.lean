/-
  How an argument that is a slice of bytes is opened.
-/
import Derived.Test.YtljiiniocnljmaaAi
import Derived.WalkKit
import Derived.ProofKit
import Derived.Lay
import Derived.LaidMore
import Derived.OpenShut
import Derived.SevenTiedAt
import Derived.Stop.Joined
import Derived.Stop.LaidErr
import Derived.Lib.TrailingZeros
import Derived.ShutString
import Derived.ChangeOld
import Derived.Deep.Slices
import Derived.Lib.SmallJoins
import Derived.Lib.LaidTab
namespace Go.Proofs.Ytljiiniocnljmaa
open Go Go.RowKit Go.Lib Go.ChangeShapes Go.WideShapes Go.ChangeAt
theorem own : ownKnob Try.prog.godebug = none := by kernel_rfl
theorem laidOut : laidOutB Try.prog = true := by kernel_rfl
theorem cells_u8 : Try.prog.cellsOf 5 = 1 := by kernel_rfl
theorem bytes_of {H : Type} {enc : TypeId × Value → H} {W : World} {A : Option Addr} {n c : Nat} {d : DataW H} {p : List MemPlace}
    (h : DataW.Trod enc Try.prog W 0 (fun _ => true) true 22 (.slice A n c) d p) (lt : ∀ x ∈ p, x.block < W.heap.size) : BY W A n ∧ n ≤ c ∧ c ≤ 9223372036854775807 := by
  obtain ⟨fuel, hf⟩ := h
  rcases Go.Deep.open_slice1 Try.underlying22 cells_u8 hf with ⟨hcs, _⟩ | ⟨a, len, cap, m, k, V, D, Pl, hcs, _, hl, hcm, hm, hx, hV⟩
  · simp [Value.cells] at hcs
    obtain ⟨rfl, rfl, rfl⟩ := hcs
    exact ⟨fun h => absurd h (by simp), Nat.le_refl _, by decide⟩
  · simp [Value.cells] at hcs
    obtain ⟨rfl, rfl, rfl⟩ := hcs
    simp only [if_true] at hm
    subst hm
    simp only [Prod.mk.injEq] at hx
    refine ⟨fun h0 => ?_, hl, by unfold maxLen at hcm; omega⟩
    have hc0 := (hV 0 (by omega)).1
    obtain ⟨x0, ex0, _⟩ := DataW.trod_int Try.underlying5 (hV 0 (by omega)).2
    obtain ⟨b, off, spot⟩ := a
    have hs : spot = none := by
      cases spot with
      | none => rfl
      | some s =>
        exfalso
        simp [World.cell?, Addr.add] at hc0
        split at hc0 <;> simp at hc0
    subst hs
    have hadd : ∀ o x, (⟨b, o, none⟩ : Addr).add x = ⟨b, o + x, none⟩ := fun o x => by unfold Addr.add; split <;> simp_all
    refine ⟨b, off, rfl, ?_, fun j hj => ?_⟩
    · exact lt (.cell b off) (by rw [hx.2]; exact List.mem_append_left _ (List.mem_map.2 ⟨0, List.mem_range.2 (by omega), rfl⟩))
    · obtain ⟨h1, h2⟩ := hV j (by omega)
      obtain ⟨x, ex, _, wf⟩ := DataW.trod_int Try.underlying5 h2
      have hxr : 0 ≤ x ∧ x ≤ 255 := by simpa [Lit.wf, IntKind.min, IntKind.max, IntKind.signed, IntKind.bits] using wf
      have ev : V j = .int .u8 x := by simpa using ex
      refine ⟨x.toNat, by omega, ?_⟩
      rw [← hadd off j, h1, ev, Int.toNat_of_nonneg hxr.1]
end Go.Proofs.Ytljiiniocnljmaa
