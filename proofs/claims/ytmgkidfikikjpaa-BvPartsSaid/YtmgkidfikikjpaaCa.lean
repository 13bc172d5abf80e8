/-
  A region that draws its order, walked by the plain laws, stands inside a round of a loop over a function: no operation of it defers, and the caller lets nothing outgrow.
-/
import Derived.Test.YtmgkidfikikjpaaRt
import Derived.RangeFuncNested
import Derived.RangeFuncBound
import Derived.RangeFuncCalls
import Derived.RangeFuncLeaves
import Derived.Shelf.Abstract
import Derived.Shelf.RegionOpen
import Derived.WalkKit
import Derived.OwnWalkIn
import Derived.TacticsInMore
import Derived.LoopNIn
import Derived.LoopIn
import Derived.Sort.CutIn
namespace Go.Proofs.Ytmgkidfikikjpaa
open Go
section
variable {P : Program} {ops : Array Oper} {Q : Exit → Act → World → Prop} {md : Region.Mode} {n l : Nat}
theorem upon_in {o : Oper} {a : Act} {next next' : Act → World → Prop} (hm : ∀ a w, next a w → next' a w) {r : Result Next} (h : o.upon P a next Q r) : o.uponIn (Fence.wide.inRound l) n P a next' Q r := by
  have hd : ∀ p : Prop, ((Fence.wide.inRound l).depth.isSome = true → p) := fun p h => by cases h
  cases r with
  | ok x w =>
    cases x with
    | value v => exact hm _ _ h
    | skip => exact hm _ _ h
    | defer d => exact hm _ _ h
    | enter f args =>
      refine ⟨hd _, CallsIn.inRound l (callsIn_wide.2 (Calls.mono h ?_))⟩
      intro e w' h'
      cases e with
      | returned v => exact hm _ _ h'
      | panicked c => exact h'
      | outgrown => exact h'
    | row row args =>
      refine ⟨hd _, fun c cs _ => ?_⟩
      obtain ⟨v, w', r, s⟩ := h c cs
      exact ⟨v, w', hm _ _ r, stepsIn_wide.2 s⟩
    | _ => exact False.elim h
  | halt h0 w =>
    cases h0 <;> first | exact h | exact False.elim h
theorem wpOp_in {i : Nat} {a : Act} {w : World} {K K' : Act → World → Prop} (hm : ∀ a w, K a w → K' a w) (hlo : ¬ LetsOut Q) (hdf : ∀ (i : Nat) (o : Oper) (c : Call), ops[i]? = some o → o.op ≠ .defer c)
    (h : wpOp P ops Q i K a w) : wpOpIn (Fence.wide.inRound l) n P ops Q i K' a w := by
  unfold wpOp at h
  unfold wpOpIn
  cases ho : ops[i]? with
  | none => rw [ho] at h; exact hm _ _ h
  | some o =>
    rw [ho] at h
    by_cases hw : Region.wanted o (yielded ops a.tmps) = true
    · simp only [hw, if_true] at h ⊢
      rcases h with h | h
      · refine ⟨fun _ _ => trivial, ?_⟩
        rw [Oper.semAt_eq _ _ _ (fun c => hdf i o c ho)]
        exact upon_in hm h
      · exact absurd h.2 hlo
    · simp only [hw, if_false] at h ⊢
      exact ⟨fun _ _ => trivial, hm _ _ h⟩
theorem wpAny_in (hlo : ¬ LetsOut Q) (hdf : ∀ (i : Nat) (o : Oper) (c : Call), ops[i]? = some o → o.op ≠ .defer c) : ∀ (f : Nat) (t : Array Bool) (a : Act) (w : World), wpAny P md ops Q f t a w → wpAnyIn (Fence.wide.inRound l) n P md ops Q f t a w
  | 0, _, _, _, h => h
  | f + 1, _, _, _, h => ⟨h.1, fun i hi => wpOp_in (fun a w h' => wpAny_in hlo hdf f _ a w h') hlo hdf (h.2 i hi)⟩
/-- No operation of a region defers, by looking. -/
def noDefer (ops : Array Oper) : Bool := ops.all fun o => match o.op with | .defer _ => false | _ => true
theorem noDefer_spec (h : noDefer ops = true) : ∀ (i : Nat) (o : Oper) (c : Call), ops[i]? = some o → o.op ≠ .defer c := by
  intro i o c ho e
  unfold noDefer at h
  have := Array.all_eq_true'.1 h o (Array.mem_of_getElem? ho)
  rw [e] at this
  cases this
theorem regionIn_anyT {S : World → Prop} {k : Nat} {id : Nat} {a : Act} {w : World} (hm : P.follows .mixedOrders = true) (hlo : ¬ LetsOut Q) (hdf : noDefer ops = true)
    (h : AnyT P .any ops Q S k ops.size (Array.replicate ops.size false) a w.drew) : (Code.region id ops true).wpIn (Fence.wide.inRound l) n P Q a w :=
  wpIn_region_any hm (wpAny_in hlo (noDefer_spec hdf) _ _ _ _ (anyT_any _ _ _ _ h))
end
end Go.Proofs.Ytmgkidfikikjpaa
