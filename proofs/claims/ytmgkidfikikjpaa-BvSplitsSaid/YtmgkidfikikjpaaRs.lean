/-
  A law for a region that draws its order, where two operations may come up: either is shown.
-/
import Derived.Test.YtmgkidfikikjpaaRt
namespace Go.Proofs.Ytmgkidfikikjpaa
open Go
section
variable {P : Program} {ops : Array Oper} {Q : Exit → Act → World → Prop} {md : Region.Mode} {S : World → Prop} {n : Nat}

theorem anyT_pair {i j : Nat} {f : Nat} {l : Array Bool} {a : Act} {w : World} (hr : Region.ready md ops l = [i, j])
    (hi : wpOp P ops Q i (fun a' w' => (i < n → S w') ∧ AnyT P md ops Q S n f (l.setIfInBounds i true) a' w') a w)
    (hj : wpOp P ops Q j (fun a' w' => (j < n → S w') ∧ AnyT P md ops Q S n f (l.setIfInBounds j true) a' w') a w) : AnyT P md ops Q S n (f + 1) l a w :=
  ⟨fun h0 => (by rw [hr] at h0; cases h0), fun k hk => by
    rw [hr] at hk
    rcases List.mem_cons.1 hk with rfl | hk
    · exact hi
    · rw [List.mem_singleton.1 hk]; exact hj⟩
theorem anyT_three {i j m : Nat} {f : Nat} {l : Array Bool} {a : Act} {w : World} (hr : Region.ready md ops l = [i, j, m])
    (hi : wpOp P ops Q i (fun a' w' => (i < n → S w') ∧ AnyT P md ops Q S n f (l.setIfInBounds i true) a' w') a w)
    (hj : wpOp P ops Q j (fun a' w' => (j < n → S w') ∧ AnyT P md ops Q S n f (l.setIfInBounds j true) a' w') a w)
    (hm : wpOp P ops Q m (fun a' w' => (m < n → S w') ∧ AnyT P md ops Q S n f (l.setIfInBounds m true) a' w') a w) : AnyT P md ops Q S n (f + 1) l a w :=
  ⟨fun h0 => (by rw [hr] at h0; cases h0), fun k hk => by
    rw [hr] at hk
    rcases List.mem_cons.1 hk with rfl | hk
    · exact hi
    rcases List.mem_cons.1 hk with rfl | hk
    · exact hj
    · rw [List.mem_singleton.1 hk]; exact hm⟩
end
end Go.Proofs.Ytmgkidfikikjpaa
