/-
  The walks of the statements' own fit, and of the closures of BvRing and BvOrders.
-/
import Derived.Test.YtdjaikglkgabdaaGreatDoorWx
import Derived.Test.YtdjaikglkgabdaaGreatDoorWv
import Derived.Test.YtdjaikglkgabdaaGreatDoorWq
namespace Go.Proofs.YtdjaikglkgabdaaGreatDoor
open Go.RowKit
/-- What fit leaves: a new slice of n bits, those of f and no more. -/
def FV (w : World) (n m : Nat) (f : Nat → Bool) (e : Ending) (w' : World) : Prop := ∃ g : Nat, e = .returned (.slice (some ⟨g, 0, none⟩) n n) ∧ RB w' (some ⟨g, 0, none⟩) n (fun j => decide (j < m) && f j) ∧ Below w.heap.size w w'
def bcs (f : Nat → Bool) (k : Nat) : List Value := (List.range k).map fun j => .bool (f j)
theorem bcs_len (f : Nat → Bool) (k : Nat) : (bcs f k).length = k := by simp [bcs]
theorem bcs_get (f : Nat → Bool) (k j : Nat) (h : j < k) : (bcs f k)[j]? = some (.bool (f j)) := by simp [bcs, h]
theorem bcs_one (f : Nat → Bool) (k : Nat) : ∀ v ∈ bcs f k, v.oneCell' = true := by
  intro v hv
  simp only [bcs, List.mem_map] at hv
  obtain ⟨j, _, rfl⟩ := hv
  rfl
theorem info_bool : (Tryz.prog.info? 4).map (fun i => (i.zero, i.size, i.bytes)) = some (some (.bool false), 1, 1) := by kernel_rfl
theorem size_bool : (Tryz.prog.info? 4).map (·.size) = some 1 := by kernel_rfl
theorem splice_get (f : Nat → Bool) (m n j : Nat) (hj : j < n) : (splice (List.replicate n (Value.bool false)) 0 (bcs f (min m n)))[j]? = some (.bool (decide (j < m) && f j)) := by
  unfold splice
  simp only [List.take_zero, List.nil_append, Nat.zero_add]
  by_cases h : j < m
  · rw [List.getElem?_append_left (by rw [bcs_len]; omega), bcs_get f _ j (by omega)]
    simp [h]
  · rw [List.getElem?_append_right (by rw [bcs_len]; omega), bcs_len, List.getElem?_drop, List.getElem?_replicate, if_pos (by omega)]
    simp [h]
end Go.Proofs.YtdjaikglkgabdaaGreatDoor
