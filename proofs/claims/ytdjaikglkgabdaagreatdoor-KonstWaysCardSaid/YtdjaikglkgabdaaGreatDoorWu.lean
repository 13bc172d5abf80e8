/-
  The walks of bv's Of, and of the statements' own short and Own: a vector made of bits.
-/
import Derived.Test.YtdjaikglkgabdaaGreatDoorWe
import Derived.Test.YtdjaikglkgabdaaGreatDoorM
import Derived.Deep.RegionWith
namespace Go.Proofs.YtdjaikglkgabdaaGreatDoor
open Go.RowKit
/-- A slice of bits that came in: n bits, f j the bit number j. -/
def RB (w : World) (A : Option Addr) (n : Nat) (f : Nat → Bool) : Prop := 0 < n → ∃ b off : Nat, A = some ⟨b, off, none⟩ ∧ b < w.heap.size ∧ ∀ j, j < n → w.cell? ⟨b, off + j, none⟩ = some (.bool (f j))
theorem RB.keep {w w' : World} {A : Option Addr} {n : Nat} {f : Nat → Bool} (h : RB w A n f) (hb : Below w.heap.size w w') : RB w' A n f := fun hn => by
  obtain ⟨b, off, e, hl, hc⟩ := h hn
  exact ⟨b, off, e, Nat.lt_of_lt_of_le hl hb.size, fun j hj => (hb.cell (p := ⟨b, off + j, none⟩) hl).trans (hc j hj)⟩
theorem RB.less {w : World} {A : Option Addr} {n m : Nat} {f : Nat → Bool} (h : RB w A n f) (hm : m ≤ n) : RB w A m f := fun h0 => by
  obtain ⟨b, off, e, hl, hc⟩ := h (by omega)
  exact ⟨b, off, e, hl, fun j hj => hc j (by omega)⟩
/-- The number whose bits are f 0, f 1 .. -/
def valB (f : Nat → Bool) : Nat → Nat
  | 0 => 0
  | k + 1 => valB f k + (f k).toNat * 2 ^ k
theorem valB_lt (f : Nat → Bool) : ∀ k, valB f k < 2 ^ k
  | 0 => by simp [valB]
  | k + 1 => by
    have h := valB_lt f k
    rw [valB, Nat.pow_succ]
    cases f k <;> simp <;> omega
theorem wrap_pow (k : Nat) (h : k < 64) : IntKind.u64.wrap ((2 : Int) ^ k) = ((2 ^ k : Nat) : Int) := by
  have hp : 2 ^ (k + 1) ≤ 2 ^ 64 := Nat.pow_le_pow_right (by decide) (by omega)
  rw [Nat.pow_succ] at hp
  have h0 : 0 < 2 ^ k := Nat.pow_pos (by decide)
  rw [pow_cast, IntKind.wrap_u64]
  generalize 2 ^ k = a at *
  omega
theorem HV.set2 {t : TypeId} {w : World} {b n x : Nat} (h : HV t w b n x) (y : Nat) (hy : lo x = lo y) : HV t (w.setCell ⟨b, 2, none⟩ (.int .u64 ((hi y : Nat) : Int))) b n y := by
  refine World.rowIs.congr (World.rowIs.set h 2 _) fun i hi => ?_
  match i, hi with
  | 0, _ => rfl
  | 1, _ => simp [vcell, hy]
  | 2, _ => rfl
theorem valB_lo (f : Nat → Bool) (k : Nat) (h : k < 64) (hf : f k = true) : bits .or .u64 ((lo (valB f k) : Nat) : Int) (IntKind.u64.wrap ((2 : Int) ^ k)) = ((lo (valB f (k + 1)) : Nat) : Int) ∧ hi (valB f k) = hi (valB f (k + 1)) := by
  have hl := valB_lt f k
  have hp : 2 ^ (k + 1) ≤ 2 ^ 64 := Nat.pow_le_pow_right (by decide) (by omega)
  rw [Nat.pow_succ] at hp
  have e1 : lo (valB f k) = valB f k := Nat.mod_eq_of_lt (by omega)
  have e2 : valB f (k + 1) = valB f k + 2 ^ k := by rw [valB, hf]; simp
  have e3 : lo (valB f (k + 1)) = valB f k + 2 ^ k := by rw [e2]; exact Nat.mod_eq_of_lt (by omega)
  refine ⟨?_, ?_⟩
  · rw [wrap_pow k h, u64_or_nat _ _ (lo_lt _) (by omega), e1, e3, Nat.or_comm, nat_join k _ _ (Nat.mod_self _) hl, Nat.add_comm]
  · unfold hi; rw [e2, Nat.div_eq_of_lt (by omega), Nat.div_eq_of_lt (by omega)]
theorem valB_hi (f : Nat → Bool) (j : Nat) (h : j < 64) (hf : f (64 + j) = true) : bits .or .u64 ((hi (valB f (64 + j)) : Nat) : Int) (IntKind.u64.wrap ((2 : Int) ^ j)) = ((hi (valB f (64 + j + 1)) : Nat) : Int) ∧ lo (valB f (64 + j)) = lo (valB f (64 + j + 1)) := by
  have hl := valB_lt f (64 + j)
  have hp : 2 ^ (j + 1) ≤ 2 ^ 64 := Nat.pow_le_pow_right (by decide) (by omega)
  rw [Nat.pow_succ] at hp
  have hp2 : 2 ^ (64 + j) = 2 ^ 64 * 2 ^ j := Nat.pow_add _ _ _
  have e2 : valB f (64 + j + 1) = valB f (64 + j) + 2 ^ 64 * 2 ^ j := by rw [valB, hf, hp2]; simp
  have h0 : 0 < 2 ^ j := Nat.pow_pos (by decide)
  have hh : hi (valB f (64 + j)) < 2 ^ j := by unfold hi; rw [Nat.div_lt_iff_lt_mul (by decide), Nat.mul_comm, ← hp2]; exact hl
  have e3 : hi (valB f (64 + j + 1)) = hi (valB f (64 + j)) + 2 ^ j := by unfold hi; rw [e2, Nat.add_mul_div_left _ _ (by decide)]
  refine ⟨?_, ?_⟩
  · rw [wrap_pow j h, u64_or_nat _ _ (by omega) (by omega), e3, Nat.or_comm, nat_join j _ _ (Nat.mod_self _) hh, Nat.add_comm]
  · unfold lo; rw [e2, Nat.add_mul_mod_self_left]
theorem valB_no (f : Nat → Bool) (k : Nat) (hf : f k = false) : valB f (k + 1) = valB f k := by rw [valB, hf]; simp
end Go.Proofs.YtdjaikglkgabdaaGreatDoor
