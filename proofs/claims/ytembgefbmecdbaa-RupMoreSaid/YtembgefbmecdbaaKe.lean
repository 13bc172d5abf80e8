/-
  Slices that a call owns: cloned, sorted, compacted; whether neighbours are opposites.
-/
import Derived.Test.YtembgefbmecdbaaKd
import Derived.Test.YtembgefbmecdbaaLc
import Derived.Shelf.SlSortCmp.NoneTotal
import Derived.Sort.OwnSortedInts
namespace Go.Proofs.Ytembgefbmecdbaa
open Go.RowKit Go.Lib Go.Sort
/-- A new slice that the call owns and that reads as l. -/
def OV (B : Nat) (w : World) (l : List Int) (e : Ending) (w' : World) : Prop := ∃ v, e = .returned v ∧ w'.ownsRow w.heap.size 3 1 v l.length (iv l) ∧ Below B w w'
theorem Clone_s (A : Option Addr) (c : Nat) (l : List Int) (w : World) (h : RL w A l) (hl : l.length ≤ 1000000000) :
    Calls Try.prog 15 #[.slice A l.length c] w (OV w.heap.size w l) := by
  cases A with
  | none =>
    have h0 : l = [] := by
      cases l with
      | nil => rfl
      | cons x l => obtain ⟨b, off, e, _⟩ := h (by simp); cases e
    subst h0
    exact (Try.slices_Clone_int_nil _ c w).mono fun e w' ⟨he, hw⟩ => ⟨_, he, by rw [hw]; exact World.ownsRow_nil _ _ _ _, by rw [hw]; exact Below.refl _ _⟩
  | some a =>
    by_cases h0 : 0 < l.length
    · obtain ⟨b, off, e, hb, hc⟩ := h h0
      cases e
      have := Try.slices_Clone_int b off l.length c l w (Nat.le_refl _) (by omega) hc
      rw [List.take_length] at this
      exact this.mono fun e w' ⟨v, he, ho, _, hw⟩ => ⟨v, he, ho, hw⟩
    · have h1 : l = [] := List.length_eq_zero_iff.1 (by omega)
      subst h1
      exact (Try.slices_Clone_int_zero a c w).mono fun e w' ⟨v, he, ho, _, hw⟩ => ⟨v, he, ho, hw⟩
/-- The slice is as it was, the row within is l. -/
def OS (B : Nat) (v : Value) (l : List Int) (w w' : World) : Prop := w'.ownsRow B 3 1 v l.length (iv l) ∧ Below B w w'
theorem Sort_s (B : Nat) (v : Value) (l : List Int) (w : World) (h : w.ownsRow B 3 1 v l.length (iv l)) (hl : l.length ≤ 1000000000) (hB : B ≤ w.heap.size) :
    Calls Try.prog 19 #[v, .func (.func 20) #[] #[]] w fun e w' => e = .returned (.tuple #[]) ∧ OS B v (srt l) w w' := by
  by_cases hn : v = .slice none 0 0
  · subst hn
    have h0 : l.length = 0 := by
      rcases h.2 with ⟨_, e⟩ | ⟨g, cap, cur, e, _⟩
      · exact e
      · cases e
    have h1 : l = [] := List.length_eq_zero_iff.1 h0
    subst h1
    exact (Try.slices_SortFunc_none (α := Int) _ _ _ w).mono fun e w' ⟨he, hw⟩ => ⟨he, by subst hw; exact ⟨by rw [show srt [] = [] by simp [srt]]; exact h, Below.refl _ _⟩⟩
  · obtain ⟨g, cap, rfl, hg, hgl, hcap, hmax, _, hH⟩ := holds_of_ownsRow h hn
    have := Try.slices_SortFunc_total (Value.int .i64) (fun _ => rfl) cmpL swoL 20 #[] g 0 cap l.toArray w (enters_of Try.func20 (by kernel_rfl) rfl) (cmpLays B g 0 _ w) hH hgl (by simp; omega) totL
    rw [List.size_toArray] at this
    refine this.mono fun e w' ⟨he, n, os, hw⟩ => ⟨he, ?_⟩
    subst hw
    rcases h.2 with ⟨e0, _⟩ | ⟨g', cap', cur, e0, hb, hgg, h1, h2, h3, h4⟩
    · cases e0
    cases e0
    have hl2 : (srt l).length = l.length := srt_len l
    refine ⟨?_, ?_⟩
    · have := ownsRow_sortedI (n := n) (os := os) (ss := l) (ts := srt l) hl2 hg hgg h1 h2 h3
      rw [← hl2] at this
      rw [hl2] at this ⊢
      exact this
    · exact (Below.refl B w).grown (grownBy_sortedI (n := n) (os := os) (srt l).toArray) hB (fun k e => by cases e; exact hg)
theorem Compact_s (B : Nat) (v : Value) (l : List Int) (w : World) (h : w.ownsRow B 3 1 v l.length (iv l)) (hl : l.length ≤ 1000000000) (hB : B ≤ w.heap.size) :
    Calls Try.prog 21 #[v] w fun e w' => ∃ v', e = .returned v' ∧ OS B v' (Lib.compact l) w w' := by
  by_cases hn : v = .slice none 0 0
  · subst hn
    have h0 : l.length = 0 := by
      rcases h.2 with ⟨_, e⟩ | ⟨g, cap, cur, e, _⟩
      · exact e
      · cases e
    have h1 : l = [] := List.length_eq_zero_iff.1 h0
    subst h1
    exact (Try.slices_Compact_int_empty _ _ w).mono fun e w' ⟨he, hw⟩ => ⟨_, he, by subst hw; exact ⟨h, Below.refl _ _⟩⟩
  · obtain ⟨g, cap, rfl, hg, hgl, hcap, hmax, _, hH⟩ := holds_of_ownsRow h hn
    refine (Try.slices_Compact_int g 0 cap l w hH (by omega) hcap).mono fun e w' ⟨he, q, hw⟩ => ⟨_, he, ?_⟩
    subst hw
    have hle := compact_length_le l
    refine ⟨?_, below_putRow (Below.refl B w) hg⟩
    have := ownsRow_putRow (enc := Value.int .i64) (q := q) (ys := Lib.compact l ++ List.replicate (l.length - (Lib.compact l).length) 0) h (by simp; omega) hle
    rw [List.take_left] at this
    exact this
theorem own_RL {B : Nat} {v : Value} {l : List Int} {w : World} (h : w.ownsRow B 3 1 v l.length (iv l)) : ∃ A c, v = .slice A l.length c ∧ RL w A l := by
  rcases h.2 with ⟨e, h0⟩ | ⟨g, cap, cur, rfl, hb, hgg, h1, h2, h3, h4⟩
  · exact ⟨none, 0, by rw [e, h0], fun hp => by omega⟩
  · refine ⟨_, cap, rfl, fun _ => ⟨g, 0, rfl, lt_of_get hgg, fun j hj => ?_⟩⟩
    have := h.cellAt j (by omega)
    rw [Nat.zero_add, this]
    simp [iv, List.getD, List.getElem?_eq_getElem hj]
end Go.Proofs.Ytembgefbmecdbaa
