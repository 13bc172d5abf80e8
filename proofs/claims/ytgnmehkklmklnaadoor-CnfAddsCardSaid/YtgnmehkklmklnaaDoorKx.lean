/-
  Plain mathematics of CnfOrder: a clause turned and each literal written twice has the same literals.
-/
import Derived.Test.YtgnmehkklmklnaaDoorKn
import Derived.Test.YtgnmehkklmklnaaDoorKs
namespace Go.Proofs.YtgnmehkklmklnaaDoor
open Go.RowKit Go.Lib
/-- Where the turned index lies. -/
def ixT (m : Nat) (turn : Int) (i : Nat) : Nat := (((i : Int) + turn) % (m : Int)).toNat
theorem ixT_lt (m : Nat) (turn : Int) (i : Nat) (h : 0 < m) : ixT m turn i < m := by
  have h1 := Int.emod_nonneg ((i : Int) + turn) (show (m : Int) ≠ 0 by omega)
  have h2 := Int.emod_lt_of_pos ((i : Int) + turn) (show (0 : Int) < m by omega)
  unfold ixT
  omega
theorem tmod_bounds (a : Int) (m : Nat) (h : 0 < m) : -(m : Int) < a.tmod m ∧ a.tmod m < m := by
  have h1 := Int.tmod_lt_of_pos a (show (0 : Int) < m by omega)
  have h2 := Int.tmod_lt_of_pos (-a) (show (0 : Int) < m by omega)
  rw [Int.neg_tmod] at h2
  omega
theorem ixT_eq (m : Nat) (turn : Int) (i : Nat) (h : 0 < m) : ((((i : Int) + turn.tmod m).tmod m) + m).tmod m = ((ixT m turn i : Nat) : Int) := by
  have b := tmod_bounds ((i : Int) + turn.tmod m) m h
  rw [Int.tmod_eq_emod_of_nonneg (by omega)]
  have e1 := Int.tmod_def turn m
  have e2 := Int.tmod_def ((i : Int) + turn.tmod m) m
  obtain ⟨q1, hq1⟩ : ∃ q, turn.tdiv m = q := ⟨_, rfl⟩
  obtain ⟨q2, hq2⟩ : ∃ q, ((i : Int) + turn.tmod m).tdiv m = q := ⟨_, rfl⟩
  rw [hq1] at e1
  rw [hq2] at e2
  have e3 : ((i : Int) + turn.tmod m).tmod m + m = (i : Int) + turn + m * (1 - q1 - q2) := by
    rw [e2, e1, Int.mul_sub, Int.mul_sub, Int.mul_one]
    omega
  rw [e3, Int.add_mul_emod_self_left]
  have h1 := Int.emod_nonneg ((i : Int) + turn) (show (m : Int) ≠ 0 by omega)
  unfold ixT
  omega
theorem ixT_onto (m : Nat) (turn : Int) (j : Nat) (h : j < m) : ∃ i, i < m ∧ ixT m turn i = j := by
  have h1 := Int.emod_nonneg ((j : Int) - turn) (show (m : Int) ≠ 0 by omega)
  have h2 := Int.emod_lt_of_pos ((j : Int) - turn) (show (0 : Int) < m by omega)
  refine ⟨(((j : Int) - turn) % (m : Int)).toNat, by omega, ?_⟩
  unfold ixT
  rw [Int.toNat_of_nonneg h1, Int.emod_add_emod, Int.sub_add_cancel, Int.emod_eq_of_lt (by omega) (by omega)]
  omega
/-- The first k literals of the turned clause, each twice. -/
def othT (l : List Int) (turn : Int) (k : Nat) : List Int := (List.range k).flatMap fun i => [l.getD (ixT l.length turn i) 0, l.getD (ixT l.length turn i) 0]
theorem othT_succ (l : List Int) (turn : Int) (k : Nat) : othT l turn (k + 1) = othT l turn k ++ [l.getD (ixT l.length turn k) 0, l.getD (ixT l.length turn k) 0] := by
  unfold othT
  rw [List.range_succ, List.flatMap_append]
  simp
theorem othT_len (l : List Int) (turn : Int) : ∀ k, (othT l turn k).length = k + k
  | 0 => rfl
  | k + 1 => by rw [othT_succ, List.length_append, othT_len l turn k]; simp; omega
theorem othT_mem (l : List Int) (turn : Int) (x : Int) : x ∈ othT l turn l.length ↔ x ∈ l := by
  unfold othT
  rw [List.mem_flatMap]
  constructor
  · rintro ⟨i, hi, hx⟩
    have hi := List.mem_range.1 hi
    have hlt := ixT_lt l.length turn i (by omega)
    obtain rfl : x = l.getD (ixT l.length turn i) 0 := by simpa using hx
    rw [List.getD_eq_getElem?_getD, List.getElem?_eq_getElem hlt]
    exact List.getElem_mem _
  · intro hx
    obtain ⟨j, hj, rfl⟩ := List.mem_iff_getElem.1 hx
    obtain ⟨i, hi, hij⟩ := ixT_onto l.length turn j hj
    refine ⟨i, List.mem_range.2 hi, ?_⟩
    rw [hij]
    simp [List.getD, List.getElem?_eq_getElem hj]
theorem addF_same (V : Nat) (cs : List (List Int)) {l r : List Int} (h : ∀ x, x ∈ l ↔ x ∈ r) (hl : l.length ≤ 1000) (hr : r.length ≤ 1000) : addF V cs l = addF V cs r := by
  have h1 : l.any (fgn V) = r.any (fgn V) := by
    rw [Bool.eq_iff_iff, List.any_eq_true, List.any_eq_true]
    constructor
    · rintro ⟨x, hx, hp⟩; exact ⟨x, (h x).1 hx, hp⟩
    · rintro ⟨x, hx, hp⟩; exact ⟨x, (h x).2 hx, hp⟩
  unfold addF
  rw [h1, opB_ext h, canon_ext h]
  by_cases hn : 200000 ≤ cs.length
  · rw [if_pos (Or.inl hn), if_pos (Or.inl hn)]
  · rw [if_neg (show ¬ (200000 ≤ cs.length ∨ 1000 < l.length) by omega), if_neg (show ¬ (200000 ≤ cs.length ∨ 1000 < r.length) by omega)]
theorem RL.take {w : World} {A : Option Addr} {l : List Int} (h : RL w A l) (k : Nat) : RL w A (l.take k) := fun h0 => by
  rw [List.length_take] at h0
  obtain ⟨b, off, e, hb, hc⟩ := h (by omega)
  refine ⟨b, off, e, hb, fun j hj => ?_⟩
  rw [List.length_take] at hj
  rw [hc j (by omega)]
  simp [List.getD, List.getElem?_take, show j < k by omega]
theorem RL_cells {w : World} {b off : Nat} {l : List Int} (h : RL w (some ⟨b, off, none⟩) l) : ∀ j u, (iv l)[j]? = some u → w.cell? ((⟨b, off, none⟩ : Addr).add j) = some u := by
  by_cases h0 : 0 < l.length
  · obtain ⟨b', off', e, _, hc⟩ := h h0
    cases e
    exact iv_cells hc
  · have h1 : l = [] := List.length_eq_zero_iff.1 (by omega)
    subst h1
    intro j u hj
    simp at hj
end Go.Proofs.YtgnmehkklmklnaaDoor
