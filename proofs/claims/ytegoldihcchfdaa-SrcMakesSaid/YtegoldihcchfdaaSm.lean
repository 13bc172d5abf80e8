/-
  Plain facts on the lines of a text: where they begin, which line and column a byte has; nothing here speaks of the program.
-/
namespace Go.Proofs.Ytegoldihcchfdaa
/-- Is byte k a line feed? -/
def nl (s : ByteArray) (k : Nat) : Bool := s.data.toList.getD k 0 == 10
/-- Where the lines begin that begin within the first k bytes. -/
def sts (s : ByteArray) : Nat → List Nat
  | 0 => [0]
  | k + 1 => if nl s k then sts s k ++ [k + 1] else sts s k
def plL (s : ByteArray) : Nat → Nat
  | 0 => 1
  | k + 1 => if nl s k then plL s k + 1 else plL s k
def plC (s : ByteArray) : Nat → Nat
  | 0 => 1
  | k + 1 => if nl s k then 1 else plC s k + 1
theorem sts_len (s : ByteArray) : ∀ k, (sts s k).length = plL s k
  | 0 => rfl
  | k + 1 => by
    unfold sts plL
    split
    · rw [List.length_append, sts_len s k]; rfl
    · exact sts_len s k
theorem plL_pos (s : ByteArray) (k : Nat) : 1 ≤ plL s k := by
  induction k with
  | zero => exact Nat.le_refl 1
  | succ k ih => unfold plL; split <;> omega
theorem plL_le (s : ByteArray) (k : Nat) : plL s k ≤ k + 1 := by
  induction k with
  | zero => exact Nat.le_refl 1
  | succ k ih => unfold plL; split <;> omega
theorem plC_pos (s : ByteArray) (k : Nat) : 1 ≤ plC s k := by
  cases k with
  | zero => exact Nat.le_refl 1
  | succ k => unfold plC; split <;> omega
theorem plC_le (s : ByteArray) (k : Nat) : plC s k ≤ k + 1 := by
  induction k with
  | zero => exact Nat.le_refl 1
  | succ k ih => unfold plC; split <;> omega
theorem sts_last (s : ByteArray) : ∀ k, (sts s k).getD (plL s k - 1) 0 + plC s k = k + 1
  | 0 => rfl
  | k + 1 => by
    have h := sts_last s k
    have hp := plL_pos s k
    unfold sts plL plC
    split
    · rw [Nat.add_sub_cancel, ← sts_len s k, List.getD_eq_getElem?_getD, List.getElem?_append_right (Nat.le_refl _), Nat.sub_self]
      rfl
    · omega
theorem sts_le (s : ByteArray) : ∀ k, ∀ x ∈ sts s k, x ≤ k
  | 0 => by intro x hx; simp [sts] at hx; omega
  | k + 1 => by
    intro x hx
    unfold sts at hx
    split at hx
    · rcases List.mem_append.1 hx with h | h
      · have := sts_le s k x h; omega
      · simp at h; omega
    · have := sts_le s k x hx; omega
theorem sts_sorted (s : ByteArray) : ∀ k, (sts s k).Pairwise (· < ·)
  | 0 => by simp [sts]
  | k + 1 => by
    unfold sts
    split
    · refine List.pairwise_append.2 ⟨sts_sorted s k, by simp, fun x hx y hy => ?_⟩
      have := sts_le s k x hx
      simp at hy
      omega
    · exact sts_sorted s k
theorem sts_more (s : ByteArray) (k : Nat) : ∀ d, ∃ r, sts s (k + d) = sts s k ++ r ∧ ∀ x ∈ r, k < x
  | 0 => ⟨[], by simp, by simp⟩
  | d + 1 => by
    obtain ⟨r, hr, hx⟩ := sts_more s k d
    rw [show k + (d + 1) = (k + d) + 1 from rfl, show sts s (k + d + 1) = if nl s (k + d) then sts s (k + d) ++ [k + d + 1] else sts s (k + d) from rfl]
    split
    · refine ⟨r ++ [k + d + 1], by rw [hr, List.append_assoc], fun x h => ?_⟩
      rcases List.mem_append.1 h with h | h
      · exact hx x h
      · simp at h; omega
    · exact ⟨r, hr, hx⟩
/-- Line i + 1 begins within the first k bytes just if it begins at k at the latest. -/
theorem sts_iff (s : ByteArray) (k n i : Nat) (h : k ≤ n) : i < plL s k ↔ i < plL s n ∧ (sts s n).getD i 0 ≤ k := by
  obtain ⟨d, rfl⟩ := Nat.le.dest h
  obtain ⟨r, hr, hx⟩ := sts_more s k d
  rw [← sts_len, ← sts_len, hr, List.length_append]
  constructor
  · intro hi
    refine ⟨by omega, ?_⟩
    rw [List.getD_eq_getElem?_getD, List.getElem?_append_left hi, List.getElem?_eq_getElem hi]
    exact sts_le s k _ (List.getElem_mem hi)
  · rintro ⟨hi, hk⟩
    rcases Nat.lt_or_ge i (sts s k).length with hc | hc
    · exact hc
    · exfalso
      rw [List.getD_eq_getElem?_getD, List.getElem?_append_right hc, List.getElem?_eq_getElem (by omega)] at hk
      have := hx _ (List.getElem_mem (show i - (sts s k).length < r.length by omega))
      simp only [Option.getD_some] at hk
      omega
theorem sts_at (s : ByteArray) (k n i : Nat) (h : k ≤ n) (hi : i < plL s k) : (sts s n).getD i 0 = (sts s k).getD i 0 := by
  obtain ⟨d, rfl⟩ := Nat.le.dest h
  obtain ⟨r, hr, hx⟩ := sts_more s k d
  rw [hr, List.getD_eq_getElem?_getD, List.getElem?_append_left (by rw [sts_len]; exact hi), List.getD_eq_getElem?_getD]
theorem plL_mono (s : ByteArray) (k n : Nat) (h : k ≤ n) : plL s k ≤ plL s n := by
  obtain ⟨d, rfl⟩ := Nat.le.dest h
  obtain ⟨r, hr, hx⟩ := sts_more s k d
  rw [← sts_len, ← sts_len, hr, List.length_append]
  omega
/-- Where line i + 1 begins, and where its line feed or the end is. -/
def sOf (s : ByteArray) (i : Nat) : Nat := (sts s s.size).getD i 0
def nOf (s : ByteArray) : Nat := plL s s.size
def eOf (s : ByteArray) (i : Nat) : Nat := if i + 1 = nOf s then s.size else sOf s (i + 1) - 1
theorem sOf_le (s : ByteArray) (i : Nat) : sOf s i ≤ s.size := by
  unfold sOf
  rw [List.getD_eq_getElem?_getD]
  rcases Nat.lt_or_ge i (sts s s.size).length with h | h
  · rw [List.getElem?_eq_getElem h]; exact sts_le s _ _ (List.getElem_mem h)
  · rw [List.getElem?_eq_none h]; exact Nat.zero_le _
theorem sOf_lt (s : ByteArray) (i : Nat) (h : i + 1 < nOf s) : sOf s i < sOf s (i + 1) := by
  have hl : i + 1 < (sts s s.size).length := by rw [sts_len]; exact h
  have := List.pairwise_iff_getElem.1 (sts_sorted s s.size) i (i + 1) (by omega) hl (by omega)
  unfold sOf
  rw [List.getD_eq_getElem?_getD, List.getD_eq_getElem?_getD, List.getElem?_eq_getElem hl, List.getElem?_eq_getElem (by omega)]
  exact this
theorem eOf_ge (s : ByteArray) (i : Nat) (h : i < nOf s) : sOf s i ≤ eOf s i := by
  unfold eOf
  split
  · exact sOf_le s i
  · have := sOf_lt s i (by omega); omega
theorem eOf_le (s : ByteArray) (i : Nat) : eOf s i ≤ s.size := by
  unfold eOf
  split
  · exact Nat.le_refl _
  · have := sOf_le s (i + 1); omega
theorem pos_of (s : ByteArray) (k : Nat) (h : k ≤ s.size) : sOf s (plL s k - 1) + plC s k = k + 1 := by
  have hp := plL_pos s k
  unfold sOf
  rw [sts_at s k s.size _ h (by omega)]
  exact sts_last s k
theorem line_of (s : ByteArray) (i k : Nat) (hi : i < nOf s) (h1 : sOf s i ≤ k) (h2 : k ≤ eOf s i) : plL s k = i + 1 ∧ sOf s i + plC s k = k + 1 := by
  have hk : k ≤ s.size := Nat.le_trans h2 (eOf_le s i)
  have a : i < plL s k := (sts_iff s k s.size i hk).2 ⟨hi, h1⟩
  have b : ¬ i + 1 < plL s k := fun hb => by
    obtain ⟨c1, c2⟩ := (sts_iff s k s.size (i + 1) hk).1 hb
    have c3 : sOf s (i + 1) ≤ k := c2
    have c4 := sOf_lt s i c1
    unfold eOf at h2
    have : i + 1 < nOf s := c1
    rw [if_neg (by omega)] at h2
    omega
  have e : plL s k = i + 1 := by omega
  have p := pos_of s k hk
  rw [e, Nat.add_sub_cancel] at p
  exact ⟨e, p⟩
/-- The byte at a line and a column. -/
theorem byte_of (s : ByteArray) (k i c : Nat) (hk : k ≤ s.size) (h1 : plL s k = i + 1) (h2 : plC s k = c) : i < nOf s ∧ 1 ≤ c ∧ sOf s i + c = k + 1 ∧ k ≤ eOf s i := by
  have hm := plL_mono s k s.size hk
  have p := pos_of s k hk
  rw [h1, Nat.add_sub_cancel, h2] at p
  have hi : i < nOf s := by unfold nOf; omega
  refine ⟨hi, by rw [← h2]; exact plC_pos s k, p, ?_⟩
  unfold eOf
  split
  · exact hk
  · rename_i hne
    have hn : i + 1 < nOf s := by omega
    rcases Nat.lt_or_ge k (sOf s (i + 1)) with h | h
    · omega
    · exfalso
      have := (sts_iff s k s.size (i + 1) hk).2 ⟨hn, h⟩
      omega
/-- The text of line i + 1. -/
def lineB (s : ByteArray) (i : Nat) : ByteArray := s.extract (sOf s i) (eOf s i)
end Go.Proofs.Ytegoldihcchfdaa
