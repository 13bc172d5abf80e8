/-
  The values of a propagator say what stands on its trail.
-/
import Derived.Test.YtembgefbmecdbaaR13
namespace Go.Proofs.Ytembgefbmecdbaa
/-- 1 on the trail, 2 where the opposite is, else 0. -/
def VAL (val : Int → Int) (T : List Int) : Prop := ∀ y, val y = if y ∈ T then 1 else if -y ∈ T then 2 else 0
section
variable {val : Int → Int} {T : List Int} {x : Int}
theorem VAL.one (h : VAL val T) : val x = 1 ↔ x ∈ T := by
  rw [h x]
  by_cases k : x ∈ T
  · simp [k]
  · rw [if_neg k]; split <;> simp [k]
theorem VAL.two (h : VAL val T) (ho : ∀ y, y ∈ T → -y ∉ T) : val x = 2 ↔ -x ∈ T := by
  rw [h x]
  by_cases k : x ∈ T
  · simp [k, ho x k]
  · rw [if_neg k]; split <;> simp_all
theorem VAL.zero (h : VAL val T) : val x = 0 ↔ x ∉ T ∧ -x ∉ T := by
  rw [h x]
  by_cases k : x ∈ T
  · simp [k]
  · rw [if_neg k]; split <;> simp_all
theorem VAL.set (h : VAL val T) (hx : x ≠ 0) (h1 : x ∉ T) (h2 : -x ∉ T) : VAL (setT val x) (T ++ [x]) := by
  intro y
  unfold setT
  by_cases e1 : y = -x
  · subst e1
    rw [if_pos rfl, if_neg (by simp [h2]; omega), if_pos (by simp)]
  · rw [if_neg e1]
    by_cases e2 : y = x
    · subst e2; rw [if_pos rfl, if_pos (by simp)]
    · rw [if_neg e2, h y]
      have a1 : y ∈ T ++ [x] ↔ y ∈ T := by simp [e2]
      have a2 : -y ∈ T ++ [x] ↔ -y ∈ T := by
        rw [List.mem_append, List.mem_singleton]
        exact ⟨fun q => q.elim id fun q => absurd (by omega) e1, .inl⟩
      simp only [a1, a2]
/-- makeTrue of a literal that is not false puts it on the trail; one that is false stays so. -/
theorem VAL.mk (s : PS) (h : VAL s.val s.tr) (hx : x ≠ 0) : VAL (s.mk1 x).val (s.mk1 x).tr ∧ ((s.mk1 x).val x = 1 ↔ -x ∉ s.tr ∨ x ∈ s.tr) ∧ (s.mk1 x).tr = (if x ∈ s.tr ∨ -x ∈ s.tr then s.tr else s.tr ++ [x]) := by
  by_cases k : s.val x = 0
  · obtain ⟨h1, h2⟩ := h.zero.1 k
    have e : s.mk1 x = { s with val := setT s.val x, tr := s.tr ++ [x] } := if_pos k
    rw [e]
    refine ⟨h.set hx h1 h2, ⟨fun _ => .inl h2, fun _ => (h.set hx h1 h2).one.2 (by simp)⟩, ?_⟩
    rw [if_neg (by simp [h1, h2])]
  · have e : s.mk1 x = s := if_neg k
    have hm : x ∈ s.tr ∨ -x ∈ s.tr := by
      by_cases k1 : x ∈ s.tr
      · exact .inl k1
      · by_cases k2 : -x ∈ s.tr
        · exact .inr k2
        · exact absurd (h.zero.2 ⟨k1, k2⟩) k
    rw [e, if_pos hm]
    refine ⟨h, ⟨fun q => .inr (h.one.1 q), fun q => h.one.2 ?_⟩, rfl⟩
    rcases q with q | q
    · exact hm.elim id fun f => absurd f q
    · exact q
end
end Go.Proofs.Ytembgefbmecdbaa
