/-
  Plain mathematics of words: what a byte of a text is, byte by byte.
-/
import Derived.Test.YtomjokpgcijccaaDoorHy
namespace Go.Proofs.YtomjokpgcijccaaDoor
open Go.RowKit Go.Lib
/-- At this place, k words are behind, and of the next one m bytes are ahead (0: it has not begun). -/
def SegAt (p : PS) (l : List UInt8) (a : List TK) (k m : Nat) : Prop :=
  (m = 0 ∧ Seg p l (a.drop k)) ∨
  (0 < m ∧ ∃ (h : k < a.length) (l' : List UInt8), m ≤ a[k].t.length ∧ l = a[k].t.drop (a[k].t.length - m) ++ l' ∧ (∀ c, c ∈ a[k].t → blkB c.toNat = false) ∧ Seg (adv false p (a[k].t.drop (a[k].t.length - m))) l' (a.drop (k + 1)))
/-- What is left behind one byte of a word. -/
theorem segAt_in {p : PS} {c : UInt8} {r : List UInt8} {a : List TK} {k m : Nat} (h : k < a.length) (hm : 0 < m) (hle : m ≤ a[k].t.length) {l' : List UInt8} (he : c :: r = a[k].t.drop (a[k].t.length - m) ++ l')
    (hb : ∀ c, c ∈ a[k].t → blkB c.toNat = false) (hs : Seg (adv false p (a[k].t.drop (a[k].t.length - m))) l' (a.drop (k + 1))) :
    a[k].t[a[k].t.length - m]? = some c ∧ blkB c.toNat = false ∧ SegAt (ad1 p c) r a (if m = 1 then k + 1 else k) (m - 1) := by
  have hlt : a[k].t.length - m < a[k].t.length := by omega
  have hd := List.drop_eq_getElem_cons hlt
  rw [hd] at he hs
  rw [List.cons_append] at he
  obtain ⟨h1, h2⟩ := List.cons.inj he
  have hs2 : Seg (adv false (ad1 p c) (a[k].t.drop (a[k].t.length - m + 1))) l' (a.drop (k + 1)) := by
    have e : adv false p (a[k].t[a[k].t.length - m] :: a[k].t.drop (a[k].t.length - m + 1)) = adv false (ad1 p c) (a[k].t.drop (a[k].t.length - m + 1)) := by rw [h1]; rfl
    rwa [e] at hs
  refine ⟨by rw [List.getElem?_eq_getElem hlt, h1], by rw [h1]; exact hb _ (List.getElem_mem hlt), ?_⟩
  by_cases h1m : m = 1
  · rw [if_pos h1m]
    refine Or.inl ⟨by omega, ?_⟩
    have hz : a[k].t.drop (a[k].t.length - m + 1) = [] := List.drop_eq_nil_of_le (by omega)
    rw [hz] at hs2 h2
    rw [adv_nil] at hs2
    rw [h2]; exact hs2
  · rw [if_neg h1m]
    refine Or.inr ⟨by omega, h, l', by omega, ?_, hb, ?_⟩
    · rw [show a[k].t.length - (m - 1) = a[k].t.length - m + 1 by omega]; exact h2
    · rw [show a[k].t.length - (m - 1) = a[k].t.length - m + 1 by omega]; exact hs2
/-- The place of a byte is its own. -/
theorem seg_step {p : PS} {c : UInt8} {r : List UInt8} {a : List TK} {k m : Nat} (h : SegAt p (c :: r) a k m) (hf : p.f = 1) (hl : 1 ≤ p.l) (hc : 1 ≤ p.c) (hl2 : p.l + (r.length + 1) < 1000000000) (hc2 : p.c + (r.length + 1) < 1000000000) :
    (m = 0 ∧ ∃ h : k < a.length, a[k].p = p ∧ 0 < a[k].t.length ∧ a[k].t[0]? = some c ∧ blkB c.toNat = false ∧ SegAt (ad1 p c) r a (if a[k].t.length = 1 then k + 1 else k) (a[k].t.length - 1)) ∨
    (0 < m ∧ ∃ h : k < a.length, m ≤ a[k].t.length ∧ a[k].t[a[k].t.length - m]? = some c ∧ blkB c.toNat = false ∧ SegAt (ad1 p c) r a (if m = 1 then k + 1 else k) (m - 1)) ∨
    (m = 0 ∧ blkB c.toNat = true ∧ SegAt (ad1 p c) r a k 0 ∧ ∃ h : k < a.length, a[k].p.f = 1 ∧ (a[k].p.l ≠ p.l ∨ a[k].p.l = p.l ∧ a[k].p.c ≠ p.c)) ∨
    (m = 0 ∧ a.length ≤ k ∧ blkB c.toNat = true ∧ SegAt (ad1 p c) r a k 0) := by
  rcases h with ⟨rfl, h⟩ | ⟨hm, hk, l', hle, he, hb, hs⟩
  · by_cases hk : k < a.length
    · rw [List.drop_eq_getElem_cons hk] at h
      obtain ⟨g, l', he, hg, hp, ht, hb, hs⟩ := h
      cases g with
      | nil =>
        left
        rw [adv_nil] at hp hs
        rw [List.nil_append] at he
        have hpos := List.length_pos_iff.2 ht
        have hin := segAt_in (p := p) (c := c) (r := r) (a := a) (k := k) (m := a[k].t.length) hk hpos (Nat.le_refl _) (l' := l') (by rw [Nat.sub_self, List.drop_zero]; exact he) hb (by rw [Nat.sub_self, List.drop_zero]; exact hs)
        rw [Nat.sub_self] at hin
        exact ⟨rfl, hk, hp, hpos, hin.1, hin.2.1, hin.2.2⟩
      | cons b g =>
        right; right; left
        rw [List.cons_append] at he
        obtain ⟨rfl, hr⟩ := List.cons.inj he
        have hgl : g.length ≤ r.length := by rw [hr, List.length_append]; omega
        have hlow := adv_low (c :: g) p hf hl hc (by simp only [List.length_cons]; omega) (by simp only [List.length_cons]; omega)
        have e : adv false p (c :: g) = adv false (ad1 p c) g := rfl
        refine ⟨rfl, hg c (List.mem_cons_self ..), Or.inl ⟨rfl, ?_⟩, hk, by rw [hp]; exact hlow.1, ?_⟩
        · rw [List.drop_eq_getElem_cons hk]
          exact ⟨g, l', hr, fun d hd => hg d (List.mem_cons_of_mem _ hd), by rw [← e]; exact hp, ht, hb, by rw [← e]; exact hs⟩
        · rw [hp]
          rcases hlow.2.2.2.2.2 (by simp) with h | ⟨h, h'⟩
          · exact Or.inl (by omega)
          · exact Or.inr ⟨h.symm, by omega⟩
    · right; right; right
      have hd : a.drop k = [] := List.drop_eq_nil_of_le (by omega)
      rw [hd] at h
      refine ⟨rfl, by omega, h c (List.mem_cons_self ..), Or.inl ⟨rfl, ?_⟩⟩
      rw [hd]
      exact fun d hd => h d (List.mem_cons_of_mem _ hd)
  · right; left
    have hin := segAt_in hk hm hle he hb hs
    exact ⟨hm, hk, hle, hin.1, hin.2.1, hin.2.2⟩
theorem segAt_end {p : PS} {a : List TK} {k m : Nat} (h : SegAt p [] a k m) (hk : k ≤ a.length) : m = 0 ∧ k = a.length := by
  rcases h with ⟨rfl, h⟩ | ⟨hm, hk2, l', hle, he, _⟩
  · refine ⟨rfl, ?_⟩
    rcases Nat.lt_or_ge k a.length with h2 | h2
    · rw [List.drop_eq_getElem_cons h2] at h
      obtain ⟨g, l', he, _, _, ht, _⟩ := h
      have := congrArg List.length he
      simp only [List.length_nil, List.length_append] at this
      exact absurd (List.eq_nil_of_length_eq_zero (by omega)) ht
    · omega
  · have := congrArg List.length he
    simp only [List.length_nil, List.length_append, List.length_drop] at this
    omega
/-- What a byte does to a place, spelt out. -/
theorem ad1_plain {p : PS} {c : UInt8} (hf : p.f = 1) (hl : p.l < 1000000000) (hc : p.c < 1000000000) (hl1 : 1 ≤ p.l) (hc1 : 1 ≤ p.c) : (c.toNat = 10 ∧ ad1 p c = ⟨1, p.l + 1, 1⟩) ∨ (c.toNat ≠ 10 ∧ ad1 p c = ⟨1, p.l, p.c + 1⟩) := by
  by_cases h : c = 10
  · left
    refine ⟨by rw [h]; rfl, ?_⟩
    unfold ad1
    rw [if_pos h, wr_in _ (by omega), hf]
  · right
    refine ⟨fun e => h ?_, ?_⟩
    · apply UInt8.toNat_inj.1; rw [e]; rfl
    · unfold ad1
      rw [if_neg h, wr_in _ (by omega), hf]
end Go.Proofs.YtomjokpgcijccaaDoor
