/-
  Plain mathematics of words: each byte of a text is a blank, or a word's that stands there.
-/
import Derived.Test.YtomjokpgcijccaaDoorHs
namespace Go.Proofs.YtomjokpgcijccaaDoor
open Go.RowKit Go.Lib
/-- The text behind a place has these words at their places, and blanks between. -/
def Seg (p : PS) (l : List UInt8) : List TK → Prop
  | [] => ∀ c, c ∈ l → blkB c.toNat = true
  | x :: r => ∃ g l', l = g ++ (x.t ++ l') ∧ (∀ c, c ∈ g → blkB c.toNat = true) ∧ x.p = adv false p g ∧ x.t ≠ [] ∧ (∀ c, c ∈ x.t → blkB c.toNat = false) ∧ Seg (adv false (adv false p g) x.t) l' r
theorem Seg.more {p : PS} {g l : List UInt8} (hg : ∀ c, c ∈ g → blkB c.toNat = true) : ∀ {toks : List TK}, Seg (adv false p g) l toks → Seg p (g ++ l) toks
  | [], h => fun c hc => by
    rcases List.mem_append.1 hc with hc | hc
    · exact hg c hc
    · exact h c hc
  | x :: r, h => by
    obtain ⟨g', l', rfl, h1, h2, h3, h4, h5⟩ := h
    refine ⟨g ++ g', l', by rw [List.append_assoc], fun c hc => ?_, by rw [adv_app]; exact h2, h3, h4, by rw [adv_app]; exact h5⟩
    rcases List.mem_append.1 hc with hc | hc
    · exact hg c hc
    · exact h1 c hc
theorem seg_of (nb : List UInt8 → Bool) : ∀ (f : Nat) (l : List UInt8) (p : PS) (acc out : List TK), l.length < f → lexF nb false f l p acc = .ok out → ∃ toks, out = acc ++ toks ∧ Seg p l toks
  | 0, l, p, acc, out, hf, _ => by omega
  | f + 1, l, p, acc, out, hf, h => by
    rw [lexF_step] at h
    split at h
    · rename_i h0
      cases h
      exact ⟨[], by simp, by subst h0; intro c hc; simp at hc⟩
    · split at h
      · cases h
      · split at h
        · cases h
        · rename_i h0 h1 h2
          have h1' : ck nb (me l).1 (l.take (me l).2) = 0 := by simpa using h1
          have hp := me_pos nb h1'
          have hlp : 0 < l.length := List.length_pos_iff.2 h0
          obtain ⟨toks, rfl, hs⟩ := seg_of nb f _ _ _ _ (by simp only [List.length_drop]; omega) h
          refine ⟨⟨(me l).1, l.take (me l).2, p⟩ :: toks, by simp, [], l.drop (me l).2, by simp, by simp, by rw [adv_nil], ck_le nb h1', me_blank l, ?_⟩
          rw [adv_nil]
          have hb : ∀ c, c ∈ (l.drop (me l).2).take (ah blkB (l.drop (me l).2)) → blkB c.toNat = true := fun c hc => ah_mem blkB _ c hc
          have := Seg.more hb hs
          rwa [List.take_append_drop] at this
theorem seg_text (nb : List UInt8 → Bool) (l : List UInt8) (p : PS) (out : List TK) (h : lexL nb [⟨l, p, false⟩] [] = .ok out) : Seg p l out := by
  rw [lexL_one] at h
  obtain ⟨toks, rfl, hs⟩ := seg_of nb _ _ _ _ _ (by simp only [List.length_drop]; omega) h
  have hb : ∀ c, c ∈ l.take (ah blkB l) → blkB c.toNat = true := fun c hc => ah_mem blkB _ c hc
  have := Seg.more hb hs
  rwa [List.take_append_drop] at this
/-- The place of an error is that of a byte. -/
theorem lexF_at (nb : List UInt8 → Bool) (fx : Bool) : ∀ (f : Nat) (l : List UInt8) (p : PS) (acc : List TK) (x : PS × Int), lexF nb fx f l p acc = .error x → ∃ t, x.1 = adv fx p t ∧ t.length ≤ l.length
  | 0, l, p, acc, x, h => by cases h
  | f + 1, l, p, acc, x, h => by
    rw [lexF_step] at h
    split at h
    · cases h
    · split at h
      · cases h
        exact ⟨[], by rw [adv_nil], by simp⟩
      · split at h
        · cases h
          exact ⟨[], by rw [adv_nil], by simp⟩
        · obtain ⟨t, ht, hl⟩ := lexF_at nb fx f _ _ _ x h
          refine ⟨l.take (me l).2 ++ ((l.drop (me l).2).take (ah blkB (l.drop (me l).2)) ++ t), by rw [adv_app, adv_app]; exact ht, ?_⟩
          simp only [List.length_append, List.length_take, List.length_drop] at hl ⊢
          omega
/-- Where a text of one file stands: a line and a column from 1 on. -/
theorem adv_low : ∀ (t : List UInt8) (p : PS), p.f = 1 → 1 ≤ p.l → 1 ≤ p.c → p.l + t.length < 1000000000 → p.c + t.length < 1000000000 →
    (adv false p t).f = 1 ∧ p.l ≤ (adv false p t).l ∧ (adv false p t).l ≤ p.l + t.length ∧ 1 ≤ (adv false p t).c ∧ (adv false p t).c ≤ p.c + t.length ∧ (t ≠ [] → p.l < (adv false p t).l ∨ p.l = (adv false p t).l ∧ p.c < (adv false p t).c)
  | [], p, h1, h2, h3, h4, h5 => by rw [adv_nil]; simp [h1, h3]
  | b :: t, p, h1, h2, h3, h4, h5 => by
    simp only [List.length_cons] at h4 h5
    rw [show b :: t = [b] ++ t from rfl, adv_app]
    have e : adv false p [b] = ad1 p b := rfl
    rw [e]
    unfold ad1
    by_cases hb : b = 10
    · rw [if_pos hb]
      have hw : wr (p.l + 1) = p.l + 1 := wr_in _ (by omega)
      have ih := adv_low t ⟨p.f, wr (p.l + 1), 1⟩ h1 (by show 1 ≤ wr _; omega) (by show (1 : Int) ≤ 1; omega) (by show wr _ + _ < _; omega) (by show (1 : Int) + _ < _; omega)
      simp only [hw] at ih ⊢
      obtain ⟨i1, i2, i3, i4, i5, _⟩ := ih
      refine ⟨i1, by omega, by simp; omega, i4, by simp; omega, fun _ => Or.inl (by omega)⟩
    · rw [if_neg hb]
      have hw : wr (p.c + 1) = p.c + 1 := wr_in _ (by omega)
      have ih := adv_low t ⟨p.f, p.l, wr (p.c + 1)⟩ h1 h2 (by show 1 ≤ wr _; omega) (by show p.l + _ < _; omega) (by show wr _ + _ < _; omega)
      simp only [hw] at ih ⊢
      obtain ⟨i1, i2, i3, i4, i5, i6⟩ := ih
      refine ⟨i1, i2, by simp; omega, i4, by simp; omega, fun _ => ?_⟩
      cases t with
      | nil => rw [adv_nil]; exact Or.inr ⟨rfl, by show p.c < p.c + 1; omega⟩
      | cons y t =>
        rcases i6 (by simp) with h | ⟨h, h'⟩
        · exact Or.inl h
        · exact Or.inr ⟨h, by omega⟩
theorem err_low (nb : List UInt8 → Bool) (l : List UInt8) (hl : l.length ≤ 400) (x : PS × Int) (h : lexL nb [⟨l, ⟨1, 1, 1⟩, false⟩] [] = .error x) : x.1.f = 1 ∧ 1 ≤ x.1.l ∧ 1 ≤ x.1.c := by
  rw [lexL_one] at h
  obtain ⟨t, ht, htl⟩ := lexF_at nb false _ _ _ _ _ h
  rw [← adv_app] at ht
  have hlen : (l.take (ah blkB l) ++ t).length ≤ 800 := by
    simp only [List.length_append, List.length_take, List.length_drop] at htl ⊢
    omega
  have := adv_low (l.take (ah blkB l) ++ t) ⟨1, 1, 1⟩ rfl (by show (1 : Int) ≤ 1; omega) (by show (1 : Int) ≤ 1; omega) (by show (1 : Int) + _ < _; omega) (by show (1 : Int) + _ < _; omega)
  rw [ht]
  exact ⟨this.1, this.2.1, this.2.2.2.1⟩
end Go.Proofs.YtomjokpgcijccaaDoor
