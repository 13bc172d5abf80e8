/-
  Plain mathematics of names: a list in order with each name once is what sorting and dropping neighbours makes, and what putting in one name after the other makes.
-/
import Derived.Test.YtljiiniocnljmaaAa
import Derived.Sort.Walk0
import Derived.Sort.EncStr
import Derived.Lib.SlicesCompact
namespace Go.Proofs.Ytljiiniocnljmaa
open Go.RowKit Go.Lib
/-- A name's bytes. -/
abbrev NB := List UInt8
theorem nb_tri (a b : NB) : a < b ∨ a = b ∨ b < a := by
  by_cases h : a < b
  · exact .inl h
  · by_cases k : b < a
    · exact .inr (.inr k)
    · exact .inr (.inl (List.le_antisymm (List.not_lt.1 k) (List.not_lt.1 h)))
theorem nb_irr (a : NB) : ¬ a < a := List.lt_irrefl a
theorem nb_tr {a b c : NB} (h : a < b) (k : b < c) : a < c := List.lt_trans h k
/-- In order, each once. -/
def Asc (l : List NB) : Prop := l.Pairwise (· < ·)
theorem Asc.ext : ∀ {l m : List NB}, Asc l → Asc m → (∀ x, x ∈ l ↔ x ∈ m) → l = m
  | [], [], _, _, _ => rfl
  | [], y :: m, _, _, h => absurd ((h y).2 (List.mem_cons_self)) (by simp)
  | x :: l, [], _, _, h => absurd ((h x).1 (List.mem_cons_self)) (by simp)
  | x :: l, y :: m, hl, hm, h => by
    have hl' := List.pairwise_cons.1 hl
    have hm' := List.pairwise_cons.1 hm
    have e : x = y := by
      rcases nb_tri x y with k | k | k
      · have := (h x).1 List.mem_cons_self
        rcases List.mem_cons.1 this with e | e
        · exact e
        · exact absurd (nb_tr k (hm'.1 x e)) (nb_irr x)
      · exact k
      · have := (h y).2 List.mem_cons_self
        rcases List.mem_cons.1 this with e | e
        · exact e.symm
        · exact absurd (nb_tr k (hl'.1 y e)) (nb_irr y)
    subst e
    have : l = m := Asc.ext hl'.2 hm'.2 fun z => by
      constructor
      · intro hz
        rcases List.mem_cons.1 ((h z).1 (List.mem_cons_of_mem _ hz)) with e | e
        · subst e; exact absurd (hl'.1 z hz) (nb_irr z)
        · exact e
      · intro hz
        rcases List.mem_cons.1 ((h z).2 (List.mem_cons_of_mem _ hz)) with e | e
        · subst e; exact absurd (hm'.1 z hz) (nb_irr z)
        · exact e
    rw [this]
/-- One name put in. -/
def ins : List NB → NB → List NB
  | [], s => [s]
  | x :: l, s => if x < s then x :: ins l s else if x = s then x :: l else s :: x :: l
theorem mem_ins : ∀ (l : List NB) (s x : NB), x ∈ ins l s ↔ x ∈ l ∨ x = s
  | [], s, x => by simp [ins]
  | y :: l, s, x => by
    unfold ins
    by_cases h : y < s
    · rw [if_pos h, List.mem_cons, List.mem_cons, mem_ins l s x, or_assoc]
    · rw [if_neg h]
      by_cases k : y = s
      · rw [if_pos k, List.mem_cons]
        constructor
        · exact fun h => .inl h
        · rintro (h | h)
          · exact h
          · exact .inl (h.trans k.symm)
      · rw [if_neg k, List.mem_cons, or_comm]
theorem ins_asc : ∀ (l : List NB) (s : NB), Asc l → Asc (ins l s)
  | [], s, _ => List.pairwise_singleton _ _
  | y :: l, s, h => by
    have h' := List.pairwise_cons.1 h
    unfold ins
    by_cases k : y < s
    · rw [if_pos k]
      refine List.pairwise_cons.2 ⟨fun x hx => ?_, ins_asc l s h'.2⟩
      rcases (mem_ins l s x).1 hx with e | e
      · exact h'.1 x e
      · rw [e]; exact k
    · rw [if_neg k]
      by_cases e : y = s
      · rw [if_pos e]; exact h
      · rw [if_neg e]
        have hs : s < y := by
          rcases nb_tri y s with a | a | a
          · exact absurd a k
          · exact absurd a e
          · exact a
        refine List.pairwise_cons.2 ⟨fun x hx => ?_, h⟩
        rcases List.mem_cons.1 hx with a | a
        · rw [a]; exact hs
        · exact nb_tr hs (h'.1 x a)
/-- What the loop of the reference finds: all ahead of place k are less. -/
theorem ins_at : ∀ (l : List NB) (s : NB) (k : Nat), k ≤ l.length → (∀ j (hj : j < l.length), j < k → l[j] < s) → (∀ hk : k < l.length, ¬ l[k] < s) →
    ins l s = if _h : ∃ hk : k < l.length, l[k] = s then l else l.take k ++ s :: l.drop k
  | [], s, k, hk, _, _ => by
    rw [dif_neg (by rintro ⟨_h, _⟩; simp at _h)]
    simp [ins]
  | y :: l, s, 0, _, _, h2 => by
    have hy : ¬ y < s := h2 (by simp)
    unfold ins
    rw [if_neg hy]
    by_cases e : y = s
    · rw [if_pos e, dif_pos ⟨by simp, e⟩]
    · rw [if_neg e, dif_neg (by rintro ⟨_, _h⟩; exact e _h)]
      rfl
  | y :: l, s, k + 1, hk, h1, h2 => by
    have hy : y < s := h1 0 (by simp) (by omega)
    have ih := ins_at l s k (by simpa using hk) (fun j hj hjk => h1 (j + 1) (by simpa using hj) (by omega)) (fun hk' => h2 (by simpa using hk'))
    unfold ins
    rw [if_pos hy, ih]
    by_cases e : ∃ hk : k < l.length, l[k] = s
    · obtain ⟨a, b⟩ := e
      rw [dif_pos ⟨a, b⟩, dif_pos ⟨by simpa using a, by simpa using b⟩]
    · rw [dif_neg e, dif_neg (by rintro ⟨a, b⟩; exact e ⟨by simpa using a, by simpa using b⟩)]
      rfl
/-- All of a list, one after the other. -/
def insAll (o l : List NB) : List NB := l.foldl ins o
theorem mem_insAll : ∀ (l o : List NB) (x : NB), x ∈ insAll o l ↔ x ∈ o ∨ x ∈ l
  | [], o, x => by simp [insAll]
  | y :: l, o, x => by
    show x ∈ insAll (ins o y) l ↔ _
    rw [mem_insAll l, mem_ins, List.mem_cons, or_assoc]
theorem insAll_asc : ∀ (l o : List NB), Asc o → Asc (insAll o l)
  | [], _, h => h
  | y :: l, o, h => insAll_asc l (ins o y) (ins_asc o y h)
theorem insAll_app (o l m : List NB) : insAll o (l ++ m) = insAll (insAll o l) m := by simp [insAll]
theorem ins_len : ∀ (l : List NB) (s : NB), (ins l s).length ≤ l.length + 1
  | [], _ => by simp [ins]
  | y :: l, s => by
    unfold ins
    have := ins_len l s
    split
    · simp only [List.length_cons]; omega
    · split <;> simp
theorem insAll_len : ∀ (l o : List NB), (insAll o l).length ≤ o.length + l.length
  | [], _ => by simp [insAll]
  | y :: l, o => by
    have h1 := insAll_len l (ins o y)
    have h2 := ins_len o y
    show (insAll (ins o y) l).length ≤ _
    simp only [List.length_cons]; omega
/-- What slices.Sort makes. -/
abbrev srtN (l : List NB) : List NB := l.mergeSort fun x y => decide (x ≤ y)
theorem srtN_le (l : List NB) : (srtN l).Pairwise (· ≤ ·) := by
  have := List.pairwise_mergeSort (le := fun x y : NB => decide (x ≤ y)) (fun a b c h k => by simp at *; exact List.le_trans h k) (fun a b => by simp; exact List.le_total a b) l
  exact this.imp (by simp)
theorem srtN_len (l : List NB) : (srtN l).length = l.length := by simp [srtN]
theorem mem_srtN (l : List NB) (x : NB) : x ∈ srtN l ↔ x ∈ l := by simp [srtN]
theorem compact_mem_asc (l : List NB) (h : l.Pairwise (· ≤ ·)) : Asc (Lib.compact l) ∧ ∀ x, x ∈ Lib.compact l ↔ x ∈ l := by
  have hk : ∀ m, m ≤ l.length → Asc (Lib.compactUpTo l.toArray m) ∧ (∀ x, x ∈ Lib.compactUpTo l.toArray m ↔ x ∈ l.take m) ∧ (∀ hm : 0 < m, ∀ x ∈ Lib.compactUpTo l.toArray m, ∀ h' : m - 1 < l.length, x ≤ l[m - 1]) := by
    intro m
    induction m with
    | zero => intro _; refine ⟨?_, ?_, ?_⟩ <;> simp [Lib.compactUpTo, Asc]
    | succ m ih =>
      intro hm
      obtain ⟨i1, i2, i3⟩ := ih (by omega)
      rw [Lib.compactUpTo_succ]
      have hml : m < l.length := by omega
      have hg : l.toArray[m]! = l[m] := by simp [getElem!_pos, hml]
      have htk : l.take (m + 1) = l.take m ++ [l[m]] := (List.take_append_getElem hml).symm
      rw [htk, hg]
      by_cases hk : Lib.keeps l.toArray m = true
      · rw [if_pos hk]
        have hlt : ∀ x ∈ Lib.compactUpTo l.toArray m, x < l[m] := by
          intro x hx
          rcases Nat.eq_zero_or_pos m with e | e
          · subst e; simp [Lib.compactUpTo] at hx
          · have hne : l[m] ≠ l[m - 1] := by
              intro e2
              have : Lib.keeps l.toArray m = false := Lib.keeps_neg e (by rw [hg, e2]; simp [getElem!_pos, show m - 1 < l.length by omega])
              rw [this] at hk; cases hk
            have h1 : x ≤ l[m - 1] := i3 e x hx (by omega)
            have h2 : l[m - 1] ≤ l[m] := List.pairwise_iff_getElem.1 h (m - 1) m (by omega) hml (by omega)
            rcases nb_tri l[m - 1] l[m] with k | k | k
            · rcases nb_tri x l[m - 1] with k2 | k2 | k2
              · exact nb_tr k2 k
              · rw [k2]; exact k
              · exact absurd k2 (List.not_lt.2 h1)
            · exact absurd k.symm hne
            · exact absurd k (List.not_lt.2 h2)
        refine ⟨List.pairwise_append.2 ⟨i1, List.pairwise_singleton _ _, fun a ha b hb => by rw [List.mem_singleton.1 hb]; exact hlt a ha⟩, fun x => by rw [List.mem_append, List.mem_append, i2], fun _ x hx h' => ?_⟩
        rcases List.mem_append.1 hx with e | e
        · exact List.le_of_lt (hlt x e)
        · rw [List.mem_singleton.1 e]; exact List.le_refl _
      · rw [if_neg hk, List.append_nil]
        have hm0 : 0 < m := by
          rcases Nat.eq_zero_or_pos m with e | e
          · subst e; exact absurd (Lib.keeps_lt_one _ 0 (by omega)) hk
          · exact e
        have heq : l[m] = l[m - 1] := by
          rcases Classical.em (l[m] = l[m - 1]) with e | e
          · exact e
          · exact absurd (Lib.keeps_pos (by rw [hg]; simpa [getElem!_pos, show m - 1 < l.length by omega] using e)) hk
        refine ⟨i1, fun x => ?_, fun _ x hx h' => ?_⟩
        · rw [List.mem_append, i2, List.mem_singleton]
          constructor
          · exact fun h => .inl h
          · rintro (e | e)
            · exact e
            · rw [e, heq]
              exact List.mem_take_iff_getElem.2 ⟨m - 1, by omega, rfl⟩
        · have := i3 hm0 x hx (by omega)
          show x ≤ l[m]
          rw [heq]; exact this
  obtain ⟨a, b, _⟩ := hk l.length (Nat.le_refl _)
  rw [List.take_length] at b
  exact ⟨a, b⟩
/-- Sorted, neighbours dropped: the same as put in one after the other. -/
theorem names_eq (l : List NB) : Lib.compact (srtN l) = insAll [] l := by
  obtain ⟨a, b⟩ := compact_mem_asc (srtN l) (srtN_le l)
  refine Asc.ext a (insAll_asc l [] List.Pairwise.nil) fun x => ?_
  rw [b, mem_srtN, mem_insAll]
  simp
end Go.Proofs.Ytljiiniocnljmaa
