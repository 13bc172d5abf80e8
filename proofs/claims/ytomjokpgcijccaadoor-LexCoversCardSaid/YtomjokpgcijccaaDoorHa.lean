/-
  Plain mathematics of words: where a text's next word ends, and what the words of a text are.
-/
import Derived.Lib.Bytealg
import Derived.Lib.LastIndexByte
import Derived.Lib.Strings
import Derived.IntWalk
namespace Go.Proofs.YtomjokpgcijccaaDoor
open Go.Lib
def letB (c : Nat) : Bool := (decide (97 ≤ c) && decide (c ≤ 122)) || (decide (65 ≤ c) && decide (c ≤ 90))
def digB (c : Nat) : Bool := decide (48 ≤ c) && decide (c ≤ 57)
def partB (c : Nat) : Bool := letB c || digB c || decide (c = 95)
def duB (c : Nat) : Bool := digB c || decide (c = 95)
def blkB (c : Nat) : Bool := decide (c = 32) || decide (c = 9) || decide (c = 13) || decide (c = 10)
/-- How many bytes at the beginning satisfy a condition. -/
def ah (p : Nat → Bool) : List UInt8 → Nat
  | [] => 0
  | c :: l => if p c.toNat then ah p l + 1 else 0
/-- The signs, each behind those that begin with it. -/
def sgL : List (List UInt8) := [[60, 60, 60], [62, 62, 62], [60, 60], [62, 62], [60, 61], [62, 61], [61, 61], [33, 61], [38, 38], [124, 124], [126, 38], [126, 124], [126, 94], [94, 126], [43], [45], [42], [47], [37], [38], [124], [94], [126], [33], [60], [62], [63], [58], [61], [40], [41], [91], [93], [123], [125], [59], [44], [46], [35], [64]]
def sgn (l : List UInt8) : Nat := match sgL.find? (fun s => s.isPrefixOf l) with
  | some s => s.length
  | none => 0
/-- Kind and length of the word with which a text begins. -/
def me : List UInt8 → Nat × Nat
  | [] => (3, 0)
  | c :: t =>
    if letB c.toNat || decide (c.toNat = 95) || decide (c.toNat = 36) then (1, 1 + ah partB t)
    else if digB c.toNat || decide (c.toNat = 39) then
      (2, if ((c :: t).drop (ah duB (c :: t))).head? = some 39 then ah duB (c :: t) + 1 + ah partB ((c :: t).drop (ah duB (c :: t) + 1)) else ah duB (c :: t))
    else (3, sgn (c :: t))
theorem me_cons (c : UInt8) (t : List UInt8) : me (c :: t) = if letB c.toNat || decide (c.toNat = 95) || decide (c.toNat = 36) then (1, 1 + ah partB t)
    else if digB c.toNat || decide (c.toNat = 39) then
      (2, if ((c :: t).drop (ah duB (c :: t))).head? = some 39 then ah duB (c :: t) + 1 + ah partB ((c :: t).drop (ah duB (c :: t) + 1)) else ah duB (c :: t))
    else (3, sgn (c :: t)) := rfl
theorem ah_le (p : Nat → Bool) : ∀ l, ah p l ≤ l.length
  | [] => Nat.le_refl _
  | c :: l => by
    unfold ah
    split
    · simpa using ah_le p l
    · simp
theorem ah_take (p : Nat → Bool) : ∀ (l : List UInt8) (n : Nat), ah p l ≤ n → ah p (l.take n) = ah p l
  | [], n, _ => by simp
  | c :: l, 0, h => by
    simp only [ah, List.take_zero] at h ⊢
    split at h
    · omega
    · rename_i hp; rw [if_neg hp]
  | c :: l, n + 1, h => by
    simp only [ah, List.take_succ_cons] at h ⊢
    split at h
    · rename_i hp; rw [if_pos hp, if_pos hp, ah_take p l n (by omega)]
    · rename_i hp; rw [if_neg hp, if_neg hp]
theorem ah_app (p : Nat → Bool) : ∀ (t r : List UInt8), (∀ c, r.head? = some c → p c.toNat = false) → ah p (t ++ r) = ah p t
  | [], [], _ => rfl
  | [], c :: r, h => by
    simp only [List.nil_append, ah]
    rw [h c rfl]; rfl
  | c :: t, r, h => by
    simp only [List.cons_append, ah]
    rw [ah_app p t r h]
theorem ah_all (p : Nat → Bool) : ∀ (t : List UInt8), (∀ c, c ∈ t → p c.toNat = true) → ah p t = t.length
  | [], _ => rfl
  | c :: t, h => by
    simp only [ah]
    rw [if_pos (h c (List.mem_cons_self ..)), ah_all p t fun d hd => h d (List.mem_cons_of_mem _ hd)]
    rfl
theorem ah_app_all (p : Nat → Bool) : ∀ (t r : List UInt8), (∀ c, c ∈ t → p c.toNat = true) → ah p (t ++ r) = t.length + ah p r
  | [], r, _ => by simp
  | c :: t, r, h => by
    simp only [List.cons_append, ah]
    rw [if_pos (h c (List.mem_cons_self ..)), ah_app_all p t r fun d hd => h d (List.mem_cons_of_mem _ hd)]
    simp; omega
theorem ah_mem (p : Nat → Bool) : ∀ (l : List UInt8) (c : UInt8), c ∈ l.take (ah p l) → p c.toNat = true
  | [], c, h => by simp at h
  | d :: l, c, h => by
    simp only [ah] at h
    split at h
    · rename_i hp
      rw [List.take_succ_cons] at h
      rcases List.mem_cons.1 h with rfl | h
      · exact hp
      · exact ah_mem p l c h
    · simp at h
theorem ah_drop (p : Nat → Bool) : ∀ (l : List UInt8), ah p (l.drop (ah p l)) = 0
  | [] => rfl
  | d :: l => by
    by_cases hp : p d.toNat = true
    · have : ah p (d :: l) = ah p l + 1 := by simp only [ah]; rw [if_pos hp]
      rw [this, List.drop_succ_cons]
      exact ah_drop p l
    · have : ah p (d :: l) = 0 := by simp only [ah]; rw [if_neg hp]
      rw [this, List.drop_zero, this]
theorem pre_app : ∀ (s t r : List UInt8) (b : UInt8), b ∉ s → s.isPrefixOf (t ++ b :: r) = s.isPrefixOf t
  | [], _, _, _, _ => by simp
  | x :: s, [], r, b, h => by
    have : (x == b) = false := by
      simp only [beq_eq_false_iff_ne, ne_eq]
      rintro rfl
      exact h (List.mem_cons_self ..)
    simp [List.isPrefixOf, this]
  | x :: s, y :: t, r, b, h => by
    simp only [List.cons_append, List.isPrefixOf]
    rw [pre_app s t r b fun hb => h (List.mem_cons_of_mem _ hb)]
theorem find_congr {α : Type} {p q : α → Bool} : ∀ (l : List α), (∀ x, x ∈ l → p x = q x) → l.find? p = l.find? q
  | [], _ => rfl
  | x :: l, h => by
    simp only [List.find?]
    rw [h x (List.mem_cons_self ..), find_congr l fun y hy => h y (List.mem_cons_of_mem _ hy)]
theorem sg_blank : ∀ s, s ∈ sgL → ∀ c, c ∈ s → blkB c.toNat = false ∧ 0 < s.length := by decide +kernel
theorem sg_pos : ∀ s, s ∈ sgL → 0 < s.length ∧ s.length ≤ 3 := by decide +kernel
theorem sgn_app (t r : List UInt8) (b : UInt8) (hb : blkB b.toNat = true) : sgn (t ++ b :: r) = sgn t := by
  unfold sgn
  rw [find_congr (q := fun s => s.isPrefixOf t) sgL]
  intro s hs
  exact pre_app s t r b fun h => by rw [(sg_blank s hs b h).1] at hb; cases hb
theorem sgn_take (l : List UInt8) : sgn (l.take (sgn l)) = sgn l ∧ sgn l ≤ l.length ∧ (∀ c, c ∈ l.take (sgn l) → blkB c.toNat = false) := by
  cases hf : sgL.find? (fun s => s.isPrefixOf l) with
  | none =>
    have h0 : sgn l = 0 := by unfold sgn; rw [hf]
    rw [h0]
    exact ⟨by rw [List.take_zero]; decide +kernel, Nat.zero_le _, by simp⟩
  | some s =>
    have h0 : sgn l = s.length := by unfold sgn; rw [hf]
    have hp : s.isPrefixOf l = true := by simpa using List.find?_some hf
    have hm : s ∈ sgL := List.mem_of_find?_eq_some hf
    obtain ⟨r, rfl⟩ := List.isPrefixOf_iff_prefix.1 hp
    have ht : (s ++ r).take s.length = s := by simp
    rw [h0, ht]
    refine ⟨?_, by simp, fun c hc => (sg_blank s hm c hc).1⟩
    unfold sgn
    have : sgL.find? (fun x => x.isPrefixOf s) = some s := by
      rw [List.find?_eq_some_iff_append] at hf ⊢
      obtain ⟨_, as, bs, he, hn⟩ := hf
      refine ⟨by simp [List.isPrefixOf_iff_prefix], as, bs, he, fun a ha => ?_⟩
      have := hn a ha
      simp only [Bool.not_eq_true'] at this ⊢
      cases hq : a.isPrefixOf s with
      | false => rfl
      | true =>
        obtain ⟨q, rfl⟩ := List.isPrefixOf_iff_prefix.1 hq
        have h2 : a.isPrefixOf (a ++ q ++ r) = true := by rw [List.isPrefixOf_iff_prefix, List.append_assoc]; exact List.prefix_append _ _
        rw [h2] at this; cases this
    rw [this]
theorem part_blk (c : Nat) (h : partB c = true) : blkB c = false := by
  cases hb : blkB c with
  | false => rfl
  | true =>
    simp only [blkB, Bool.or_eq_true, decide_eq_true_eq] at hb
    rcases hb with ((rfl | rfl) | rfl) | rfl <;> exact absurd h (by decide)
theorem du_blk (c : Nat) (h : duB c = true) : blkB c = false := part_blk c (by
  unfold duB at h; unfold partB
  rw [Bool.or_eq_true] at h
  rcases h with h | h <;> simp [h])
theorem me_le (l : List UInt8) : (me l).2 ≤ l.length := by
  cases l with
  | nil => exact Nat.le_refl _
  | cons c t =>
    simp only [me_cons]
    split
    · have := ah_le partB t; simp; omega
    · split
      · have h1 := ah_le duB (c :: t)
        show (if _ then _ else _) ≤ _
        split
        · rename_i hh
          have h2 := ah_le partB ((c :: t).drop (ah duB (c :: t) + 1))
          have : ah duB (c :: t) < (c :: t).length := by
            rcases Nat.lt_or_ge (ah duB (c :: t)) (c :: t).length with h | h
            · exact h
            · rw [List.drop_eq_nil_of_le h] at hh; cases hh
          rw [List.length_drop] at h2
          show ah duB (c :: t) + 1 + ah partB (List.drop (ah duB (c :: t) + 1) (c :: t)) ≤ (c :: t).length
          omega
        · exact h1
      · exact (sgn_take (c :: t)).2.1
/-- The word with which a text begins is, by itself, that word. -/
theorem me_take (l : List UInt8) (h0 : 0 < (me l).2) : me (l.take (me l).2) = me l := by
  cases l with
  | nil => cases h0
  | cons c t =>
    revert h0
    by_cases h1 : (letB c.toNat || decide (c.toNat = 95) || decide (c.toNat = 36)) = true
    · have e : me (c :: t) = (1, 1 + ah partB t) := by rw [me_cons]; rw [if_pos h1]
      rw [e]
      intro _
      rw [Nat.add_comm 1, List.take_succ_cons]
      show (if _ then _ else _) = _
      rw [if_pos h1, ah_take partB t _ (Nat.le_refl _), Nat.add_comm]
    · by_cases h2 : (digB c.toNat || decide (c.toNat = 39)) = true
      · by_cases h3 : ((c :: t).drop (ah duB (c :: t))).head? = some 39
        · have e : me (c :: t) = (2, ah duB (c :: t) + 1 + ah partB ((c :: t).drop (ah duB (c :: t) + 1))) := by rw [me_cons]; rw [if_neg h1, if_pos h2, if_pos h3]
          rw [e]
          intro _
          obtain ⟨L, hL⟩ : ∃ L, c :: t = L := ⟨_, rfl⟩
          obtain ⟨n, hn⟩ : ∃ n, ah duB (c :: t) = n := ⟨_, rfl⟩
          obtain ⟨q, hq⟩ : ∃ q, ah partB ((c :: t).drop (n + 1)) = q := ⟨_, rfl⟩
          have hn' := hn
          rw [hn] at h3 ⊢
          rw [hq]
          have ht : (c :: t).take (n + 1 + q) = c :: t.take (n + q) := by rw [show n + 1 + q = (n + q) + 1 by omega, List.take_succ_cons]
          have hd : ah duB ((c :: t).take (n + 1 + q)) = n := by rw [ah_take duB _ _ (by omega), hn]
          have hhd : (((c :: t).take (n + 1 + q)).drop n).head? = some 39 := by
            rw [List.drop_take, show n + 1 + q - n = q + 1 by omega]
            cases hx : (c :: t).drop n with
            | nil => rw [hx] at h3; cases h3
            | cons y r => rw [hx] at h3; simpa using h3
          have hpd : ah partB (((c :: t).take (n + 1 + q)).drop (n + 1)) = q := by
            rw [List.drop_take, show n + 1 + q - (n + 1) = q by omega, ah_take partB _ _ (by omega), hq]
          rw [ht] at hd hhd hpd ⊢
          simp only [me_cons]
          rw [if_neg h1, if_pos h2, hd, if_pos hhd, hpd]
        · have e : me (c :: t) = (2, ah duB (c :: t)) := by rw [me_cons]; rw [if_neg h1, if_pos h2, if_neg h3]
          rw [e]
          show 0 < ah duB (c :: t) → _
          intro h0
          obtain ⟨n, hn⟩ : ∃ n, ah duB (c :: t) = n + 1 := ⟨ah duB (c :: t) - 1, by omega⟩
          have hd : ah duB ((c :: t).take (n + 1)) = n + 1 := by rw [ah_take duB _ _ (by omega), hn]
          show me ((c :: t).take (ah duB (c :: t))) = (2, ah duB (c :: t))
          rw [hn]
          rw [List.take_succ_cons] at hd ⊢
          have hl : ((c :: t.take n).drop (n + 1)).head? ≠ some 39 := by
            rw [List.drop_succ_cons, List.drop_eq_nil_of_le (by rw [List.length_take]; omega)]
            simp
          simp only [me_cons]
          rw [if_neg h1, if_pos h2, hd, if_neg hl]
      · have e : me (c :: t) = (3, sgn (c :: t)) := by rw [me_cons]; rw [if_neg h1, if_neg h2]
        rw [e]
        show 0 < sgn (c :: t) → _
        intro h0
        have hs := (sgn_take (c :: t)).1
        show me ((c :: t).take (sgn (c :: t))) = (3, sgn (c :: t))
        obtain ⟨n, hn⟩ : ∃ n, sgn (c :: t) = n + 1 := ⟨sgn (c :: t) - 1, by omega⟩
        rw [hn] at hs ⊢
        rw [List.take_succ_cons] at hs ⊢
        simp only [me_cons]
        rw [if_neg h1, if_neg h2, hs]
/-- A word with a blank behind it is that word. -/
theorem me_app (t r : List UInt8) (b : UInt8) (hb : blkB b.toNat = true) (h : (me t).2 = t.length) (h0 : t ≠ []) : me (t ++ b :: r) = me t := by
  have hpb : ∀ c, (b :: r).head? = some c → partB c.toNat = false := by
    intro c hc
    cases hc
    cases hp : partB b.toNat with
    | false => rfl
    | true => rw [part_blk _ hp] at hb; cases hb
  have hdb : ∀ c, (b :: r).head? = some c → duB c.toNat = false := by
    intro c hc
    cases hc
    cases hp : duB b.toNat with
    | false => rfl
    | true => rw [du_blk _ hp] at hb; cases hb
  have hb39 : b ≠ 39 := by rintro rfl; exact absurd hb (by decide)
  cases t with
  | nil => exact absurd rfl h0
  | cons c t =>
    rw [List.cons_append]
    by_cases h1 : (letB c.toNat || decide (c.toNat = 95) || decide (c.toNat = 36)) = true
    · simp only [me_cons]
      rw [if_pos h1, if_pos h1, ah_app partB t _ hpb]
    · by_cases h2 : (digB c.toNat || decide (c.toNat = 39)) = true
      · have hd : ah duB (c :: (t ++ b :: r)) = ah duB (c :: t) := by rw [← List.cons_append]; exact ah_app duB (c :: t) _ hdb
        have hle := ah_le duB (c :: t)
        obtain ⟨n, hn⟩ : ∃ n, ah duB (c :: t) = n := ⟨_, rfl⟩
        by_cases h3 : ((c :: t).drop n).head? = some 39
        · have hlt : n < (c :: t).length := by
            rcases Nat.lt_or_ge n (c :: t).length with h | h
            · exact h
            · rw [List.drop_eq_nil_of_le h] at h3; cases h3
          have h3' : ((c :: (t ++ b :: r)).drop n).head? = some 39 := by
            rw [← List.cons_append, List.drop_append_of_le_length (by omega)]
            cases hx : (c :: t).drop n with
            | nil => rw [hx] at h3; cases h3
            | cons y q => rw [hx] at h3; simpa using h3
          have hp : ah partB ((c :: (t ++ b :: r)).drop (n + 1)) = ah partB ((c :: t).drop (n + 1)) := by
            rw [← List.cons_append, List.drop_append_of_le_length (by omega)]
            exact ah_app partB _ _ hpb
          simp only [me_cons]
          rw [if_neg h1, if_pos h2, if_neg h1, if_pos h2, hd, hn, if_pos h3, if_pos h3', hp]
        · have h3' : ((c :: (t ++ b :: r)).drop n).head? ≠ some 39 := by
            rw [← List.cons_append]
            rw [hn] at hle
            rw [List.drop_append_of_le_length hle]
            cases hx : (c :: t).drop n with
            | nil => simpa using hb39
            | cons y q => rw [hx] at h3; simpa using h3
          simp only [me_cons]
          rw [if_neg h1, if_pos h2, if_neg h1, if_pos h2, hd, hn, if_neg h3, if_neg h3']
      · have hs := sgn_app (c :: t) r b hb
        rw [List.cons_append] at hs
        simp only [me_cons]
        rw [if_neg h1, if_neg h2, if_neg h1, if_neg h2, hs]
/-- No byte of a word is a blank. -/
theorem me_blank (l : List UInt8) : ∀ c, c ∈ l.take (me l).2 → blkB c.toNat = false := by
  cases l with
  | nil => intro c h; simp at h
  | cons x t =>
    intro c hc
    by_cases h1 : (letB x.toNat || decide (x.toNat = 95) || decide (x.toNat = 36)) = true
    · have e : me (x :: t) = (1, 1 + ah partB t) := by rw [me_cons]; rw [if_pos h1]
      rw [e, Nat.add_comm, List.take_succ_cons] at hc
      rcases List.mem_cons.1 hc with rfl | hc
      · cases hb : blkB c.toNat with
        | false => rfl
        | true =>
          simp only [blkB, Bool.or_eq_true, decide_eq_true_eq] at hb
          rcases hb with ((h | h) | h) | h <;> rw [h] at h1 <;> exact absurd h1 (by decide)
      · exact part_blk _ (ah_mem partB t c hc)
    · by_cases h2 : (digB x.toNat || decide (x.toNat = 39)) = true
      · have hd := fun c => ah_mem duB (x :: t) c
        by_cases h3 : ((x :: t).drop (ah duB (x :: t))).head? = some 39
        · have e : me (x :: t) = (2, ah duB (x :: t) + 1 + ah partB ((x :: t).drop (ah duB (x :: t) + 1))) := by rw [me_cons]; rw [if_neg h1, if_pos h2, if_pos h3]
          rw [e] at hc
          obtain ⟨n, hn⟩ : ∃ n, ah duB (x :: t) = n := ⟨_, rfl⟩
          have hq := fun c => ah_mem partB ((x :: t).drop (n + 1)) c
          rw [hn] at hd h3 hc
          obtain ⟨q, hqq⟩ : ∃ q, ah partB ((x :: t).drop (n + 1)) = q := ⟨_, rfl⟩
          rw [hqq] at hq
          simp only [hqq] at hc
          rw [Nat.add_assoc, List.take_add, List.mem_append] at hc
          rcases hc with hc | hc
          · exact du_blk _ (hd c hc)
          · cases hx : (x :: t).drop n with
            | nil => rw [hx] at hc; simp at hc
            | cons y r =>
              have hdr : (x :: t).drop (n + 1) = r := by rw [← List.drop_drop, hx]; rfl
              rw [hx] at h3 hc
              rw [hdr] at hq
              rw [Nat.add_comm, List.take_succ_cons] at hc
              have hy : y = 39 := by simpa using h3
              rcases List.mem_cons.1 hc with rfl | hc
              · rw [hy]; decide
              · exact part_blk _ (hq c hc)
        · have e : me (x :: t) = (2, ah duB (x :: t)) := by rw [me_cons]; rw [if_neg h1, if_pos h2, if_neg h3]
          rw [e] at hc
          exact du_blk _ (hd c hc)
      · have e : me (x :: t) = (3, sgn (x :: t)) := by rw [me_cons]; rw [if_neg h1, if_neg h2]
        rw [e] at hc
        exact (sgn_take (x :: t)).2.2 c hc
end Go.Proofs.YtomjokpgcijccaaDoor
