/-
  Plain mathematics of words: where a text's next word ends, and what the words of a text are.
  Plain mathematics of words: the words of a text with their places, or the first error.
-/
import Derived.Lib.Bytealg
import Derived.Lib.LastIndexByte
import Derived.Lib.Strings
import Derived.IntWalk
namespace Go.Proofs.YtomjokpgcijccaaGreatDoor
open Go.Lib
def letB (c : Nat) : Bool := (decide (97 ≤ c) && decide (c ≤ 122)) || (decide (65 ≤ c) && decide (c ≤ 90))
def digB (c : Nat) : Bool := decide (48 ≤ c) && decide (c ≤ 57)
def partB (c : Nat) : Bool := letB c || digB c || decide (c = 95)
def duB (c : Nat) : Bool := digB c || decide (c = 95)
def blkB (c : Nat) : Bool := decide (c = 32) || decide (c = 9) || decide (c = 13) || decide (c = 10)
/-- How many bytes at the beginning satisfy a condition. -/
def ah (p : Nat → Bool) : List UInt8 → Nat
  | [] => 0
  | c :: l => if p c.toNat then ah p l + 1 else 0
/-- The signs, each behind those that begin with it. -/
def sgL : List (List UInt8) := [[60, 60, 60], [62, 62, 62], [60, 60], [62, 62], [60, 61], [62, 61], [61, 61], [33, 61], [38, 38], [124, 124], [126, 38], [126, 124], [126, 94], [94, 126], [43], [45], [42], [47], [37], [38], [124], [94], [126], [33], [60], [62], [63], [58], [61], [40], [41], [91], [93], [123], [125], [59], [44], [46], [35], [64]]
def sgn (l : List UInt8) : Nat := match sgL.find? (fun s => s.isPrefixOf l) with
  | some s => s.length
  | none => 0
/-- Kind and length of the word with which a text begins. -/
def me : List UInt8 → Nat × Nat
  | [] => (3, 0)
  | c :: t =>
    if letB c.toNat || decide (c.toNat = 95) || decide (c.toNat = 36) then (1, 1 + ah partB t)
    else if digB c.toNat || decide (c.toNat = 39) then
      (2, if ((c :: t).drop (ah duB (c :: t))).head? = some 39 then ah duB (c :: t) + 1 + ah partB ((c :: t).drop (ah duB (c :: t) + 1)) else ah duB (c :: t))
    else (3, sgn (c :: t))
theorem me_cons (c : UInt8) (t : List UInt8) : me (c :: t) = if letB c.toNat || decide (c.toNat = 95) || decide (c.toNat = 36) then (1, 1 + ah partB t)
    else if digB c.toNat || decide (c.toNat = 39) then
      (2, if ((c :: t).drop (ah duB (c :: t))).head? = some 39 then ah duB (c :: t) + 1 + ah partB ((c :: t).drop (ah duB (c :: t) + 1)) else ah duB (c :: t))
    else (3, sgn (c :: t)) := rfl
theorem ah_le (p : Nat → Bool) : ∀ l, ah p l ≤ l.length
  | [] => Nat.le_refl _
  | c :: l => by
    unfold ah
    split
    · simpa using ah_le p l
    · simp
theorem ah_take (p : Nat → Bool) : ∀ (l : List UInt8) (n : Nat), ah p l ≤ n → ah p (l.take n) = ah p l
  | [], n, _ => by simp
  | c :: l, 0, h => by
    simp only [ah, List.take_zero] at h ⊢
    split at h
    · omega
    · rename_i hp; rw [if_neg hp]
  | c :: l, n + 1, h => by
    simp only [ah, List.take_succ_cons] at h ⊢
    split at h
    · rename_i hp; rw [if_pos hp, if_pos hp, ah_take p l n (by omega)]
    · rename_i hp; rw [if_neg hp, if_neg hp]
theorem ah_app (p : Nat → Bool) : ∀ (t r : List UInt8), (∀ c, r.head? = some c → p c.toNat = false) → ah p (t ++ r) = ah p t
  | [], [], _ => rfl
  | [], c :: r, h => by
    simp only [List.nil_append, ah]
    rw [h c rfl]; rfl
  | c :: t, r, h => by
    simp only [List.cons_append, ah]
    rw [ah_app p t r h]
theorem ah_all (p : Nat → Bool) : ∀ (t : List UInt8), (∀ c, c ∈ t → p c.toNat = true) → ah p t = t.length
  | [], _ => rfl
  | c :: t, h => by
    simp only [ah]
    rw [if_pos (h c (List.mem_cons_self ..)), ah_all p t fun d hd => h d (List.mem_cons_of_mem _ hd)]
    rfl
theorem ah_app_all (p : Nat → Bool) : ∀ (t r : List UInt8), (∀ c, c ∈ t → p c.toNat = true) → ah p (t ++ r) = t.length + ah p r
  | [], r, _ => by simp
  | c :: t, r, h => by
    simp only [List.cons_append, ah]
    rw [if_pos (h c (List.mem_cons_self ..)), ah_app_all p t r fun d hd => h d (List.mem_cons_of_mem _ hd)]
    simp; omega
theorem ah_mem (p : Nat → Bool) : ∀ (l : List UInt8) (c : UInt8), c ∈ l.take (ah p l) → p c.toNat = true
  | [], c, h => by simp at h
  | d :: l, c, h => by
    simp only [ah] at h
    split at h
    · rename_i hp
      rw [List.take_succ_cons] at h
      rcases List.mem_cons.1 h with rfl | h
      · exact hp
      · exact ah_mem p l c h
    · simp at h
theorem ah_drop (p : Nat → Bool) : ∀ (l : List UInt8), ah p (l.drop (ah p l)) = 0
  | [] => rfl
  | d :: l => by
    by_cases hp : p d.toNat = true
    · have : ah p (d :: l) = ah p l + 1 := by simp only [ah]; rw [if_pos hp]
      rw [this, List.drop_succ_cons]
      exact ah_drop p l
    · have : ah p (d :: l) = 0 := by simp only [ah]; rw [if_neg hp]
      rw [this, List.drop_zero, this]
theorem pre_app : ∀ (s t r : List UInt8) (b : UInt8), b ∉ s → s.isPrefixOf (t ++ b :: r) = s.isPrefixOf t
  | [], _, _, _, _ => by simp
  | x :: s, [], r, b, h => by
    have : (x == b) = false := by
      simp only [beq_eq_false_iff_ne, ne_eq]
      rintro rfl
      exact h (List.mem_cons_self ..)
    simp [List.isPrefixOf, this]
  | x :: s, y :: t, r, b, h => by
    simp only [List.cons_append, List.isPrefixOf]
    rw [pre_app s t r b fun hb => h (List.mem_cons_of_mem _ hb)]
theorem find_congr {α : Type} {p q : α → Bool} : ∀ (l : List α), (∀ x, x ∈ l → p x = q x) → l.find? p = l.find? q
  | [], _ => rfl
  | x :: l, h => by
    simp only [List.find?]
    rw [h x (List.mem_cons_self ..), find_congr l fun y hy => h y (List.mem_cons_of_mem _ hy)]
theorem sg_blank : ∀ s, s ∈ sgL → ∀ c, c ∈ s → blkB c.toNat = false ∧ 0 < s.length := by decide +kernel
theorem sg_pos : ∀ s, s ∈ sgL → 0 < s.length ∧ s.length ≤ 3 := by decide +kernel
theorem sgn_app (t r : List UInt8) (b : UInt8) (hb : blkB b.toNat = true) : sgn (t ++ b :: r) = sgn t := by
  unfold sgn
  rw [find_congr (q := fun s => s.isPrefixOf t) sgL]
  intro s hs
  exact pre_app s t r b fun h => by rw [(sg_blank s hs b h).1] at hb; cases hb
theorem sgn_take (l : List UInt8) : sgn (l.take (sgn l)) = sgn l ∧ sgn l ≤ l.length ∧ (∀ c, c ∈ l.take (sgn l) → blkB c.toNat = false) := by
  cases hf : sgL.find? (fun s => s.isPrefixOf l) with
  | none =>
    have h0 : sgn l = 0 := by unfold sgn; rw [hf]
    rw [h0]
    exact ⟨by rw [List.take_zero]; decide +kernel, Nat.zero_le _, by simp⟩
  | some s =>
    have h0 : sgn l = s.length := by unfold sgn; rw [hf]
    have hp : s.isPrefixOf l = true := by simpa using List.find?_some hf
    have hm : s ∈ sgL := List.mem_of_find?_eq_some hf
    obtain ⟨r, rfl⟩ := List.isPrefixOf_iff_prefix.1 hp
    have ht : (s ++ r).take s.length = s := by simp
    rw [h0, ht]
    refine ⟨?_, by simp, fun c hc => (sg_blank s hm c hc).1⟩
    unfold sgn
    have : sgL.find? (fun x => x.isPrefixOf s) = some s := by
      rw [List.find?_eq_some_iff_append] at hf ⊢
      obtain ⟨_, as, bs, he, hn⟩ := hf
      refine ⟨by simp [List.isPrefixOf_iff_prefix], as, bs, he, fun a ha => ?_⟩
      have := hn a ha
      simp only [Bool.not_eq_true'] at this ⊢
      cases hq : a.isPrefixOf s with
      | false => rfl
      | true =>
        obtain ⟨q, rfl⟩ := List.isPrefixOf_iff_prefix.1 hq
        have h2 : a.isPrefixOf (a ++ q ++ r) = true := by rw [List.isPrefixOf_iff_prefix, List.append_assoc]; exact List.prefix_append _ _
        rw [h2] at this; cases this
    rw [this]
theorem part_blk (c : Nat) (h : partB c = true) : blkB c = false := by
  cases hb : blkB c with
  | false => rfl
  | true =>
    simp only [blkB, Bool.or_eq_true, decide_eq_true_eq] at hb
    rcases hb with ((rfl | rfl) | rfl) | rfl <;> exact absurd h (by decide)
theorem du_blk (c : Nat) (h : duB c = true) : blkB c = false := part_blk c (by
  unfold duB at h; unfold partB
  rw [Bool.or_eq_true] at h
  rcases h with h | h <;> simp [h])
theorem me_le (l : List UInt8) : (me l).2 ≤ l.length := by
  cases l with
  | nil => exact Nat.le_refl _
  | cons c t =>
    simp only [me_cons]
    split
    · have := ah_le partB t; simp; omega
    · split
      · have h1 := ah_le duB (c :: t)
        show (if _ then _ else _) ≤ _
        split
        · rename_i hh
          have h2 := ah_le partB ((c :: t).drop (ah duB (c :: t) + 1))
          have : ah duB (c :: t) < (c :: t).length := by
            rcases Nat.lt_or_ge (ah duB (c :: t)) (c :: t).length with h | h
            · exact h
            · rw [List.drop_eq_nil_of_le h] at hh; cases hh
          rw [List.length_drop] at h2
          show ah duB (c :: t) + 1 + ah partB (List.drop (ah duB (c :: t) + 1) (c :: t)) ≤ (c :: t).length
          omega
        · exact h1
      · exact (sgn_take (c :: t)).2.1
/-- The word with which a text begins is, by itself, that word. -/
theorem me_take (l : List UInt8) (h0 : 0 < (me l).2) : me (l.take (me l).2) = me l := by
  cases l with
  | nil => cases h0
  | cons c t =>
    revert h0
    by_cases h1 : (letB c.toNat || decide (c.toNat = 95) || decide (c.toNat = 36)) = true
    · have e : me (c :: t) = (1, 1 + ah partB t) := by rw [me_cons]; rw [if_pos h1]
      rw [e]
      intro _
      rw [Nat.add_comm 1, List.take_succ_cons]
      show (if _ then _ else _) = _
      rw [if_pos h1, ah_take partB t _ (Nat.le_refl _), Nat.add_comm]
    · by_cases h2 : (digB c.toNat || decide (c.toNat = 39)) = true
      · by_cases h3 : ((c :: t).drop (ah duB (c :: t))).head? = some 39
        · have e : me (c :: t) = (2, ah duB (c :: t) + 1 + ah partB ((c :: t).drop (ah duB (c :: t) + 1))) := by rw [me_cons]; rw [if_neg h1, if_pos h2, if_pos h3]
          rw [e]
          intro _
          obtain ⟨L, hL⟩ : ∃ L, c :: t = L := ⟨_, rfl⟩
          obtain ⟨n, hn⟩ : ∃ n, ah duB (c :: t) = n := ⟨_, rfl⟩
          obtain ⟨q, hq⟩ : ∃ q, ah partB ((c :: t).drop (n + 1)) = q := ⟨_, rfl⟩
          have hn' := hn
          rw [hn] at h3 ⊢
          rw [hq]
          have ht : (c :: t).take (n + 1 + q) = c :: t.take (n + q) := by rw [show n + 1 + q = (n + q) + 1 by omega, List.take_succ_cons]
          have hd : ah duB ((c :: t).take (n + 1 + q)) = n := by rw [ah_take duB _ _ (by omega), hn]
          have hhd : (((c :: t).take (n + 1 + q)).drop n).head? = some 39 := by
            rw [List.drop_take, show n + 1 + q - n = q + 1 by omega]
            cases hx : (c :: t).drop n with
            | nil => rw [hx] at h3; cases h3
            | cons y r => rw [hx] at h3; simpa using h3
          have hpd : ah partB (((c :: t).take (n + 1 + q)).drop (n + 1)) = q := by
            rw [List.drop_take, show n + 1 + q - (n + 1) = q by omega, ah_take partB _ _ (by omega), hq]
          rw [ht] at hd hhd hpd ⊢
          simp only [me_cons]
          rw [if_neg h1, if_pos h2, hd, if_pos hhd, hpd]
        · have e : me (c :: t) = (2, ah duB (c :: t)) := by rw [me_cons]; rw [if_neg h1, if_pos h2, if_neg h3]
          rw [e]
          show 0 < ah duB (c :: t) → _
          intro h0
          obtain ⟨n, hn⟩ : ∃ n, ah duB (c :: t) = n + 1 := ⟨ah duB (c :: t) - 1, by omega⟩
          have hd : ah duB ((c :: t).take (n + 1)) = n + 1 := by rw [ah_take duB _ _ (by omega), hn]
          show me ((c :: t).take (ah duB (c :: t))) = (2, ah duB (c :: t))
          rw [hn]
          rw [List.take_succ_cons] at hd ⊢
          have hl : ((c :: t.take n).drop (n + 1)).head? ≠ some 39 := by
            rw [List.drop_succ_cons, List.drop_eq_nil_of_le (by rw [List.length_take]; omega)]
            simp
          simp only [me_cons]
          rw [if_neg h1, if_pos h2, hd, if_neg hl]
      · have e : me (c :: t) = (3, sgn (c :: t)) := by rw [me_cons]; rw [if_neg h1, if_neg h2]
        rw [e]
        show 0 < sgn (c :: t) → _
        intro h0
        have hs := (sgn_take (c :: t)).1
        show me ((c :: t).take (sgn (c :: t))) = (3, sgn (c :: t))
        obtain ⟨n, hn⟩ : ∃ n, sgn (c :: t) = n + 1 := ⟨sgn (c :: t) - 1, by omega⟩
        rw [hn] at hs ⊢
        rw [List.take_succ_cons] at hs ⊢
        simp only [me_cons]
        rw [if_neg h1, if_neg h2, hs]
/-- A word with a blank behind it is that word. -/
theorem me_app (t r : List UInt8) (b : UInt8) (hb : blkB b.toNat = true) (h : (me t).2 = t.length) (h0 : t ≠ []) : me (t ++ b :: r) = me t := by
  have hpb : ∀ c, (b :: r).head? = some c → partB c.toNat = false := by
    intro c hc
    cases hc
    cases hp : partB b.toNat with
    | false => rfl
    | true => rw [part_blk _ hp] at hb; cases hb
  have hdb : ∀ c, (b :: r).head? = some c → duB c.toNat = false := by
    intro c hc
    cases hc
    cases hp : duB b.toNat with
    | false => rfl
    | true => rw [du_blk _ hp] at hb; cases hb
  have hb39 : b ≠ 39 := by rintro rfl; exact absurd hb (by decide)
  cases t with
  | nil => exact absurd rfl h0
  | cons c t =>
    rw [List.cons_append]
    by_cases h1 : (letB c.toNat || decide (c.toNat = 95) || decide (c.toNat = 36)) = true
    · simp only [me_cons]
      rw [if_pos h1, if_pos h1, ah_app partB t _ hpb]
    · by_cases h2 : (digB c.toNat || decide (c.toNat = 39)) = true
      · have hd : ah duB (c :: (t ++ b :: r)) = ah duB (c :: t) := by rw [← List.cons_append]; exact ah_app duB (c :: t) _ hdb
        have hle := ah_le duB (c :: t)
        obtain ⟨n, hn⟩ : ∃ n, ah duB (c :: t) = n := ⟨_, rfl⟩
        by_cases h3 : ((c :: t).drop n).head? = some 39
        · have hlt : n < (c :: t).length := by
            rcases Nat.lt_or_ge n (c :: t).length with h | h
            · exact h
            · rw [List.drop_eq_nil_of_le h] at h3; cases h3
          have h3' : ((c :: (t ++ b :: r)).drop n).head? = some 39 := by
            rw [← List.cons_append, List.drop_append_of_le_length (by omega)]
            cases hx : (c :: t).drop n with
            | nil => rw [hx] at h3; cases h3
            | cons y q => rw [hx] at h3; simpa using h3
          have hp : ah partB ((c :: (t ++ b :: r)).drop (n + 1)) = ah partB ((c :: t).drop (n + 1)) := by
            rw [← List.cons_append, List.drop_append_of_le_length (by omega)]
            exact ah_app partB _ _ hpb
          simp only [me_cons]
          rw [if_neg h1, if_pos h2, if_neg h1, if_pos h2, hd, hn, if_pos h3, if_pos h3', hp]
        · have h3' : ((c :: (t ++ b :: r)).drop n).head? ≠ some 39 := by
            rw [← List.cons_append]
            rw [hn] at hle
            rw [List.drop_append_of_le_length hle]
            cases hx : (c :: t).drop n with
            | nil => simpa using hb39
            | cons y q => rw [hx] at h3; simpa using h3
          simp only [me_cons]
          rw [if_neg h1, if_pos h2, if_neg h1, if_pos h2, hd, hn, if_neg h3, if_neg h3']
      · have hs := sgn_app (c :: t) r b hb
        rw [List.cons_append] at hs
        simp only [me_cons]
        rw [if_neg h1, if_neg h2, if_neg h1, if_neg h2, hs]
/-- No byte of a word is a blank. -/
theorem me_blank (l : List UInt8) : ∀ c, c ∈ l.take (me l).2 → blkB c.toNat = false := by
  cases l with
  | nil => intro c h; simp at h
  | cons x t =>
    intro c hc
    by_cases h1 : (letB x.toNat || decide (x.toNat = 95) || decide (x.toNat = 36)) = true
    · have e : me (x :: t) = (1, 1 + ah partB t) := by rw [me_cons]; rw [if_pos h1]
      rw [e, Nat.add_comm, List.take_succ_cons] at hc
      rcases List.mem_cons.1 hc with rfl | hc
      · cases hb : blkB c.toNat with
        | false => rfl
        | true =>
          simp only [blkB, Bool.or_eq_true, decide_eq_true_eq] at hb
          rcases hb with ((h | h) | h) | h <;> rw [h] at h1 <;> exact absurd h1 (by decide)
      · exact part_blk _ (ah_mem partB t c hc)
    · by_cases h2 : (digB x.toNat || decide (x.toNat = 39)) = true
      · have hd := fun c => ah_mem duB (x :: t) c
        by_cases h3 : ((x :: t).drop (ah duB (x :: t))).head? = some 39
        · have e : me (x :: t) = (2, ah duB (x :: t) + 1 + ah partB ((x :: t).drop (ah duB (x :: t) + 1))) := by rw [me_cons]; rw [if_neg h1, if_pos h2, if_pos h3]
          rw [e] at hc
          obtain ⟨n, hn⟩ : ∃ n, ah duB (x :: t) = n := ⟨_, rfl⟩
          have hq := fun c => ah_mem partB ((x :: t).drop (n + 1)) c
          rw [hn] at hd h3 hc
          obtain ⟨q, hqq⟩ : ∃ q, ah partB ((x :: t).drop (n + 1)) = q := ⟨_, rfl⟩
          rw [hqq] at hq
          simp only [hqq] at hc
          rw [Nat.add_assoc, List.take_add, List.mem_append] at hc
          rcases hc with hc | hc
          · exact du_blk _ (hd c hc)
          · cases hx : (x :: t).drop n with
            | nil => rw [hx] at hc; simp at hc
            | cons y r =>
              have hdr : (x :: t).drop (n + 1) = r := by rw [← List.drop_drop, hx]; rfl
              rw [hx] at h3 hc
              rw [hdr] at hq
              rw [Nat.add_comm, List.take_succ_cons] at hc
              have hy : y = 39 := by simpa using h3
              rcases List.mem_cons.1 hc with rfl | hc
              · rw [hy]; decide
              · exact part_blk _ (hq c hc)
        · have e : me (x :: t) = (2, ah duB (x :: t)) := by rw [me_cons]; rw [if_neg h1, if_pos h2, if_neg h3]
          rw [e] at hc
          exact du_blk _ (hd c hc)
      · have e : me (x :: t) = (3, sgn (x :: t)) := by rw [me_cons]; rw [if_neg h1, if_neg h2]
        rw [e] at hc
        exact (sgn_take (x :: t)).2.2 c hc
end Go.Proofs.YtomjokpgcijccaaGreatDoor
namespace Go.Proofs.YtomjokpgcijccaaGreatDoor
open Go.Lib
/-- A place: file, line, column. -/
structure PS where
  f : Int
  l : Int
  c : Int
/-- A word. -/
structure TK where
  k : Nat
  t : List UInt8
  p : PS
def wr (x : Int) : Int := IntKind.i64.wrap x
theorem wr_def (x : Int) : wr x = (x + 9223372036854775808) % 18446744073709551616 - 9223372036854775808 := IntKind.wrap_i64 x
theorem wr_in (x : Int) (h : -9223372036854775808 ≤ x ∧ x ≤ 9223372036854775807) : wr x = x := IntWalk.i64_in x h
theorem wr_add (x y : Int) : wr (wr x + y) = wr (x + y) := by rw [wr_def, wr_def, wr_def]; omega
theorem wr_ran (x : Int) : -9223372036854775808 ≤ wr x ∧ wr x ≤ 9223372036854775807 := by rw [wr_def]; omega
/-- Are these numbers of 64 bits? -/
def PS.ok (p : PS) : Prop := wr p.f = p.f ∧ wr p.l = p.l ∧ wr p.c = p.c
def ad1 (p : PS) (b : UInt8) : PS := if b = 10 then ⟨p.f, wr (p.l + 1), 1⟩ else ⟨p.f, p.l, wr (p.c + 1)⟩
/-- The place behind a text. -/
def adv (fx : Bool) (p : PS) (t : List UInt8) : PS := if fx then p else t.foldl ad1 p
theorem adv_nil (fx : Bool) (p : PS) : adv fx p [] = p := by unfold adv; split <;> rfl
theorem adv_app (fx : Bool) (p : PS) (a b : List UInt8) : adv fx p (a ++ b) = adv fx (adv fx p a) b := by
  unfold adv
  split
  · rfl
  · rw [List.foldl_append]
theorem ad1_ok {p : PS} (h : p.ok) (b : UInt8) : (ad1 p b).ok := by
  obtain ⟨h1, h2, h3⟩ := h
  unfold ad1
  split
  · exact ⟨h1, by show wr (wr _) = wr _; rw [wr_in _ (wr_ran _)], by show wr 1 = 1; decide⟩
  · exact ⟨h1, h2, by show wr (wr _) = wr _; rw [wr_in _ (wr_ran _)]⟩
theorem adv_ok (fx : Bool) : ∀ (t : List UInt8) {p : PS}, p.ok → (adv fx p t).ok
  | [], p, h => by rw [adv_nil]; exact h
  | b :: t, p, h => by
    rw [show b :: t = [b] ++ t from rfl, adv_app]
    refine adv_ok fx t ?_
    unfold adv
    split
    · exact h
    · exact ad1_ok h b
def liL (t : List UInt8) : Int := lastIndexByte ⟨t.toArray⟩ 10
theorem lastIdx_congr (s r : ByteArray) (c : Int) : ∀ k, (∀ j, j < k → s.data[j]! = r.data[j]!) → lastIdx s c k = lastIdx r c k
  | 0, _ => rfl
  | k + 1, h => by
    simp only [lastIdx]
    rw [h k (by omega), lastIdx_congr s r c k fun j hj => h j (by omega)]
theorem liL_snoc (t : List UInt8) (b : UInt8) : liL (t ++ [b]) = if b = 10 then (t.length : Int) else liL t := by
  unfold liL lastIndexByte
  have hsz : (⟨(t ++ [b]).toArray⟩ : ByteArray).size = t.length + 1 := by show (t ++ [b]).length = _; simp
  have hsz2 : (⟨t.toArray⟩ : ByteArray).size = t.length := rfl
  rw [hsz, hsz2]
  have hb : (⟨(t ++ [b]).toArray⟩ : ByteArray).data[t.length]! = b := by
    show ((t ++ [b]).toArray)[t.length]! = b
    simp
  by_cases h : b = 10
  · rw [if_pos h, lastIdx_hit]
    rw [hb, h]; rfl
  · rw [if_neg h, lastIdx_miss]
    · exact lastIdx_congr _ _ _ _ fun j hj => by
        show ((t ++ [b]).toArray)[j]! = (t.toArray)[j]!
        simp [List.getElem?_append_left hj]
    · rw [hb]
      intro e
      apply h
      apply UInt8.toNat_inj.1
      have : b.toNat = 10 := by omega
      rw [this]; rfl
theorem liL_ran : ∀ (n : Nat) (t : List UInt8), t.length = n → -1 ≤ liL t ∧ liL t < t.length
  | n, t, hn => by
    have h := lastIndexByte_spec ⟨t.toArray⟩ 10
    have hsz2 : (⟨t.toArray⟩ : ByteArray).size = t.length := rfl
    unfold liL
    rcases h with ⟨e, _⟩ | ⟨i, hi, e, _⟩
    · rw [e]; omega
    · rw [e]; omega
/-- The place behind a text, as the program finds it. -/
theorem adv_chunk (p : PS) (hp : p.ok) : ∀ (n : Nat) (t : List UInt8), t.length = n → t.length < 4611686018427387904 → t.foldl ad1 p = if t.count 10 = 0 then ⟨p.f, p.l, wr (p.c + t.length)⟩ else ⟨p.f, wr (p.l + t.count 10), t.length - liL t⟩
  | 0, t, h, _ => by
    obtain rfl : t = [] := List.eq_nil_of_length_eq_zero h
    obtain ⟨h1, h2, h3⟩ := hp
    simp only [List.foldl_nil, List.count_nil, if_true, List.length_nil]
    rw [show p.c + ((0 : Nat) : Int) = p.c by omega, h3]
  | n + 1, t, h, hl => by
    obtain ⟨s, b, rfl⟩ : ∃ s b, t = s ++ [b] := ⟨t.dropLast, t.getLast (by rintro rfl; cases h), (List.dropLast_concat_getLast _).symm⟩
    have hs : s.length = n := by simpa using h
    have hran := liL_ran n s hs
    rw [List.foldl_append, adv_chunk p hp n s hs (by simp at hl; omega), liL_snoc, List.count_append]
    simp only [List.foldl_cons, List.foldl_nil, List.length_append, List.length_cons, List.length_nil, Nat.zero_add]
    have hl' : s.length < 4611686018427387903 := by simp at hl; omega
    by_cases hb : b = 10
    · have hc : List.count (10 : UInt8) [b] = 1 := by rw [hb]; rfl
      rw [hc, if_pos hb, if_neg (show ¬ (s.count 10 + 1 = 0) by omega)]
      by_cases h0 : s.count 10 = 0
      · rw [if_pos h0, h0]
        unfold ad1
        rw [if_pos hb]
        have e : (1 : Int) = ((s.length + 1 : Nat) : Int) - (s.length : Int) := by omega
        rw [← e]; rfl
      · rw [if_neg h0]
        unfold ad1
        rw [if_pos hb]
        have e : (1 : Int) = ((s.length + 1 : Nat) : Int) - (s.length : Int) := by omega
        rw [← e]
        show PS.mk p.f (wr (wr _ + 1)) 1 = _
        rw [wr_add, show p.l + ((s.count 10 : Nat) : Int) + 1 = p.l + ((s.count 10 + 1 : Nat) : Int) by omega]
    · have hc : List.count (10 : UInt8) [b] = 0 := by
        rw [List.count_eq_zero]
        intro hm
        exact hb (List.mem_singleton.1 hm).symm
      rw [hc, Nat.add_zero, if_neg hb]
      by_cases h0 : s.count 10 = 0
      · rw [if_pos h0, if_pos h0]
        unfold ad1
        rw [if_neg hb]
        show PS.mk p.f p.l (wr (wr _ + 1)) = _
        rw [wr_add, show p.c + ((s.length : Nat) : Int) + 1 = p.c + ((s.length + 1 : Nat) : Int) by omega]
      · rw [if_neg h0, if_neg h0]
        unfold ad1
        rw [if_neg hb]
        show PS.mk p.f _ (wr ((s.length : Int) - liL s + 1)) = _
        rw [wr_in ((s.length : Int) - liL s + 1) (by omega), show (s.length : Int) - liL s + 1 = ((s.length + 1 : Nat) : Int) - liL s by omega]
section
variable (nb : List UInt8 → Bool)
/-- The error of a word. -/
def ck (k : Nat) (t : List UInt8) : Int :=
  if t = [] then 7
  else if k = 1 then (if t = [36] ∨ 40 < t.length then 9 else 0)
  else if k = 2 then (if nb t then 0 else 7)
  else 0
def lexF (fx : Bool) : Nat → List UInt8 → PS → List TK → Except (PS × Int) (List TK)
  | 0, _, _, acc => .ok acc
  | f + 1, l, p, acc =>
    if l = [] then .ok acc
    else if ck nb (me l).1 (l.take (me l).2) ≠ 0 then .error (p, ck nb (me l).1 (l.take (me l).2))
    else if acc.length = 12000 then .error (p, 19)
    else lexF fx f ((l.drop (me l).2).drop (ah blkB (l.drop (me l).2))) (adv fx (adv fx p (l.take (me l).2)) ((l.drop (me l).2).take (ah blkB (l.drop (me l).2)))) (acc ++ [⟨(me l).1, l.take (me l).2, p⟩])
/-- The words of a piece behind others. -/
def lexP (fx : Bool) (l : List UInt8) (p : PS) (acc : List TK) : Except (PS × Int) (List TK) :=
  lexF nb fx (l.length + 1) (l.drop (ah blkB l)) (adv fx p (l.take (ah blkB l))) acc
/-- A piece. -/
structure PC where
  t : List UInt8
  p : PS
  fx : Bool
def lexL : List PC → List TK → Except (PS × Int) (List TK)
  | [], acc => .ok acc
  | q :: r, acc => match lexP nb q.fx q.t q.p acc with
    | .error e => .error e
    | .ok a => lexL r a
theorem ck_le {k : Nat} {t : List UInt8} (h : ck nb k t = 0) : t ≠ [] := by
  rintro rfl
  simp [ck] at h
/-- Is it a word by itself? -/
def wOK (x : TK) : Prop := x.t ≠ [] ∧ me x.t = (x.k, x.t.length) ∧ ck nb x.k x.t = 0 ∧ ∀ c, c ∈ x.t → blkB c.toNat = false
theorem me_pos {l : List UInt8} (h : ck nb (me l).1 (l.take (me l).2) = 0) : 0 < (me l).2 := by
  rcases Nat.eq_zero_or_pos (me l).2 with h0 | h0
  · rw [h0, List.take_zero] at h
    exact absurd rfl (ck_le nb h)
  · exact h0
theorem wOK_me {l : List UInt8} (p : PS) (h : ck nb (me l).1 (l.take (me l).2) = 0) : wOK nb ⟨(me l).1, l.take (me l).2, p⟩ := by
  have h0 := me_pos nb h
  have hle := me_le l
  refine ⟨ck_le nb h, ?_, h, me_blank l⟩
  show me (l.take (me l).2) = _
  rw [me_take l h0, List.length_take]
  rw [Nat.min_eq_left hle]
theorem lexF_ok (fx : Bool) : ∀ (f : Nat) (l : List UInt8) (p : PS) (acc out : List TK), lexF nb fx f l p acc = .ok out → (∀ x, x ∈ acc → wOK nb x) → acc.length ≤ 12000 → (∀ x, x ∈ out → wOK nb x) ∧ out.length ≤ 12000
  | 0, l, p, acc, out, h, ha, hl => by cases h; exact ⟨ha, hl⟩
  | f + 1, l, p, acc, out, h, ha, hl => by
    unfold lexF at h
    split at h
    · cases h; exact ⟨ha, hl⟩
    · split at h
      · cases h
      · split at h
        · cases h
        · rename_i h1 h2 h3
          refine lexF_ok fx f _ _ _ _ h (fun x hx => ?_) (by simp; omega)
          rcases List.mem_append.1 hx with hx | hx
          · exact ha x hx
          · rw [List.mem_singleton.1 hx]
            exact wOK_me nb p (by simpa using h2)
theorem lexL_ok : ∀ (q : List PC) (acc out : List TK), lexL nb q acc = .ok out → (∀ x, x ∈ acc → wOK nb x) → acc.length ≤ 12000 → (∀ x, x ∈ out → wOK nb x) ∧ out.length ≤ 12000
  | [], acc, out, h, ha, hl => by cases h; exact ⟨ha, hl⟩
  | q :: r, acc, out, h, ha, hl => by
    unfold lexL at h
    split at h
    · cases h
    · rename_i a hq
      obtain ⟨h1, h2⟩ := lexF_ok nb q.fx _ _ _ _ _ hq ha hl
      exact lexL_ok r a out h h1 h2
def exMap (a : List TK) : Except (PS × Int) (List TK) → Except (PS × Int) (List TK)
  | .error e => .error e
  | .ok o => .ok (a ++ o)
theorem lexF_acc (fx : Bool) (a : List TK) : ∀ (f : Nat) (l : List UInt8) (p : PS) (b : List TK), a.length + b.length + l.length ≤ 12000 → lexF nb fx f l p (a ++ b) = exMap a (lexF nb fx f l p b)
  | 0, l, p, b, h => rfl
  | f + 1, l, p, b, h => by
    unfold lexF
    by_cases hl : l = []
    · rw [if_pos hl, if_pos hl]; rfl
    · rw [if_neg hl, if_neg hl]
      have hlp : 0 < l.length := List.length_pos_iff.2 hl
      split
      · rfl
      · rename_i h1
        have h1' : ck nb (me l).1 (l.take (me l).2) = 0 := by simpa using h1
        have hp := me_pos nb h1'
        rw [if_neg (by simp; omega), if_neg (by omega), List.append_assoc]
        refine lexF_acc fx a f _ _ _ ?_
        simp only [List.length_append, List.length_drop, List.length_cons, List.length_nil]
        omega
theorem lexP_acc (fx : Bool) (a b : List TK) (l : List UInt8) (p : PS) (h : a.length + b.length + l.length ≤ 12000) : lexP nb fx l p (a ++ b) = exMap a (lexP nb fx l p b) := by
  unfold lexP
  refine lexF_acc nb fx a _ _ _ b ?_
  simp only [List.length_drop]
  omega
theorem lexF_len (fx : Bool) : ∀ (f : Nat) (l : List UInt8) (p : PS) (acc out : List TK), lexF nb fx f l p acc = .ok out → out.length ≤ acc.length + l.length
  | 0, l, p, acc, out, h => by cases h; omega
  | f + 1, l, p, acc, out, h => by
    unfold lexF at h
    split at h
    · cases h; omega
    · split at h
      · cases h
      · split at h
        · cases h
        · rename_i h1 h2 h3
          have h1' : ck nb (me l).1 (l.take (me l).2) = 0 := by simpa using h2
          have hp := me_pos nb h1'
          have hlp : 0 < l.length := List.length_pos_iff.2 h1
          have := lexF_len fx f _ _ _ _ h
          simp only [List.length_append, List.length_drop, List.length_cons, List.length_nil] at this
          omega
theorem lexP_len (fx : Bool) (l : List UInt8) (p : PS) (acc out : List TK) (h : lexP nb fx l p acc = .ok out) : out.length ≤ acc.length + l.length := by
  have := lexF_len nb fx _ _ _ _ _ h
  simp only [List.length_drop] at this
  omega
def catG : List (List UInt8 × TK) → List UInt8
  | [] => []
  | i :: r => i.1 ++ (i.2.t ++ catG r)
def plc (p : PS) : List (List UInt8 × TK) → List TK
  | [] => []
  | i :: r => ⟨i.2.k, i.2.t, adv false p i.1⟩ :: plc (adv false (adv false p i.1) i.2.t) r
theorem blank_head {t r : List UInt8} (h0 : t ≠ []) (h : ∀ c, c ∈ t → blkB c.toNat = false) : ah blkB (t ++ r) = 0 := by
  cases t with
  | nil => exact absurd rfl h0
  | cons c t =>
    simp only [List.cons_append, ah]
    rw [h c (List.mem_cons_self ..)]; rfl
/-- Words with blanks between are read as these words. -/
theorem lexF_gaps : ∀ (is : List (List UInt8 × TK)) (p : PS) (acc : List TK) (f : Nat), (∀ i, i ∈ is → wOK nb i.2 ∧ ∀ c, c ∈ i.1 → blkB c.toNat = true) → (∀ i, i ∈ is.tail → i.1 ≠ []) → acc.length + is.length ≤ 12000 → (catG is).length < f →
    lexF nb false f ((catG is).drop (ah blkB (catG is))) (adv false p ((catG is).take (ah blkB (catG is)))) acc = .ok (acc ++ plc p is)
  | [], p, acc, f, _, _, _, hf => by
    obtain ⟨g, rfl⟩ : ∃ g, f = g + 1 := ⟨f - 1, by omega⟩
    simp [catG, lexF, plc]
  | i :: r, p, acc, f, h, ht, hl, hf => by
    obtain ⟨g, rfl⟩ : ∃ g, f = g + 1 := ⟨f - 1, by omega⟩
    obtain ⟨⟨w1, w2, w3, w4⟩, hg⟩ := h i (List.mem_cons_self ..)
    have e1 : ah blkB (catG (i :: r)) = i.1.length := by
      show ah blkB (i.1 ++ (i.2.t ++ catG r)) = _
      rw [ah_app_all blkB _ _ hg, blank_head w1 w4]; omega
    have e2 : (catG (i :: r)).drop i.1.length = i.2.t ++ catG r := by
      show (i.1 ++ (i.2.t ++ catG r)).drop _ = _
      simp
    have e3 : (catG (i :: r)).take i.1.length = i.1 := by
      show (i.1 ++ (i.2.t ++ catG r)).take _ = _
      simp
    have hlen : (catG (i :: r)).length = i.1.length + (i.2.t.length + (catG r).length) := by
      show (i.1 ++ (i.2.t ++ catG r)).length = _
      simp
    have hwl : 0 < i.2.t.length := List.length_pos_iff.2 w1
    have hme : me (i.2.t ++ catG r) = (i.2.k, i.2.t.length) := by
      rw [← w2]
      cases r with
      | nil => show me (i.2.t ++ []) = _; rw [List.append_nil]
      | cons j r =>
        have hj0 : j.1 ≠ [] := ht j (by simp)
        have hjb := (h j (by simp)).2
        cases hjx : j.1 with
        | nil => exact absurd hjx hj0
        | cons b q =>
          show me (i.2.t ++ (j.1 ++ (j.2.t ++ catG r))) = _
          rw [hjx, List.cons_append]
          exact me_app _ _ b (hjb b (by rw [hjx]; exact List.mem_cons_self ..)) (by rw [w2]) w1
    rw [e1, e2, e3]
    unfold lexF
    rw [if_neg (by intro e; exact w1 (List.append_eq_nil_iff.1 e).1), hme]
    simp only [List.take_left', List.drop_left']
    rw [if_neg (by simpa using w3), if_neg (by simp at hl; omega)]
    have ih := lexF_gaps r (adv false (adv false p i.1) i.2.t) (acc ++ [⟨i.2.k, i.2.t, adv false p i.1⟩]) g (fun j hj => h j (List.mem_cons_of_mem _ hj)) (fun j hj => ht j (List.mem_of_mem_tail hj)) (by simp at hl ⊢; omega) (by omega)
    rw [ih, List.append_assoc]
    rfl
theorem lexP_gaps (is : List (List UInt8 × TK)) (p : PS) (h : ∀ i, i ∈ is → wOK nb i.2 ∧ ∀ c, c ∈ i.1 → blkB c.toNat = true) (ht : ∀ i, i ∈ is.tail → i.1 ≠ []) (hl : is.length ≤ 12000) : lexP nb false (catG is) p [] = .ok (plc p is) := by
  have := lexF_gaps nb is p [] ((catG is).length + 1) h ht (by simpa using hl) (Nat.lt_succ_self _)
  simpa [lexP] using this
end
end Go.Proofs.YtomjokpgcijccaaGreatDoor
