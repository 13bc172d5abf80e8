/-
  Plain mathematics of words: the words of a text with their places, or the first error.
-/
import Derived.Test.YtomjokpgcijccaaDoorHa
namespace Go.Proofs.YtomjokpgcijccaaDoor
open Go.Lib
/-- A place: file, line, column. -/
structure PS where
  f : Int
  l : Int
  c : Int
/-- A word. -/
structure TK where
  k : Nat
  t : List UInt8
  p : PS
def wr (x : Int) : Int := IntKind.i64.wrap x
theorem wr_def (x : Int) : wr x = (x + 9223372036854775808) % 18446744073709551616 - 9223372036854775808 := IntKind.wrap_i64 x
theorem wr_in (x : Int) (h : -9223372036854775808 ≤ x ∧ x ≤ 9223372036854775807) : wr x = x := IntWalk.i64_in x h
theorem wr_add (x y : Int) : wr (wr x + y) = wr (x + y) := by rw [wr_def, wr_def, wr_def]; omega
theorem wr_ran (x : Int) : -9223372036854775808 ≤ wr x ∧ wr x ≤ 9223372036854775807 := by rw [wr_def]; omega
/-- Are these numbers of 64 bits? -/
def PS.ok (p : PS) : Prop := wr p.f = p.f ∧ wr p.l = p.l ∧ wr p.c = p.c
def ad1 (p : PS) (b : UInt8) : PS := if b = 10 then ⟨p.f, wr (p.l + 1), 1⟩ else ⟨p.f, p.l, wr (p.c + 1)⟩
/-- The place behind a text. -/
def adv (fx : Bool) (p : PS) (t : List UInt8) : PS := if fx then p else t.foldl ad1 p
theorem adv_nil (fx : Bool) (p : PS) : adv fx p [] = p := by unfold adv; split <;> rfl
theorem adv_app (fx : Bool) (p : PS) (a b : List UInt8) : adv fx p (a ++ b) = adv fx (adv fx p a) b := by
  unfold adv
  split
  · rfl
  · rw [List.foldl_append]
theorem ad1_ok {p : PS} (h : p.ok) (b : UInt8) : (ad1 p b).ok := by
  obtain ⟨h1, h2, h3⟩ := h
  unfold ad1
  split
  · exact ⟨h1, by show wr (wr _) = wr _; rw [wr_in _ (wr_ran _)], by show wr 1 = 1; decide⟩
  · exact ⟨h1, h2, by show wr (wr _) = wr _; rw [wr_in _ (wr_ran _)]⟩
theorem adv_ok (fx : Bool) : ∀ (t : List UInt8) {p : PS}, p.ok → (adv fx p t).ok
  | [], p, h => by rw [adv_nil]; exact h
  | b :: t, p, h => by
    rw [show b :: t = [b] ++ t from rfl, adv_app]
    refine adv_ok fx t ?_
    unfold adv
    split
    · exact h
    · exact ad1_ok h b
def liL (t : List UInt8) : Int := lastIndexByte ⟨t.toArray⟩ 10
theorem lastIdx_congr (s r : ByteArray) (c : Int) : ∀ k, (∀ j, j < k → s.data[j]! = r.data[j]!) → lastIdx s c k = lastIdx r c k
  | 0, _ => rfl
  | k + 1, h => by
    simp only [lastIdx]
    rw [h k (by omega), lastIdx_congr s r c k fun j hj => h j (by omega)]
theorem liL_snoc (t : List UInt8) (b : UInt8) : liL (t ++ [b]) = if b = 10 then (t.length : Int) else liL t := by
  unfold liL lastIndexByte
  have hsz : (⟨(t ++ [b]).toArray⟩ : ByteArray).size = t.length + 1 := by show (t ++ [b]).length = _; simp
  have hsz2 : (⟨t.toArray⟩ : ByteArray).size = t.length := rfl
  rw [hsz, hsz2]
  have hb : (⟨(t ++ [b]).toArray⟩ : ByteArray).data[t.length]! = b := by
    show ((t ++ [b]).toArray)[t.length]! = b
    simp
  by_cases h : b = 10
  · rw [if_pos h, lastIdx_hit]
    rw [hb, h]; rfl
  · rw [if_neg h, lastIdx_miss]
    · exact lastIdx_congr _ _ _ _ fun j hj => by
        show ((t ++ [b]).toArray)[j]! = (t.toArray)[j]!
        simp [List.getElem?_append_left hj]
    · rw [hb]
      intro e
      apply h
      apply UInt8.toNat_inj.1
      have : b.toNat = 10 := by omega
      rw [this]; rfl
theorem liL_ran : ∀ (n : Nat) (t : List UInt8), t.length = n → -1 ≤ liL t ∧ liL t < t.length
  | n, t, hn => by
    have h := lastIndexByte_spec ⟨t.toArray⟩ 10
    have hsz2 : (⟨t.toArray⟩ : ByteArray).size = t.length := rfl
    unfold liL
    rcases h with ⟨e, _⟩ | ⟨i, hi, e, _⟩
    · rw [e]; omega
    · rw [e]; omega
/-- The place behind a text, as the program finds it. -/
theorem adv_chunk (p : PS) (hp : p.ok) : ∀ (n : Nat) (t : List UInt8), t.length = n → t.length < 4611686018427387904 → t.foldl ad1 p = if t.count 10 = 0 then ⟨p.f, p.l, wr (p.c + t.length)⟩ else ⟨p.f, wr (p.l + t.count 10), t.length - liL t⟩
  | 0, t, h, _ => by
    obtain rfl : t = [] := List.eq_nil_of_length_eq_zero h
    obtain ⟨h1, h2, h3⟩ := hp
    simp only [List.foldl_nil, List.count_nil, if_true, List.length_nil]
    rw [show p.c + ((0 : Nat) : Int) = p.c by omega, h3]
  | n + 1, t, h, hl => by
    obtain ⟨s, b, rfl⟩ : ∃ s b, t = s ++ [b] := ⟨t.dropLast, t.getLast (by rintro rfl; cases h), (List.dropLast_concat_getLast _).symm⟩
    have hs : s.length = n := by simpa using h
    have hran := liL_ran n s hs
    rw [List.foldl_append, adv_chunk p hp n s hs (by simp at hl; omega), liL_snoc, List.count_append]
    simp only [List.foldl_cons, List.foldl_nil, List.length_append, List.length_cons, List.length_nil, Nat.zero_add]
    have hl' : s.length < 4611686018427387903 := by simp at hl; omega
    by_cases hb : b = 10
    · have hc : List.count (10 : UInt8) [b] = 1 := by rw [hb]; rfl
      rw [hc, if_pos hb, if_neg (show ¬ (s.count 10 + 1 = 0) by omega)]
      by_cases h0 : s.count 10 = 0
      · rw [if_pos h0, h0]
        unfold ad1
        rw [if_pos hb]
        have e : (1 : Int) = ((s.length + 1 : Nat) : Int) - (s.length : Int) := by omega
        rw [← e]; rfl
      · rw [if_neg h0]
        unfold ad1
        rw [if_pos hb]
        have e : (1 : Int) = ((s.length + 1 : Nat) : Int) - (s.length : Int) := by omega
        rw [← e]
        show PS.mk p.f (wr (wr _ + 1)) 1 = _
        rw [wr_add, show p.l + ((s.count 10 : Nat) : Int) + 1 = p.l + ((s.count 10 + 1 : Nat) : Int) by omega]
    · have hc : List.count (10 : UInt8) [b] = 0 := by
        rw [List.count_eq_zero]
        intro hm
        exact hb (List.mem_singleton.1 hm).symm
      rw [hc, Nat.add_zero, if_neg hb]
      by_cases h0 : s.count 10 = 0
      · rw [if_pos h0, if_pos h0]
        unfold ad1
        rw [if_neg hb]
        show PS.mk p.f p.l (wr (wr _ + 1)) = _
        rw [wr_add, show p.c + ((s.length : Nat) : Int) + 1 = p.c + ((s.length + 1 : Nat) : Int) by omega]
      · rw [if_neg h0, if_neg h0]
        unfold ad1
        rw [if_neg hb]
        show PS.mk p.f _ (wr ((s.length : Int) - liL s + 1)) = _
        rw [wr_in ((s.length : Int) - liL s + 1) (by omega), show (s.length : Int) - liL s + 1 = ((s.length + 1 : Nat) : Int) - liL s by omega]
section
variable (nb : List UInt8 → Bool)
/-- The error of a word. -/
def ck (k : Nat) (t : List UInt8) : Int :=
  if t = [] then 7
  else if k = 1 then (if t = [36] ∨ 40 < t.length then 9 else 0)
  else if k = 2 then (if nb t then 0 else 7)
  else 0
def lexF (fx : Bool) : Nat → List UInt8 → PS → List TK → Except (PS × Int) (List TK)
  | 0, _, _, acc => .ok acc
  | f + 1, l, p, acc =>
    if l = [] then .ok acc
    else if ck nb (me l).1 (l.take (me l).2) ≠ 0 then .error (p, ck nb (me l).1 (l.take (me l).2))
    else if acc.length = 12000 then .error (p, 19)
    else lexF fx f ((l.drop (me l).2).drop (ah blkB (l.drop (me l).2))) (adv fx (adv fx p (l.take (me l).2)) ((l.drop (me l).2).take (ah blkB (l.drop (me l).2)))) (acc ++ [⟨(me l).1, l.take (me l).2, p⟩])
/-- The words of a piece behind others. -/
def lexP (fx : Bool) (l : List UInt8) (p : PS) (acc : List TK) : Except (PS × Int) (List TK) :=
  lexF nb fx (l.length + 1) (l.drop (ah blkB l)) (adv fx p (l.take (ah blkB l))) acc
/-- A piece. -/
structure PC where
  t : List UInt8
  p : PS
  fx : Bool
def lexL : List PC → List TK → Except (PS × Int) (List TK)
  | [], acc => .ok acc
  | q :: r, acc => match lexP nb q.fx q.t q.p acc with
    | .error e => .error e
    | .ok a => lexL r a
theorem ck_le {k : Nat} {t : List UInt8} (h : ck nb k t = 0) : t ≠ [] := by
  rintro rfl
  simp [ck] at h
/-- Is it a word by itself? -/
def wOK (x : TK) : Prop := x.t ≠ [] ∧ me x.t = (x.k, x.t.length) ∧ ck nb x.k x.t = 0 ∧ ∀ c, c ∈ x.t → blkB c.toNat = false
theorem me_pos {l : List UInt8} (h : ck nb (me l).1 (l.take (me l).2) = 0) : 0 < (me l).2 := by
  rcases Nat.eq_zero_or_pos (me l).2 with h0 | h0
  · rw [h0, List.take_zero] at h
    exact absurd rfl (ck_le nb h)
  · exact h0
theorem wOK_me {l : List UInt8} (p : PS) (h : ck nb (me l).1 (l.take (me l).2) = 0) : wOK nb ⟨(me l).1, l.take (me l).2, p⟩ := by
  have h0 := me_pos nb h
  have hle := me_le l
  refine ⟨ck_le nb h, ?_, h, me_blank l⟩
  show me (l.take (me l).2) = _
  rw [me_take l h0, List.length_take]
  rw [Nat.min_eq_left hle]
theorem lexF_ok (fx : Bool) : ∀ (f : Nat) (l : List UInt8) (p : PS) (acc out : List TK), lexF nb fx f l p acc = .ok out → (∀ x, x ∈ acc → wOK nb x) → acc.length ≤ 12000 → (∀ x, x ∈ out → wOK nb x) ∧ out.length ≤ 12000
  | 0, l, p, acc, out, h, ha, hl => by cases h; exact ⟨ha, hl⟩
  | f + 1, l, p, acc, out, h, ha, hl => by
    unfold lexF at h
    split at h
    · cases h; exact ⟨ha, hl⟩
    · split at h
      · cases h
      · split at h
        · cases h
        · rename_i h1 h2 h3
          refine lexF_ok fx f _ _ _ _ h (fun x hx => ?_) (by simp; omega)
          rcases List.mem_append.1 hx with hx | hx
          · exact ha x hx
          · rw [List.mem_singleton.1 hx]
            exact wOK_me nb p (by simpa using h2)
theorem lexL_ok : ∀ (q : List PC) (acc out : List TK), lexL nb q acc = .ok out → (∀ x, x ∈ acc → wOK nb x) → acc.length ≤ 12000 → (∀ x, x ∈ out → wOK nb x) ∧ out.length ≤ 12000
  | [], acc, out, h, ha, hl => by cases h; exact ⟨ha, hl⟩
  | q :: r, acc, out, h, ha, hl => by
    unfold lexL at h
    split at h
    · cases h
    · rename_i a hq
      obtain ⟨h1, h2⟩ := lexF_ok nb q.fx _ _ _ _ _ hq ha hl
      exact lexL_ok r a out h h1 h2
def exMap (a : List TK) : Except (PS × Int) (List TK) → Except (PS × Int) (List TK)
  | .error e => .error e
  | .ok o => .ok (a ++ o)
theorem lexF_acc (fx : Bool) (a : List TK) : ∀ (f : Nat) (l : List UInt8) (p : PS) (b : List TK), a.length + b.length + l.length ≤ 12000 → lexF nb fx f l p (a ++ b) = exMap a (lexF nb fx f l p b)
  | 0, l, p, b, h => rfl
  | f + 1, l, p, b, h => by
    unfold lexF
    by_cases hl : l = []
    · rw [if_pos hl, if_pos hl]; rfl
    · rw [if_neg hl, if_neg hl]
      have hlp : 0 < l.length := List.length_pos_iff.2 hl
      split
      · rfl
      · rename_i h1
        have h1' : ck nb (me l).1 (l.take (me l).2) = 0 := by simpa using h1
        have hp := me_pos nb h1'
        rw [if_neg (by simp; omega), if_neg (by omega), List.append_assoc]
        refine lexF_acc fx a f _ _ _ ?_
        simp only [List.length_append, List.length_drop, List.length_cons, List.length_nil]
        omega
theorem lexP_acc (fx : Bool) (a b : List TK) (l : List UInt8) (p : PS) (h : a.length + b.length + l.length ≤ 12000) : lexP nb fx l p (a ++ b) = exMap a (lexP nb fx l p b) := by
  unfold lexP
  refine lexF_acc nb fx a _ _ _ b ?_
  simp only [List.length_drop]
  omega
theorem lexF_len (fx : Bool) : ∀ (f : Nat) (l : List UInt8) (p : PS) (acc out : List TK), lexF nb fx f l p acc = .ok out → out.length ≤ acc.length + l.length
  | 0, l, p, acc, out, h => by cases h; omega
  | f + 1, l, p, acc, out, h => by
    unfold lexF at h
    split at h
    · cases h; omega
    · split at h
      · cases h
      · split at h
        · cases h
        · rename_i h1 h2 h3
          have h1' : ck nb (me l).1 (l.take (me l).2) = 0 := by simpa using h2
          have hp := me_pos nb h1'
          have hlp : 0 < l.length := List.length_pos_iff.2 h1
          have := lexF_len fx f _ _ _ _ h
          simp only [List.length_append, List.length_drop, List.length_cons, List.length_nil] at this
          omega
theorem lexP_len (fx : Bool) (l : List UInt8) (p : PS) (acc out : List TK) (h : lexP nb fx l p acc = .ok out) : out.length ≤ acc.length + l.length := by
  have := lexF_len nb fx _ _ _ _ _ h
  simp only [List.length_drop] at this
  omega
def catG : List (List UInt8 × TK) → List UInt8
  | [] => []
  | i :: r => i.1 ++ (i.2.t ++ catG r)
def plc (p : PS) : List (List UInt8 × TK) → List TK
  | [] => []
  | i :: r => ⟨i.2.k, i.2.t, adv false p i.1⟩ :: plc (adv false (adv false p i.1) i.2.t) r
theorem blank_head {t r : List UInt8} (h0 : t ≠ []) (h : ∀ c, c ∈ t → blkB c.toNat = false) : ah blkB (t ++ r) = 0 := by
  cases t with
  | nil => exact absurd rfl h0
  | cons c t =>
    simp only [List.cons_append, ah]
    rw [h c (List.mem_cons_self ..)]; rfl
/-- Words with blanks between are read as these words. -/
theorem lexF_gaps : ∀ (is : List (List UInt8 × TK)) (p : PS) (acc : List TK) (f : Nat), (∀ i, i ∈ is → wOK nb i.2 ∧ ∀ c, c ∈ i.1 → blkB c.toNat = true) → (∀ i, i ∈ is.tail → i.1 ≠ []) → acc.length + is.length ≤ 12000 → (catG is).length < f →
    lexF nb false f ((catG is).drop (ah blkB (catG is))) (adv false p ((catG is).take (ah blkB (catG is)))) acc = .ok (acc ++ plc p is)
  | [], p, acc, f, _, _, _, hf => by
    obtain ⟨g, rfl⟩ : ∃ g, f = g + 1 := ⟨f - 1, by omega⟩
    simp [catG, lexF, plc]
  | i :: r, p, acc, f, h, ht, hl, hf => by
    obtain ⟨g, rfl⟩ : ∃ g, f = g + 1 := ⟨f - 1, by omega⟩
    obtain ⟨⟨w1, w2, w3, w4⟩, hg⟩ := h i (List.mem_cons_self ..)
    have e1 : ah blkB (catG (i :: r)) = i.1.length := by
      show ah blkB (i.1 ++ (i.2.t ++ catG r)) = _
      rw [ah_app_all blkB _ _ hg, blank_head w1 w4]; omega
    have e2 : (catG (i :: r)).drop i.1.length = i.2.t ++ catG r := by
      show (i.1 ++ (i.2.t ++ catG r)).drop _ = _
      simp
    have e3 : (catG (i :: r)).take i.1.length = i.1 := by
      show (i.1 ++ (i.2.t ++ catG r)).take _ = _
      simp
    have hlen : (catG (i :: r)).length = i.1.length + (i.2.t.length + (catG r).length) := by
      show (i.1 ++ (i.2.t ++ catG r)).length = _
      simp
    have hwl : 0 < i.2.t.length := List.length_pos_iff.2 w1
    have hme : me (i.2.t ++ catG r) = (i.2.k, i.2.t.length) := by
      rw [← w2]
      cases r with
      | nil => show me (i.2.t ++ []) = _; rw [List.append_nil]
      | cons j r =>
        have hj0 : j.1 ≠ [] := ht j (by simp)
        have hjb := (h j (by simp)).2
        cases hjx : j.1 with
        | nil => exact absurd hjx hj0
        | cons b q =>
          show me (i.2.t ++ (j.1 ++ (j.2.t ++ catG r))) = _
          rw [hjx, List.cons_append]
          exact me_app _ _ b (hjb b (by rw [hjx]; exact List.mem_cons_self ..)) (by rw [w2]) w1
    rw [e1, e2, e3]
    unfold lexF
    rw [if_neg (by intro e; exact w1 (List.append_eq_nil_iff.1 e).1), hme]
    simp only [List.take_left', List.drop_left']
    rw [if_neg (by simpa using w3), if_neg (by simp at hl; omega)]
    have ih := lexF_gaps r (adv false (adv false p i.1) i.2.t) (acc ++ [⟨i.2.k, i.2.t, adv false p i.1⟩]) g (fun j hj => h j (List.mem_cons_of_mem _ hj)) (fun j hj => ht j (List.mem_of_mem_tail hj)) (by simp at hl ⊢; omega) (by omega)
    rw [ih, List.append_assoc]
    rfl
theorem lexP_gaps (is : List (List UInt8 × TK)) (p : PS) (h : ∀ i, i ∈ is → wOK nb i.2 ∧ ∀ c, c ∈ i.1 → blkB c.toNat = true) (ht : ∀ i, i ∈ is.tail → i.1 ≠ []) (hl : is.length ≤ 12000) : lexP nb false (catG is) p [] = .ok (plc p is) := by
  have := lexF_gaps nb is p [] ((catG is).length + 1) h ht (by simpa using hl) (Nat.lt_succ_self _)
  simpa [lexP] using this
end
end Go.Proofs.YtomjokpgcijccaaDoor
