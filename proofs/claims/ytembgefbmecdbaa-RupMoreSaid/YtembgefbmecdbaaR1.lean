/-
  Plain mathematics of watched literals: what holds of the trail, the stored clauses and the watches; a visit keeps it; in the end nothing is left to follow, and all that stands on the trail follows.
  Plain mathematics of a visit: what a clause that keeps its watches, moves one, or makes its other literal true leaves; the lists of watches.
-/
import Derived.Test.YtembgefbmecdbaaJa
namespace Go.Proofs.Ytembgefbmecdbaa
/-- The two watched literals of a clause, in either order. -/
def Wa (c : List Int) (a b : Int) : Prop := (c[0]? = some a ∧ c[1]? = some b) ∨ (c[0]? = some b ∧ c[1]? = some a)
/-- Trail, clauses, watches. -/
structure Wf (V : Nat) (T : List Int) (K : List (List Int)) : Prop where
  tn : T.Nodup
  tv : ∀ x, x ∈ T → x ≠ 0 ∧ x ≤ V ∧ -x ≤ V
  to : ∀ x, x ∈ T → -x ∉ T
  kl : ∀ c, c ∈ K → 2 ≤ c.length ∧ c.Nodup ∧ ∀ x, x ∈ c → x ≠ 0 ∧ x ≤ V ∧ -x ≤ V
/-- Of each clause but those of R: where one watched literal is false by P, the other is true by Q. -/
def PW (K : List (List Int)) (R : Nat → Prop) (P Q : Int → Prop) : Prop := ∀ i c, K[i]? = some c → ¬ R i → ∀ a b, Wa c a b → P (-a) → Q b
theorem PW.mono {K : List (List Int)} {R R' : Nat → Prop} {P P' Q Q' : Int → Prop} (h : PW K R P Q) (hR : ∀ i, R i → R' i) (hP : ∀ x, P' x → P x) (hQ : ∀ x, Q x → Q' x) : PW K R' P' Q' :=
  fun i c hc hn a b hw hp => hQ b (h i c hc (fun k => hn (hR i k)) a b hw (hP _ hp))
theorem Wa.mem {c : List Int} {a b : Int} (h : Wa c a b) : a ∈ c ∧ b ∈ c := by
  rcases h with ⟨h1, h2⟩ | ⟨h1, h2⟩
  · exact ⟨List.mem_of_getElem? h1, List.mem_of_getElem? h2⟩
  · exact ⟨List.mem_of_getElem? h2, List.mem_of_getElem? h1⟩
theorem Wa.ne {c : List Int} {a b : Int} (h : Wa c a b) (hn : c.Nodup) : a ≠ b := by
  rintro rfl
  have key : ∀ x, c[0]? = some x → c[1]? = some x → False := by
    intro x h0 h1
    match c, h0, h1 with
    | y :: z :: l, h0, h1 =>
      simp only [List.getElem?_cons_zero, List.getElem?_cons_succ, Option.some.injEq] at h0 h1
      rw [h0, h1] at hn
      exact (List.nodup_cons.1 hn).1 (List.mem_cons_self ..)
    | [y], _, h1 => simp at h1
    | [], h0, _ => simp at h0
  rcases h with ⟨h1, h2⟩ | ⟨h1, h2⟩
  · exact key a h1 h2
  · exact key a h1 h2
theorem Wa.ex {c : List Int} (h : 2 ≤ c.length) : ∃ a b, c[0]? = some a ∧ c[1]? = some b ∧ Wa c a b := by
  match c, h with
  | a :: b :: l, _ => exact ⟨a, b, rfl, rfl, .inl ⟨rfl, rfl⟩⟩
/-- When all that is on the trail has been propagated, each clause has a true literal or two that are not false. -/
theorem Wf.done {V : Nat} {T : List Int} {K : List (List Int)} (h : Wf V T K) (hp : PW K (fun _ => False) (· ∈ T) (· ∈ T)) : ∀ c, c ∈ K → (∃ x, x ∈ c ∧ x ∈ T) ∨ ∃ x y, x ∈ c ∧ y ∈ c ∧ x ≠ y ∧ ¬ -x ∈ T ∧ ¬ -y ∈ T := by
  intro c hc
  obtain ⟨i, hi⟩ := List.getElem?_of_mem hc
  obtain ⟨h2, hn, _⟩ := h.kl c hc
  obtain ⟨a, b, ha, hb, hw⟩ := Wa.ex h2
  by_cases e1 : -a ∈ T
  · exact .inl ⟨b, hw.mem.2, hp i c hi (fun f => f) a b hw e1⟩
  · by_cases e2 : -b ∈ T
    · exact .inl ⟨a, hw.mem.1, hp i c hi (fun f => f) b a (.inr ⟨ha, hb⟩) e2⟩
    · exact .inr ⟨a, b, hw.mem.1, hw.mem.2, hw.ne hn, e1, e2⟩
/-- Clause i in another order, of which two literals are watched that are not false by P, or whose other literal is true. -/
theorem PW.put {K : List (List Int)} {R : Nat → Prop} {P Q : Int → Prop} {i : Nat} {c : List Int} (h : PW K R P Q) (hi : i < K.length)
    (hc : ∀ a b, Wa c a b → P (-a) → Q b) : PW (K.set i c) (fun j => R j ∧ j ≠ i) P Q := by
  intro j d hd hn a b hw hp
  by_cases e : j = i
  · subst e
    rw [List.getElem?_set_self (by omega)] at hd
    cases hd
    exact hc a b hw hp
  · rw [List.getElem?_set_ne (fun h' => e h'.symm)] at hd
    exact h j d hd (fun hr => hn ⟨hr, e⟩) a b hw hp
theorem Wf.put {V : Nat} {T : List Int} {K : List (List Int)} (h : Wf V T K) {i : Nat} {c d : List Int} (hc : K[i]? = some c) (hp : d.Perm c) : Wf V T (K.set i d) :=
  { tn := h.tn, tv := h.tv, to := h.to
    kl := fun e he => by
      obtain ⟨h1, h2, h3⟩ := h.kl c (List.mem_of_getElem? hc)
      rcases List.mem_or_eq_of_mem_set he with k | k
      · exact h.kl e k
      · subst k
        exact ⟨by rw [hp.length_eq]; exact h1, hp.nodup_iff.2 h2, fun x hx => h3 x (hp.mem_iff.1 hx)⟩ }
theorem Wf.assign {V : Nat} {T : List Int} {K : List (List Int)} (h : Wf V T K) {x : Int} (hx : x ≠ 0 ∧ x ≤ V ∧ -x ≤ V) (h1 : x ∉ T) (h2 : -x ∉ T) : Wf V (T ++ [x]) K :=
  { tn := by
      rw [List.nodup_append]
      refine ⟨h.tn, by simp, fun a ha b hb => ?_⟩
      rw [List.mem_singleton.1 hb]
      exact fun e => h1 (e ▸ ha)
    tv := fun y hy => by
      rcases List.mem_append.1 hy with k | k
      · exact h.tv y k
      · rw [List.mem_singleton.1 k]; exact hx
    to := fun y hy hn => by
      rcases List.mem_append.1 hy with k | k <;> rcases List.mem_append.1 hn with l | l
      · exact h.to y k l
      · exact h2 (by rw [List.mem_singleton] at l; rw [← l, Int.neg_neg]; exact k)
      · rw [List.mem_singleton.1 k] at l; exact h2 l
      · rw [List.mem_singleton] at k l; omega
    kl := h.kl }
/-- The clauses that were given, and what is stored of them: each given clause has a literal that is true ahead of all, or is stored without literals that are false ahead of all, or is empty then and refuted, or one literal is left, which is true ahead of all. -/
def Sto (cs K : List (List Int)) (T : Int → Prop) : Prop :=
  (∀ c, c ∈ cs → (∃ x, x ∈ c ∧ T x) ∨ ∃ d, d ∈ K ∧ ∀ x, x ∈ d → x ∈ c) ∧ ∀ d, d ∈ K → ∃ c, c ∈ cs ∧ (∀ x, x ∈ d → x ∈ c) ∧ ∀ x, x ∈ c → x ∈ d ∨ T (-x)
/-- COMPLETE: propagation that has come to its end without a fault does not fail. -/
theorem Wf.complete {V : Nat} {T : List Int} {K cs : List (List Int)} {A : Int → Prop} {S : Int → Prop} (h : Wf V T K) (hp : PW K (fun _ => False) (· ∈ T) (· ∈ T)) (hA : ∀ x, A x → x ∈ T) (hS : ∀ x, S x → x ∈ T) (hs : Sto cs K S) : ¬ Fails cs A :=
  not_Fails (T := (· ∈ T)) hA h.to fun c hc => by
    rcases hs.1 c hc with ⟨x, hx, ht⟩ | ⟨d, hd, hsub⟩
    · exact .inl ⟨x, hx, hS x ht⟩
    · rcases h.done hp d hd with ⟨x, hx, ht⟩ | ⟨x, y, hx, hy, hne, h1, h2⟩
      · exact .inl ⟨x, hsub x hx, ht⟩
      · exact .inr ⟨x, y, hsub x hx, hsub y hy, hne, h1, h2⟩
/-- SOUND: a stored clause all of whose other literals are false by what follows makes the last one true. -/
theorem Sto.unit {cs K : List (List Int)} {A S : Int → Prop} (hs : Sto cs K S) (hS : ∀ x, S x → Up cs A x) {d : List Int} (hd : d ∈ K) {x : Int} (hx : x ∈ d) (ho : ∀ y, y ∈ d → y ≠ x → Up cs A (-y)) : Up cs A x := by
  obtain ⟨c, hc, hsub, hall⟩ := hs.2 d hd
  refine .unit c x hc (hsub x hx) fun y hy hne => ?_
  rcases hall y hy with k | k
  · exact ho y k hne
  · exact hS _ k
theorem Sto.false {cs K : List (List Int)} {A S : Int → Prop} (hs : Sto cs K S) (hS : ∀ x, S x → Up cs A x) {d : List Int} (hd : d ∈ K) (ho : ∀ y, y ∈ d → Up cs A (-y)) : Fails cs A := by
  obtain ⟨c, hc, _, hall⟩ := hs.2 d hd
  refine .inl ⟨c, hc, fun y hy => ?_⟩
  rcases hall y hy with k | k
  · exact ho y k
  · exact hS _ k
end Go.Proofs.Ytembgefbmecdbaa
namespace Go.Proofs.Ytembgefbmecdbaa
theorem PW.perm {K : List (List Int)} {R : Nat → Prop} {P Q : Int → Prop} {i : Nat} {c d : List Int} (h : PW K R P Q) (hi : K[i]? = some c) (hw : ∀ a b, Wa d a b → Wa c a b) : PW (K.set i d) R P Q := by
  intro j e he hn a b hab hp
  have hl : i < K.length := by
    rcases Nat.lt_or_ge i K.length with k | k
    · exact k
    · rw [List.getElem?_eq_none k] at hi; cases hi
  by_cases k : j = i
  · subst k
    rw [List.getElem?_set_self hl] at he
    cases he
    exact h j c hi hn a b (hw a b hab) hp
  · rw [List.getElem?_set_ne (fun h' => k h'.symm)] at he
    exact h j e he hn a b hab hp
/-- The clause i watches o in the place of l: l was not true by Q, o is not false by P. -/
theorem PW.move {K : List (List Int)} {R : Nat → Prop} {P Q : Int → Prop} {i : Nat} {c d : List Int} {a l o : Int} (h : PW K R P Q) (hi : K[i]? = some c) (hn : ¬ R i) (hc : Wa c a l) (hd : ∀ x y, Wa d x y → (x = a ∧ y = o) ∨ (x = o ∧ y = a)) (hl : ¬ Q l) (ho : ¬ P (-o)) : PW (K.set i d) R P Q := by
  intro j e he hr x y hxy hp
  have hlen : i < K.length := by
    rcases Nat.lt_or_ge i K.length with k | k
    · exact k
    · rw [List.getElem?_eq_none k] at hi; cases hi
  by_cases k : j = i
  · subst k
    rw [List.getElem?_set_self hlen] at he
    cases he
    rcases hd x y hxy with ⟨rfl, rfl⟩ | ⟨rfl, rfl⟩
    · exact absurd (h j c hi hn x l hc hp) hl
    · exact absurd hp ho
  · rw [List.getElem?_set_ne (fun h' => k h'.symm)] at he
    exact h j e he hr x y hxy hp
/-- One clause of the rest has been looked at: its watches are fine now. -/
theorem PW.one {K : List (List Int)} {R : Nat → Prop} {P Q : Int → Prop} {i : Nat} {d : List Int} (h : PW (K.set i d) (fun j => R j ∨ j = i) P Q) (hi : i < K.length) (hd : ∀ x y, Wa d x y → P (-x) → Q y) : PW (K.set i d) R P Q := by
  intro j e he hn x y hxy hp
  by_cases k : j = i
  · subst k
    rw [List.getElem?_set_self hi] at he
    cases he
    exact hd x y hxy hp
  · exact h j e he (fun f => by rcases f with f | f <;> contradiction) x y hxy hp
theorem Wa.two {a b : Int} {l : List Int} {x y : Int} (h : Wa (a :: b :: l) x y) : (x = a ∧ y = b) ∨ (x = b ∧ y = a) := by
  rcases h with ⟨h1, h2⟩ | ⟨h1, h2⟩ <;> simp at h1 h2
  · exact .inl ⟨h1.symm, h2.symm⟩
  · exact .inr ⟨h2.symm, h1.symm⟩
theorem Wa.swap {a b : Int} {l : List Int} {x y : Int} (h : Wa (b :: a :: l) x y) : Wa (a :: b :: l) x y := by
  rcases h.two with ⟨rfl, rfl⟩ | ⟨rfl, rfl⟩
  · exact .inr ⟨rfl, rfl⟩
  · exact .inl ⟨rfl, rfl⟩
/-- Each clause stands once in the list of each of its watched literals, and in no other. -/
structure WW (K : List (List Int)) (W : Int → List Nat) : Prop where
  nd : ∀ x, (W x).Nodup
  me : ∀ x i, i ∈ W x ↔ ∃ c y, K[i]? = some c ∧ Wa c x y
theorem lt_of_some {α : Type} {K : List α} {i : Nat} {c : α} (h : K[i]? = some c) : i < K.length := by
  rcases Nat.lt_or_ge i K.length with k | k
  · exact k
  · rw [List.getElem?_eq_none k] at h; cases h
/-- The clause keeps its watches, perhaps in the other order. -/
theorem WW.perm {K : List (List Int)} {W : Int → List Nat} (h : WW K W) {i : Nat} {c d : List Int} (hi : K[i]? = some c) (hw : ∀ a b, Wa d a b ↔ Wa c a b) : WW (K.set i d) W :=
  { nd := h.nd
    me := fun x j => by
      rw [h.me]
      by_cases k : j = i
      · subst k
        rw [List.getElem?_set_self (lt_of_some hi), hi]
        constructor
        · rintro ⟨e, y, he, hy⟩; cases he; exact ⟨d, y, rfl, (hw x y).2 hy⟩
        · rintro ⟨e, y, he, hy⟩; cases he; exact ⟨c, y, rfl, (hw x y).1 hy⟩
      · rw [List.getElem?_set_ne (fun h' => k h'.symm)] }
/-- The clause i leaves l's list for o's. -/
theorem WW.move {K : List (List Int)} {W : Int → List Nat} (h : WW K W) {i : Nat} {c d : List Int} {a l o : Int} (hi : K[i]? = some c) (hc : ∀ x y, Wa c x y ↔ (x = a ∧ y = l) ∨ (x = l ∧ y = a)) (hd : ∀ x y, Wa d x y ↔ (x = a ∧ y = o) ∨ (x = o ∧ y = a)) (hal : a ≠ l) (hol : o ≠ l) (hoa : o ≠ a) :
    WW (K.set i d) (fun x => if x = l then (W l).erase i else if x = o then W o ++ [i] else W x) :=
  { nd := fun x => by
      by_cases k1 : x = l
      · rw [if_pos k1]; exact (h.nd l).erase i
      · rw [if_neg k1]
        by_cases k2 : x = o
        · rw [if_pos k2, List.nodup_append]
          refine ⟨h.nd o, by simp, fun b hb b' hb' e => ?_⟩
          rw [List.mem_singleton] at hb'
          subst hb'
          subst e
          obtain ⟨e, y, he, hy⟩ := (h.me o b).1 hb
          rw [hi] at he
          cases he
          rcases (hc o y).1 hy with ⟨q, _⟩ | ⟨q, _⟩
          · exact hoa q
          · exact hol q
        · rw [if_neg k2]; exact h.nd x
    me := fun x j => by
      have hset : ∀ e y, ((K.set i d)[j]? = some e ∧ Wa e x y) ↔ (j = i ∧ e = d ∧ ((x = a ∧ y = o) ∨ (x = o ∧ y = a))) ∨ (j ≠ i ∧ K[j]? = some e ∧ Wa e x y) := by
        intro e y
        by_cases k : j = i
        · subst k
          rw [List.getElem?_set_self (lt_of_some hi)]
          constructor
          · rintro ⟨q1, q2⟩; cases q1; exact .inl ⟨rfl, rfl, (hd x y).1 q2⟩
          · rintro (⟨_, rfl, q⟩ | ⟨q, _⟩)
            · exact ⟨rfl, (hd x y).2 q⟩
            · exact absurd rfl q
        · rw [List.getElem?_set_ne (fun h' => k h'.symm)]
          constructor
          · rintro ⟨q1, q2⟩; exact .inr ⟨k, q1, q2⟩
          · rintro (⟨q, _⟩ | ⟨_, q1, q2⟩)
            · exact absurd q k
            · exact ⟨q1, q2⟩
      have hr : (∃ e y, (K.set i d)[j]? = some e ∧ Wa e x y) ↔ (j = i ∧ (x = a ∨ x = o)) ∨ (j ≠ i ∧ j ∈ W x) := by
        constructor
        · rintro ⟨e, y, q⟩
          rcases (hset e y).1 q with ⟨q1, _, q2⟩ | ⟨q1, q2, q3⟩
          · exact .inl ⟨q1, by rcases q2 with ⟨q, _⟩ | ⟨q, _⟩ <;> simp [q]⟩
          · exact .inr ⟨q1, (h.me x j).2 ⟨e, y, q2, q3⟩⟩
        · rintro (⟨q1, q2⟩ | ⟨q1, q2⟩)
          · rcases q2 with q2 | q2
            · exact ⟨d, o, (hset d o).2 (.inl ⟨q1, rfl, .inl ⟨q2, rfl⟩⟩)⟩
            · exact ⟨d, a, (hset d a).2 (.inl ⟨q1, rfl, .inr ⟨q2, rfl⟩⟩)⟩
          · obtain ⟨e, y, q3, q4⟩ := (h.me x j).1 q2
            exact ⟨e, y, (hset e y).2 (.inr ⟨q1, q3, q4⟩)⟩
      have hia : i ∈ W x ↔ x = a ∨ x = l := by
        rw [h.me]
        constructor
        · rintro ⟨e, y, he, hy⟩
          rw [hi] at he
          cases he
          rcases (hc x y).1 hy with ⟨q, _⟩ | ⟨q, _⟩ <;> simp [q]
        · rintro (q | q)
          · exact ⟨c, l, hi, (hc x l).2 (.inl ⟨q, rfl⟩)⟩
          · exact ⟨c, a, hi, (hc x a).2 (.inr ⟨q, rfl⟩)⟩
      rw [hr]
      by_cases k1 : x = l
      · rw [if_pos k1, (h.nd l).mem_erase_iff]
        subst k1
        constructor
        · rintro ⟨q1, q2⟩; exact .inr ⟨q1, q2⟩
        · rintro (⟨_, q | q⟩ | ⟨q1, q2⟩)
          · exact absurd q.symm hal
          · exact absurd q.symm hol
          · exact ⟨q1, q2⟩
      · rw [if_neg k1]
        by_cases k2 : x = o
        · rw [if_pos k2, List.mem_append, List.mem_singleton]
          subst k2
          constructor
          · rintro (q | q)
            · by_cases k : j = i
              · exact .inl ⟨k, .inr rfl⟩
              · exact .inr ⟨k, q⟩
            · exact .inl ⟨q, .inr rfl⟩
          · rintro (⟨q, _⟩ | ⟨_, q⟩)
            · exact .inr q
            · exact .inl q
        · rw [if_neg k2]
          constructor
          · intro q
            by_cases k : j = i
            · subst k
              rcases hia.1 q with q' | q'
              · exact .inl ⟨rfl, .inl q'⟩
              · exact absurd q' k1
            · exact .inr ⟨k, q⟩
          · rintro (⟨q1, q2 | q2⟩ | ⟨_, q⟩)
            · subst q1; exact hia.2 (.inl q2)
            · exact absurd q2 k2
            · exact q }
end Go.Proofs.Ytembgefbmecdbaa
