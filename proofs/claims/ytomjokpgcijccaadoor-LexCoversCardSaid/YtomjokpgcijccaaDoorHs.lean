/-
  Plain mathematics of words that are written with blanks between: they are read as the same words.
-/
import Derived.Test.YtomjokpgcijccaaDoorHp
import Derived.Test.YtomjokpgcijccaaDoorHl
namespace Go.Proofs.YtomjokpgcijccaaDoor
open Go.RowKit Go.Lib
/-- How many bytes the words have. -/
def tl : List TK → Nat
  | [] => 0
  | x :: r => x.t.length + tl r
theorem tl_app (a b : List TK) : tl (a ++ b) = tl a + tl b := by
  induction a with
  | nil => simp [tl]
  | cons x a ih => simp only [List.cons_append, tl, ih]; omega
theorem lexF_tl (nb : List UInt8 → Bool) (fx : Bool) : ∀ (f : Nat) (l : List UInt8) (p : PS) (acc out : List TK), lexF nb fx f l p acc = .ok out → tl out ≤ tl acc + l.length
  | 0, l, p, acc, out, h => by cases h; omega
  | f + 1, l, p, acc, out, h => by
    rw [lexF_step] at h
    split at h
    · cases h; omega
    · split at h
      · cases h
      · split at h
        · cases h
        · have := lexF_tl nb fx f _ _ _ _ h
          have hle := me_le l
          rw [tl_app] at this
          have e : tl [(⟨(me l).1, l.take (me l).2, p⟩ : TK)] = (me l).2 := by
            show (l.take (me l).2).length + 0 = _
            rw [List.length_take]; omega
          rw [e] at this
          simp only [List.length_drop] at this
          omega
def sumQ : List PC → Nat
  | [] => 0
  | q :: r => q.t.length + sumQ r
theorem lexL_tl (nb : List UInt8 → Bool) : ∀ (q : List PC) (acc out : List TK), lexL nb q acc = .ok out → tl out ≤ tl acc + sumQ q
  | [], acc, out, h => by cases h; simp [sumQ]
  | q :: r, acc, out, h => by
    unfold lexL at h
    split at h
    · cases h
    · rename_i a hq
      have h1 := lexF_tl nb q.fx _ _ _ _ _ hq
      have h2 := lexL_tl nb r a out h
      simp only [List.length_drop] at h1
      simp only [sumQ]
      omega
theorem sumQ_few (qs : List PC) (n : Nat) (h : ∀ q, q ∈ qs → q.t.length ≤ n) : sumQ qs ≤ qs.length * n := by
  induction qs with
  | nil => simp [sumQ]
  | cons q r ih =>
    have h1 := h q (List.mem_cons_self ..)
    have h2 := ih fun x hx => h x (List.mem_cons_of_mem _ hx)
    simp only [sumQ, List.length_cons, Nat.add_mul, Nat.one_mul]
    omega
theorem len_tl (l : List TK) (h : ∀ x, x ∈ l → x.t ≠ []) : l.length ≤ tl l := by
  induction l with
  | nil => simp
  | cons x r ih =>
    have h1 : 0 < x.t.length := List.length_pos_iff.2 (h x (List.mem_cons_self ..))
    have h2 := ih fun y hy => h y (List.mem_cons_of_mem _ hy)
    simp only [tl, List.length_cons]
    omega
/-- The words, a gap ahead of the first, a blank ahead of each other one. -/
def itG : List UInt8 → List TK → List (List UInt8 × TK)
  | _, [] => []
  | g, x :: r => (g, x) :: itG [32] r
theorem itG_mem : ∀ (g : List UInt8) (l : List TK) (i : List UInt8 × TK), i ∈ itG g l → i.2 ∈ l ∧ (i.1 = g ∨ i.1 = [32])
  | _, [], i, h => by simp [itG] at h
  | g, x :: r, i, h => by
    simp only [itG, List.mem_cons] at h
    rcases h with rfl | h
    · exact ⟨List.mem_cons_self .., Or.inl rfl⟩
    · have := itG_mem [32] r i h
      exact ⟨List.mem_cons_of_mem _ this.1, Or.inr (by rcases this.2 with h | h <;> exact h)⟩
theorem itG_len (g : List UInt8) (l : List TK) : (itG g l).length = l.length := by
  induction l generalizing g with
  | nil => rfl
  | cons x r ih => simp [itG, ih]
theorem cat_join : ∀ (x : TK) (r : List TK), catG (itG [] (x :: r)) = Lib.join ((x :: r).map TK.t) [32]
  | x, [] => by simp [itG, catG, Lib.join]
  | x, y :: r => by
    have ih := cat_join y r
    simp only [itG, catG, List.nil_append, List.map_cons, Lib.join] at ih ⊢
    simp [ih]
theorem adv_row (c : Int) : ∀ (t : List UInt8), (10 : UInt8) ∉ t → 0 ≤ c → c + t.length < 1000000000 → adv false ⟨1, 1, c⟩ t = ⟨1, 1, c + t.length⟩ := by
  intro t
  induction t generalizing c with
  | nil => intro _ _ _; rw [adv_nil]; simp
  | cons b t ih =>
    intro h h0 hc
    have hb : b ≠ 10 := fun e => h (e ▸ List.mem_cons_self ..)
    simp only [List.length_cons] at hc
    rw [show b :: t = [b] ++ t from rfl, adv_app]
    have e : adv false ⟨1, 1, c⟩ [b] = ⟨1, 1, c + 1⟩ := by
      show ad1 _ b = _
      unfold ad1
      rw [if_neg hb]
      show PS.mk 1 1 (wr (c + 1)) = _
      rw [wr_in _ (by omega)]
    rw [e, ih (c + 1) (fun hm => h (List.mem_cons_of_mem _ hm)) (by omega) (by omega)]
    congr 1
    simp; omega
/-- The words in one line, a blank between. -/
def plT (c : Int) : List TK → List TK
  | [] => []
  | x :: r => ⟨x.k, x.t, ⟨1, 1, c⟩⟩ :: plT (c + x.t.length + 1) r
theorem no_feed {nb : List UInt8 → Bool} {x : TK} (h : wOK nb x) : (10 : UInt8) ∉ x.t := fun hm => by
  have := h.2.2.2 10 hm
  exact absurd this (by decide)
theorem plc_row (nb : List UInt8 → Bool) : ∀ (l : List TK) (g : List UInt8) (c : Int), (∀ x, x ∈ l → wOK nb x) → (10 : UInt8) ∉ g → 0 ≤ c → c + g.length + tl l + l.length < 1000000000 → plc ⟨1, 1, c⟩ (itG g l) = plT (c + g.length) l
  | [], _, _, _, _, _, _ => rfl
  | x :: r, g, c, h, hg, h0, hc => by
    simp only [tl, List.length_cons] at hc
    have hx := no_feed (h x (List.mem_cons_self ..))
    simp only [itG, plc, plT]
    rw [adv_row c g hg h0 (by omega), adv_row (c + g.length) x.t hx (by omega) (by omega)]
    rw [plc_row nb r [32] (c + g.length + x.t.length) (fun y hy => h y (List.mem_cons_of_mem _ hy)) (by decide) (by omega) (by simp; omega)]
    rfl
/-- The column of each word. -/
def cAt (c : Int) : List TK → Nat → Int
  | _, 0 => c
  | [], _ + 1 => c
  | x :: r, i + 1 => cAt (c + x.t.length + 1) r i
theorem cAt_zero (c : Int) (l : List TK) : cAt c l 0 = c := by cases l <;> rfl
theorem plT_len (c : Int) (l : List TK) : (plT c l).length = l.length := by
  induction l generalizing c with
  | nil => rfl
  | cons x r ih => simp [plT, ih]
theorem plT_get : ∀ (l : List TK) (c : Int) (i : Nat) (h : i < l.length) (h' : i < (plT c l).length), (plT c l)[i] = ⟨l[i].k, l[i].t, ⟨1, 1, cAt c l i⟩⟩
  | [], c, i, h, _ => by simp at h
  | x :: r, c, 0, _, _ => rfl
  | x :: r, c, i + 1, h, h' => by
    simp only [plT, List.getElem_cons_succ, cAt]
    exact plT_get r _ i (by simpa using h) _
theorem cAt_next : ∀ (l : List TK) (c : Int) (i : Nat) (h : i < l.length), cAt c l (i + 1) = cAt c l i + l[i].t.length + 1
  | [], c, i, h => by simp at h
  | x :: r, c, 0, _ => by
    simp only [cAt, cAt_zero, List.getElem_cons_zero]
  | x :: r, c, i + 1, h => by
    simp only [List.getElem_cons_succ, cAt]
    exact cAt_next r _ i (by simpa using h)
theorem cAt_le : ∀ (l : List TK) (c : Int) (i : Nat), i ≤ l.length → c ≤ cAt c l i ∧ cAt c l i ≤ c + tl l + l.length
  | [], c, 0, _ => by simp [cAt, tl]
  | [], c, i + 1, h => by simp at h
  | x :: r, c, 0, _ => by simp only [cAt, tl, List.length_cons]; omega
  | x :: r, c, i + 1, h => by
    have := cAt_le r (c + x.t.length + 1) i (by simpa using h)
    simp only [cAt, tl, List.length_cons]
    omega
theorem plT_texts (c : Int) (l : List TK) : (plT c l).map TK.t = l.map TK.t := by
  induction l generalizing c with
  | nil => rfl
  | cons x r ih => simp [plT, ih]
theorem join_two (x y : List UInt8) (r : List (List UInt8)) (s : List UInt8) : Lib.join (x :: y :: r) s = x ++ (s ++ Lib.join (y :: r) s) := by simp [Lib.join]
theorem join_len : ∀ (l : List TK), (Lib.join (l.map TK.t) [32]).length ≤ tl l + l.length
  | [] => by simp [Lib.join]
  | [x] => by simp [Lib.join, tl]
  | x :: y :: r => by
    have ih := join_len (y :: r)
    simp only [List.map_cons, tl, List.length_cons] at ih ⊢
    rw [join_two, List.length_append, List.length_append]
    simp only [List.length_cons, List.length_nil]
    omega
/-- Words that are written with blanks between are read again as the same. -/
theorem lex_again (nb : List UInt8 → Bool) (a : List TK) (h : ∀ x, x ∈ a → wOK nb x) (hs : tl a ≤ 100000) (hn : a.length ≤ 12000) : lexL nb [⟨Lib.join (a.map TK.t) [32], ⟨1, 1, 1⟩, false⟩] [] = .ok (plT 1 a) := by
  rw [lexL_one]
  cases a with
  | nil => rfl
  | cons x r =>
    rw [← cat_join]
    have := lexP_gaps nb (itG [] (x :: r)) ⟨1, 1, 1⟩ (fun i hi => by
      obtain ⟨h1, h2⟩ := itG_mem [] (x :: r) i hi
      refine ⟨h i.2 h1, fun c hc => ?_⟩
      rcases h2 with h2 | h2 <;> rw [h2] at hc
      · simp at hc
      · rw [List.mem_singleton.1 hc]; decide) (fun i hi => by
      simp only [itG, List.tail_cons] at hi
      have := (itG_mem [32] r i hi).2
      rcases this with h | h <;> rw [h] <;> simp) (by rw [itG_len]; exact hn)
    rw [this, plc_row nb (x :: r) [] 1 h (by simp) (by omega) (by simp at hn ⊢; omega)]
    rfl
end Go.Proofs.YtomjokpgcijccaaDoor
