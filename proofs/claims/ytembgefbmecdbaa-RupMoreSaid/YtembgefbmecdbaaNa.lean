/-
  Plain mathematics of the reference's Plain: what one literal more does to a clause in order.
-/
import Derived.Test.YtembgefbmecdbaaKs
import Derived.Laws.AppendOwnNone
namespace Go.Proofs.Ytembgefbmecdbaa
open Go.RowKit Go.Lib
theorem plF_snoc : ∀ (l out : List Int) (x : Int), plF out (l ++ [x]) = (plF out l).bind fun o => plS o x
  | [], out, x => by
    simp only [List.nil_append, plF, Option.bind]
    cases plS out x <;> rfl
  | y :: l, out, x => by
    rw [List.cons_append]
    unfold plF
    cases plS out y with
    | none => rfl
    | some o => exact plF_snoc l o x
/-- What a literal more does to the clause in order. -/
theorem plS_next (t : List Int) (x : Int) (hd : Dom (t ++ [x])) (ho : opB t = false) : plS (canon t) x = if opB (t ++ [x]) then none else some (canon (t ++ [x])) := by
  have h1 := plF_all (t ++ [x]) hd
  rw [plF_snoc, plF_all t (fun y hy => hd y (List.mem_append_left _ hy)), ho] at h1
  exact h1
theorem tw_take (p : Int → Bool) : ∀ (o : List Int) (k : Nat), k ≤ o.length → (∀ j, j < k → p (o.getD j 0) = true) → (k = o.length ∨ p (o.getD k 0) = false) → o.takeWhile p = o.take k ∧ o.dropWhile p = o.drop k
  | [], k, hk, _, _ => by simp
  | y :: o, 0, _, _, he => by
    have : p y = false := by
      rcases he with e | e
      · simp at e
      · simpa using e
    simp [this]
  | y :: o, k + 1, hk, h, he => by
    have hy : p y = true := by simpa using h 0 (by omega)
    have ih := tw_take p o k (by simpa using hk) (fun j hj => by simpa using h (j + 1) (by omega)) (by
      rcases he with e | e
      · exact Or.inl (by simpa using e)
      · exact Or.inr (by simpa using e))
    simp [hy, ih.1, ih.2]
def pB (x y : Int) : Bool := decide (max y (-y) ≤ max x (-x))
theorem plS_none (o : List Int) (x : Int) (k : Nat) (hk : k < o.length) (h : ∀ j, j < k → pB x (o.getD j 0) = true) (hp : pB x (o.getD k 0) = true) (he : o.getD k 0 = -x) : plS o x = none := by
  unfold plS
  rw [if_pos]
  have hsp : o = o.take k ++ o[k] :: o.drop (k + 1) := by rw [← List.drop_eq_getElem_cons hk, List.take_append_drop]
  have hk' : o.getD k 0 = o[k] := by simp [List.getD, List.getElem?_eq_getElem hk]
  rw [hk'] at hp he
  have hall : ∀ y, y ∈ o.take k → pB x y = true := fun y hy => by
    obtain ⟨j, hj, rfl⟩ := List.mem_iff_getElem.1 hy
    rw [List.length_take] at hj
    have := h j (by omega)
    simpa [List.getD, show j < o.length by omega] using this
  show (o.takeWhile (pB x)).contains (-x) = true
  rw [hsp, List.takeWhile_append_of_pos (fun y hy => hall y hy)]
  have : pB x o[k] = true := hp
  rw [List.takeWhile_cons_of_pos this]
  simp [he]
theorem plS_at (o : List Int) (x : Int) (k : Nat) (hk : k ≤ o.length) (h : ∀ j, j < k → pB x (o.getD j 0) = true ∧ o.getD j 0 ≠ -x) (he : k = o.length ∨ pB x (o.getD k 0) = false) :
    plS o x = if (o.take k).contains x then some o else some (o.take k ++ x :: o.drop k) := by
  have h1 := tw_take (pB x) o k hk (fun j hj => (h j hj).1) he
  unfold plS
  have e1 : (o.takeWhile fun y => decide (max y (-y) ≤ max x (-x))) = o.take k := h1.1
  have e2 : (o.dropWhile fun y => decide (max y (-y) ≤ max x (-x))) = o.drop k := h1.2
  rw [e1, e2, if_neg]
  intro hc
  have hm : -x ∈ o.take k := by simpa using hc
  obtain ⟨j, hj, hje⟩ := List.mem_iff_getElem.1 hm
  rw [List.length_take] at hj
  have := (h j (by omega)).2
  rw [List.getElem_take] at hje
  exact this (by simpa [List.getD, show j < o.length by omega] using hje)
theorem con_succ (o : List Int) (x : Int) (k : Nat) (hk : k < o.length) : (o.take (k + 1)).contains x = ((o.take k).contains x || o.getD k 0 == x) := by
  rw [List.take_succ_eq_append_getElem hk]
  have : o.getD k 0 = o[k] := by simp [List.getD, List.getElem?_eq_getElem hk]
  rw [this, Bool.eq_iff_iff]
  simp only [List.contains_iff_mem, List.mem_append, List.mem_singleton, Bool.or_eq_true, beq_iff_eq]
  constructor <;> (rintro (h | h) <;> simp_all)
theorem opB_mono {t l : List Int} (h : ∀ x, x ∈ t → x ∈ l) (ho : opB t = true) : opB l = true := by
  rw [opB_iff] at *
  obtain ⟨x, h1, h2⟩ := ho
  exact ⟨x, h x h1, h _ h2⟩
theorem take_snoc (l : List Int) (i : Nat) (h : i < l.length) : l.take (i + 1) = l.take i ++ [l.getD i 0] := by
  rw [List.take_succ_eq_append_getElem h]
  simp [List.getD, List.getElem?_eq_getElem h]
theorem getD_mem (l : List Int) (i : Nat) (h : i < l.length) : l.getD i 0 ∈ l := by
  rw [List.getD_eq_getElem?_getD, List.getElem?_eq_getElem h]
  exact List.getElem_mem _
set_option maxRecDepth 100000 in
theorem abs_t (x : Int) (h : -60000 ≤ x ∧ x ≤ 60000) (w : World) : Calls Try.prog 44 #[.int .i64 x] w fun e w' => e = .returned (.int .i64 (max x (-x))) ∧ w' = w := by
  by_cases hx : x < 0
  · have hw : IntKind.i64.wrap (-x) = max x (-x) := by rw [IntWalk.i64_in (n := -x) (by omega)]; omega
    have d1 : decide (x < 0) = true := by simpa using hx
    obtain ⟨m, hm⟩ : ∃ m, max x (-x) = m := ⟨_, rfl⟩
    rw [hm] at hw ⊢
    clear hm h
    go_enter Try.func44, Try.ntmps44
    go_wp2_with fail
    go_ret
    exact ⟨rfl, rfl⟩
  · have hm : max x (-x) = x := by omega
    rw [hm]
    have d1 : decide (x < 0) = false := by simpa using hx
    clear hm h
    go_enter Try.func44, Try.ntmps44
    go_wp2_with fail
    go_ret
    exact ⟨rfl, rfl⟩
section
variable {w : World} {ops : Array Oper} {rest : List Oper} {o : Oper} {a : Act} {Q : Exit → Act → World → Prop}
/-- An append of whatever slice of numbers behind a slice that the call owns. -/
theorem wpList_append_RL (hgd : o.guard = none) (s x : Operand) (ho : o.op = .call { callee := .builtin .append, args := #[s, x], argTypes := #[23, 23] })
    (base : Nat) (v : Value) (n : Nat) (xs : List Value) (hs : a.eval s = v) (hown : w.ownsRow base 3 1 v n xs)
    (A : Option Addr) (m c : Nat) (l : List Int) (hl : l.length = m) (hx : a.eval x = .slice A m c) (hnil : A = none → c = 0) (hR : RL w A l) (hm : n + m ≤ 1000000000) (hbase : base ≤ w.heap.size)
    (h : ∀ v' w', w'.ownsRow base 3 1 v' (n + m) (xs ++ iv l) → w.grownBy w' v.ownBlock → wpList Try.prog ops Q rest (a.put o.dst v') w') : wpList Try.prog ops Q (o :: rest) a w := by
  obtain ⟨i0, hi, hz0, hz1, hz2⟩ := info_parts info_int
  cases A with
  | none =>
    have hl0 : l = [] := by
      cases l with
      | nil => rfl
      | cons y l => obtain ⟨b, off, e, _⟩ := hR (by simp); cases e
    subst hl0
    obtain rfl : m = 0 := by simpa using hl.symm
    rw [hnil rfl] at hx
    refine wpList_append_own_none hgd s x 23 ho base 3 i0 1 Try.underlying23 hi v n xs hs hown hx (h v w ?_ ⟨rfl, rfl, rfl, Nat.le_refl _, fun _ _ _ => rfl⟩)
    simpa using hown
  | some ad =>
    refine wpList_append_own w hgd s x 23 ho base 3 i0 (.int .i64 0) 1 8 Try.underlying23 hi hz0 hz1 hz2 rfl (by decide) v n xs hs hown ad m c (iv l) hx (by rw [iv_len, hl]; omega) (fun j u hj => ?_) (iv_one l) (by unfold maxLen; omega) (by omega) hbase (fun v' w' h1 h2 _ => h v' w' h1 h2)
    have hlt : j < l.length := by
      rcases Nat.lt_or_ge j l.length with h' | h'
      · exact h'
      · rw [List.getElem?_eq_none (by simpa using h')] at hj; cases hj
    obtain ⟨b, off, e, _, hc⟩ := hR (by omega)
    cases e
    exact iv_cells hc j u hj
end
theorem RL_drop {w : World} {g : Nat} {o : List Int} (h : RL w (some ⟨g, 0, none⟩) o) (k : Nat) : RL w (some ⟨g, k, none⟩) (o.drop k) := fun h0 => by
  rw [List.length_drop] at h0
  obtain ⟨b, off, e, hb, hc⟩ := h (by omega)
  cases e
  refine ⟨g, k, rfl, hb, fun j hj => ?_⟩
  rw [List.length_drop] at hj
  have := hc (k + j) (by omega)
  rw [Nat.zero_add] at this
  rw [this]
  simp [List.getD]
theorem RL_nil (w : World) (A : Option Addr) : RL w A [] := fun h => absurd h (by simp)
theorem RL.take' {w : World} {A : Option Addr} {l : List Int} (h : RL w A l) (k : Nat) : RL w A (l.take k) := fun h0 => by
  rw [List.length_take] at h0
  obtain ⟨b, off, e, hb, hc⟩ := h (by omega)
  refine ⟨b, off, e, hb, fun j hj => ?_⟩
  rw [List.length_take] at hj
  rw [hc j (by omega)]
  simp [List.getD, show j < k by omega]
end Go.Proofs.Ytembgefbmecdbaa
