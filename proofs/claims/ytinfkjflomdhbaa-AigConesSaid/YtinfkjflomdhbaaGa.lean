/-
  And-inverter graphs, plain: the literals of each node, what the gates make, and what the nodes' values are; nothing here speaks of the program.
-/
import Derived.WalkKit
namespace Go.Proofs.Ytinfkjflomdhbaa
open Go
abbrev PN := Nat × Nat
/-- The negation of a literal. -/
def nt (a : Nat) : Nat := if a % 2 = 0 then a + 1 else a - 1
theorem nt_div (a : Nat) : nt a / 2 = a / 2 := by unfold nt; split <;> omega
theorem nt_nt (a : Nat) : nt (nt a) = a := by
  unfold nt
  split
  · rw [if_neg (by omega)]; omega
  · rw [if_pos (by omega)]; omega
theorem nt_ne (a : Nat) : nt a ≠ a := by unfold nt; split <;> omega
theorem nt_mod (a : Nat) : (nt a % 2 == 1) = !(a % 2 == 1) := by
  unfold nt
  split
  · rename_i h
    rw [show (a + 1) % 2 = 1 by omega, h]; rfl
  · rename_i h
    rw [show a % 2 = 1 by omega, show (a - 1) % 2 = 0 by omega]; rfl
def isV (vals : List Bool) (lit : Nat) : Bool := if lit / 2 < vals.length then (vals.getD (lit / 2) false) != (lit % 2 == 1) else false
theorem isV_append (v x : List Bool) (lit : Nat) (h : lit / 2 < v.length) : isV (v ++ x) lit = isV v lit := by
  unfold isV
  rw [if_pos h, if_pos (by rw [List.length_append]; omega), List.getD_eq_getElem?_getD, List.getD_eq_getElem?_getD, List.getElem?_append_left h]
theorem isV_nt (v : List Bool) (lit : Nat) (h : lit / 2 < v.length) : isV v (nt lit) = !isV v lit := by
  unfold isV
  rw [nt_div, if_pos h, if_pos h, nt_mod]
  cases v.getD (lit / 2) false <;> cases (lit % 2 == 1) <;> rfl
/-- One node more: the values so far, the inputs that are left. -/
def stepV (s : List Bool × List Bool) (p : PN) : List Bool × List Bool :=
  if p.1 = 0 then (s.1 ++ [s.2.headD false], s.2.tail) else (s.1 ++ [isV s.1 p.1 && isV s.1 p.2], s.2)
def evT (F : List PN) (ins : List Bool) : List Bool × List Bool := F.tail.foldl stepV ([false], ins)
theorem foldV : ∀ (G : List PN) (s : List Bool × List Bool), ∃ x, (G.foldl stepV s).1 = s.1 ++ x ∧ x.length = G.length
  | [], s => ⟨[], by simp, rfl⟩
  | p :: G, s => by
    obtain ⟨x, h1, h2⟩ := foldV G (stepV s p)
    have hs : ∃ y, (stepV s p).1 = s.1 ++ [y] := by
      unfold stepV
      split
      · exact ⟨_, rfl⟩
      · exact ⟨_, rfl⟩
    obtain ⟨y, hy⟩ := hs
    exact ⟨y :: x, by rw [List.foldl_cons, h1, hy, List.append_assoc, List.singleton_append], by simp [h2]⟩
theorem evT_snoc (F : List PN) (p : PN) (ins : List Bool) (h : 0 < F.length) : evT (F ++ [p]) ins = stepV (evT F ins) p := by
  unfold evT
  cases F with
  | nil => simp at h
  | cons q F => simp [List.foldl_append]
theorem evT_append (F G : List PN) (ins : List Bool) (h : 0 < F.length) : ∃ x, (evT (F ++ G) ins).1 = (evT F ins).1 ++ x ∧ x.length = G.length := by
  cases F with
  | nil => simp at h
  | cons q F =>
    obtain ⟨x, h1, h2⟩ := foldV G (evT (q :: F) ins)
    refine ⟨x, ?_, h2⟩
    rw [← h1]
    unfold evT
    simp [List.foldl_append]
theorem evT_len (F : List PN) (ins : List Bool) (h : 0 < F.length) : (evT F ins).1.length = F.length := by
  cases F with
  | nil => simp at h
  | cons q F =>
    obtain ⟨x, h1, h2⟩ := foldV F ([false], ins)
    unfold evT
    rw [List.tail_cons, h1]
    simp [h2]
theorem evT_head (F : List PN) (ins : List Bool) : (evT F ins).1[0]? = some false := by
  obtain ⟨x, h1, _⟩ := foldV F.tail ([false], ins)
  unfold evT
  rw [h1]
  rfl
def VL (F : List PN) (ins : List Bool) (lit : Nat) : Bool := isV (evT F ins).1 lit
theorem VL_pre {F F' : List PN} (h : F <+: F') (ins : List Bool) (lit : Nat) (hl : lit / 2 < F.length) : VL F' ins lit = VL F ins lit := by
  obtain ⟨G, rfl⟩ := h
  obtain ⟨x, h1, _⟩ := evT_append F G ins (by omega)
  unfold VL
  rw [h1, isV_append _ _ _ (by rw [evT_len F ins (by omega)]; exact hl)]
theorem VL_no (F : List PN) (ins : List Bool) : VL F ins 0 = false := by
  have h := evT_head F ins
  unfold VL isV
  rw [List.getD_eq_getElem?_getD, h]
  split <;> rfl
theorem VL_nt (F : List PN) (ins : List Bool) (lit : Nat) (hl : lit / 2 < F.length) : VL F ins (nt lit) = !VL F ins lit := by
  unfold VL
  exact isV_nt _ _ (by rw [evT_len F ins (by omega)]; exact hl)
theorem VL_yes (F : List PN) (ins : List Bool) (h : 0 < F.length) : VL F ins 1 = true := by
  have := VL_nt F ins 0 (by simpa using h)
  rw [VL_no] at this
  exact this
/-- The nodes' literals as they must be. -/
structure WF (F : List PN) : Prop where
  hd : F[0]? = some (0, 0)
  ok : ∀ (i : Nat) (p : PN), F[i]? = some p → p = (0, 0) ∨ (2 ≤ p.1 ∧ p.1 < p.2 ∧ p.2 / 2 < i ∧ p.2 ≠ nt p.1)
  nd : ∀ (i j : Nat) (p : PN), F[i]? = some p → F[j]? = some p → p ≠ (0, 0) → i = j
theorem WF.pos {F : List PN} (h : WF F) : 0 < F.length := by
  have := h.hd
  cases F with
  | nil => simp at this
  | cons _ _ => simp
theorem WF.new : WF [(0, 0)] := by
  have h1 : ∀ (i : Nat) (p : PN), [((0, 0) : PN)][i]? = some p → p = (0, 0) := fun i p h => by
    cases i with
    | zero => simpa using h.symm
    | succ i => simp at h
  exact ⟨rfl, fun i p h => .inl (h1 i p h), fun i j p h _ hn => absurd (h1 i p h) hn⟩
theorem WF.input {F : List PN} (h : WF F) : WF (F ++ [(0, 0)]) := by
  have h1 : ∀ (i : Nat) (p : PN), (F ++ [(0, 0)])[i]? = some p → F[i]? = some p ∨ p = (0, 0) := fun i p hi => by
    rw [List.getElem?_append] at hi
    split at hi
    · exact .inl hi
    · rcases hj : i - F.length with _ | j
      · rw [hj] at hi; right; simpa using hi.symm
      · rw [hj] at hi; simp at hi
  refine ⟨?_, fun i p hi => ?_, fun i j p hi hj hn => ?_⟩
  · rw [List.getElem?_append_left h.pos]; exact h.hd
  · rcases h1 i p hi with e | e
    · exact h.ok i p e
    · exact .inl e
  · rcases h1 i p hi with e | e
    · rcases h1 j p hj with e2 | e2
      · exact h.nd i j p e e2 hn
      · exact absurd e2 hn
    · exact absurd e hn
theorem WF.and {F : List PN} (h : WF F) {a b : Nat} (ha : 2 ≤ a) (hab : a < b) (hb : b / 2 < F.length) (hn : b ≠ nt a) (hf : ∀ i : Nat, F[i]? ≠ some (a, b)) : WF (F ++ [(a, b)]) := by
  have h1 : ∀ (i : Nat) (p : PN), (F ++ [(a, b)])[i]? = some p → (F[i]? = some p) ∨ (p = (a, b) ∧ i = F.length) := fun i p hi => by
    rw [List.getElem?_append] at hi
    split at hi
    · exact .inl hi
    · rcases hj : i - F.length with _ | j
      · rw [hj] at hi; right; exact ⟨by simpa using hi.symm, by omega⟩
      · rw [hj] at hi; simp at hi
  refine ⟨?_, fun i p hi => ?_, fun i j p hi hj hn => ?_⟩
  · rw [List.getElem?_append_left h.pos]; exact h.hd
  · rcases h1 i p hi with e | ⟨e, e2⟩
    · exact h.ok i p e
    · subst e; subst e2; exact .inr ⟨ha, hab, hb, hn⟩
  · rcases h1 i p hi with e | ⟨e, e1⟩
    · rcases h1 j p hj with e2 | ⟨e2, _⟩
      · exact h.nd i j p e e2 hn
      · subst e2; exact absurd e (hf i)
    · rcases h1 j p hj with e2 | ⟨e2, e3⟩
      · subst e; exact absurd e2 (hf j)
      · omega
/-- The place of an AND. -/
def lookF (F : List PN) (p : PN) : Option Nat := F.findIdx? (· == p)
theorem lookF_some {F : List PN} {p : PN} {i : Nat} (h : lookF F p = some i) : F[i]? = some p := by
  unfold lookF at h
  rw [List.findIdx?_eq_some_iff_getElem] at h
  obtain ⟨h1, h2, _⟩ := h
  rw [List.getElem?_eq_getElem h1]
  simpa using h2
theorem lookF_none {F : List PN} {p : PN} (h : lookF F p = none) (i : Nat) : F[i]? ≠ some p := fun hi => by
  unfold lookF at h
  rw [List.findIdx?_eq_none_iff] at h
  have := h p (List.mem_of_getElem? hi)
  simp at this
theorem WF.look {F : List PN} (h : WF F) {p : PN} {i : Nat} (hi : F[i]? = some p) (hn : p ≠ (0, 0)) : lookF F p = some i := by
  cases e : lookF F p with
  | none => exact absurd hi (lookF_none e i)
  | some j => rw [h.nd i j p hi (lookF_some e) hn]
/-- The value of an AND. -/
theorem WF.val {F : List PN} (h : WF F) {i a b : Nat} (hi : F[i]? = some (a, b)) (ha : 2 ≤ a) (ins : List Bool) : VL F ins (2 * i) = (VL F ins a && VL F ins b) := by
  have hlt : i < F.length := (List.getElem?_eq_some_iff.1 hi).1
  obtain h0 | ⟨_, h2, h3, _⟩ := h.ok i _ hi
  · cases h0; omega
  have hi0 : 0 < i := by simp only at h3; omega
  have ht : F.take (i + 1) = F.take i ++ [(a, b)] := by
    rw [List.take_add_one, hi]; rfl
  have hp1 : F.take i <+: F := List.take_prefix ..
  have hp2 : F.take (i + 1) <+: F := List.take_prefix ..
  have hl1 : (F.take i).length = i := by rw [List.length_take]; omega
  have hl2 : (F.take (i + 1)).length = i + 1 := by rw [List.length_take]; omega
  simp only at h2 h3
  rw [VL_pre hp2 ins (2 * i) (by omega), VL_pre hp1 ins a (by omega), VL_pre hp1 ins b (by omega), ht]
  unfold VL
  rw [evT_snoc _ _ _ (by omega)]
  unfold stepV
  rw [if_neg (by simp only; omega)]
  have hl := evT_len (F.take i) ins (by omega)
  rw [hl1] at hl
  unfold isV
  simp only [List.length_append, List.length_singleton, hl]
  rw [if_pos (by omega), show 2 * i / 2 = i by omega, List.getD_eq_getElem?_getD, List.getElem?_append_right (by omega), hl]
  simp
/-- How many inputs. -/
def cnt (F : List PN) : Nat := F.tail.countP (·.1 == 0)
theorem evT_rest (F : List PN) (ins : List Bool) : (evT F ins).2 = ins.drop (cnt F) := by
  have : ∀ (G : List PN) (s : List Bool × List Bool), (G.foldl stepV s).2 = s.2.drop (G.countP (·.1 == 0)) := by
    intro G
    induction G with
    | nil => intro s; rfl
    | cons p G ih =>
      intro s
      rw [List.foldl_cons, ih]
      unfold stepV
      by_cases e : p.1 = 0
      · rw [if_pos e, List.countP_cons_of_pos (by simp [e])]
        simp only [List.drop_tail]
      · rw [if_neg e, List.countP_cons_of_neg (by simp [e])]
  exact this _ _
theorem cnt_snoc (F : List PN) (p : PN) (h : 0 < F.length) : cnt (F ++ [p]) = cnt F + if p.1 = 0 then 1 else 0 := by
  unfold cnt
  cases F with
  | nil => simp at h
  | cons q F => simp [List.countP_cons]
theorem input_val (F : List PN) (h : 0 < F.length) (ins : List Bool) : VL (F ++ [(0, 0)]) ins (2 * F.length) = ins.getD (cnt F) false := by
  unfold VL
  rw [evT_snoc _ _ _ h]
  unfold stepV
  rw [if_pos rfl]
  have hl := evT_len F ins h
  unfold isV
  simp only [List.length_append, List.length_singleton, hl]
  rw [if_pos (by omega), show 2 * F.length / 2 = F.length by omega, List.getD_eq_getElem?_getD, List.getElem?_append_right (by omega), hl, evT_rest]
  simp [List.headD_eq_head?_getD, List.head?_drop]
/-- What And makes. -/
def andF (F : List PN) (a b : Nat) : List PN × Nat :=
  if min a b = 0 ∨ max a b = nt (min a b) then (F, 0)
  else if min a b = 1 ∨ min a b = max a b then (F, max a b)
  else match lookF F (min a b, max a b) with
    | some i => (F, 2 * i)
    | none => (F ++ [(min a b, max a b)], 2 * F.length)
/-- A step from a graph to a graph of at most k nodes more, with a literal of it. -/
structure GS (k : Nat) (F : List PN) (r : List PN × Nat) : Prop where
  wf : WF r.1
  pre : F <+: r.1
  len : r.1.length ≤ F.length + k
  lit : r.2 / 2 < r.1.length
  cn : cnt r.1 = cnt F
theorem GS.le {k : Nat} {F : List PN} {r : List PN × Nat} (h : GS k F r) : F.length ≤ r.1.length := h.pre.length_le
theorem andF_comm (F : List PN) (a b : Nat) : andF F a b = andF F b a := by
  unfold andF
  rw [Nat.min_comm a b, Nat.max_comm a b]
theorem andF_aux {F : List PN} (h : WF F) {a b : Nat} (hab : a ≤ b) (hb : b / 2 < F.length) : GS 1 F (andF F a b) ∧ ∀ ins, VL (andF F a b).1 ins (andF F a b).2 = (VL F ins a && VL F ins b) := by
  have hpos := h.pos
  have ha : a / 2 < F.length := by omega
  unfold andF
  rw [Nat.min_eq_left hab, Nat.max_eq_right hab]
  by_cases c1 : a = 0 ∨ b = nt a
  · rw [if_pos c1]
    refine ⟨⟨h, List.prefix_refl _, by simp, by simpa using hpos, rfl⟩, fun ins => ?_⟩
    show VL F ins 0 = _
    rw [VL_no]
    rcases c1 with e | e
    · rw [e, VL_no]; rfl
    · rw [e, VL_nt F ins a ha]; simp
  rw [if_neg c1]
  by_cases c2 : a = 1 ∨ a = b
  · rw [if_pos c2]
    refine ⟨⟨h, List.prefix_refl _, by simp, hb, rfl⟩, fun ins => ?_⟩
    show VL F ins b = _
    rcases c2 with e | e
    · rw [e, VL_yes F ins hpos]; rfl
    · rw [e]; simp
  rw [if_neg c2]
  have ha2 : 2 ≤ a := by omega
  have hlt : a < b := by omega
  cases hlk : lookF F (a, b) with
  | some i =>
    have hi := lookF_some hlk
    have hil : i < F.length := (List.getElem?_eq_some_iff.1 hi).1
    exact ⟨⟨h, List.prefix_refl _, by simp, by show 2 * i / 2 < F.length; omega, rfl⟩, fun ins => h.val hi ha2 ins⟩
  | none =>
    have hw := h.and ha2 hlt hb (by omega) (lookF_none hlk)
    refine ⟨⟨hw, List.prefix_append .., by simp, by simp, ?_⟩, fun ins => ?_⟩
    · show cnt (F ++ [(a, b)]) = _
      rw [cnt_snoc _ _ hpos, if_neg (by simp only; omega), Nat.add_zero]
    · have hv := hw.val (i := F.length) (a := a) (b := b) (by simp) ha2 ins
      show VL (F ++ [(a, b)]) ins (2 * F.length) = _
      rw [hv, VL_pre (List.prefix_append F [(a, b)]) ins a ha, VL_pre (List.prefix_append F [(a, b)]) ins b hb]
theorem andF_ok {F : List PN} (h : WF F) {a b : Nat} (ha : a / 2 < F.length) (hb : b / 2 < F.length) : GS 1 F (andF F a b) ∧ ∀ ins, VL (andF F a b).1 ins (andF F a b).2 = (VL F ins a && VL F ins b) := by
  rcases Nat.le_total a b with e | e
  · exact andF_aux h e hb
  · rw [andF_comm]
    obtain ⟨h1, h2⟩ := andF_aux h e ha
    exact ⟨h1, fun ins => by rw [h2 ins, Bool.and_comm]⟩
theorem GS.trans {k l : Nat} {F : List PN} {r s : List PN × Nat} (h : GS k F r) (g : GS l r.1 s) : GS (k + l) F s :=
  ⟨g.wf, h.pre.trans g.pre, by have := h.len; have := g.len; omega, g.lit, g.cn.trans h.cn⟩
theorem GS.nt {k : Nat} {F : List PN} {r : List PN × Nat} (h : GS k F r) : GS k F (r.1, nt r.2) := ⟨h.wf, h.pre, h.len, by show _ / 2 < _; rw [nt_div]; exact h.lit, h.cn⟩
theorem GS.mono {k l : Nat} {F : List PN} {r : List PN × Nat} (h : GS k F r) (hk : k ≤ l) : GS l F r := ⟨h.wf, h.pre, by have := h.len; omega, h.lit, h.cn⟩
def orF (F : List PN) (a b : Nat) : List PN × Nat := ((andF F (nt a) (nt b)).1, nt (andF F (nt a) (nt b)).2)
theorem orF_ok {F : List PN} (h : WF F) {a b : Nat} (ha : a / 2 < F.length) (hb : b / 2 < F.length) : GS 1 F (orF F a b) ∧ ∀ ins, VL (orF F a b).1 ins (orF F a b).2 = (VL F ins a || VL F ins b) := by
  obtain ⟨h1, h2⟩ := andF_ok h (a := nt a) (b := nt b) (by rw [nt_div]; exact ha) (by rw [nt_div]; exact hb)
  refine ⟨h1.nt, fun ins => ?_⟩
  unfold orF
  simp only
  rw [VL_nt _ _ _ h1.lit, h2, VL_nt _ _ _ ha, VL_nt _ _ _ hb]
  cases VL F ins a <;> cases VL F ins b <;> rfl
def xorF (F : List PN) (a b : Nat) : List PN × Nat :=
  let r := orF F a b
  let s := andF r.1 a b
  andF s.1 r.2 (nt s.2)
theorem xorF_ok {F : List PN} (h : WF F) {a b : Nat} (ha : a / 2 < F.length) (hb : b / 2 < F.length) : GS 3 F (xorF F a b) ∧ ∀ ins, VL (xorF F a b).1 ins (xorF F a b).2 = (VL F ins a != VL F ins b) := by
  obtain ⟨r1, r2⟩ := orF_ok h ha hb
  have hl := r1.le
  obtain ⟨s1, s2⟩ := andF_ok r1.wf (a := a) (b := b) (by omega) (by omega)
  have hl2 := s1.le
  have hr := r1.lit
  obtain ⟨t1, t2⟩ := andF_ok s1.wf (a := (orF F a b).2) (b := nt (andF (orF F a b).1 a b).2) (by omega) (by rw [nt_div]; exact s1.lit)
  refine ⟨(r1.trans s1).trans t1, fun ins => ?_⟩
  unfold xorF
  simp only
  rw [t2, VL_nt _ _ _ s1.lit, s2, VL_pre s1.pre _ _ hr, r2, VL_pre r1.pre _ _ ha, VL_pre r1.pre _ _ hb]
  cases VL F ins a <;> cases VL F ins b <;> rfl
def muxF (F : List PN) (c a b : Nat) : List PN × Nat :=
  if a = b then (F, a)
  else if a = c ∨ a = 1 then orF F c b
  else if b = nt c ∨ b = 1 then orF F (nt c) a
  else
    let r := andF F c a
    let s := andF r.1 (nt c) b
    orF s.1 r.2 s.2
theorem muxF_ok {F : List PN} (h : WF F) {c a b : Nat} (hc : c / 2 < F.length) (ha : a / 2 < F.length) (hb : b / 2 < F.length) :
    GS 3 F (muxF F c a b) ∧ ∀ ins, VL (muxF F c a b).1 ins (muxF F c a b).2 = if VL F ins c then VL F ins a else VL F ins b := by
  have hn : nt c / 2 < F.length := by rw [nt_div]; exact hc
  have hp := h.pos
  unfold muxF
  by_cases c1 : a = b
  · rw [if_pos c1]
    subst c1
    exact ⟨⟨h, List.prefix_refl _, by simp, ha, rfl⟩, fun ins => by split <;> rfl⟩
  rw [if_neg c1]
  by_cases c2 : a = c ∨ a = 1
  · rw [if_pos c2]
    obtain ⟨r1, r2⟩ := orF_ok h hc hb
    refine ⟨r1.mono (by omega), fun ins => ?_⟩
    rw [r2]
    rcases c2 with e | e
    · subst e; cases VL F ins a <;> simp
    · subst e; rw [VL_yes F ins hp]; cases VL F ins c <;> simp
  rw [if_neg c2]
  by_cases c3 : b = nt c ∨ b = 1
  · rw [if_pos c3]
    obtain ⟨r1, r2⟩ := orF_ok h hn ha
    refine ⟨r1.mono (by omega), fun ins => ?_⟩
    rw [r2, VL_nt _ _ _ hc]
    rcases c3 with e | e
    · subst e; rw [VL_nt _ _ _ hc]; cases VL F ins c <;> simp
    · subst e; rw [VL_yes F ins hp]; cases VL F ins c <;> simp
  rw [if_neg c3]
  obtain ⟨r1, r2⟩ := andF_ok h hc ha
  have hl := r1.le
  obtain ⟨s1, s2⟩ := andF_ok r1.wf (a := nt c) (b := b) (by omega) (by omega)
  have hl2 := s1.le
  have hr := r1.lit
  obtain ⟨t1, t2⟩ := orF_ok s1.wf (a := (andF F c a).2) (b := (andF (andF F c a).1 (nt c) b).2) (by omega) s1.lit
  refine ⟨(r1.trans s1).trans t1, fun ins => ?_⟩
  simp only
  rw [t2, s2, VL_pre s1.pre _ _ hr, r2, VL_pre r1.pre _ _ hn, VL_pre r1.pre _ _ hb, VL_nt _ _ _ hc]
  cases VL F ins c <;> simp
end Go.Proofs.Ytinfkjflomdhbaa
