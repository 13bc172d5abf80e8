/-
  Plain mathematics of clauses: the order of literals (a literal beside its negation), a clause in that order with each literal once, and that it hangs on which literals there are alone; nothing here speaks of the program.
-/
import Derived.WalkKit
import Derived.Lib.SlicesCompact
import Derived.Sort.Grow
import Derived.Lib.RowBridge
import Derived.Shelf.SlSortCmp.Insertion
import Derived.IntWalk
namespace Go.Proofs.Ytembgefbmecdbaa
open Go Go.Sort Go.Lib
/-- What the program takes for the variable of a literal. -/
def va (x : Int) : Int := if x < IntKind.i64.wrap (-x) then IntKind.i64.wrap (-x) else x
theorem va_small {x : Int} (h0 : -9223372036854775807 ≤ x) (h1 : x ≤ 9223372036854775807) : va x = max x (-x) := by
  unfold va
  rw [IntWalk.i64_in (n := -x) (by omega)]
  split <;> omega
/-- The order of literals. -/
def cmpL (x y : Int) : Int := if va x < va y then -1 else if va y < va x then 1 else if x < y then -1 else if y < x then 1 else 0
theorem lt_cmpL (x y : Int) : ltOf cmpL x y = decide (va x < va y ∨ va x = va y ∧ x < y) := by
  unfold ltOf cmpL
  by_cases h1 : va x < va y
  · simp [h1]
  · by_cases h2 : va y < va x
    · have : ¬ va x = va y := by omega
      simp [h1, h2, this]
    · have : va x = va y := by omega
      by_cases h3 : x < y
      · simp [h3, this]
      · by_cases h4 : y < x <;> simp [h1, h2, h3, h4]
theorem swoL : SWO (ltOf cmpL) where
  irrefl x := by rw [lt_cmpL]; simp
  trans x y z h1 h2 := by rw [lt_cmpL] at *; simp at *; omega
  ntrans x y z h1 h2 := by rw [lt_cmpL] at *; simp at *; omega
theorem totL (x y : Int) (h1 : ltOf cmpL x y = false) (h2 : ltOf cmpL y x = false) : x = y := by rw [lt_cmpL] at *; simp at *; omega
/-- The order as a proposition. -/
def Lq (x y : Int) : Prop := va x < va y ∨ va x = va y ∧ x < y
theorem Lq.irr (x : Int) : ¬ Lq x x := by unfold Lq; omega
theorem Lq.tr {x y z : Int} (h : Lq x y) (k : Lq y z) : Lq x z := by unfold Lq at *; omega
theorem sorted_ext {R : Int → Int → Prop} (irr : ∀ x, ¬ R x x) (tr : ∀ {x y z}, R x y → R y z → R x z) : ∀ {l l' : List Int}, l.Pairwise R → l'.Pairwise R → (∀ x, x ∈ l ↔ x ∈ l') → l = l'
  | [], [], _, _, _ => rfl
  | [], y :: ys, _, _, h => absurd ((h y).2 (List.mem_cons_self ..)) (by simp)
  | x :: xs, [], _, _, h => absurd ((h x).1 (List.mem_cons_self ..)) (by simp)
  | x :: xs, y :: ys, hx, hy, h => by
    rw [List.pairwise_cons] at hx hy
    have e : x = y := by
      rcases List.mem_cons.1 ((h x).1 (List.mem_cons_self ..)) with e | e
      · exact e
      · rcases List.mem_cons.1 ((h y).2 (List.mem_cons_self ..)) with e' | e'
        · exact e'.symm
        · exact absurd (tr (hy.1 x e) (hx.1 y e')) (irr y)
    subst e
    congr 1
    refine sorted_ext irr tr hx.2 hy.2 fun z => ⟨fun hz => ?_, fun hz => ?_⟩
    · rcases List.mem_cons.1 ((h z).1 (List.mem_cons_of_mem _ hz)) with e | e
      · subst e; exact absurd (hx.1 z hz) (irr z)
      · exact e
    · rcases List.mem_cons.1 ((h z).2 (List.mem_cons_of_mem _ hz)) with e | e
      · subst e; exact absurd (hy.1 z hz) (irr z)
      · exact e
/-- The literals in their order, with repetition. -/
def srt (l : List Int) : List Int := l.mergeSort fun x y => !ltOf cmpL y x
theorem srt_mem (l : List Int) (x : Int) : x ∈ srt l ↔ x ∈ l := (List.mergeSort_perm l _).mem_iff
theorem srt_len (l : List Int) : (srt l).length = l.length := List.length_mergeSort ..
theorem srt_sorted (l : List Int) : (srt l).Pairwise fun x y => Lq x y ∨ x = y := by
  have h := List.pairwise_mergeSort (le := fun x y => !ltOf cmpL y x) (fun a b c => by simp only [lt_cmpL]; simp; omega) (fun a b => by simp only [lt_cmpL]; simp; omega) l
  refine h.imp fun {a b} hab => ?_
  unfold Lq
  simp only [lt_cmpL] at hab
  simp at hab
  omega
def tl (x : Int) (l : List Int) : List Int := ((List.range l.length).filter fun j => decide (l[j]! ≠ (x :: l)[j]!)).map (l[·]!)
theorem compact_tl (x : Int) (l : List Int) : Lib.compact (x :: l) = x :: tl x l := by
  unfold Lib.compact compactUpTo tl
  rw [List.length_cons, List.range_succ_eq_map, List.filter_cons, if_pos (by simp [keeps]), List.map_cons, List.filter_map, List.map_map]
  congr 1
  have e : (keeps (x :: l).toArray ∘ Nat.succ) = fun j => decide (l[j]! ≠ (x :: l)[j]!) := by
    funext j
    simp [keeps]
  rw [e]
  apply List.map_congr_left
  intro j _
  simp
theorem tl_cons (x y : Int) (l : List Int) : tl x (y :: l) = (if y = x then [] else [y]) ++ tl y l := by
  unfold tl
  rw [List.length_cons, List.range_succ_eq_map, List.filter_cons, List.filter_map]
  have e : ((fun j => decide ((y :: l)[j]! ≠ (x :: y :: l)[j]!)) ∘ Nat.succ) = fun j => decide (l[j]! ≠ (y :: l)[j]!) := by
    funext j
    simp
  rw [e]
  by_cases h : y = x <;> simp [h, Function.comp_def]
theorem compact_cons (x y : Int) (l : List Int) : Lib.compact (x :: y :: l) = if x = y then Lib.compact (y :: l) else x :: Lib.compact (y :: l) := by
  rw [compact_tl, compact_tl, tl_cons]
  by_cases h : x = y
  · simp [h]
  · have h' : ¬ y = x := fun e => h e.symm
    simp [h, h']
theorem compact_mem : ∀ (l : List Int) (x : Int), x ∈ Lib.compact l ↔ x ∈ l
  | [], x => by simp [Lib.compact, compactUpTo]
  | [y], x => by simp [Lib.compact, compactUpTo, keeps, List.range_succ]
  | y :: z :: l, x => by
    rw [compact_cons]
    split
    · next h => subst h; rw [compact_mem]; simp
    · rw [List.mem_cons, compact_mem]; simp
theorem compact_strict : ∀ (l : List Int), l.Pairwise (fun x y => Lq x y ∨ x = y) → (Lib.compact l).Pairwise Lq
  | [], _ => by simp [Lib.compact, compactUpTo]
  | [y], _ => by simp [Lib.compact, compactUpTo, keeps, List.range_succ]
  | y :: z :: l, h => by
    rw [compact_cons]
    rw [List.pairwise_cons] at h
    split
    · exact compact_strict _ h.2
    · next hne =>
      rw [List.pairwise_cons]
      refine ⟨fun u hu => ?_, compact_strict _ h.2⟩
      rw [compact_mem] at hu
      rcases h.1 u hu with e | e
      · exact e
      · subst e
        have h2 := List.pairwise_cons.1 h.2
        rcases h.1 z (List.mem_cons_self ..) with e | e
        · rcases List.mem_cons.1 hu with e' | e'
          · exact absurd e' hne
          · rcases h2.1 y e' with e2 | e2
            · exact absurd (Lq.tr e e2) (Lq.irr _)
            · exact absurd e2.symm hne
        · exact absurd e hne
/-- The clause that is stored. -/
def canon (l : List Int) : List Int := Lib.compact (srt l)
theorem canon_mem (l : List Int) (x : Int) : x ∈ canon l ↔ x ∈ l := by unfold canon; rw [compact_mem, srt_mem]
theorem canon_sorted (l : List Int) : (canon l).Pairwise Lq := compact_strict _ (srt_sorted l)
theorem canon_ext {l l' : List Int} (h : ∀ x, x ∈ l ↔ x ∈ l') : canon l = canon l' :=
  sorted_ext Lq.irr Lq.tr (canon_sorted l) (canon_sorted l') fun x => by rw [canon_mem, canon_mem, h]
theorem canon_of_sorted {l : List Int} (h : l.Pairwise Lq) : canon l = l := sorted_ext Lq.irr Lq.tr (canon_sorted l) h (canon_mem l)
/-- Two neighbours are opposites. -/
def opp : List Int → Bool
  | [] => false
  | [_] => false
  | x :: y :: l => y == -x || opp (y :: l)
/-- A literal and its negation are there. -/
def opB (l : List Int) : Bool := l.any fun x => l.contains (-x)
theorem opB_iff (l : List Int) : opB l = true ↔ ∃ x, x ∈ l ∧ -x ∈ l := by
  unfold opB
  simp [List.any_eq_true]
theorem opB_ext {l l' : List Int} (h : ∀ x, x ∈ l ↔ x ∈ l') : opB l = opB l' := by
  rw [Bool.eq_iff_iff, opB_iff, opB_iff]
  simp only [h]
/-- All literals are of variables 1 to V. -/
def Dom (l : List Int) : Prop := ∀ x, x ∈ l → x ≠ 0 ∧ -60000 ≤ x ∧ x ≤ 60000
theorem va_dom {x : Int} (h : -60000 ≤ x ∧ x ≤ 60000) : va x = max x (-x) := va_small (by omega) (by omega)
theorem opp_sorted : ∀ (l : List Int), l.Pairwise Lq → Dom l → (opp l = true ↔ ∃ x, x ∈ l ∧ -x ∈ l)
  | [], _, _ => by simp [opp]
  | [y], _, h => by
    have := (h y (List.mem_cons_self ..)).1
    simp [opp]; omega
  | x :: y :: l, hs, hd => by
    rw [List.pairwise_cons] at hs
    have ih := opp_sorted (y :: l) hs.2 fun z hz => hd z (List.mem_cons_of_mem _ hz)
    have dx := hd x (List.mem_cons_self ..)
    have dy := hd y (List.mem_cons_of_mem _ (List.mem_cons_self ..))
    have key : -x ∈ y :: l → opp (x :: y :: l) = true := fun hm => by
      unfold opp
      rcases List.mem_cons.1 hm with e | e
      · simp [e.symm]
      · have h1 := hs.1 y (List.mem_cons_self ..)
        have h2 := (List.pairwise_cons.1 hs.2).1 (-x) e
        unfold Lq at h1 h2
        rw [va_dom dx.2, va_dom dy.2] at h1
        rw [va_dom dy.2, va_dom (x := -x) (by omega)] at h2
        omega
    constructor
    · intro h
      unfold opp at h
      rw [Bool.or_eq_true] at h
      rcases h with h | h
      · have : y = -x := by simpa using h
        exact ⟨x, List.mem_cons_self .., by rw [← this]; exact List.mem_cons_of_mem _ (List.mem_cons_self ..)⟩
      · obtain ⟨z, h1, h2⟩ := ih.1 h
        exact ⟨z, List.mem_cons_of_mem _ h1, List.mem_cons_of_mem _ h2⟩
    · rintro ⟨z, h1, h2⟩
      rcases List.mem_cons.1 h1 with e | e
      · subst e
        rcases List.mem_cons.1 h2 with e2 | e2
        · omega
        · exact key e2
      · rcases List.mem_cons.1 h2 with e2 | e2
        · exact key (by rw [← e2]; simpa using e)
        · unfold opp
          rw [Bool.or_eq_true]
          exact Or.inr (ih.2 ⟨z, e, e2⟩)
theorem opp_canon (l : List Int) (h : Dom l) : opp (canon l) = opB l := by
  rw [Bool.eq_iff_iff, opp_sorted _ (canon_sorted l) (fun x hx => h x ((canon_mem l x).1 hx)), opB_iff]
  simp only [canon_mem]
theorem canon_le (l : List Int) : (canon l).length ≤ l.length := by
  unfold canon
  exact Nat.le_trans (Lib.compact_length_le _) (by rw [srt_len]; exact Nat.le_refl _)
/-- A literal of no variable from 1 to V. -/
def fgn (V : Nat) (x : Int) : Bool := x == 0 || decide (x < -(V : Int)) || decide ((V : Int) < x)
theorem fgn_dom {V : Nat} (hV : V ≤ 60000) {l : List Int} (h : l.any (fgn V) = false) : Dom l := fun x hx => by
  have h1 := List.any_eq_false.1 h x hx
  unfold fgn at h1
  simp at h1
  omega
/-- What a formula of V variables becomes by a call of Add. -/
def addF (V : Nat) (cs : List (List Int)) (l : List Int) : Int × List (List Int) :=
  if l.any (fgn V) then (3, cs) else if 200000 ≤ cs.length ∨ 1000 < l.length then (19, cs) else if opB l then (0, cs) else (0, cs ++ [canon l])
/-- The reference's step: a literal is placed among those ahead. -/
def plS (out : List Int) (x : Int) : Option (List Int) :=
  if (out.takeWhile fun y => decide (max y (-y) ≤ max x (-x))).contains (-x) then none
  else if (out.takeWhile fun y => decide (max y (-y) ≤ max x (-x))).contains x then some out
  else some (out.takeWhile (fun y => decide (max y (-y) ≤ max x (-x))) ++ x :: out.dropWhile fun y => decide (max y (-y) ≤ max x (-x)))
def plF : List Int → List Int → Option (List Int)
  | out, [] => some out
  | out, x :: l => match plS out x with
    | none => none
    | some o => plF o l
theorem tw_mem {p : Int → Bool} : ∀ {l : List Int} {x : Int}, l.Pairwise (fun a b => p b = true → p a = true) → p x = true → (x ∈ l.takeWhile p ↔ x ∈ l)
  | [], _, _, _ => by simp
  | y :: l, x, h, hx => by
    rw [List.pairwise_cons] at h
    by_cases hy : p y = true
    · rw [List.takeWhile_cons_of_pos hy, List.mem_cons, List.mem_cons, tw_mem h.2 hx]
    · rw [List.takeWhile_cons_of_neg hy]
      constructor
      · intro h'; cases h'
      · intro h'
        rcases List.mem_cons.1 h' with e | e
        · subst e; exact absurd hx hy
        · exact absurd (h.1 x e hx) hy
theorem tw_all {p : Int → Bool} : ∀ {l : List Int} {x : Int}, x ∈ l.takeWhile p → p x = true
  | [], _, h => by cases h
  | y :: l, x, h => by
    by_cases hy : p y = true
    · rw [List.takeWhile_cons_of_pos hy] at h
      rcases List.mem_cons.1 h with e | e
      · subst e; exact hy
      · exact tw_all e
    · rw [List.takeWhile_cons_of_neg hy] at h; cases h
theorem dw_all {p : Int → Bool} : ∀ {l : List Int} {x : Int}, l.Pairwise (fun a b => p b = true → p a = true) → x ∈ l.dropWhile p → p x = false
  | [], _, _, h => by cases h
  | y :: l, x, hs, h => by
    rw [List.pairwise_cons] at hs
    by_cases hy : p y = true
    · rw [List.dropWhile_cons_of_pos hy] at h
      exact dw_all hs.2 h
    · rw [List.dropWhile_cons_of_neg hy] at h
      rcases List.mem_cons.1 h with e | e
      · subst e; simpa using hy
      · cases hx : p x with
        | false => rfl
        | true => exact absurd (hs.1 x e hx) hy
theorem plS_spec {out : List Int} {x : Int} (hs : out.Pairwise Lq) (hd : Dom out) (hx : x ≠ 0 ∧ -60000 ≤ x ∧ x ≤ 60000) :
    (-x ∈ out ∧ plS out x = none) ∨ (¬ -x ∈ out ∧ ∃ o, plS out x = some o ∧ o.Pairwise Lq ∧ ∀ z, z ∈ o ↔ z = x ∨ z ∈ out) := by
  obtain ⟨p, hp⟩ : ∃ p : Int → Bool, (fun y => decide (max y (-y) ≤ max x (-x))) = p := ⟨_, rfl⟩
  have hp' : ∀ y, p y = decide (max y (-y) ≤ max x (-x)) := fun y => by rw [← hp]
  have hm : out.Pairwise fun a b => p b = true → p a = true := by
    have hall : ∀ a, a ∈ out → -60000 ≤ a ∧ a ≤ 60000 := fun a ha => (hd a ha).2
    refine (List.Pairwise.imp_of_mem (fun {a b} ha hb h => ?_) hs)
    unfold Lq at h
    rw [va_dom (hall a ha), va_dom (hall b hb)] at h
    rw [hp', hp']
    simp
    omega
  unfold plS
  rw [hp]
  have m1 := tw_mem (p := p) (x := -x) hm (by rw [hp']; simp; omega)
  have m2 := tw_mem (p := p) (x := x) hm (by rw [hp']; simp)
  by_cases h1 : -x ∈ out
  · exact Or.inl ⟨h1, by rw [if_pos (by simpa using m1.2 h1)]⟩
  · refine Or.inr ⟨h1, ?_⟩
    rw [if_neg (by simpa using fun h => h1 (m1.1 h))]
    by_cases h2 : x ∈ out
    · rw [if_pos (by simpa using m2.2 h2)]
      refine ⟨out, rfl, hs, fun z => ⟨Or.inr, ?_⟩⟩
      rintro (e | e)
      · subst e; exact h2
      · exact e
    · rw [if_neg (by simpa using fun h => h2 (m2.1 h))]
      have hsp : ∀ z, z ∈ out ↔ z ∈ out.takeWhile p ∨ z ∈ out.dropWhile p := fun z => by
        rw [← List.mem_append, List.takeWhile_append_dropWhile]
      refine ⟨_, rfl, ?_, fun z => by rw [List.mem_append, List.mem_cons, hsp]; constructor <;> (rintro h; rcases h with h | h | h <;> simp [h])⟩
      have hs2 : (out.takeWhile p ++ out.dropWhile p).Pairwise Lq := by rw [List.takeWhile_append_dropWhile]; exact hs
      rw [List.pairwise_append] at hs2 ⊢
      have tl : ∀ y, y ∈ out.takeWhile p → Lq y x := fun y hy => by
        have hyo := (hsp y).2 (Or.inl hy)
        have h3 := tw_all hy
        rw [hp'] at h3
        have h4 : max y (-y) ≤ max x (-x) := by simpa using h3
        have n1 : y ≠ x := fun e => h2 (e ▸ hyo)
        have n2 : y ≠ -x := fun e => h1 (e ▸ hyo)
        unfold Lq
        rw [va_dom (hd y hyo).2, va_dom hx.2]
        omega
      have dl : ∀ y, y ∈ out.dropWhile p → Lq x y := fun y hy => by
        have hyo := (hsp y).2 (Or.inr hy)
        have h3 := dw_all hm hy
        rw [hp'] at h3
        have h4 : ¬ max y (-y) ≤ max x (-x) := by simpa using h3
        unfold Lq
        rw [va_dom (hd y hyo).2, va_dom hx.2]
        omega
      refine ⟨hs2.1, List.pairwise_cons.2 ⟨dl, hs2.2.1⟩, fun a ha b hb => ?_⟩
      rcases List.mem_cons.1 hb with e | e
      · subst e; exact tl a ha
      · exact hs2.2.2 a ha b e
theorem plF_spec : ∀ (l out pre : List Int), out.Pairwise Lq → Dom out → Dom l → (∀ y, y ∈ out → ¬ -y ∈ out) → (∀ z, z ∈ out ↔ z ∈ pre) →
    plF out l = if opB (pre ++ l) then none else some (canon (pre ++ l))
  | [], out, pre, hs, _, _, ho, hm => by
    unfold plF
    rw [List.append_nil, if_neg, show canon pre = out from sorted_ext Lq.irr Lq.tr (canon_sorted pre) hs fun x => by rw [canon_mem, hm]]
    rw [Bool.not_eq_true, ← Bool.not_eq_true, opB_iff]
    rintro ⟨x, h1, h2⟩
    exact ho x ((hm x).2 h1) ((hm (-x)).2 h2)
  | x :: l, out, pre, hs, hd, hl, ho, hm => by
    have hx := hl x (List.mem_cons_self ..)
    unfold plF
    rcases plS_spec hs hd hx with ⟨h1, h2⟩ | ⟨h1, o, h2, h3, h4⟩
    · rw [h2, if_pos]
      rw [opB_iff]
      exact ⟨x, by simp, List.mem_append_left _ ((hm _).1 h1)⟩
    · rw [h2]
      have := plF_spec l o (pre ++ [x]) h3 (fun z hz => by
          rcases (h4 z).1 hz with e | e
          · subst e; exact hx
          · exact hd z e)
        (fun z hz => hl z (List.mem_cons_of_mem _ hz)) (fun y hy hy2 => by
          rcases (h4 y).1 hy with e | e <;> rcases (h4 (-y)).1 hy2 with e2 | e2
          · omega
          · subst e; exact h1 e2
          · exact h1 (by rw [← e2]; simpa using e)
          · exact ho y e e2)
        (fun z => by rw [h4, List.mem_append, hm]; simp [or_comm])
      simpa using this
theorem plF_all (l : List Int) (h : Dom l) : plF [] l = if opB l then none else some (canon l) := by
  simpa using plF_spec l [] [] List.Pairwise.nil (by intro x hx; cases hx) h (by intro y hy; cases hy) (fun z => Iff.rfl)
end Go.Proofs.Ytembgefbmecdbaa
