/-
  The statements' Make: formulas of the program and of the reference, of the same clauses.
-/
import Derived.Test.YtembgefbmecdbaaNc
import Derived.Test.YtembgefbmecdbaaKu
namespace Go.Proofs.Ytembgefbmecdbaa
open Go.RowKit Go.Lib
/-- A clause as Add leaves it. -/
def Good (V : Nat) (cs : List (List Int)) : Prop := ∀ c, c ∈ cs → c.Pairwise Lq ∧ opB c = false ∧ c.any (fgn V) = false
theorem opB_canon (l : List Int) : opB (canon l) = opB l := opB_ext fun x => canon_mem l x
theorem any_canon (V : Nat) (l : List Int) : (canon l).any (fgn V) = l.any (fgn V) := by
  rw [Bool.eq_iff_iff, List.any_eq_true, List.any_eq_true]
  constructor
  · rintro ⟨x, hx, hp⟩; exact ⟨x, (canon_mem l x).1 hx, hp⟩
  · rintro ⟨x, hx, hp⟩; exact ⟨x, (canon_mem l x).2 hx, hp⟩
theorem addF_good (V : Nat) (cs : List (List Int)) (l : List Int) (h : Good V cs) : Good V (addF V cs l).2 := by
  unfold addF
  cases ha : l.any (fgn V) with
  | true => exact h
  | false =>
    rw [if_neg (by decide)]
    split
    · exact h
    · cases ho : opB l with
      | true => exact h
      | false =>
        rw [if_neg (by decide)]
        intro c hc
        rcases List.mem_append.1 hc with e | e
        · exact h c e
        · rw [List.mem_singleton.1 e]
          exact ⟨canon_sorted l, by rw [opB_canon, ho], by rw [any_canon, ha]⟩
theorem addF_len (V : Nat) (cs : List (List Int)) (l : List Int) (k : Nat) (h : cs.length ≤ k) : (addF V cs l).2.length ≤ k + 1 := by
  unfold addF
  split
  · exact Nat.le_trans h (Nat.le_succ k)
  · split
    · exact Nat.le_trans h (Nat.le_succ k)
    · split
      · exact Nat.le_trans h (Nat.le_succ k)
      · simp; omega
/-- The blocks of a formula, and two more. -/
def F3 (p : Nat) (vl ve : Value) (Bw R : Nat) (b : Nat) : Prop := FP p vl ve b ∨ b = Bw ∨ b = R
theorem FP_ne {base : Nat} {w : World} {p V : Nat} {cs : List (List Int)} {vl ve : Value} (h : CF base w p V cs vl ve) {q : Nat} {c : Array Value} {t : TypeId} (hq : w.heap[q]? = some (.cells c t (0, 0))) (h1 : 45 ≠ t) (h2 : t ≠ 3) : ∀ b, FP p vl ve b → b ≠ q := by
  rintro b (e | e | e) rfl
  · rw [e, h.blk] at hq
    injection hq with hq
    injection hq with _ ht
    exact h1 ht
  · exact Lib.ownBlock_ne h.lits hq h2 e
  · exact Lib.ownBlock_ne h.ends hq h2 e
/-- What one round of Make leaves. -/
theorem make_rel {base : Nat} {w w5 : World} {p V : Nat} {cs : List (List Int)} {vl ve : Value} {vs : List Value} {A5 : Option Addr} (Bw : Nat) {q1 q2 : Value} {pc : Array Value} (h : CF base w5 p V cs vl ve) (hL : RLLd (F3 p vl ve Bw w.heap.size) w5 A5 vs cs)
    (hq : w5.heap[Bw]? = some (.cells #[q1, q2] 28 (0, 0))) (hp : w5.heap[w.heap.size]? = some (.cells pc 28 (0, 0))) (hb : Below w.heap.size w w5) (hBw : w.heap.size ≤ Bw) (hne : w.heap.size ≠ Bw) (o : Obj) (Ac5 : Option Addr) (nc5 cc5 : Nat) :
    let wF := ((w5.setCell ⟨Bw, 0, none⟩ (.int .i64 (V : Int))).setCell ⟨Bw, 1, none⟩ (.slice Ac5 nc5 cc5)).alloc o
    CF base wF p V cs vl ve ∧ RLLd (F3 p vl ve Bw w.heap.size) wF A5 vs cs ∧ wF.heap[Bw]? = some (.cells #[.int .i64 (V : Int), .slice Ac5 nc5 cc5] 28 (0, 0)) ∧ wF.heap[w.heap.size]? = some (.cells pc 28 (0, 0)) ∧ Below w.heap.size w wF := by
  intro wF
  have hlt := lt_of_get hq
  have k : Keep (fun b => b = Bw) w5 wF := by
    have k0 := ((Keep.refl (fun b => b = Bw) w5).set ⟨Bw, 0, none⟩ rfl (.int .i64 (V : Int))).set ⟨Bw, 1, none⟩ rfl (.slice Ac5 nc5 cc5)
    exact k0.trans (Keep.of_below (F := fun _ => False) ((Below.refl _ _).alloc (Nat.le_refl _) o)) (fun _ h => h.elim)
  refine ⟨h.keep k fun b hb e => FP_ne h hq (by decide) (by decide) b hb e, hL.keep (k.mono fun b e => Or.inr (Or.inl e)), ?_, ?_, ?_⟩
  · have h2 := heap_set _ Bw 0 _ _ (.int .i64 (V : Int)) hq
    have h3 := heap_set _ Bw 1 _ _ (.slice Ac5 nc5 cc5) h2
    exact (Lib.alloc_old _ o Bw (lt_of_get h3)).trans h3
  · exact (k.block _ (lt_of_get hp) hne).trans hp
  · exact ((hb.setCell (p := ⟨Bw, 0, none⟩) hBw _).setCell (p := ⟨Bw, 1, none⟩) hBw _).alloc (by simp; exact hb.size) o
theorem make_fin {base : Nat} {w w5 : World} {p V : Nat} {cs : List (List Int)} {vl ve : Value} {vs : List Value} {A5 : Option Addr} {Bw : Nat} {pc : Array Value} (h : CF base w5 p V cs vl ve) (hL : RLLd (F3 p vl ve Bw w.heap.size) w5 A5 vs cs)
    (hp : w5.heap[w.heap.size]? = some (.cells pc 28 (0, 0))) (hb : Below w.heap.size w w5) (Ac5 : Option Addr) (nc5 cc5 : Nat) :
    let wF := ((w5.drew.setCell ⟨w.heap.size, 0, none⟩ (.int .i64 (V : Int))).setCell ⟨w.heap.size, 1, none⟩ (.slice Ac5 nc5 cc5))
    CF base wF p V cs vl ve ∧ RLLd (FP p vl ve) wF A5 vs cs ∧ Below w.heap.size w wF := by
  intro wF
  have k : Keep (fun b => b = w.heap.size) w5 wF := by
    have k00 : Keep (fun b => b = w.heap.size) w5 w5.drew := ⟨rfl, rfl, rfl, Nat.le_refl _, fun _ _ _ => rfl⟩
    exact (k00.set ⟨w.heap.size, 0, none⟩ rfl (.int .i64 (V : Int))).set ⟨w.heap.size, 1, none⟩ rfl (.slice Ac5 nc5 cc5)
  exact ⟨h.keep k fun b hb e => FP_ne h hp (by decide) (by decide) b hb e, (hL.keep (k.mono fun b e => Or.inr (Or.inr e))).mono fun b _ hg => Or.inl hg, (hb.drew.setCell (p := ⟨w.heap.size, 0, none⟩) (Nat.le_refl _) _).setCell (p := ⟨w.heap.size, 1, none⟩) (Nat.le_refl _) _⟩
/-- What Make leaves. -/
def MK (w : World) (V : Nat) (e : Ending) (w' : World) : Prop :=
  ∃ p cs vl ve Ac cc vs, e = .returned (.tuple #[pv p, .agg #[.int .i64 (V : Int), .slice Ac cs.length cc], .bool true]) ∧ CF w.heap.size w' p V cs vl ve ∧ cs.length ≤ 200 ∧ Good V cs ∧ (Ac = none → cc = 0) ∧ RLLd (FP p vl ve) w' Ac vs cs ∧ Below w.heap.size w w'
set_option maxRecDepth 100000 in
set_option maxHeartbeats 6400000 in
theorem Make_t (x : Int) (V : Nat) (hx : max 0 (min x 60) = (V : Int)) (A : Option Addr) (LL : List (List Int)) (cL : Nat) (w : World) (hA : RLL w A LL) (hLn : LL.length ≤ 9223372036854775807) : Calls Try.prog 5 #[.int .i64 x, .slice A LL.length cL] w (MK w V) := by
  have hV60 : V ≤ 60 := by omega
  have hN := Lib.hid (fun w => New_t (V : Int) V (by omega) w)
  obtain ⟨nL, hnL⟩ : ∃ nL, LL.length = nL := ⟨_, rfl⟩
  rw [hnL] at hLn ⊢
  replace hA := Lib.hid hA
  replace hnL := Lib.hid hnL
  replace hV60 := Lib.hid hV60
  go_enter Try.func5, Try.ntmps5
  go_wp2_with fail
  (with_reducible refine (hN.out _).mono ?_)
  rintro e w2 ⟨rfl, h2, hb2⟩
  have hbw2 : Below w.heap.size w w2 := below_call hb2 ((Below.refl _ w).alloc (Nat.le_refl _) _) (by simp)
  have h2' := (h2.mono (base' := w.heap.size) (by simp)).over ((Below.refl _ w2).alloc (Nat.le_refl _) (.cells #[.int .i64 (V : Int), .slice none 0 0] 28))
  have pq := (Lib.alloc_old w2 (.cells #[.int .i64 (V : Int), .slice none 0 0] 28) w.heap.size (by have := hb2.size; simp at this; omega)).trans ((hb2.block w.heap.size (by simp)).trans (heap_alloc_new w _))
  have qq := heap_alloc_new w2 (.cells #[.int .i64 (V : Int), .slice none 0 0] 28)
  have hbw3 : Below w.heap.size w (w2.alloc (.cells #[.int .i64 (V : Int), .slice none 0 0] 28)) := hbw2.alloc hbw2.size _
  have hBp0 : w2.heap.size ≠ w.heap.size := by have := hb2.size; simp at this; omega
  rw [World.size_alloc] at h2'
  replace h2' := Lib.hid h2'
  replace pq := Lib.hid pq
  replace qq := Lib.hid qq
  have hb2s := Lib.hid hb2.size
  clear hN h2 hb2
  go_wp2_with fail
  replace h2' := h2'.out
  replace pq := pq.out
  replace qq := qq.out
  obtain ⟨W3, hW3⟩ : ∃ W3, w2.alloc (.cells #[.int .i64 (V : Int), .slice none 0 0] 28) = W3 := ⟨_, rfl⟩
  obtain ⟨Bw, hBwe⟩ : ∃ Bw, w2.heap.size = Bw := ⟨_, rfl⟩
  have hBw := hbw2.size
  obtain ⟨p, hpe⟩ : ∃ p, w.heap.size + 1 = p := ⟨_, rfl⟩
  rw [hpe] at h2'
  simp only [hpe]
  rw [hW3] at h2' pq qq hbw3 ⊢
  rw [hBwe] at qq hBp0 hBw ⊢
  replace h2' := Lib.hid h2'
  replace pq := Lib.hid pq
  replace qq := Lib.hid qq
  replace hBw := Lib.hid hBw
  have hBp := Lib.hid hBp0
  clear hbw2 hBp0 hb2s hW3 hBwe hpe
  go_loopw [9] (fun i wr => ∃ (k : Nat) (cs : List (List Int)) (vl ve : Value) (Ac : Option Addr) (cc : Nat) (vs : List Value), cs.length ≤ k ∧ k ≤ nL ∧ k ≤ 200 ∧ i = .int .i64 (k : Int) ∧ Good V cs ∧ (Ac = none → cc = 0) ∧ CF w.heap.size wr p V cs vl ve ∧
      RLLd (F3 p vl ve Bw w.heap.size) wr Ac vs cs ∧ wr.heap[Bw]? = some (.cells #[.int .i64 (V : Int), .slice Ac cs.length cc] 28 (0, 0)) ∧ wr.heap[w.heap.size]? = some (.cells #[.int .i64 0, .slice none 0 0] 28 (0, 0)) ∧ Below w.heap.size w wr) (fun i _ => nL - (intOf i).toNat)
  case atStart => exact ⟨0, [], _, _, none, 0, [], Nat.le_refl _, Nat.zero_le _, Nat.zero_le _, rfl, (fun c hc => by cases hc), fun _ => rfl, h2', RLLd.nil _ _ _, qq, pq, hbw3⟩
  case round =>
    obtain ⟨k, cs, vl, ve, Ac, cc, vs, hcl, hkn, hk2, rfl, hgood, hcn, h, hLL, hq, hpp, hbw⟩ := hrel
    clear h2' qq pq hbw3
    obtain ⟨nc, hncs⟩ : ∃ nc, cs.length = nc := ⟨_, rfl⟩
    rw [hncs] at hq
    have cq0 : wr.cell? ⟨Bw, 0, none⟩ = some (.int .i64 (V : Int)) := by rw [Lib.cell_of_heap hq]; rfl
    have cq1 : wr.cell? ⟨Bw, 1, none⟩ = some (.slice Ac nc cc) := by rw [Lib.cell_of_heap hq]; rfl
    have fq := Lib.frozen_of_heap hq
    have hcl1 := Lib.hid (show cs.length ≤ 200 by omega)
    replace hcl := Lib.hid hcl
    replace hgood := Lib.hid hgood
    replace hcn := Lib.hid hcn
    replace h := Lib.hid h
    replace hLL := Lib.hid hLL
    replace hq := Lib.hid hq
    replace hpp := Lib.hid hpp
    replace hncs := Lib.hid hncs
    by_cases hlt : k < nL
    · by_cases hl2 : k < 200
      · obtain ⟨bL, oL, rfl, hbL, hcells⟩ := hA.out (by rw [hnL.out]; omega)
        obtain ⟨A', c', e1, hRl, hle, hnil⟩ := hcells k (by rw [hnL.out]; exact hlt)
        have hcel := (hbw.cell (p := ⟨bL, oL + k, none⟩) hbL).trans e1
        obtain ⟨l0, hl0⟩ : ∃ l0, LL.getD k [] = l0 := ⟨_, rfl⟩
        rw [hl0] at hcel hRl hle
        clear e1 hl0 hcells
        by_cases hlen : l0.length ≤ 30
        · have hRt : RL w A' (l0.take 30) := hRl.take' 30
          have hIm : (l0.take 30).length ≤ 30 := by rw [List.length_take]; omega
          obtain ⟨lt, hlt0⟩ : ∃ lt, l0.take 30 = lt := ⟨_, rfl⟩
          rw [hlt0] at hRt hIm
          have hlt1 : l0 = lt := by rw [← hlt0, List.take_of_length_le (by omega)]
          have hltl0 : lt.length = l0.length := by rw [hlt1]
          obtain ⟨m, hltl⟩ : ∃ m, lt.length = m := ⟨_, rfl⟩
          rw [← hltl0, hltl] at hcel hlen hle
          rw [hltl] at hIm
          have d1 : decide ((30 : Int) < (m : Int)) = false := by rw [decide_eq_false_iff_not]; omega
          have hhq := Lib.hid hle
          replace hlen := Lib.hid hlen
          replace hRt := Lib.hid hRt
          replace hIm := Lib.hid hIm
          replace hltl := Lib.hid hltl
          replace hnil := Lib.hid hnil
          have hRwr : RL wr A' lt := hRt.out.over hbw
          have hzr := hbw.size
          clear hRl hle hlt0
          go_wp2_with (at_builtin; refine wpList_append_RL rfl _ _ rfl wr.heap.size _ 0 [] rfl (World.ownsRow_made (base := wr.heap.size) wr #[] 0 (Nat.le_refl _) (by decide) (by simp)) A' m c' lt hltl.out rfl hnil.out (hRwr.over ((Below.refl _ wr).alloc (Nat.le_refl _) _)) (by have := hIm.out; omega) (by simp) ?f1)
          case f1 =>
            intro v3 w3 own3 hg3
            have hb3 : Below wr.heap.size wr w3 := ((Below.refl _ wr).alloc (Nat.le_refl _) _).grown hg3 (by simp) (fun j e => by cases e; exact Nat.le_refl _)
            have own3 : w3.ownsRow wr.heap.size 3 1 v3 m (iv lt) := by simpa using own3
            have own3' : w3.ownsRow wr.heap.size 3 1 v3 lt.length (iv lt) := by rw [hltl.out]; exact own3
            obtain ⟨A3, c3, hv3, hR3⟩ := own_RL own3'
            rw [hltl.out] at hv3
            subst hv3
            have h3 := h.out.over hb3
            have hA := Add_t h3 A3 c3 lt hR3 (by rw [hltl.out]; have := hIm.out; omega)
            have hcs1 : (addF V cs lt).2.length ≤ k + 1 := addF_len V cs lt k hcl.out
            have hgd := addF_good V cs lt hgood.out
            obtain ⟨r, cs2, hr⟩ : ∃ r cs2, addF V cs lt = (r, cs2) := ⟨_, _, rfl⟩
            rw [hltl.out, hr] at hA
            rw [hr] at hcs1 hgd
            have hL3 := hLL.out.keep (Keep.of_below hb3)
            have hbw3 := below_call hb3 hbw hbw.size
            have q3 := (hb3.block _ (lt_of_get hq.out)).trans hq.out
            have p3 := (hb3.block _ (lt_of_get hpp.out)).trans hpp.out
            replace hA := Lib.hid hA
            replace h3 := Lib.hid h3
            replace hL3 := Lib.hid hL3
            replace hr := Lib.hid hr
            replace hcs1 := Lib.hid hcs1
            replace hgd := Lib.hid hgd
            replace q3 := Lib.hid q3
            replace p3 := Lib.hid p3
            clear hg3 own3 own3' hR3 hq hpp hLL h hgood hcl hb3 hRwr cq0 cq1 fq
            go_wp2_with fail
            (with_reducible refine hA.out.mono ?_)
            rintro e w4 ⟨rfl, vl4, ve4, h4, k4, f4⟩
            have hb4 := h3.out.below k4
            have hbw4 : Below w.heap.size w w4 := hbw3.trans (hb4)
            have hz34 := hb4.size
            have ltq := lt_of_get q3.out
            have ltp := lt_of_get p3.out
            have nq : ∀ b, FP p vl ve b → b ≠ Bw := fun b hb => FP_ne h3.out q3.out (by decide) (by decide) b hb
            have np : ∀ b, FP p vl ve b → b ≠ w.heap.size := fun b hb => FP_ne h3.out p3.out (by decide) (by decide) b hb
            have q4 := (k4.block Bw ltq (fun hf => nq _ hf rfl)).trans q3.out
            have p4 := (k4.block w.heap.size ltp (fun hf => np _ hf rfl)).trans p3.out
            have hL4 : RLLd (F3 p vl4 ve4 Bw w.heap.size) w4 Ac vs cs := by
              have m1 := hL3.out.mono (G := fun b => F3 p vl ve Bw w.heap.size b ∨ F3 p vl4 ve4 Bw w.heap.size b) fun b hb hg => by
                rcases hg with e | e | e
                · exact e
                · rcases f4 b e with e | e
                  · exact Or.inl e
                  · omega
                · exact Or.inr e
              exact (m1.keep (k4.mono fun b hb => Or.inl (Or.inl hb))).mono fun b _ hg => Or.inr hg
            have hRA := rAdd_t (F3 p vl4 ve4 Bw w.heap.size) V cs Ac cc vs lt A' c' w4 hV60.out (by have := hcl1.out; omega) (by rw [hltl.out]; exact hIm.out) (hRt.out.over hbw4) hcn.out hL4 (fun b hb => by
              rcases hb with e | e | e
              · exact (h4.fp b e).2
              · rw [e]; exact lt_of_get q4
              · rw [e]; exact lt_of_get p4)
            rw [hr.out, hltl.out, hncs.out] at hRA
            have c40 : w4.cell? ⟨Bw, 0, none⟩ = some (.int .i64 (V : Int)) := by rw [Lib.cell_of_heap q4]; rfl
            have c41 : w4.cell? ⟨Bw, 1, none⟩ = some (.slice Ac nc cc) := by rw [Lib.cell_of_heap q4]; rfl
            have f4q := Lib.frozen_of_heap q4
            have ltq4 := lt_of_get q4
            have ltp4 := lt_of_get p4
            replace hRA := Lib.hid hRA
            replace h4 := Lib.hid h4
            replace q4 := Lib.hid q4
            replace p4 := Lib.hid p4
            have hz4 := hbw4.size
            clear hA h3 hL3 hL4 k4 f4 nq np q3 p3 hb4 hbw3 ltq ltp
            go_wp2_with fail
            (with_reducible refine hRA.out.mono ?_)
            rintro e w5 ⟨Ac5, cc5, vs5, rfl, hcn5, hL5, hb5⟩
            have h5 := h4.out.over hb5
            have q5 := (hb5.block _ ltq4).trans q4.out
            have p5 := (hb5.block _ ltp4).trans p4.out
            have hbw5 : Below w.heap.size w w5 := below_call hb5 hbw4 hz4
            obtain ⟨nc5, hnc5⟩ : ∃ nc5, cs2.length = nc5 := ⟨_, rfl⟩
            rw [hnc5]
            have c50 : w5.cell? ⟨Bw, 0, none⟩ = some (.int .i64 (V : Int)) := by rw [Lib.cell_of_heap q5]; rfl
            have c51 : w5.cell? ⟨Bw, 1, none⟩ = some (.slice Ac nc cc) := by rw [Lib.cell_of_heap q5]; rfl
            have f5q := Lib.frozen_of_heap q5
            have ltq5 := lt_of_get q5
            have ltp5 := lt_of_get p5
            have hz5 := hbw5.size
            have hrel := make_rel Bw h5 hL5 q5 p5 hbw5 hBw.out (Ne.symm hBp.out) (.cells #[.int .i64 (V : Int), .slice Ac5 nc5 cc5] 28) Ac5 nc5 cc5
            replace hrel := Lib.hid hrel
            replace hcn5 := Lib.hid hcn5
            replace hnc5 := Lib.hid hnc5
            clear hRA h4 q4 p4 c40 c41 f4q hL5 hb5 hbw4 h5 q5 p5
            go_wp2_with fail
            go_roundw
            case rel => exact ⟨k + 1, cs2, vl4, ve4, Ac5, cc5, vs5, hcs1.out, by omega, by omega, by go_num, hgd.out, hcn5.out, hrel.out.1, hrel.out.2.1, (by rw [hnc5.out]; exact hrel.out.2.2.1), hrel.out.2.2.2.1, hrel.out.2.2.2.2⟩
            case measure => simp [intOf]; omega
        · have hRt : RL w A' (l0.take 30) := hRl.take' 30
          have hIm : (l0.take 30).length ≤ 30 := by rw [List.length_take]; omega
          obtain ⟨lt, hlt0⟩ : ∃ lt, l0.take 30 = lt := ⟨_, rfl⟩
          rw [hlt0] at hRt hIm
          have hltl : lt.length = 30 := by rw [← hlt0, List.length_take]; omega
          obtain ⟨ba, oa, hAe⟩ : ∃ b off : Nat, A' = some ⟨b, off, none⟩ := by
            obtain ⟨b, off, e, _⟩ := hRl (by omega)
            exact ⟨b, off, e⟩
          subst hAe
          obtain ⟨n0, hn0⟩ : ∃ n0, l0.length = n0 := ⟨_, rfl⟩
          rw [hn0] at hlen hcel hle
          have d1 : decide ((30 : Int) < (n0 : Int)) = true := by rw [decide_eq_true_iff]; omega
          have d3 : 30 ≤ c' := by omega
          have d4 : ¬ c' = 30 := by omega
          have hhq := Lib.hid hle
          replace hlen := Lib.hid hlen
          replace hRt := Lib.hid hRt
          replace hIm := Lib.hid hIm
          replace hltl := Lib.hid hltl
          replace hnil := Lib.hid hnil
          have hRwr : RL wr (some ⟨ba, oa, none⟩) lt := hRt.out.over hbw
          have hzr := hbw.size
          clear hRl hle hlt0
          go_wp2_with (at_builtin; refine wpList_append_RL rfl _ _ rfl wr.heap.size _ 0 [] rfl (World.ownsRow_made (base := wr.heap.size) wr #[] 0 (Nat.le_refl _) (by decide) (by simp)) (some ⟨ba, oa, none⟩) 30 c' lt hltl.out rfl hnil.out (hRwr.over ((Below.refl _ wr).alloc (Nat.le_refl _) _)) (by have := hIm.out; omega) (by simp) ?f1)
          case f1 =>
            intro v3 w3 own3 hg3
            have hb3 : Below wr.heap.size wr w3 := ((Below.refl _ wr).alloc (Nat.le_refl _) _).grown hg3 (by simp) (fun j e => by cases e; exact Nat.le_refl _)
            have own3 : w3.ownsRow wr.heap.size 3 1 v3 30 (iv lt) := by simpa using own3
            have own3' : w3.ownsRow wr.heap.size 3 1 v3 lt.length (iv lt) := by rw [hltl.out]; exact own3
            obtain ⟨A3, c3, hv3, hR3⟩ := own_RL own3'
            rw [hltl.out] at hv3
            subst hv3
            have h3 := h.out.over hb3
            have hA := Add_t h3 A3 c3 lt hR3 (by rw [hltl.out]; decide)
            have hcs1 : (addF V cs lt).2.length ≤ k + 1 := addF_len V cs lt k hcl.out
            have hgd := addF_good V cs lt hgood.out
            obtain ⟨r, cs2, hr⟩ : ∃ r cs2, addF V cs lt = (r, cs2) := ⟨_, _, rfl⟩
            rw [hltl.out, hr] at hA
            rw [hr] at hcs1 hgd
            have hL3 := hLL.out.keep (Keep.of_below hb3)
            have hbw3 := below_call hb3 hbw hbw.size
            have q3 := (hb3.block _ (lt_of_get hq.out)).trans hq.out
            have p3 := (hb3.block _ (lt_of_get hpp.out)).trans hpp.out
            replace hA := Lib.hid hA
            replace h3 := Lib.hid h3
            replace hL3 := Lib.hid hL3
            replace hr := Lib.hid hr
            replace hcs1 := Lib.hid hcs1
            replace hgd := Lib.hid hgd
            replace q3 := Lib.hid q3
            replace p3 := Lib.hid p3
            clear hg3 own3 own3' hR3 hq hpp hLL h hgood hcl hb3 hRwr cq0 cq1 fq
            go_wp2_with fail
            (with_reducible refine hA.out.mono ?_)
            rintro e w4 ⟨rfl, vl4, ve4, h4, k4, f4⟩
            have hb4 := h3.out.below k4
            have hbw4 : Below w.heap.size w w4 := hbw3.trans (hb4)
            have hz34 := hb4.size
            have ltq := lt_of_get q3.out
            have ltp := lt_of_get p3.out
            have nq : ∀ b, FP p vl ve b → b ≠ Bw := fun b hb => FP_ne h3.out q3.out (by decide) (by decide) b hb
            have np : ∀ b, FP p vl ve b → b ≠ w.heap.size := fun b hb => FP_ne h3.out p3.out (by decide) (by decide) b hb
            have q4 := (k4.block Bw ltq (fun hf => nq _ hf rfl)).trans q3.out
            have p4 := (k4.block w.heap.size ltp (fun hf => np _ hf rfl)).trans p3.out
            have hL4 : RLLd (F3 p vl4 ve4 Bw w.heap.size) w4 Ac vs cs := by
              have m1 := hL3.out.mono (G := fun b => F3 p vl ve Bw w.heap.size b ∨ F3 p vl4 ve4 Bw w.heap.size b) fun b hb hg => by
                rcases hg with e | e | e
                · exact e
                · rcases f4 b e with e | e
                  · exact Or.inl e
                  · omega
                · exact Or.inr e
              exact (m1.keep (k4.mono fun b hb => Or.inl (Or.inl hb))).mono fun b _ hg => Or.inr hg
            have hRA := rAdd_t (F3 p vl4 ve4 Bw w.heap.size) V cs Ac cc vs lt (some ⟨ba, oa, none⟩) c' w4 hV60.out (by have := hcl1.out; omega) (by rw [hltl.out]; exact Nat.le_refl _) (hRt.out.over hbw4) hcn.out hL4 (fun b hb => by
              rcases hb with e | e | e
              · exact (h4.fp b e).2
              · rw [e]; exact lt_of_get q4
              · rw [e]; exact lt_of_get p4)
            rw [hr.out, hltl.out, hncs.out] at hRA
            have c40 : w4.cell? ⟨Bw, 0, none⟩ = some (.int .i64 (V : Int)) := by rw [Lib.cell_of_heap q4]; rfl
            have c41 : w4.cell? ⟨Bw, 1, none⟩ = some (.slice Ac nc cc) := by rw [Lib.cell_of_heap q4]; rfl
            have f4q := Lib.frozen_of_heap q4
            have ltq4 := lt_of_get q4
            have ltp4 := lt_of_get p4
            replace hRA := Lib.hid hRA
            replace h4 := Lib.hid h4
            replace q4 := Lib.hid q4
            replace p4 := Lib.hid p4
            have hz4 := hbw4.size
            clear hA h3 hL3 hL4 k4 f4 nq np q3 p3 hb4 hbw3 ltq ltp
            go_wp2_with fail
            (with_reducible refine hRA.out.mono ?_)
            rintro e w5 ⟨Ac5, cc5, vs5, rfl, hcn5, hL5, hb5⟩
            have h5 := h4.out.over hb5
            have q5 := (hb5.block _ ltq4).trans q4.out
            have p5 := (hb5.block _ ltp4).trans p4.out
            have hbw5 : Below w.heap.size w w5 := below_call hb5 hbw4 hz4
            obtain ⟨nc5, hnc5⟩ : ∃ nc5, cs2.length = nc5 := ⟨_, rfl⟩
            rw [hnc5]
            have c50 : w5.cell? ⟨Bw, 0, none⟩ = some (.int .i64 (V : Int)) := by rw [Lib.cell_of_heap q5]; rfl
            have c51 : w5.cell? ⟨Bw, 1, none⟩ = some (.slice Ac nc cc) := by rw [Lib.cell_of_heap q5]; rfl
            have f5q := Lib.frozen_of_heap q5
            have ltq5 := lt_of_get q5
            have ltp5 := lt_of_get p5
            have hz5 := hbw5.size
            have hrel := make_rel Bw h5 hL5 q5 p5 hbw5 hBw.out (Ne.symm hBp.out) (.cells #[.int .i64 (V : Int), .slice Ac5 nc5 cc5] 28) Ac5 nc5 cc5
            replace hrel := Lib.hid hrel
            replace hcn5 := Lib.hid hcn5
            replace hnc5 := Lib.hid hnc5
            clear hRA h4 q4 p4 c40 c41 f4q hL5 hb5 hbw4 h5 q5 p5
            go_wp2_with fail
            go_roundw
            case rel => exact ⟨k + 1, cs2, vl4, ve4, Ac5, cc5, vs5, hcs1.out, by omega, by omega, by go_num, hgd.out, hcn5.out, hrel.out.1, hrel.out.2.1, (by rw [hnc5.out]; exact hrel.out.2.2.1), hrel.out.2.2.2.1, hrel.out.2.2.2.2⟩
            case measure => simp [intOf]; omega
      · obtain rfl : k = 200 := by omega
        have hk9 := Lib.hid hkn
        clear hkn hk2
        go_wp2_with fail
        have fR := Lib.frozen_of_heap hpp.out
        have cR0 : wr.cell? ⟨w.heap.size, 0, none⟩ = some (.int .i64 0) := by rw [Lib.cell_of_heap hpp.out]; rfl
        have cR1 : wr.cell? ⟨w.heap.size, 1, none⟩ = some (.slice none 0 0) := by rw [Lib.cell_of_heap hpp.out]; rfl
        have hS0 : wr.drew.cell? ⟨Bw, 0, none⟩ = some (.int .i64 (V : Int)) ∧ wr.drew.cell? ⟨Bw, 1, none⟩ = some (.slice Ac nc cc) := ⟨cq0, cq1⟩
        refine region_anyT (n := 3) (S := fun w' => w'.cell? ⟨Bw, 0, none⟩ = some (.int .i64 (V : Int)) ∧ w'.cell? ⟨Bw, 1, none⟩ = some (.slice Ac nc cc)) (by kernel_rfl) ?_
        refine anyT_take (i := 0) (v := pv p) rfl (by kernel_rfl) (by kernel_rfl) (fun _ _ _ h => h) (Or.inl ⟨by rfl, ?_⟩) hS0 ?_
        · intro w' hw'
          obtain ⟨k1, k2⟩ := hw'
          go_simp
          try with_reducible rfl
        try simp only [Act.put, List.getElem_toArray, List.getElem_cons_zero, List.setIfInBounds_toArray, List.set_cons_zero, List.set_cons_succ]
        refine anyT_take (i := 1) (v := .agg #[.int .i64 (V : Int), .slice Ac nc cc]) rfl (by kernel_rfl) (by kernel_rfl) (fun _ _ _ h => h) (Or.inl ⟨by rfl, ?_⟩) hS0 ?_
        · intro w' hw'
          obtain ⟨k1, k2⟩ := hw'
          go_simp
          try with_reducible rfl
        try simp only [Act.put, List.getElem_toArray, List.getElem_cons_zero, List.getElem_cons_succ, List.setIfInBounds_toArray, List.set_cons_zero, List.set_cons_succ]
        refine anyT_take (i := 2) (v := pv p) rfl (by kernel_rfl) (by kernel_rfl) (fun _ _ _ h => h) (Or.inl ⟨by rfl, ?_⟩) hS0 ?_
        · intro w' hw'
          obtain ⟨k1, k2⟩ := hw'
          go_simp
          try with_reducible rfl
        try simp only [Act.put, List.getElem_toArray, List.getElem_cons_zero, List.getElem_cons_succ, List.setIfInBounds_toArray, List.set_cons_zero, List.set_cons_succ]
        refine anyT_one (i := 3) (by kernel_rfl) ?_
        refine wpOp_step rfl (fun K hK => ?_)
        replace hK := Lib.hid hK
        go_simp
        refine hK.out _ _ ⟨fun h => absurd h (by decide), ?_⟩
        clear hK K
        try simp only [Act.put]
        refine anyT_one (i := 4) (by kernel_rfl) ?_
        refine wpOp_step rfl (fun K hK => ?_)
        replace hK := Lib.hid hK
        go_simp
        refine hK.out _ _ ⟨fun h => absurd h (by decide), ?_⟩
        clear hK K
        refine anyT_done (by kernel_rfl) ?_ _
        go_wp2_with fail
        refine bodyPost_ret (v := .tuple #[pv p, .agg #[.int .i64 (V : Int), .slice Ac nc cc], .bool true]) (by simp [results, Try.results5, go_sem, cR0, cR1]) rfl ?_
        have hfin := make_fin (w5 := wr) h.out hLL.out hpp.out hbw Ac nc cc
        exact ⟨p, cs, vl, ve, Ac, cc, vs, by rw [hncs.out], hfin.1, hcl1.out, hgood.out, hcn.out, hfin.2.1, hfin.2.2⟩
    · obtain rfl : k = nL := by omega
      have hk9 := Lib.hid hkn
      clear hkn hk2
      go_wp2_with fail
      have fR := Lib.frozen_of_heap hpp.out
      have cR0 : wr.cell? ⟨w.heap.size, 0, none⟩ = some (.int .i64 0) := by rw [Lib.cell_of_heap hpp.out]; rfl
      have cR1 : wr.cell? ⟨w.heap.size, 1, none⟩ = some (.slice none 0 0) := by rw [Lib.cell_of_heap hpp.out]; rfl
      have hS0 : wr.drew.cell? ⟨Bw, 0, none⟩ = some (.int .i64 (V : Int)) ∧ wr.drew.cell? ⟨Bw, 1, none⟩ = some (.slice Ac nc cc) := ⟨cq0, cq1⟩
      refine region_anyT (n := 3) (S := fun w' => w'.cell? ⟨Bw, 0, none⟩ = some (.int .i64 (V : Int)) ∧ w'.cell? ⟨Bw, 1, none⟩ = some (.slice Ac nc cc)) (by kernel_rfl) ?_
      refine anyT_take (i := 0) (v := pv p) rfl (by kernel_rfl) (by kernel_rfl) (fun _ _ _ h => h) (Or.inl ⟨by rfl, ?_⟩) hS0 ?_
      · intro w' hw'
        obtain ⟨k1, k2⟩ := hw'
        go_simp
        try with_reducible rfl
      try simp only [Act.put, List.getElem_toArray, List.getElem_cons_zero, List.setIfInBounds_toArray, List.set_cons_zero, List.set_cons_succ]
      refine anyT_take (i := 1) (v := .agg #[.int .i64 (V : Int), .slice Ac nc cc]) rfl (by kernel_rfl) (by kernel_rfl) (fun _ _ _ h => h) (Or.inl ⟨by rfl, ?_⟩) hS0 ?_
      · intro w' hw'
        obtain ⟨k1, k2⟩ := hw'
        go_simp
        try with_reducible rfl
      try simp only [Act.put, List.getElem_toArray, List.getElem_cons_zero, List.getElem_cons_succ, List.setIfInBounds_toArray, List.set_cons_zero, List.set_cons_succ]
      refine anyT_take (i := 2) (v := pv p) rfl (by kernel_rfl) (by kernel_rfl) (fun _ _ _ h => h) (Or.inl ⟨by rfl, ?_⟩) hS0 ?_
      · intro w' hw'
        obtain ⟨k1, k2⟩ := hw'
        go_simp
        try with_reducible rfl
      try simp only [Act.put, List.getElem_toArray, List.getElem_cons_zero, List.getElem_cons_succ, List.setIfInBounds_toArray, List.set_cons_zero, List.set_cons_succ]
      refine anyT_one (i := 3) (by kernel_rfl) ?_
      refine wpOp_step rfl (fun K hK => ?_)
      replace hK := Lib.hid hK
      go_simp
      refine hK.out _ _ ⟨fun h => absurd h (by decide), ?_⟩
      clear hK K
      try simp only [Act.put]
      refine anyT_one (i := 4) (by kernel_rfl) ?_
      refine wpOp_step rfl (fun K hK => ?_)
      replace hK := Lib.hid hK
      go_simp
      refine hK.out _ _ ⟨fun h => absurd h (by decide), ?_⟩
      clear hK K
      refine anyT_done (by kernel_rfl) ?_ _
      go_wp2_with fail
      refine bodyPost_ret (v := .tuple #[pv p, .agg #[.int .i64 (V : Int), .slice Ac nc cc], .bool true]) (by simp [results, Try.results5, go_sem, cR0, cR1]) rfl ?_
      have hfin := make_fin (w5 := wr) h.out hLL.out hpp.out hbw Ac nc cc
      exact ⟨p, cs, vl, ve, Ac, cc, vs, by rw [hncs.out], hfin.1, hcl1.out, hgood.out, hcn.out, hfin.2.1, hfin.2.2⟩
end Go.Proofs.Ytembgefbmecdbaa
