/-
  The reference's formulas: how its clauses lie, and what they are after its Add.
-/
import Derived.Test.YtembgefbmecdbaaNb
namespace Go.Proofs.Ytembgefbmecdbaa
open Go.RowKit Go.Lib
/-- A slice of numbers reads as l, and lies in no block of F. -/
def RLd (F : Nat → Prop) (w : World) (A : Option Addr) (l : List Int) : Prop := 0 < l.length → ∃ b off : Nat, A = some ⟨b, off, none⟩ ∧ b < w.heap.size ∧ ¬ F b ∧ ∀ j, j < l.length → w.cell? ⟨b, off + j, none⟩ = some (.int .i64 (l.getD j 0))
theorem RLd.rl {F : Nat → Prop} {w : World} {A : Option Addr} {l : List Int} (h : RLd F w A l) : RL w A l := fun h0 => by
  obtain ⟨b, off, e, hb, _, hc⟩ := h h0
  exact ⟨b, off, e, hb, hc⟩
theorem Keep.cell {F : Nat → Prop} {w w' : World} (k : Keep F w w') {b o : Nat} (hb : b < w.heap.size) (hF : ¬ F b) : w'.cell? ⟨b, o, none⟩ = w.cell? ⟨b, o, none⟩ := World.cell?_of_block (w := w) (k.block b hb hF)
theorem RLd.keep {F : Nat → Prop} {w w' : World} {A : Option Addr} {l : List Int} (h : RLd F w A l) (k : Keep F w w') : RLd F w' A l := fun h0 => by
  obtain ⟨b, off, e, hb, hF, hc⟩ := h h0
  exact ⟨b, off, e, Nat.lt_of_lt_of_le hb k.size, hF, fun j hj => (k.cell hb hF).trans (hc j hj)⟩
theorem RLd.mono {F G : Nat → Prop} {w : World} {A : Option Addr} {l : List Int} (h : RLd F w A l) (hG : ∀ b, b < w.heap.size → G b → F b) : RLd G w A l := fun h0 => by
  obtain ⟨b, off, e, hb, hF, hc⟩ := h h0
  exact ⟨b, off, e, hb, fun hg => hF (hG b hb hg), hc⟩
/-- The reference's clauses: vs are the slices, cs what they read as. -/
def RLLd (F : Nat → Prop) (w : World) (A : Option Addr) (vs : List Value) (cs : List (List Int)) : Prop :=
  vs.length = cs.length ∧ (0 < cs.length → ∃ b off : Nat, A = some ⟨b, off, none⟩ ∧ b < w.heap.size ∧ ¬ F b ∧ ∀ j u, vs[j]? = some u → w.cell? ⟨b, off + j, none⟩ = some u) ∧
    ∀ j, j < cs.length → ∃ A' c', vs[j]? = some (.slice A' (cs.getD j []).length c') ∧ RLd F w A' (cs.getD j [])
theorem RLLd.keep {F : Nat → Prop} {w w' : World} {A : Option Addr} {vs : List Value} {cs : List (List Int)} (h : RLLd F w A vs cs) (k : Keep F w w') : RLLd F w' A vs cs := by
  obtain ⟨h1, h2, h3⟩ := h
  refine ⟨h1, fun h0 => ?_, fun j hj => ?_⟩
  · obtain ⟨b, off, e, hb, hF, hc⟩ := h2 h0
    exact ⟨b, off, e, Nat.lt_of_lt_of_le hb k.size, hF, fun j u hj => (k.cell hb hF).trans (hc j u hj)⟩
  · obtain ⟨A', c', e, hR⟩ := h3 j hj
    exact ⟨A', c', e, hR.keep k⟩
theorem RLLd.mono {F G : Nat → Prop} {w : World} {A : Option Addr} {vs : List Value} {cs : List (List Int)} (h : RLLd F w A vs cs) (hG : ∀ b, b < w.heap.size → G b → F b) : RLLd G w A vs cs := by
  obtain ⟨h1, h2, h3⟩ := h
  refine ⟨h1, fun h0 => ?_, fun j hj => ?_⟩
  · obtain ⟨b, off, e, hb, hF, hc⟩ := h2 h0
    exact ⟨b, off, e, hb, fun hg => hF (hG b hb hg), hc⟩
  · obtain ⟨A', c', e, hR⟩ := h3 j hj
    exact ⟨A', c', e, hR.mono hG⟩
theorem RLLd.nil (F : Nat → Prop) (w : World) (A : Option Addr) : RLLd F w A [] [] := ⟨rfl, fun h => absurd h (by simp), fun j hj => absurd hj (by simp)⟩
theorem RLLd.one {F : Nat → Prop} {w : World} {A : Option Addr} {vs : List Value} {cs : List (List Int)} (h : RLLd F w A vs cs) : ∀ u ∈ vs, u.oneCell' = true := by
  obtain ⟨h1, _, h3⟩ := h
  intro u hu
  obtain ⟨j, hj, rfl⟩ := List.mem_iff_getElem.1 hu
  obtain ⟨A', c', e, _⟩ := h3 j (by omega)
  rw [List.getElem?_eq_getElem hj] at e
  rw [Option.some.inj e]
  rfl
/-- A clause more, at a new place. -/
theorem RLLd.snoc {F : Nat → Prop} {w w' : World} {A : Option Addr} {vs : List Value} {cs : List (List Int)} {d : List Int} {N0 g cap c' : Nat} {A' : Option Addr} (h : RLLd F w A vs cs) (hb : Below w.heap.size w w') (hF : ∀ b, F b → b < N0)
    (ho : w'.ownsRow N0 23 1 (.slice (some ⟨g, 0, none⟩) (cs.length + 1) cap) (cs.length + 1) (vs ++ [.slice A' d.length c'])) (hd : RL w' A' d) (hA : ∀ a : Addr, A' = some a → N0 ≤ a.block) : RLLd F w' (some ⟨g, 0, none⟩) (vs ++ [.slice A' d.length c']) (cs ++ [d]) := by
  obtain ⟨h1, h2, h3⟩ := h
  have hg := ho.lt g rfl
  refine ⟨by simp [h1], fun _ => ⟨g, 0, rfl, hg.2, fun hf => ?_, fun j u hj => ?_⟩, fun j hj => ?_⟩
  · have := hF g hf; omega
  · have hlt : j < (vs ++ [Value.slice A' d.length c']).length := by
      rcases Nat.lt_or_ge j (vs ++ [Value.slice A' d.length c']).length with h' | h'
      · exact h'
      · rw [List.getElem?_eq_none h'] at hj; cases hj
    rw [Nat.zero_add, ho.cellAt j (by simp at hlt; omega)]
    exact hj
  · by_cases e : j < cs.length
    · obtain ⟨A2, c2, e2, hR⟩ := h3 j e
      refine ⟨A2, c2, ?_, ?_⟩
      · rw [List.getElem?_append_left (by omega), e2]
        simp [List.getD, List.getElem?_append_left e]
      · have : (cs ++ [d]).getD j [] = cs.getD j [] := by simp [List.getD, List.getElem?_append_left e]
        rw [this]
        exact hR.keep (Keep.of_below hb)
    · obtain rfl : j = cs.length := by simp at hj; omega
      have e1 : (cs ++ [d]).getD cs.length [] = d := by simp [List.getD]
      refine ⟨A', c', ?_, ?_⟩
      · rw [e1, ← h1]; simp
      · rw [e1]
        intro h0
        obtain ⟨b, off, e, hb2, hc⟩ := hd h0
        exact ⟨b, off, e, hb2, fun hf => by have := hF b hf; have := hA _ e; simp at this; omega, hc⟩
theorem info_sl : (Try.prog.info? 23).map (fun i => (i.zero, i.size, i.bytes)) = some (some (.slice none 0 0), 1, 24) := by kernel_rfl
theorem RL.set {w : World} {A : Option Addr} {l : List Int} (h : RL w A l) (p : Addr) (u : Value) (hp : ∀ a : Addr, A = some a → a.block ≠ p.block) : RL (w.setCell p u) A l := fun h0 => by
  obtain ⟨b, off, e, hb, hc⟩ := h h0
  have hne : b ≠ p.block := hp _ e
  exact ⟨b, off, e, by rw [World.size_setCell]; exact hb, fun j hj => (World.cell?_of_block (w := w) (Below.heap_setCell w p u b hne)).trans (hc j hj)⟩
section
variable {w : World} {ops : Array Oper} {rest : List Oper} {o : Oper} {a : Act} {Q : Exit → Act → World → Prop}
/-- An append of whatever slice of slices behind a slice that the call owns. -/
theorem wpList_append_VL (hgd : o.guard = none) (s x : Operand) (ho : o.op = .call { callee := .builtin .append, args := #[s, x], argTypes := #[22, 22] })
    (base : Nat) (v : Value) (n : Nat) (xs : List Value) (hs : a.eval s = v) (hown : w.ownsRow base 23 1 v n xs)
    (A : Option Addr) (m c : Nat) (vs : List Value) (hl : vs.length = m) (hx : a.eval x = .slice A m c) (hnil : A = none → c = 0) (hR : 0 < m → ∃ b off : Nat, A = some ⟨b, off, none⟩ ∧ ∀ j u, vs[j]? = some u → w.cell? ⟨b, off + j, none⟩ = some u) (h1 : ∀ u ∈ vs, u.oneCell' = true) (hm : n + m ≤ 1000000000) (hbase : base ≤ w.heap.size)
    (h : ∀ v' w', w'.ownsRow base 23 1 v' (n + m) (xs ++ vs) → w.grownBy w' v.ownBlock → wpList Try.prog ops Q rest (a.put o.dst v') w') : wpList Try.prog ops Q (o :: rest) a w := by
  obtain ⟨i0, hi, hz0, hz1, hz2⟩ := info_parts info_sl
  cases A with
  | none =>
    have hm0 : m = 0 := by
      rcases Nat.eq_zero_or_pos m with e | e
      · exact e
      · obtain ⟨b, off, e, _⟩ := hR e; cases e
    subst hm0
    have hl0 : vs = [] := List.length_eq_zero_iff.1 hl
    subst hl0
    rw [hnil rfl] at hx
    exact wpList_append_own_none hgd s x 22 ho base 23 i0 1 Try.underlying22 hi v n xs hs hown hx (h v w (by simpa using hown) ⟨rfl, rfl, rfl, Nat.le_refl _, fun _ _ _ => rfl⟩)
  | some ad =>
    refine wpList_append_own w hgd s x 22 ho base 23 i0 (.slice none 0 0) 1 24 Try.underlying22 hi hz0 hz1 hz2 rfl (by decide) v n xs hs hown ad m c vs hx (by rw [hl]; omega) (fun j u hj => ?_) h1 (by unfold maxLen; omega) (by omega) hbase (fun v' w' h1 h2 _ => h v' w' h1 h2)
    have hlt : j < vs.length := by
      rcases Nat.lt_or_ge j vs.length with h' | h'
      · exact h'
      · rw [List.getElem?_eq_none h'] at hj; cases hj
    obtain ⟨b, off, e, hc⟩ := hR (by omega)
    cases e
    have hadd : (⟨b, off, none⟩ : Addr).add j = ⟨b, off + j, none⟩ := by simp [Addr.add]
    rw [hadd]
    exact hc j u hj
end
/-- What the reference's Add leaves. -/
def RA (F : Nat → Prop) (V : Nat) (r : Int) (cs' : List (List Int)) (w : World) (e : Ending) (w' : World) : Prop :=
  ∃ A' c' vs', e = .returned (.tuple #[.agg #[.int .i64 (V : Int), .slice A' cs'.length c'], .int .i64 r]) ∧ (A' = none → c' = 0) ∧ RLLd F w' A' vs' cs' ∧ Below w.heap.size w w'
set_option maxRecDepth 100000 in
set_option maxHeartbeats 6400000 in
theorem rAdd_t (F : Nat → Prop) (V : Nat) (cs : List (List Int)) (Ac : Option Addr) (cc : Nat) (vs : List Value) (l : List Int) (A : Option Addr) (c : Nat) (w : World) (hV : V ≤ 60) (hcs : cs.length ≤ 1000) (hl : l.length ≤ 30) (hR : RL w A l) (hCn : Ac = none → cc = 0) (hC : RLLd F w Ac vs cs) (hF : ∀ b, F b → b < w.heap.size) :
    Calls Try.prog 11 #[.agg #[.int .i64 (V : Int), .slice Ac cs.length cc], .slice A l.length c] w (RA F V (addF V cs l).1 (addF V cs l).2 w) := by
  obtain ⟨i0, hi, hz0, hz1, hz2⟩ := info_parts info_sl
  obtain ⟨n, hn⟩ : ∃ n, l.length = n := ⟨_, rfl⟩
  obtain ⟨nc, hnc⟩ : ∃ nc, cs.length = nc := ⟨_, rfl⟩
  obtain ⟨r, cs', hr⟩ : ∃ r cs', addF V cs l = (r, cs') := ⟨_, _, rfl⟩
  rw [hr]
  rw [hn] at hl ⊢
  rw [hnc] at hcs ⊢
  replace hn := Lib.hid hn
  replace hnc := Lib.hid hnc
  replace hr := Lib.hid hr
  replace hR := Lib.hid hR
  replace hC := Lib.hid hC
  replace hCn := Lib.hid hCn
  replace hF := Lib.hid hF
  have hb1 : Below w.heap.size w ((w.alloc (.cells #[.int .i64 (V : Int), .slice Ac nc cc] 28)).alloc (.cells #[.int .i64 0, .slice none 0 0] 28)) := ((Below.refl _ w).alloc (Nat.le_refl _) _).alloc (by simp) _
  go_enter Try.func11, Try.ntmps11
  go_wp2_with fail
  have x1 := heap_alloc_new w (.cells #[.int .i64 (V : Int), .slice Ac nc cc] 28)
  have x2 := heap_alloc_new (w.alloc (.cells #[.int .i64 (V : Int), .slice Ac nc cc] 28)) (.cells #[.int .i64 0, .slice none 0 0] 28)
  have x1' := (Lib.alloc_old (w.alloc (.cells #[.int .i64 (V : Int), .slice Ac nc cc] 28)) (.cells #[.int .i64 0, .slice none 0 0] 28) w.heap.size (by simp)).trans x1
  rw [World.size_alloc] at x2
  clear x1
  have hs2 : w.heap.size + 1 < ((w.alloc (.cells #[.int .i64 (V : Int), .slice Ac nc cc] 28)).alloc (.cells #[.int .i64 0, .slice none 0 0] 28)).heap.size := by simp
  obtain ⟨W1, hW1⟩ : ∃ W1, (w.alloc (.cells #[.int .i64 (V : Int), .slice Ac nc cc] 28)).alloc (.cells #[.int .i64 0, .slice none 0 0] 28) = W1 := ⟨_, rfl⟩
  rw [hW1] at x2 x1' hb1 hs2 ⊢
  clear hW1
  have c10 : W1.cell? ⟨w.heap.size, 0, none⟩ = some (.int .i64 (V : Int)) := by rw [Lib.cell_of_heap x1']; rfl
  have c11 : W1.cell? ⟨w.heap.size, 1, none⟩ = some (.slice Ac nc cc) := by rw [Lib.cell_of_heap x1']; rfl
  have z1 := Lib.frozen_of_heap x1'
  have z2 := Lib.frozen_of_heap x2
  have c20 : W1.cell? ⟨w.heap.size + 1, 0, none⟩ = some (.int .i64 0) := by rw [Lib.cell_of_heap x2]; rfl
  have c21 : W1.cell? ⟨w.heap.size + 1, 1, none⟩ = some (.slice none 0 0) := by rw [Lib.cell_of_heap x2]; rfl
  have hwV : IntKind.i64.wrap (-(V : Int)) = -(V : Int) := IntWalk.i64_in (n := -(V : Int)) (by omega)
  replace x1' := Lib.hid x1'
  replace x2 := Lib.hid x2
  go_loopw [6] (fun i wr => ∃ k : Nat, k ≤ n ∧ i = .int .i64 (k : Int) ∧ (∀ j, j < k → fgn V (l.getD j 0) = false) ∧ ∃ q, wr = W1.drewN q) (fun i _ => n - (intOf i).toNat)
  case atStart => exact ⟨0, Nat.zero_le _, rfl, fun j hj => by omega, 0, rfl⟩
  case round =>
    obtain ⟨k, hk, rfl, hall, q, rfl⟩ := hrel
    by_cases hlt : k < n
    · have hil : k < l.length := by rw [hn.out]; exact hlt
      obtain ⟨b, off, rfl, hb, hcell⟩ := hR.out.over hb1 (by omega)
      have cx := hcell k hil
      have hxm := getD_mem l k hil
      have hfx : fgn V (l.getD k 0) = (l.getD k 0 == 0 || decide (l.getD k 0 < -(V : Int)) || decide ((V : Int) < l.getD k 0)) := rfl
      have hany : fgn V (l.getD k 0) = true → l.any (fgn V) = true := fun h => List.any_eq_true.2 ⟨_, hxm, h⟩
      obtain ⟨x, hx⟩ : ∃ x, l.getD k 0 = x := ⟨_, rfl⟩
      rw [hx] at cx hfx hany
      replace hall := Lib.hid hall
      replace hx := Lib.hid hx
      clear hcell hxm hil
      have key : fgn V x = true → r = 3 ∧ cs' = cs := fun h => by
        have h1 := hr.out
        unfold addF at h1
        rw [if_pos (hany h)] at h1
        exact ⟨(congrArg Prod.fst h1).symm, (congrArg Prod.snd h1).symm⟩
      replace key := Lib.hid key
      clear hany
      by_cases g0 : x = 0
      · have hf : fgn V x = true := by rw [hfx, g0]; rfl
        obtain ⟨rfl, rfl⟩ := key.out hf
        have e0 : (x == 0) = true := by simpa using g0
        clear hf hfx g0
        go_wp2_with fail
        go_quiet (fail)
        go_wp2_with fail
        refine bodyPost_ret (v := .tuple #[.agg #[.int .i64 (V : Int), .slice Ac nc cc], .int .i64 3]) (by simp [results, Try.results11, go_sem, c20, c21]) rfl ?_
        have hbf : Below w.heap.size w (((W1.drewN (q + nq)).setCell ⟨w.heap.size + 1, 0, none⟩ (.int .i64 (V : Int))).setCell ⟨w.heap.size + 1, 1, none⟩ (.slice Ac nc cc)) := by
          have h0 : Below w.heap.size w (W1.drewN (q + nq)) := ⟨hb1.os, hb1.tape, hb1.output, hb1.size, hb1.block⟩
          exact (h0.setCell (p := ⟨w.heap.size + 1, 0, none⟩) (by simp) _).setCell (p := ⟨w.heap.size + 1, 1, none⟩) (by simp) _
        exact ⟨Ac, cc, vs, by rw [hnc.out], hCn.out, hC.out.keep (Keep.of_below hbf), hbf⟩
      · have e0 : (x == 0) = false := by simpa using g0
        by_cases g1 : x < -(V : Int)
        · have e1 : decide (x < -(V : Int)) = true := by simpa using g1
          have hf : fgn V x = true := by rw [hfx, e1, e0]; rfl
          obtain ⟨rfl, rfl⟩ := key.out hf
          clear hf hfx g1
          replace g0 := Lib.hid g0
          go_wp2_with fail
          go_quiet (fail)
          go_wp2_with fail
          refine bodyPost_ret (v := .tuple #[.agg #[.int .i64 (V : Int), .slice Ac nc cc], .int .i64 3]) (by simp [results, Try.results11, go_sem, c20, c21]) rfl ?_
          have hbf : Below w.heap.size w (((W1.drewN (q + nq)).setCell ⟨w.heap.size + 1, 0, none⟩ (.int .i64 (V : Int))).setCell ⟨w.heap.size + 1, 1, none⟩ (.slice Ac nc cc)) := by
            have h0 : Below w.heap.size w (W1.drewN (q + nq)) := ⟨hb1.os, hb1.tape, hb1.output, hb1.size, hb1.block⟩
            exact (h0.setCell (p := ⟨w.heap.size + 1, 0, none⟩) (by simp) _).setCell (p := ⟨w.heap.size + 1, 1, none⟩) (by simp) _
          exact ⟨Ac, cc, vs, by rw [hnc.out], hCn.out, hC.out.keep (Keep.of_below hbf), hbf⟩
        · have e1 : decide (x < -(V : Int)) = false := by simpa using g1
          by_cases g2 : (V : Int) < x
          · have e2 : decide ((V : Int) < x) = true := by simpa using g2
            have hf : fgn V x = true := by rw [hfx, e2, e1, e0]; rfl
            obtain ⟨rfl, rfl⟩ := key.out hf
            clear hf hfx g1 g2
            replace g0 := Lib.hid g0
            go_wp2_with fail
            go_quiet (fail)
            go_wp2_with fail
            refine bodyPost_ret (v := .tuple #[.agg #[.int .i64 (V : Int), .slice Ac nc cc], .int .i64 3]) (by simp [results, Try.results11, go_sem, c20, c21]) rfl ?_
            have hbf : Below w.heap.size w (((W1.drewN (q + nq)).setCell ⟨w.heap.size + 1, 0, none⟩ (.int .i64 (V : Int))).setCell ⟨w.heap.size + 1, 1, none⟩ (.slice Ac nc cc)) := by
              have h0 : Below w.heap.size w (W1.drewN (q + nq)) := ⟨hb1.os, hb1.tape, hb1.output, hb1.size, hb1.block⟩
              exact (h0.setCell (p := ⟨w.heap.size + 1, 0, none⟩) (by simp) _).setCell (p := ⟨w.heap.size + 1, 1, none⟩) (by simp) _
            exact ⟨Ac, cc, vs, by rw [hnc.out], hCn.out, hC.out.keep (Keep.of_below hbf), hbf⟩
          · have e2 : decide ((V : Int) < x) = false := by simpa using g2
            have hf : fgn V x = false := by rw [hfx, e2, e1, e0]; rfl
            have hnext : ∀ j, j < k + 1 → fgn V (l.getD j 0) = false := fun j hj => by
              by_cases e : j = k
              · subst e; rw [hx.out]; exact hf
              · exact hall.out j (by omega)
            replace hnext := Lib.hid hnext
            clear hf hfx g1 g2 key
            replace g0 := Lib.hid g0
            go_wp2_with fail
            go_quiet (fail)
            go_wp2_with fail
            go_roundw
            case rel => exact ⟨k + 1, by omega, by go_num, hnext.out, _, rfl⟩
            case measure => simp [intOf]; omega
    · obtain rfl : k = n := by omega
      have hany : l.any (fgn V) = false := List.any_eq_false.2 fun y hy => by
        obtain ⟨j, hj, rfl⟩ := List.mem_iff_getElem.1 hy
        have := hall j (by rw [← hn.out]; exact hj)
        simpa [List.getD, List.getElem?_eq_getElem hj] using this
      have hP := Plain_t l c A (W1.drewN q) (by rw [hn.out]; omega) (hR.out.over (w' := W1.drewN q) ⟨hb1.os, hb1.tape, hb1.output, hb1.size, hb1.block⟩) (fgn_dom (by omega) hany)
      rw [hn.out] at hP
      have d1 : decide ((1000 : Int) < (k : Int)) = false := by rw [decide_eq_false_iff_not]; omega
      have d2 : decide ((200000 : Int) ≤ (nc : Int)) = false := by rw [decide_eq_false_iff_not]; omega
      have hr2 := hr.out
      unfold addF at hr2
      rw [if_neg (by rw [hany]; decide), if_neg (by rw [hn.out, hnc.out]; omega)] at hr2
      replace hP := Lib.hid hP
      clear hall hany
      have hlk := Lib.hid hl
      have hck := Lib.hid hcs
      clear hl hcs
      go_wp2_with fail
      (with_reducible refine hP.out.mono ?_)
      rintro e w3 (⟨hop, rfl, hb3⟩ | ⟨hop, v, rfl, hov, hb3⟩)
      · rw [hop, if_pos rfl] at hr2
        cases hr2
        replace hb3 : Below W1.heap.size W1 w3 := ⟨hb3.os, hb3.tape, hb3.output, hb3.size, hb3.block⟩
        have hb3' : Below w.heap.size w w3 := hb1.trans (Below.mono hb3 (show w.heap.size ≤ W1.heap.size by omega))
        have y10 : w3.cell? ⟨w.heap.size, 0, none⟩ = some (.int .i64 (V : Int)) := (hb3.cell (p := ⟨w.heap.size, 0, none⟩) (by simp; omega)).trans c10
        have y11 : w3.cell? ⟨w.heap.size, 1, none⟩ = some (.slice Ac nc cc) := (hb3.cell (p := ⟨w.heap.size, 1, none⟩) (by simp; omega)).trans c11
        have y20 : w3.cell? ⟨w.heap.size + 1, 0, none⟩ = some (.int .i64 0) := (hb3.cell (p := ⟨w.heap.size + 1, 0, none⟩) (by simp; omega)).trans c20
        have y21 : w3.cell? ⟨w.heap.size + 1, 1, none⟩ = some (.slice none 0 0) := (hb3.cell (p := ⟨w.heap.size + 1, 1, none⟩) (by simp; omega)).trans c21
        have f2 : ∀ i, w3.frozen? ⟨w.heap.size + 1, i, none⟩ = false := fun i => (hb3.frozen (p := ⟨w.heap.size + 1, i, none⟩) (by simp; omega)).trans (z2 i)
        clear hP c10 c11 c20 c21 z1 z2 hb3 hop
        go_wp2_with fail
        refine bodyPost_ret (v := .tuple #[.agg #[.int .i64 (V : Int), .slice Ac nc cc], .int .i64 0]) (by simp [results, Try.results11, go_sem, y20, y21]) rfl ?_
        have hbf : Below w.heap.size w ((w3.setCell ⟨w.heap.size + 1, 0, none⟩ (.int .i64 (V : Int))).setCell ⟨w.heap.size + 1, 1, none⟩ (.slice Ac nc cc)) :=
          (hb3'.setCell (p := ⟨w.heap.size + 1, 0, none⟩) (by simp) _).setCell (p := ⟨w.heap.size + 1, 1, none⟩) (by simp) _
        exact ⟨Ac, cc, vs, by rw [hnc.out], hCn.out, hC.out.keep (Keep.of_below hbf), hbf⟩
      · rw [hop, if_neg (by decide)] at hr2
        obtain ⟨rfl, rfl⟩ : 0 = r ∧ cs ++ [canon l] = cs' := ⟨congrArg Prod.fst hr2, congrArg Prod.snd hr2⟩
        replace hb3 : Below W1.heap.size W1 w3 := ⟨hb3.os, hb3.tape, hb3.output, hb3.size, hb3.block⟩
        have hb3' : Below w.heap.size w w3 := hb1.trans (Below.mono hb3 (show w.heap.size ≤ W1.heap.size by omega))
        have hzz : W1.heap.size ≤ w3.heap.size := hb3.size
        have y10 : w3.cell? ⟨w.heap.size, 0, none⟩ = some (.int .i64 (V : Int)) := (hb3.cell (p := ⟨w.heap.size, 0, none⟩) (by simp; omega)).trans c10
        have y11 : w3.cell? ⟨w.heap.size, 1, none⟩ = some (.slice Ac nc cc) := (hb3.cell (p := ⟨w.heap.size, 1, none⟩) (by simp; omega)).trans c11
        have y20 : w3.cell? ⟨w.heap.size + 1, 0, none⟩ = some (.int .i64 0) := (hb3.cell (p := ⟨w.heap.size + 1, 0, none⟩) (by simp; omega)).trans c20
        have y21 : w3.cell? ⟨w.heap.size + 1, 1, none⟩ = some (.slice none 0 0) := (hb3.cell (p := ⟨w.heap.size + 1, 1, none⟩) (by simp; omega)).trans c21
        have f1 : ∀ i, w3.frozen? ⟨w.heap.size, i, none⟩ = false := fun i => (hb3.frozen (p := ⟨w.heap.size, i, none⟩) (by simp; omega)).trans (z1 i)
        have f2 : ∀ i, w3.frozen? ⟨w.heap.size + 1, i, none⟩ = false := fun i => (hb3.frozen (p := ⟨w.heap.size + 1, i, none⟩) (by simp; omega)).trans (z2 i)
        obtain ⟨Ap, cp, rfl, hRp⟩ := own_RL hov
        have hAp : ∀ a : Addr, Ap = some a → W1.heap.size ≤ a.block ∧ a.block < w3.heap.size := fun a ha => by
          subst ha
          exact hov.lt a.block rfl
        obtain ⟨d, hd⟩ : ∃ d, (canon l).length = d := ⟨_, rfl⟩
        rw [hd]
        have hvl : vs.length = nc := by rw [hC.out.1, hnc.out]
        have hone := hC.out.one
        have hcells : 0 < nc → ∃ b off : Nat, Ac = some ⟨b, off, none⟩ ∧ ∀ j u, vs[j]? = some u → (w3.alloc (.cells #[] 23)).cell? ⟨b, off + j, none⟩ = some u := fun h0 => by
          obtain ⟨b, off, e, hb, _, hc⟩ := hC.out.2.1 (by rw [hnc.out]; exact h0)
          exact ⟨b, off, e, fun j u hj => ((hb3'.alloc hb3'.size _).cell (p := ⟨b, off + j, none⟩) hb).trans (hc j u hj)⟩
        replace hRp := Lib.hid hRp
        replace hAp := Lib.hid hAp
        replace hd := Lib.hid hd
        replace hone := Lib.hid hone
        replace hcells := Lib.hid hcells
        have hcs1 : nc ≤ 1000 := hck.out
        clear hP c10 c11 c20 c21 z1 z2 hb3 hop hov hr2
        have hB1 : w.heap.size < w3.heap.size := by omega
        have hB2 : w.heap.size + 1 < w3.heap.size := by omega
        go_wp2_with (at_builtin; refine wpList_append_VL rfl _ _ rfl w3.heap.size _ 0 [] rfl (World.ownsRow_made (base := w3.heap.size) w3 #[] 0 (Nat.le_refl _) (by decide) (by simp)) Ac nc cc vs hvl rfl hCn.out hcells.out hone.out (by omega) (by simp) ?f1)
        case f1 =>
          intro v4 w4 own4 hg4
          have hb4 : Below w3.heap.size w3 w4 := ((Below.refl _ w3).alloc (Nat.le_refl _) _).grown hg4 (by simp) (fun j e => by cases e; exact Nat.le_refl _)
          have own4 : w4.ownsRow w3.heap.size 23 1 v4 nc vs := by simpa using own4
          have hz4 := hb4.size
          replace own4 := Lib.hid own4
          clear hg4 hcells
          go_wp2_with (at_builtin; refine wpList_append_lies _ rfl _ _ 22 rfl w3.heap.size 23 i0 (.slice none 0 0) 1 24 Try.underlying22 hi hz0 hz1 hz2 rfl (by decide) _ nc vs rfl (own4.out.alloc _) ⟨w4.heap.size, 0, none⟩ 1 1 [.slice Ap d cp] rfl rfl ?e1 ?e2 (by decide) ?e3 ?e4 ?e5 (w4.heap.size + 1) (by simp) ?e6)
          case e1 => exact World.news_of_block (heap_alloc_new _ _)
          case e2 => intro u hu; simp only [List.mem_singleton] at hu; subst hu; rfl
          case e3 => unfold maxLen; omega
          case e4 => omega
          case e5 => simp; omega
          intro g5 cap5 w5 own5 hg5 _ _
          have hb5 : Below w3.heap.size w3 w5 := (hb4.alloc hz4 _).grown hg5 (by simp; omega) (fun j e => (own4.out.lt j e).1)
          have u10 := (hb5.cell (p := ⟨w.heap.size, 0, none⟩) (by simp; omega)).trans y10
          have u11 := (hb5.cell (p := ⟨w.heap.size, 1, none⟩) (by simp; omega)).trans y11
          have u20 := (hb5.cell (p := ⟨w.heap.size + 1, 0, none⟩) (by simp; omega)).trans y20
          have u21 := (hb5.cell (p := ⟨w.heap.size + 1, 1, none⟩) (by simp; omega)).trans y21
          have f51 : ∀ i, w5.frozen? ⟨w.heap.size, i, none⟩ = false := fun i => (hb5.frozen (p := ⟨w.heap.size, i, none⟩) (by simp; omega)).trans (f1 i)
          have f52 : ∀ i, w5.frozen? ⟨w.heap.size + 1, i, none⟩ = false := fun i => (hb5.frozen (p := ⟨w.heap.size + 1, i, none⟩) (by simp; omega)).trans (f2 i)
          have hg5l := own5.lt g5 rfl
          replace own5 := Lib.hid own5
          clear hg5 own4 y10 y11 y20 y21 f1 f2
          go_wp2_with fail
          refine bodyPost_ret (v := .tuple #[.agg #[.int .i64 (V : Int), .slice (some ⟨g5, 0, none⟩) (nc + 1) cap5], .int .i64 0]) (by simp [results, Try.results11, go_sem, u20, u21]) rfl ?_
          have hbw5 : Below w.heap.size w w5 := hb3'.trans (hb5.mono hb3'.size)
          have hbf := ((hbw5.setCell (p := ⟨w.heap.size, 1, none⟩) (by simp) (.slice (some ⟨g5, 0, none⟩) (nc + 1) cap5)).setCell (p := ⟨w.heap.size + 1, 0, none⟩) (by simp) (.int .i64 (V : Int))).setCell (p := ⟨w.heap.size + 1, 1, none⟩) (by simp) (.slice (some ⟨g5, 0, none⟩) (nc + 1) cap5)
          have ho5 := own_set (own_set (own_set (own_mono own5.out hzz) (p := ⟨w.heap.size, 1, none⟩) (by simp [Value.ownBlock]; omega) (.slice (some ⟨g5, 0, none⟩) (nc + 1) cap5)) (p := ⟨w.heap.size + 1, 0, none⟩) (by simp [Value.ownBlock]; omega) (.int .i64 (V : Int))) (p := ⟨w.heap.size + 1, 1, none⟩) (by simp [Value.ownBlock]; omega) (.slice (some ⟨g5, 0, none⟩) (nc + 1) cap5)
          have hRf := (((hRp.out.over hb5).set ⟨w.heap.size, 1, none⟩ (.slice (some ⟨g5, 0, none⟩) (nc + 1) cap5) (fun a ha => by have := (hAp.out a ha).1; simp; omega)).set ⟨w.heap.size + 1, 0, none⟩ (.int .i64 (V : Int)) (fun a ha => by have := (hAp.out a ha).1; simp; omega)).set ⟨w.heap.size + 1, 1, none⟩ (.slice (some ⟨g5, 0, none⟩) (nc + 1) cap5) (fun a ha => by have := (hAp.out a ha).1; simp; omega)
          rw [← hnc.out, ← hd.out] at ho5
          have hfin := RLLd.snoc hC.out (by rw [← hnc.out] at hbf; exact hbf) (fun b hb => Nat.lt_of_lt_of_le (hF.out b hb) (show w.heap.size ≤ W1.heap.size by omega)) ho5 (by rw [← hnc.out] at hRf; exact hRf) (fun a ha => (hAp.out a ha).1)
          exact ⟨some ⟨g5, 0, none⟩, cap5, _, by rw [List.length_append, hnc.out]; rfl, (fun e => by cases e), (by rw [hnc.out] at hfin; exact hfin), hbf⟩
end Go.Proofs.Ytembgefbmecdbaa
