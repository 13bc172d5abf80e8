/-
  Graph.And.
-/
import Derived.Test.YtinfkjflomdhbaaGf
namespace Go.Proofs.Ytinfkjflomdhbaa
open Go.RowKit Go.Lib Go.Maps
theorem RL.two (w : World) (a b : Int) : RL (w.alloc (.cells #[.int .i64 a, .int .i64 b] 3)) (some ⟨w.heap.size, 0, none⟩) [a, b] := fun _ => by
  have hb := heap_alloc_new w (.cells #[.int .i64 a, .int .i64 b] 3)
  refine ⟨w.heap.size, 0, rfl, lt_of_get hb, fun j hj => ?_⟩
  rw [Lib.cell_of_heap hb]
  have : j = 0 ∨ j = 1 := by simp at hj; omega
  rcases this with rfl | rfl <;> rfl
theorem foreign_not {N : Nat} {a : Nat} (h : a / 2 < N) : foreign N (a : Int) = false := by
  unfold foreign
  simp
  omega
/-- The look-up of an AND. -/
theorem look_fan {w : World} {m n : Nat} {D : DU} {F : List PN} (h : MapIs w m n D) (ha : AgF D F) {x y : Nat} (h2 : 2 ≤ x) (hx : x < 1000000) (hy : y < 1000000) :
    ∃ c : Int, (∀ k, (Instr.lookup 54 (.map (some m)) (.agg #[.int .i64 (x : Int), .int .i64 (y : Int)]) true).run Try.prog (w.drewN k) = .ok (.tuple #[.int .i64 c, .bool (lookF F (x, y)).isSome]) (w.drewN k)) ∧ ∀ i, lookF F (x, y) = some i → c = ((2 * i : Nat) : Int) := by
  have hk : ∀ k, ∃ v ps, (Instr.lookup 54 (.map (some m)) (.agg #[.int .i64 (x : Int), .int .i64 (y : Int)]) true).run Try.prog (w.drewN k) = .ok (.tuple #[v, .bool (Maps.has D (kl (x, y)))]) (w.drewN k) ∧ plainElem Try.prog 3 v = some (D.atKey (kl (x, y)) (.lit (.int .i64 ((0 : Nat) : Int))), ps) := fun k =>
    World.ownsMap.look_ok (map_keep (w' := w.drewN k) h rfl) kF Try.underlying54 (zI _) (plainElem_int Try.underlying3 (wf_small (n := 0) (by decide))) (key_mk hx hy)
  obtain ⟨e1, e2⟩ := ha.2 (x, y) h2 hx hy
  obtain ⟨v, ps, hr, hv⟩ := hk 0
  obtain ⟨c, rfl, hc, _⟩ := plainElem_int_inv Try.underlying3 hv
  refine ⟨c, fun k => ?_, fun i hi => ?_⟩
  · obtain ⟨v', ps', hr', hv'⟩ := hk k
    obtain ⟨c', rfl, hc', _⟩ := plainElem_int_inv Try.underlying3 hv'
    have ea := congrArg Prod.fst hc
    have eb := congrArg Prod.fst hc'
    simp only at ea eb
    rw [ea] at eb
    injection eb with eb
    injection eb with _ eb
    rw [← e1, eb]
    exact hr'
  have := congrArg Prod.fst hc
  simp only at this
  rw [e2 i hi] at this
  injection this with this
  injection this with _ this
  exact this.symm
theorem GIx.small {w : World} {B p : Nat} {F : List PN} {v : Value} {m n : Nat} {D : DU} (h : GIx w B p F v m n D) {a : Nat} (ha : a / 2 < F.length) : a < 1000000 := by have := h.sm; omega
/-- Behind a call of add and the store into the map. -/
theorem AD.and {w w2 w' : World} {B p m n : Nat} {F : List PN} {v : Value} {D : DU} {x y : Nat} (h : AD w B p F (x, y) m n D w2) (g : GIx w B p F v m n D) (hl : F.length < 50000) (hx : x < 1000000) (hy : y < 1000000) (h2 : 2 ≤ x) (hlt : x < y) (hyF : y / 2 < F.length) (hn : y ≠ nt x) (hf : lookF F (x, y) = none)
    (hm : MapIs w' m (n + 1) (D.put (kl (x, y)) (.lit (.int .i64 ((2 * F.length : Nat) : Int))))) (hg : w2.grownBy w' (some m)) : GI w' B p (F ++ [(x, y)]) ∧ WP p w w' := by
  obtain ⟨v', hb, hr, _, hw⟩ := h
  have hmp := g.mp'
  have hvm : v'.ownBlock ≠ some m := fun e => by
    obtain ⟨cur, hc⟩ := own_blk hr m e
    obtain ⟨es, c, hm2, _⟩ := ‹MapIs w2 m n D›
    rw [hm2] at hc
    cases hc
  have hp' : w'.heap[p]? = some (.cells #[v', .map (some m), .int .i64 (cnt F : Int)] 56 (0, 0)) := (hg.block p (lt_of_get hb) (fun e => hmp (Option.some.inj e).symm)).trans hb
  have hcn : cnt (F ++ [(x, y)]) = cnt F := by rw [cnt_snoc _ _ g.wf.pos, if_neg (by simp only; omega), Nat.add_zero]
  have hft : ∀ q, FT w' p q → FT w2 p q := fun q hq => by
    rcases hq with e | ⟨v2, m2, i2, T2, f2, h1, h2⟩
    · exact .inl e
    · rw [hp'] at h1
      cases h1
      exact .inr ⟨_, _, _, _, _, hb, h2⟩
  refine ⟨⟨v', m, n + 1, _, { b := g.b, bm := g.bm, wf := g.wf.and h2 hlt hyF hn (lookF_none hf), sm := by rw [List.length_append]; simp; omega, blk := by rw [hcn]; exact hp', row := ?_, mp := hm, ag := g.ag.and ⟨hx, hy⟩ hf, nl := by rw [List.length_append]; have := g.nl; simp; omega }⟩, ?_⟩
  · rw [List.length_append]
    exact own_keepT hr fun b hb2 => hg.block b (own_ltT hr b hb2).2 fun e => hvm (by rw [hb2, e])
  · refine hw.trans ⟨keep_grown hg fun b hb2 => ?_, fun q hq => .inl (hft q hq)⟩
    cases hb2
    exact .inr ⟨_, _, _, _, _, hb, .inr rfl⟩
/-- Behind the has that begins And. -/
theorem GV.of {w w2 : World} {B p : Nat} {F : List PN} {o : Obj} (h : GI w B p F) (hb : Below w.heap.size w (w.alloc o)) (hb2 : Below (w.alloc o).heap.size (w.alloc o) w2) : GI w2 B p F ∧ WP p w w2 ∧ Below w.heap.size w w2 := by
  have h3 := below_call hb2 hb hb.size
  exact ⟨h.over h3, WP.of h3 h.lt, h3⟩
set_option maxRecDepth 100000 in
set_option maxHeartbeats 1600000 in
theorem And_lt {B p : Nat} {F : List PN} (x y : Nat) (w : World) (h : GI w B p F) (hl : F.length < 50000) (hlt : x < y) (hy : y / 2 < F.length) :
    Calls Try.prog 16 #[pg p, .int .i64 (x : Int), .int .i64 (y : Int)] w (GV w B p (andF F x y).1 (.tuple #[.int .i64 (((andF F x y).2 : Nat) : Int), .int .i64 0])) := by
  have hx : x / 2 < F.length := by omega
  have hbs := (Below.refl w.heap.size w).alloc (Nat.le_refl _) (.cells #[.int .i64 (x : Int), .int .i64 (y : Int)] 3)
  have hH : Calls Try.prog 29 #[pg p, .slice (some ⟨w.heap.size, 0, none⟩) 2 2] (w.alloc (.cells #[.int .i64 (x : Int), .int .i64 (y : Int)] 3)) (RV (w.alloc (.cells #[.int .i64 (x : Int), .int .i64 (y : Int)] 3)) (.bool true)) := by
    have h1 := has_t [(x : Int), (y : Int)] (some ⟨w.heap.size, 0, none⟩) 2 (w.alloc (.cells #[.int .i64 (x : Int), .int .i64 (y : Int)] 3)) (h.over hbs) (RL.two w x y) (by simp) (by simp; omega)
    have e : (!([(x : Int), (y : Int)]).any (foreign F.length)) = true := by simp [foreign_not hx, foreign_not hy]
    rw [e] at h1
    exact h1
  unfold RV at hH
  have hN0 := fun W => Not_t x W (by omega)
  unfold RW at hN0
  unfold andF
  rw [Nat.min_eq_left (by omega), Nat.max_eq_right (by omega)]
  have q1 : (x : Int) < (y : Int) := by omega
  obtain ⟨z, hz⟩ : ∃ z, nt x = z := ⟨_, rfl⟩
  have hzz := nt_ne x
  rw [hz] at hN0 hzz ⊢
  have hG2 := fun (w2 : World) (q : Below (w.alloc (.cells #[.int .i64 (x : Int), .int .i64 (y : Int)] 3)).heap.size (w.alloc (.cells #[.int .i64 (x : Int), .int .i64 (y : Int)] 3)) w2) => GV.of h hbs q
  replace hG2 := Lib.hid hG2
  replace hz := Lib.hid hz
  replace hH := Lib.hid hH
  replace hN0 := Lib.hid hN0
  replace hbs := Lib.hid hbs
  by_cases c0 : x = 0
  · rw [if_pos (Or.inl c0)]
    have d0 : ((x : Int) == 0) = true := by simp [c0]
    replace c0 := Lib.hid c0
    replace hl := Lib.hid hl
    replace hx := Lib.hid hx
    replace hy := Lib.hid hy
    replace hzz := Lib.hid hzz
    go_enter Try.func16, Try.ntmps16
    go_wp2_with fail
    (with_reducible refine hH.out.mono ?_)
    rintro e w2 ⟨rfl, hb2⟩
    obtain ⟨hg2, hw2, hbl2⟩ := hG2.out w2 hb2
    have hb3 := (Below.refl w2.heap.size w2).alloc (Nat.le_refl _) (.cells #[.int .i64 (x : Int), .int .i64 (y : Int)] 58)
    have hf := heap_alloc_new w2 (.cells #[.int .i64 (x : Int), .int .i64 (y : Int)] 58)
    have hg3 := hg2.over hb3
    have hlow : ∀ q, FT (w2.alloc (.cells #[.int .i64 (x : Int), .int .i64 (y : Int)] 58)) p q → q < w2.heap.size := fun q hq => (hg2.lo q (hq.of (hb3.block p hg2.lt))).2
    have hw3 : WP p w (w2.alloc (.cells #[.int .i64 (x : Int), .int .i64 (y : Int)] 58)) := hw2.trans (WP.of hb3 hg2.lt)
    obtain ⟨w3, hw3e⟩ : ∃ W, w2.alloc (.cells #[.int .i64 (x : Int), .int .i64 (y : Int)] 58) = W := ⟨_, rfl⟩
    obtain ⟨gf, hgf⟩ : ∃ g, w2.heap.size = g := ⟨_, rfl⟩
    have hlg := hg2.lt
    rw [hw3e, hgf] at hf hlow
    rw [hw3e] at hg3 hw3 hb3
    rw [hgf] at hlg
    have f0 : w3.cell? ⟨gf, 0, none⟩ = some (.int .i64 (x : Int)) := by rw [Lib.cell_of_heap hf]; rfl
    have f1 : w3.cell? ⟨gf, 1, none⟩ = some (.int .i64 (y : Int)) := by rw [Lib.cell_of_heap hf]; rfl
    have fl := lt_of_get hf
    have fz : ∀ i, w3.frozen? ⟨gf, i, none⟩ = false := fun i => Lib.frozen_of_heap hf i
    replace hf := Lib.hid hf
    replace hlow := Lib.hid hlow
    replace hg3 := Lib.hid hg3
    replace hw3 := Lib.hid hw3
    replace hlg := Lib.hid hlg
    clear hg2 hw2 hbl2 hb2 hb3
    go_wp2_with fail
    clear hw3e hgf
    go_quiet (fail)
    go_wp2_with fail
    go_ret2
    exact ⟨rfl, (GI.over hg3.out (bdn w3 _)), hw3.out.trans (WP.of (bdn w3 _) (hg3.out.lt))⟩
  have d0 : ((x : Int) == 0) = false := by simp; omega
  by_cases c1 : y = z
  · rw [if_pos (Or.inr c1)]
    have d1 : ((y : Int) == (z : Int)) = true := by simp [c1]
    replace c1 := Lib.hid c1
    replace c0 := Lib.hid c0
    replace hl := Lib.hid hl
    replace hx := Lib.hid hx
    replace hy := Lib.hid hy
    replace hzz := Lib.hid hzz
    go_enter Try.func16, Try.ntmps16
    go_wp2_with fail
    (with_reducible refine hH.out.mono ?_)
    rintro e w2 ⟨rfl, hb2⟩
    obtain ⟨hg2, hw2, hbl2⟩ := hG2.out w2 hb2
    have hb3 := (Below.refl w2.heap.size w2).alloc (Nat.le_refl _) (.cells #[.int .i64 (x : Int), .int .i64 (y : Int)] 58)
    have hf := heap_alloc_new w2 (.cells #[.int .i64 (x : Int), .int .i64 (y : Int)] 58)
    have hg3 := hg2.over hb3
    have hlow : ∀ q, FT (w2.alloc (.cells #[.int .i64 (x : Int), .int .i64 (y : Int)] 58)) p q → q < w2.heap.size := fun q hq => (hg2.lo q (hq.of (hb3.block p hg2.lt))).2
    have hw3 : WP p w (w2.alloc (.cells #[.int .i64 (x : Int), .int .i64 (y : Int)] 58)) := hw2.trans (WP.of hb3 hg2.lt)
    obtain ⟨w3, hw3e⟩ : ∃ W, w2.alloc (.cells #[.int .i64 (x : Int), .int .i64 (y : Int)] 58) = W := ⟨_, rfl⟩
    obtain ⟨gf, hgf⟩ : ∃ g, w2.heap.size = g := ⟨_, rfl⟩
    have hlg := hg2.lt
    rw [hw3e, hgf] at hf hlow
    rw [hw3e] at hg3 hw3 hb3
    rw [hgf] at hlg
    have f0 : w3.cell? ⟨gf, 0, none⟩ = some (.int .i64 (x : Int)) := by rw [Lib.cell_of_heap hf]; rfl
    have f1 : w3.cell? ⟨gf, 1, none⟩ = some (.int .i64 (y : Int)) := by rw [Lib.cell_of_heap hf]; rfl
    have fl := lt_of_get hf
    have fz : ∀ i, w3.frozen? ⟨gf, i, none⟩ = false := fun i => Lib.frozen_of_heap hf i
    replace hf := Lib.hid hf
    replace hlow := Lib.hid hlow
    replace hg3 := Lib.hid hg3
    replace hw3 := Lib.hid hw3
    replace hlg := Lib.hid hlg
    clear hg2 hw2 hbl2 hb2 hb3
    go_wp2_with fail
    clear hw3e hgf
    go_quiet ((go_at_call 14; (with_reducible refine (hN0.out _).mono ?_); exact (fun e w1 ⟨he, hw1⟩ => ⟨he, _, hw1.symm⟩)))
    go_wp2_with fail
    go_ret2
    exact ⟨rfl, (GI.over hg3.out (bdn w3 _)), hw3.out.trans (WP.of (bdn w3 _) (hg3.out.lt))⟩
  rw [if_neg (by omega)]
  have d1 : ((y : Int) == (z : Int)) = false := by simp; omega
  by_cases c2 : x = 1
  · rw [if_pos (Or.inl c2)]
    have d2 : ((x : Int) == 1) = true := by simp [c2]
    replace c2 := Lib.hid c2
    replace c1 := Lib.hid c1
    replace c0 := Lib.hid c0
    replace hl := Lib.hid hl
    replace hx := Lib.hid hx
    replace hy := Lib.hid hy
    replace hzz := Lib.hid hzz
    go_enter Try.func16, Try.ntmps16
    go_wp2_with fail
    (with_reducible refine hH.out.mono ?_)
    rintro e w2 ⟨rfl, hb2⟩
    obtain ⟨hg2, hw2, hbl2⟩ := hG2.out w2 hb2
    have hb3 := (Below.refl w2.heap.size w2).alloc (Nat.le_refl _) (.cells #[.int .i64 (x : Int), .int .i64 (y : Int)] 58)
    have hf := heap_alloc_new w2 (.cells #[.int .i64 (x : Int), .int .i64 (y : Int)] 58)
    have hg3 := hg2.over hb3
    have hlow : ∀ q, FT (w2.alloc (.cells #[.int .i64 (x : Int), .int .i64 (y : Int)] 58)) p q → q < w2.heap.size := fun q hq => (hg2.lo q (hq.of (hb3.block p hg2.lt))).2
    have hw3 : WP p w (w2.alloc (.cells #[.int .i64 (x : Int), .int .i64 (y : Int)] 58)) := hw2.trans (WP.of hb3 hg2.lt)
    obtain ⟨w3, hw3e⟩ : ∃ W, w2.alloc (.cells #[.int .i64 (x : Int), .int .i64 (y : Int)] 58) = W := ⟨_, rfl⟩
    obtain ⟨gf, hgf⟩ : ∃ g, w2.heap.size = g := ⟨_, rfl⟩
    have hlg := hg2.lt
    rw [hw3e, hgf] at hf hlow
    rw [hw3e] at hg3 hw3 hb3
    rw [hgf] at hlg
    have f0 : w3.cell? ⟨gf, 0, none⟩ = some (.int .i64 (x : Int)) := by rw [Lib.cell_of_heap hf]; rfl
    have f1 : w3.cell? ⟨gf, 1, none⟩ = some (.int .i64 (y : Int)) := by rw [Lib.cell_of_heap hf]; rfl
    have fl := lt_of_get hf
    have fz : ∀ i, w3.frozen? ⟨gf, i, none⟩ = false := fun i => Lib.frozen_of_heap hf i
    replace hf := Lib.hid hf
    replace hlow := Lib.hid hlow
    replace hg3 := Lib.hid hg3
    replace hw3 := Lib.hid hw3
    replace hlg := Lib.hid hlg
    clear hg2 hw2 hbl2 hb2 hb3
    go_wp2_with fail
    clear hw3e hgf
    go_quiet ((go_at_call 14; (with_reducible refine (hN0.out _).mono ?_); exact (fun e w1 ⟨he, hw1⟩ => ⟨he, _, hw1.symm⟩)))
    go_wp2_with fail
    go_ret2
    exact ⟨rfl, (GI.over hg3.out (bdn w3 _)), hw3.out.trans (WP.of (bdn w3 _) (hg3.out.lt))⟩
  rw [if_neg (by omega)]
  have d2 : ((x : Int) == 1) = false := by simp; omega
  have d3 : ((x : Int) == (y : Int)) = false := by simp; omega
  have h2 : 2 ≤ x := by omega
  have hsx : x < 1000000 := by omega
  have hsy : y < 1000000 := by omega
  have hyz : y ≠ z := c1
  cases hlk0 : lookF F (x, y) with
  | some i =>
    replace hlk0 := Lib.hid hlk0
    replace c2 := Lib.hid c2
    replace c1 := Lib.hid c1
    replace c0 := Lib.hid c0
    replace h2 := Lib.hid h2
    replace hsx := Lib.hid hsx
    replace hsy := Lib.hid hsy
    replace hyz := Lib.hid hyz
    replace hl := Lib.hid hl
    replace hx := Lib.hid hx
    replace hy := Lib.hid hy
    replace hzz := Lib.hid hzz
    go_enter Try.func16, Try.ntmps16
    go_wp2_with fail
    (with_reducible refine hH.out.mono ?_)
    rintro e w2 ⟨rfl, hb2⟩
    obtain ⟨hg2, hw2, hbl2⟩ := hG2.out w2 hb2
    have hb3 := (Below.refl w2.heap.size w2).alloc (Nat.le_refl _) (.cells #[.int .i64 (x : Int), .int .i64 (y : Int)] 58)
    have hf := heap_alloc_new w2 (.cells #[.int .i64 (x : Int), .int .i64 (y : Int)] 58)
    have hg3 := hg2.over hb3
    have hlow : ∀ q, FT (w2.alloc (.cells #[.int .i64 (x : Int), .int .i64 (y : Int)] 58)) p q → q < w2.heap.size := fun q hq => (hg2.lo q (hq.of (hb3.block p hg2.lt))).2
    have hw3 : WP p w (w2.alloc (.cells #[.int .i64 (x : Int), .int .i64 (y : Int)] 58)) := hw2.trans (WP.of hb3 hg2.lt)
    obtain ⟨w3, hw3e⟩ : ∃ W, w2.alloc (.cells #[.int .i64 (x : Int), .int .i64 (y : Int)] 58) = W := ⟨_, rfl⟩
    obtain ⟨gf, hgf⟩ : ∃ g, w2.heap.size = g := ⟨_, rfl⟩
    have hlg := hg2.lt
    rw [hw3e, hgf] at hf hlow
    rw [hw3e] at hg3 hw3 hb3
    rw [hgf] at hlg
    have f0 : w3.cell? ⟨gf, 0, none⟩ = some (.int .i64 (x : Int)) := by rw [Lib.cell_of_heap hf]; rfl
    have f1 : w3.cell? ⟨gf, 1, none⟩ = some (.int .i64 (y : Int)) := by rw [Lib.cell_of_heap hf]; rfl
    have fl := lt_of_get hf
    have fz : ∀ i, w3.frozen? ⟨gf, i, none⟩ = false := fun i => Lib.frozen_of_heap hf i
    replace hf := Lib.hid hf
    replace hlow := Lib.hid hlow
    replace hg3 := Lib.hid hg3
    replace hw3 := Lib.hid hw3
    replace hlg := Lib.hid hlg
    clear hg2 hw2 hbl2 hb2 hb3
    go_wp2_with fail
    clear hw3e hgf
    go_quiet ((go_at_call 14; (with_reducible refine (hN0.out _).mono ?_); exact (fun e w1 ⟨he, hw1⟩ => ⟨he, _, hw1.symm⟩)))
    obtain ⟨w4, hw4⟩ : ∃ W, w3.drewN nq = W := ⟨_, rfl⟩
    have hg4 := hg3.out.over (bdn w3 nq)
    have hw5 := hw3.out.trans (WP.of (bdn w3 nq) hg3.out.lt)
    have e0 : w4.cell? ⟨gf, 0, none⟩ = some (.int .i64 (x : Int)) := by rw [← hw4]; exact f0
    have e1 : w4.cell? ⟨gf, 1, none⟩ = some (.int .i64 (y : Int)) := by rw [← hw4]; exact f1
    have el : gf < w4.heap.size := by rw [← hw4]; exact fl
    rw [hw4] at hg4 hw5 ⊢
    clear hw4 f0 f1 fl fz hf hg3 hw3
    obtain ⟨v, m, n, D, hx3⟩ := hg4
    have m1 := hx3.c1
    have ml := lt_of_get hx3.blk
    obtain ⟨c, h1, h2'⟩ := look_fan (w := w4) hx3.mp hx3.ag h2.out hsx.out hsy.out
    have hlk : ∀ k, (Instr.lookup 54 (.map (some m)) (.agg #[.int .i64 (x : Int), .int .i64 (y : Int)]) true).run Try.prog (w4.drewN k) = .ok (.tuple #[.int .i64 ((2 * i : Nat) : Int), .bool true]) (w4.drewN k) := fun k => by
      have h1 := h1 k
      rw [hlk0.out] at h1
      rw [h2' i hlk0.out] at h1
      exact h1
    clear h1 h2'
    have hlk1 : (Instr.lookup 54 (.map (some m)) (.agg #[.int .i64 (x : Int), .int .i64 (y : Int)]) true).run Try.prog w4 = .ok (.tuple #[.int .i64 ((2 * i : Nat) : Int), .bool true]) w4 := hlk 0
    obtain ⟨I, hI⟩ : ∃ I : Int, ((2 * i : Nat) : Int) = I := ⟨_, rfl⟩
    rw [hI] at hlk hlk1
    replace hI := Lib.hid hI
    replace hx3 := Lib.hid hx3
    replace hw5 := Lib.hid hw5
    go_wp2_with fail
    go_quiet (fail)
    go_wp2_with fail
    go_ret2
    exact ⟨by rw [hI.out]; rfl, ⟨v, m, n, D, hx3.out.over (bdn w4 _)⟩, hw5.out.trans (WP.of (bdn w4 _) ml)⟩
  | none =>
    replace hlk0 := Lib.hid hlk0
    replace c2 := Lib.hid c2
    replace c1 := Lib.hid c1
    replace c0 := Lib.hid c0
    replace h2 := Lib.hid h2
    replace hsx := Lib.hid hsx
    replace hsy := Lib.hid hsy
    replace hyz := Lib.hid hyz
    replace hl := Lib.hid hl
    replace hx := Lib.hid hx
    replace hy := Lib.hid hy
    replace hlt := Lib.hid hlt
    replace hzz := Lib.hid hzz
    go_enter Try.func16, Try.ntmps16
    go_wp2_with fail
    (with_reducible refine hH.out.mono ?_)
    rintro e w2 ⟨rfl, hb2⟩
    obtain ⟨hg2, hw2, hbl2⟩ := hG2.out w2 hb2
    have hb3 := (Below.refl w2.heap.size w2).alloc (Nat.le_refl _) (.cells #[.int .i64 (x : Int), .int .i64 (y : Int)] 58)
    have hf := heap_alloc_new w2 (.cells #[.int .i64 (x : Int), .int .i64 (y : Int)] 58)
    have hg3 := hg2.over hb3
    have hlow : ∀ q, FT (w2.alloc (.cells #[.int .i64 (x : Int), .int .i64 (y : Int)] 58)) p q → q < w2.heap.size := fun q hq => (hg2.lo q (hq.of (hb3.block p hg2.lt))).2
    have hw3 : WP p w (w2.alloc (.cells #[.int .i64 (x : Int), .int .i64 (y : Int)] 58)) := hw2.trans (WP.of hb3 hg2.lt)
    obtain ⟨w3, hw3e⟩ : ∃ W, w2.alloc (.cells #[.int .i64 (x : Int), .int .i64 (y : Int)] 58) = W := ⟨_, rfl⟩
    obtain ⟨gf, hgf⟩ : ∃ g, w2.heap.size = g := ⟨_, rfl⟩
    have hlg := hg2.lt
    rw [hw3e, hgf] at hf hlow
    rw [hw3e] at hg3 hw3 hb3
    rw [hgf] at hlg
    have f0 : w3.cell? ⟨gf, 0, none⟩ = some (.int .i64 (x : Int)) := by rw [Lib.cell_of_heap hf]; rfl
    have f1 : w3.cell? ⟨gf, 1, none⟩ = some (.int .i64 (y : Int)) := by rw [Lib.cell_of_heap hf]; rfl
    have fl := lt_of_get hf
    have fz : ∀ i, w3.frozen? ⟨gf, i, none⟩ = false := fun i => Lib.frozen_of_heap hf i
    replace hf := Lib.hid hf
    replace hlow := Lib.hid hlow
    replace hg3 := Lib.hid hg3
    replace hw3 := Lib.hid hw3
    replace hlg := Lib.hid hlg
    clear hg2 hw2 hbl2 hb2 hb3
    go_wp2_with fail
    clear hw3e hgf
    go_quiet ((go_at_call 14; (with_reducible refine (hN0.out _).mono ?_); exact (fun e w1 ⟨he, hw1⟩ => ⟨he, _, hw1.symm⟩)))
    obtain ⟨w4, hw4⟩ : ∃ W, w3.drewN nq = W := ⟨_, rfl⟩
    have hg4 := hg3.out.over (bdn w3 nq)
    have hw5 := hw3.out.trans (WP.of (bdn w3 nq) hg3.out.lt)
    have hf4 : w4.heap[gf]? = some (.cells #[.int .i64 (x : Int), .int .i64 (y : Int)] 58 (0, 0)) := by rw [← hw4]; exact hf.out
    have e0 : w4.cell? ⟨gf, 0, none⟩ = some (.int .i64 (x : Int)) := by rw [← hw4]; exact f0
    have e1 : w4.cell? ⟨gf, 1, none⟩ = some (.int .i64 (y : Int)) := by rw [← hw4]; exact f1
    have el : gf < w4.heap.size := by rw [← hw4]; exact fl
    rw [hw4] at hg4 hw5 ⊢
    have hgn : ¬ FT w4 p gf := fun hft => by
      have := hlow.out gf (hft.of (by rw [← hw4]; rfl))
      omega
    clear hlow
    clear hw4 f0 f1 fl fz hf hg3 hw3
    obtain ⟨v, m, n, D, hx3⟩ := hg4
    have m1 := hx3.c1
    have ml := lt_of_get hx3.blk
    obtain ⟨c, h1, _⟩ := look_fan (w := w4) hx3.mp hx3.ag h2.out hsx.out hsy.out
    have hlk : ∀ k, (Instr.lookup 54 (.map (some m)) (.agg #[.int .i64 (x : Int), .int .i64 (y : Int)]) true).run Try.prog (w4.drewN k) = .ok (.tuple #[.int .i64 c, .bool false]) (w4.drewN k) := fun k => by
      have h1 := h1 k
      rw [hlk0.out] at h1
      exact h1
    clear h1
    have hlk1 : (Instr.lookup 54 (.map (some m)) (.agg #[.int .i64 (x : Int), .int .i64 (y : Int)]) true).run Try.prog w4 = .ok (.tuple #[.int .i64 c, .bool false]) w4 := hlk 0
    replace hx3 := Lib.hid hx3
    replace hw5 := Lib.hid hw5
    replace hgn := Lib.hid hgn
    replace hf4 := Lib.hid hf4
    go_wp2_with fail
    go_quiet (fail)
    obtain ⟨w5, hw5e⟩ : ∃ W, w4.drewN nq = W := ⟨_, rfl⟩
    have hx5 := hx3.out.over (bdn w4 nq)
    have hww := hw5.out.trans (WP.of (bdn w4 nq) ml)
    have k0 : w5.cell? ⟨gf, 0, none⟩ = some (.int .i64 (x : Int)) := by rw [← hw5e]; exact e0
    have k1 : w5.cell? ⟨gf, 1, none⟩ = some (.int .i64 (y : Int)) := by rw [← hw5e]; exact e1
    have kl' : gf < w5.heap.size := by rw [← hw5e]; exact el
    have hf5 : w5.heap[gf]? = some (.cells #[.int .i64 (x : Int), .int .i64 (y : Int)] 58 (0, 0)) := by rw [← hw5e]; exact hf4.out
    have hgn5 : ¬ FT w5 p gf := fun hft => hgn.out (hft.of (by rw [← hw5e]; rfl))
    rw [hw5e] at hx5 hww ⊢
    have hA := add_t (x, y) w5 hx5 hl.out
    simp only at hA
    clear hw5e e0 e1 el m1 ml hlk hlk1 hx3 hw5 hgn hf4
    replace hx5 := Lib.hid hx5
    replace hww := Lib.hid hww
    replace hf5 := Lib.hid hf5
    replace hgn5 := Lib.hid hgn5
    have hdat : ∀ w6, AD w5 B p F (x, y) m n D w6 → w6.cell? ⟨p, 1, none⟩ = some (.map (some m)) ∧ p < w6.heap.size ∧ w6.heap[gf]? = some (.cells #[.int .i64 (x : Int), .int .i64 (y : Int)] 58 (0, 0)) ∧
        ∃ w7, (Instr.mapUpdate 54 (.map (some m)) (.agg #[.int .i64 (x : Int), .int .i64 (y : Int)]) (.int .i64 ((2 * F.length : Nat) : Int))).run Try.prog w6.drew = .ok () w7 ∧ GI w7 B p (F ++ [(x, y)]) ∧ WP p w5 w7 := fun w6 hAD => by
      have hAD2 := hAD
      obtain ⟨v', hb, hr, hm, hw⟩ := hAD
      obtain ⟨w7, h1, h2', h3⟩ := World.ownsMap.update (World.ownsMap.drew hm) kF Try.underlying54 (by unfold maxLen; have := hx5.out.nl; have := hl.out; omega) (key_mk hsx.out hsy.out) (plainElem_int Try.underlying3 (wf_small (n := 2 * F.length) (by have := hl.out; omega)))
      obtain ⟨h4, h5⟩ := AD.and hAD2 hx5.out hl.out hsx.out hsy.out h2.out hlt.out hy.out (by rw [hz.out]; exact hyz.out) hlk0.out h2' ⟨h3.os, h3.tape, h3.output, h3.size, h3.block⟩
      exact ⟨by rw [Lib.cell_of_heap hb]; rfl, lt_of_get hb, (hw.k.block gf (lt_of_get hf5.out) hgn5.out).trans hf5.out, w7, h1, h4, h5⟩
    obtain ⟨NN, hNN⟩ : ∃ NN : Int, ((2 * F.length : Nat) : Int) = NN := ⟨_, rfl⟩
    rw [hNN] at hA hdat ⊢
    replace hA := Lib.hid hA
    replace hdat := Lib.hid hdat
    replace hNN := Lib.hid hNN
    go_wp2_with fail
    (with_reducible refine hA.out.mono ?_)
    rintro e w6 ⟨rfl, hAD⟩
    obtain ⟨t1, t2, t3, w7, hrun, hg7, hw7⟩ := hdat.out w6 hAD
    have s0 : w6.cell? ⟨gf, 0, none⟩ = some (.int .i64 (x : Int)) := by rw [Lib.cell_of_heap t3]; rfl
    have s1 : w6.cell? ⟨gf, 1, none⟩ = some (.int .i64 (y : Int)) := by rw [Lib.cell_of_heap t3]; rfl
    have sl := lt_of_get t3
    replace hg7 := Lib.hid hg7
    replace hw7 := Lib.hid (hww.out.trans hw7)
    clear hAD t3 k0 k1 kl' hdat hA hf5 hgn5 hx5 hww
    go_wp2_with fail
    go_region
    all_goals (
      go_wp2_with fail
      go_ret2
      exact ⟨by rw [hNN.out]; rfl, hg7.out, hw7.out⟩)
set_option maxRecDepth 100000 in
set_option maxHeartbeats 1600000 in
theorem And_gt {B p : Nat} {F : List PN} (x y : Nat) (w : World) (h : GI w B p F) (hl : F.length < 50000) (hlt : x < y) (hy : y / 2 < F.length) :
    Calls Try.prog 16 #[pg p, .int .i64 (y : Int), .int .i64 (x : Int)] w (GV w B p (andF F y x).1 (.tuple #[.int .i64 (((andF F y x).2 : Nat) : Int), .int .i64 0])) := by
  have hx : x / 2 < F.length := by omega
  have hbs := (Below.refl w.heap.size w).alloc (Nat.le_refl _) (.cells #[.int .i64 (y : Int), .int .i64 (x : Int)] 3)
  have hH : Calls Try.prog 29 #[pg p, .slice (some ⟨w.heap.size, 0, none⟩) 2 2] (w.alloc (.cells #[.int .i64 (y : Int), .int .i64 (x : Int)] 3)) (RV (w.alloc (.cells #[.int .i64 (y : Int), .int .i64 (x : Int)] 3)) (.bool true)) := by
    have h1 := has_t [(y : Int), (x : Int)] (some ⟨w.heap.size, 0, none⟩) 2 (w.alloc (.cells #[.int .i64 (y : Int), .int .i64 (x : Int)] 3)) (h.over hbs) (RL.two w y x) (by simp) (by simp; omega)
    have e : (!([(y : Int), (x : Int)]).any (foreign F.length)) = true := by simp [foreign_not hy, foreign_not hx]
    rw [e] at h1
    exact h1
  unfold RV at hH
  have hN0 := fun W => Not_t x W (by omega)
  unfold RW at hN0
  unfold andF
  rw [Nat.min_eq_right (by omega), Nat.max_eq_left (by omega)]
  have q1 : (x : Int) < (y : Int) := by omega
  obtain ⟨z, hz⟩ : ∃ z, nt x = z := ⟨_, rfl⟩
  have hzz := nt_ne x
  rw [hz] at hN0 hzz ⊢
  have hG2 := fun (w2 : World) (q : Below (w.alloc (.cells #[.int .i64 (y : Int), .int .i64 (x : Int)] 3)).heap.size (w.alloc (.cells #[.int .i64 (y : Int), .int .i64 (x : Int)] 3)) w2) => GV.of h hbs q
  replace hG2 := Lib.hid hG2
  replace hz := Lib.hid hz
  replace hH := Lib.hid hH
  replace hN0 := Lib.hid hN0
  replace hbs := Lib.hid hbs
  by_cases c0 : x = 0
  · rw [if_pos (Or.inl c0)]
    have d0 : ((x : Int) == 0) = true := by simp [c0]
    replace c0 := Lib.hid c0
    replace hl := Lib.hid hl
    replace hx := Lib.hid hx
    replace hy := Lib.hid hy
    replace hzz := Lib.hid hzz
    go_enter Try.func16, Try.ntmps16
    go_wp2_with fail
    (with_reducible refine hH.out.mono ?_)
    rintro e w2 ⟨rfl, hb2⟩
    obtain ⟨hg2, hw2, hbl2⟩ := hG2.out w2 hb2
    have hb3 := (Below.refl w2.heap.size w2).alloc (Nat.le_refl _) (.cells #[.int .i64 (x : Int), .int .i64 (y : Int)] 58)
    have hf := heap_alloc_new w2 (.cells #[.int .i64 (x : Int), .int .i64 (y : Int)] 58)
    have hg3 := hg2.over hb3
    have hlow : ∀ q, FT (w2.alloc (.cells #[.int .i64 (x : Int), .int .i64 (y : Int)] 58)) p q → q < w2.heap.size := fun q hq => (hg2.lo q (hq.of (hb3.block p hg2.lt))).2
    have hw3 : WP p w (w2.alloc (.cells #[.int .i64 (x : Int), .int .i64 (y : Int)] 58)) := hw2.trans (WP.of hb3 hg2.lt)
    obtain ⟨w3, hw3e⟩ : ∃ W, w2.alloc (.cells #[.int .i64 (x : Int), .int .i64 (y : Int)] 58) = W := ⟨_, rfl⟩
    obtain ⟨gf, hgf⟩ : ∃ g, w2.heap.size = g := ⟨_, rfl⟩
    have hlg := hg2.lt
    rw [hw3e, hgf] at hf hlow
    rw [hw3e] at hg3 hw3 hb3
    rw [hgf] at hlg
    have f0 : w3.cell? ⟨gf, 0, none⟩ = some (.int .i64 (x : Int)) := by rw [Lib.cell_of_heap hf]; rfl
    have f1 : w3.cell? ⟨gf, 1, none⟩ = some (.int .i64 (y : Int)) := by rw [Lib.cell_of_heap hf]; rfl
    have fl := lt_of_get hf
    have fz : ∀ i, w3.frozen? ⟨gf, i, none⟩ = false := fun i => Lib.frozen_of_heap hf i
    replace hf := Lib.hid hf
    replace hlow := Lib.hid hlow
    replace hg3 := Lib.hid hg3
    replace hw3 := Lib.hid hw3
    replace hlg := Lib.hid hlg
    clear hg2 hw2 hbl2 hb2 hb3
    go_wp2_with fail
    clear hw3e hgf
    go_quiet (fail)
    go_wp2_with fail
    go_ret2
    exact ⟨rfl, (GI.over hg3.out (bdn w3 _)), hw3.out.trans (WP.of (bdn w3 _) (hg3.out.lt))⟩
  have d0 : ((x : Int) == 0) = false := by simp; omega
  by_cases c1 : y = z
  · rw [if_pos (Or.inr c1)]
    have d1 : ((y : Int) == (z : Int)) = true := by simp [c1]
    replace c1 := Lib.hid c1
    replace c0 := Lib.hid c0
    replace hl := Lib.hid hl
    replace hx := Lib.hid hx
    replace hy := Lib.hid hy
    replace hzz := Lib.hid hzz
    go_enter Try.func16, Try.ntmps16
    go_wp2_with fail
    (with_reducible refine hH.out.mono ?_)
    rintro e w2 ⟨rfl, hb2⟩
    obtain ⟨hg2, hw2, hbl2⟩ := hG2.out w2 hb2
    have hb3 := (Below.refl w2.heap.size w2).alloc (Nat.le_refl _) (.cells #[.int .i64 (x : Int), .int .i64 (y : Int)] 58)
    have hf := heap_alloc_new w2 (.cells #[.int .i64 (x : Int), .int .i64 (y : Int)] 58)
    have hg3 := hg2.over hb3
    have hlow : ∀ q, FT (w2.alloc (.cells #[.int .i64 (x : Int), .int .i64 (y : Int)] 58)) p q → q < w2.heap.size := fun q hq => (hg2.lo q (hq.of (hb3.block p hg2.lt))).2
    have hw3 : WP p w (w2.alloc (.cells #[.int .i64 (x : Int), .int .i64 (y : Int)] 58)) := hw2.trans (WP.of hb3 hg2.lt)
    obtain ⟨w3, hw3e⟩ : ∃ W, w2.alloc (.cells #[.int .i64 (x : Int), .int .i64 (y : Int)] 58) = W := ⟨_, rfl⟩
    obtain ⟨gf, hgf⟩ : ∃ g, w2.heap.size = g := ⟨_, rfl⟩
    have hlg := hg2.lt
    rw [hw3e, hgf] at hf hlow
    rw [hw3e] at hg3 hw3 hb3
    rw [hgf] at hlg
    have f0 : w3.cell? ⟨gf, 0, none⟩ = some (.int .i64 (x : Int)) := by rw [Lib.cell_of_heap hf]; rfl
    have f1 : w3.cell? ⟨gf, 1, none⟩ = some (.int .i64 (y : Int)) := by rw [Lib.cell_of_heap hf]; rfl
    have fl := lt_of_get hf
    have fz : ∀ i, w3.frozen? ⟨gf, i, none⟩ = false := fun i => Lib.frozen_of_heap hf i
    replace hf := Lib.hid hf
    replace hlow := Lib.hid hlow
    replace hg3 := Lib.hid hg3
    replace hw3 := Lib.hid hw3
    replace hlg := Lib.hid hlg
    clear hg2 hw2 hbl2 hb2 hb3
    go_wp2_with fail
    clear hw3e hgf
    go_quiet ((go_at_call 14; (with_reducible refine (hN0.out _).mono ?_); exact (fun e w1 ⟨he, hw1⟩ => ⟨he, _, hw1.symm⟩)))
    go_wp2_with fail
    go_ret2
    exact ⟨rfl, (GI.over hg3.out (bdn w3 _)), hw3.out.trans (WP.of (bdn w3 _) (hg3.out.lt))⟩
  rw [if_neg (by omega)]
  have d1 : ((y : Int) == (z : Int)) = false := by simp; omega
  by_cases c2 : x = 1
  · rw [if_pos (Or.inl c2)]
    have d2 : ((x : Int) == 1) = true := by simp [c2]
    replace c2 := Lib.hid c2
    replace c1 := Lib.hid c1
    replace c0 := Lib.hid c0
    replace hl := Lib.hid hl
    replace hx := Lib.hid hx
    replace hy := Lib.hid hy
    replace hzz := Lib.hid hzz
    go_enter Try.func16, Try.ntmps16
    go_wp2_with fail
    (with_reducible refine hH.out.mono ?_)
    rintro e w2 ⟨rfl, hb2⟩
    obtain ⟨hg2, hw2, hbl2⟩ := hG2.out w2 hb2
    have hb3 := (Below.refl w2.heap.size w2).alloc (Nat.le_refl _) (.cells #[.int .i64 (x : Int), .int .i64 (y : Int)] 58)
    have hf := heap_alloc_new w2 (.cells #[.int .i64 (x : Int), .int .i64 (y : Int)] 58)
    have hg3 := hg2.over hb3
    have hlow : ∀ q, FT (w2.alloc (.cells #[.int .i64 (x : Int), .int .i64 (y : Int)] 58)) p q → q < w2.heap.size := fun q hq => (hg2.lo q (hq.of (hb3.block p hg2.lt))).2
    have hw3 : WP p w (w2.alloc (.cells #[.int .i64 (x : Int), .int .i64 (y : Int)] 58)) := hw2.trans (WP.of hb3 hg2.lt)
    obtain ⟨w3, hw3e⟩ : ∃ W, w2.alloc (.cells #[.int .i64 (x : Int), .int .i64 (y : Int)] 58) = W := ⟨_, rfl⟩
    obtain ⟨gf, hgf⟩ : ∃ g, w2.heap.size = g := ⟨_, rfl⟩
    have hlg := hg2.lt
    rw [hw3e, hgf] at hf hlow
    rw [hw3e] at hg3 hw3 hb3
    rw [hgf] at hlg
    have f0 : w3.cell? ⟨gf, 0, none⟩ = some (.int .i64 (x : Int)) := by rw [Lib.cell_of_heap hf]; rfl
    have f1 : w3.cell? ⟨gf, 1, none⟩ = some (.int .i64 (y : Int)) := by rw [Lib.cell_of_heap hf]; rfl
    have fl := lt_of_get hf
    have fz : ∀ i, w3.frozen? ⟨gf, i, none⟩ = false := fun i => Lib.frozen_of_heap hf i
    replace hf := Lib.hid hf
    replace hlow := Lib.hid hlow
    replace hg3 := Lib.hid hg3
    replace hw3 := Lib.hid hw3
    replace hlg := Lib.hid hlg
    clear hg2 hw2 hbl2 hb2 hb3
    go_wp2_with fail
    clear hw3e hgf
    go_quiet ((go_at_call 14; (with_reducible refine (hN0.out _).mono ?_); exact (fun e w1 ⟨he, hw1⟩ => ⟨he, _, hw1.symm⟩)))
    go_wp2_with fail
    go_ret2
    exact ⟨rfl, (GI.over hg3.out (bdn w3 _)), hw3.out.trans (WP.of (bdn w3 _) (hg3.out.lt))⟩
  rw [if_neg (by omega)]
  have d2 : ((x : Int) == 1) = false := by simp; omega
  have d3 : ((x : Int) == (y : Int)) = false := by simp; omega
  have h2 : 2 ≤ x := by omega
  have hsx : x < 1000000 := by omega
  have hsy : y < 1000000 := by omega
  have hyz : y ≠ z := c1
  cases hlk0 : lookF F (x, y) with
  | some i =>
    replace hlk0 := Lib.hid hlk0
    replace c2 := Lib.hid c2
    replace c1 := Lib.hid c1
    replace c0 := Lib.hid c0
    replace h2 := Lib.hid h2
    replace hsx := Lib.hid hsx
    replace hsy := Lib.hid hsy
    replace hyz := Lib.hid hyz
    replace hl := Lib.hid hl
    replace hx := Lib.hid hx
    replace hy := Lib.hid hy
    replace hzz := Lib.hid hzz
    go_enter Try.func16, Try.ntmps16
    go_wp2_with fail
    (with_reducible refine hH.out.mono ?_)
    rintro e w2 ⟨rfl, hb2⟩
    obtain ⟨hg2, hw2, hbl2⟩ := hG2.out w2 hb2
    have hb3 := (Below.refl w2.heap.size w2).alloc (Nat.le_refl _) (.cells #[.int .i64 (x : Int), .int .i64 (y : Int)] 58)
    have hf := heap_alloc_new w2 (.cells #[.int .i64 (x : Int), .int .i64 (y : Int)] 58)
    have hg3 := hg2.over hb3
    have hlow : ∀ q, FT (w2.alloc (.cells #[.int .i64 (x : Int), .int .i64 (y : Int)] 58)) p q → q < w2.heap.size := fun q hq => (hg2.lo q (hq.of (hb3.block p hg2.lt))).2
    have hw3 : WP p w (w2.alloc (.cells #[.int .i64 (x : Int), .int .i64 (y : Int)] 58)) := hw2.trans (WP.of hb3 hg2.lt)
    obtain ⟨w3, hw3e⟩ : ∃ W, w2.alloc (.cells #[.int .i64 (x : Int), .int .i64 (y : Int)] 58) = W := ⟨_, rfl⟩
    obtain ⟨gf, hgf⟩ : ∃ g, w2.heap.size = g := ⟨_, rfl⟩
    have hlg := hg2.lt
    rw [hw3e, hgf] at hf hlow
    rw [hw3e] at hg3 hw3 hb3
    rw [hgf] at hlg
    have f0 : w3.cell? ⟨gf, 0, none⟩ = some (.int .i64 (x : Int)) := by rw [Lib.cell_of_heap hf]; rfl
    have f1 : w3.cell? ⟨gf, 1, none⟩ = some (.int .i64 (y : Int)) := by rw [Lib.cell_of_heap hf]; rfl
    have fl := lt_of_get hf
    have fz : ∀ i, w3.frozen? ⟨gf, i, none⟩ = false := fun i => Lib.frozen_of_heap hf i
    replace hf := Lib.hid hf
    replace hlow := Lib.hid hlow
    replace hg3 := Lib.hid hg3
    replace hw3 := Lib.hid hw3
    replace hlg := Lib.hid hlg
    clear hg2 hw2 hbl2 hb2 hb3
    go_wp2_with fail
    clear hw3e hgf
    go_quiet ((go_at_call 14; (with_reducible refine (hN0.out _).mono ?_); exact (fun e w1 ⟨he, hw1⟩ => ⟨he, _, hw1.symm⟩)))
    obtain ⟨w4, hw4⟩ : ∃ W, w3.drewN nq = W := ⟨_, rfl⟩
    have hg4 := hg3.out.over (bdn w3 nq)
    have hw5 := hw3.out.trans (WP.of (bdn w3 nq) hg3.out.lt)
    have e0 : w4.cell? ⟨gf, 0, none⟩ = some (.int .i64 (x : Int)) := by rw [← hw4]; exact f0
    have e1 : w4.cell? ⟨gf, 1, none⟩ = some (.int .i64 (y : Int)) := by rw [← hw4]; exact f1
    have el : gf < w4.heap.size := by rw [← hw4]; exact fl
    rw [hw4] at hg4 hw5 ⊢
    clear hw4 f0 f1 fl fz hf hg3 hw3
    obtain ⟨v, m, n, D, hx3⟩ := hg4
    have m1 := hx3.c1
    have ml := lt_of_get hx3.blk
    obtain ⟨c, h1, h2'⟩ := look_fan (w := w4) hx3.mp hx3.ag h2.out hsx.out hsy.out
    have hlk : ∀ k, (Instr.lookup 54 (.map (some m)) (.agg #[.int .i64 (x : Int), .int .i64 (y : Int)]) true).run Try.prog (w4.drewN k) = .ok (.tuple #[.int .i64 ((2 * i : Nat) : Int), .bool true]) (w4.drewN k) := fun k => by
      have h1 := h1 k
      rw [hlk0.out] at h1
      rw [h2' i hlk0.out] at h1
      exact h1
    clear h1 h2'
    have hlk1 : (Instr.lookup 54 (.map (some m)) (.agg #[.int .i64 (x : Int), .int .i64 (y : Int)]) true).run Try.prog w4 = .ok (.tuple #[.int .i64 ((2 * i : Nat) : Int), .bool true]) w4 := hlk 0
    obtain ⟨I, hI⟩ : ∃ I : Int, ((2 * i : Nat) : Int) = I := ⟨_, rfl⟩
    rw [hI] at hlk hlk1
    replace hI := Lib.hid hI
    replace hx3 := Lib.hid hx3
    replace hw5 := Lib.hid hw5
    go_wp2_with fail
    go_quiet (fail)
    go_wp2_with fail
    go_ret2
    exact ⟨by rw [hI.out]; rfl, ⟨v, m, n, D, hx3.out.over (bdn w4 _)⟩, hw5.out.trans (WP.of (bdn w4 _) ml)⟩
  | none =>
    replace hlk0 := Lib.hid hlk0
    replace c2 := Lib.hid c2
    replace c1 := Lib.hid c1
    replace c0 := Lib.hid c0
    replace h2 := Lib.hid h2
    replace hsx := Lib.hid hsx
    replace hsy := Lib.hid hsy
    replace hyz := Lib.hid hyz
    replace hl := Lib.hid hl
    replace hx := Lib.hid hx
    replace hy := Lib.hid hy
    replace hlt := Lib.hid hlt
    replace hzz := Lib.hid hzz
    go_enter Try.func16, Try.ntmps16
    go_wp2_with fail
    (with_reducible refine hH.out.mono ?_)
    rintro e w2 ⟨rfl, hb2⟩
    obtain ⟨hg2, hw2, hbl2⟩ := hG2.out w2 hb2
    have hb3 := (Below.refl w2.heap.size w2).alloc (Nat.le_refl _) (.cells #[.int .i64 (x : Int), .int .i64 (y : Int)] 58)
    have hf := heap_alloc_new w2 (.cells #[.int .i64 (x : Int), .int .i64 (y : Int)] 58)
    have hg3 := hg2.over hb3
    have hlow : ∀ q, FT (w2.alloc (.cells #[.int .i64 (x : Int), .int .i64 (y : Int)] 58)) p q → q < w2.heap.size := fun q hq => (hg2.lo q (hq.of (hb3.block p hg2.lt))).2
    have hw3 : WP p w (w2.alloc (.cells #[.int .i64 (x : Int), .int .i64 (y : Int)] 58)) := hw2.trans (WP.of hb3 hg2.lt)
    obtain ⟨w3, hw3e⟩ : ∃ W, w2.alloc (.cells #[.int .i64 (x : Int), .int .i64 (y : Int)] 58) = W := ⟨_, rfl⟩
    obtain ⟨gf, hgf⟩ : ∃ g, w2.heap.size = g := ⟨_, rfl⟩
    have hlg := hg2.lt
    rw [hw3e, hgf] at hf hlow
    rw [hw3e] at hg3 hw3 hb3
    rw [hgf] at hlg
    have f0 : w3.cell? ⟨gf, 0, none⟩ = some (.int .i64 (x : Int)) := by rw [Lib.cell_of_heap hf]; rfl
    have f1 : w3.cell? ⟨gf, 1, none⟩ = some (.int .i64 (y : Int)) := by rw [Lib.cell_of_heap hf]; rfl
    have fl := lt_of_get hf
    have fz : ∀ i, w3.frozen? ⟨gf, i, none⟩ = false := fun i => Lib.frozen_of_heap hf i
    replace hf := Lib.hid hf
    replace hlow := Lib.hid hlow
    replace hg3 := Lib.hid hg3
    replace hw3 := Lib.hid hw3
    replace hlg := Lib.hid hlg
    clear hg2 hw2 hbl2 hb2 hb3
    go_wp2_with fail
    clear hw3e hgf
    go_quiet ((go_at_call 14; (with_reducible refine (hN0.out _).mono ?_); exact (fun e w1 ⟨he, hw1⟩ => ⟨he, _, hw1.symm⟩)))
    obtain ⟨w4, hw4⟩ : ∃ W, w3.drewN nq = W := ⟨_, rfl⟩
    have hg4 := hg3.out.over (bdn w3 nq)
    have hw5 := hw3.out.trans (WP.of (bdn w3 nq) hg3.out.lt)
    have hf4 : w4.heap[gf]? = some (.cells #[.int .i64 (x : Int), .int .i64 (y : Int)] 58 (0, 0)) := by rw [← hw4]; exact hf.out
    have e0 : w4.cell? ⟨gf, 0, none⟩ = some (.int .i64 (x : Int)) := by rw [← hw4]; exact f0
    have e1 : w4.cell? ⟨gf, 1, none⟩ = some (.int .i64 (y : Int)) := by rw [← hw4]; exact f1
    have el : gf < w4.heap.size := by rw [← hw4]; exact fl
    rw [hw4] at hg4 hw5 ⊢
    have hgn : ¬ FT w4 p gf := fun hft => by
      have := hlow.out gf (hft.of (by rw [← hw4]; rfl))
      omega
    clear hlow
    clear hw4 f0 f1 fl fz hf hg3 hw3
    obtain ⟨v, m, n, D, hx3⟩ := hg4
    have m1 := hx3.c1
    have ml := lt_of_get hx3.blk
    obtain ⟨c, h1, _⟩ := look_fan (w := w4) hx3.mp hx3.ag h2.out hsx.out hsy.out
    have hlk : ∀ k, (Instr.lookup 54 (.map (some m)) (.agg #[.int .i64 (x : Int), .int .i64 (y : Int)]) true).run Try.prog (w4.drewN k) = .ok (.tuple #[.int .i64 c, .bool false]) (w4.drewN k) := fun k => by
      have h1 := h1 k
      rw [hlk0.out] at h1
      exact h1
    clear h1
    have hlk1 : (Instr.lookup 54 (.map (some m)) (.agg #[.int .i64 (x : Int), .int .i64 (y : Int)]) true).run Try.prog w4 = .ok (.tuple #[.int .i64 c, .bool false]) w4 := hlk 0
    replace hx3 := Lib.hid hx3
    replace hw5 := Lib.hid hw5
    replace hgn := Lib.hid hgn
    replace hf4 := Lib.hid hf4
    go_wp2_with fail
    go_quiet (fail)
    obtain ⟨w5, hw5e⟩ : ∃ W, w4.drewN nq = W := ⟨_, rfl⟩
    have hx5 := hx3.out.over (bdn w4 nq)
    have hww := hw5.out.trans (WP.of (bdn w4 nq) ml)
    have k0 : w5.cell? ⟨gf, 0, none⟩ = some (.int .i64 (x : Int)) := by rw [← hw5e]; exact e0
    have k1 : w5.cell? ⟨gf, 1, none⟩ = some (.int .i64 (y : Int)) := by rw [← hw5e]; exact e1
    have kl' : gf < w5.heap.size := by rw [← hw5e]; exact el
    have hf5 : w5.heap[gf]? = some (.cells #[.int .i64 (x : Int), .int .i64 (y : Int)] 58 (0, 0)) := by rw [← hw5e]; exact hf4.out
    have hgn5 : ¬ FT w5 p gf := fun hft => hgn.out (hft.of (by rw [← hw5e]; rfl))
    rw [hw5e] at hx5 hww ⊢
    have hA := add_t (x, y) w5 hx5 hl.out
    simp only at hA
    clear hw5e e0 e1 el m1 ml hlk hlk1 hx3 hw5 hgn hf4
    replace hx5 := Lib.hid hx5
    replace hww := Lib.hid hww
    replace hf5 := Lib.hid hf5
    replace hgn5 := Lib.hid hgn5
    have hdat : ∀ w6, AD w5 B p F (x, y) m n D w6 → w6.cell? ⟨p, 1, none⟩ = some (.map (some m)) ∧ p < w6.heap.size ∧ w6.heap[gf]? = some (.cells #[.int .i64 (x : Int), .int .i64 (y : Int)] 58 (0, 0)) ∧
        ∃ w7, (Instr.mapUpdate 54 (.map (some m)) (.agg #[.int .i64 (x : Int), .int .i64 (y : Int)]) (.int .i64 ((2 * F.length : Nat) : Int))).run Try.prog w6.drew = .ok () w7 ∧ GI w7 B p (F ++ [(x, y)]) ∧ WP p w5 w7 := fun w6 hAD => by
      have hAD2 := hAD
      obtain ⟨v', hb, hr, hm, hw⟩ := hAD
      obtain ⟨w7, h1, h2', h3⟩ := World.ownsMap.update (World.ownsMap.drew hm) kF Try.underlying54 (by unfold maxLen; have := hx5.out.nl; have := hl.out; omega) (key_mk hsx.out hsy.out) (plainElem_int Try.underlying3 (wf_small (n := 2 * F.length) (by have := hl.out; omega)))
      obtain ⟨h4, h5⟩ := AD.and hAD2 hx5.out hl.out hsx.out hsy.out h2.out hlt.out hy.out (by rw [hz.out]; exact hyz.out) hlk0.out h2' ⟨h3.os, h3.tape, h3.output, h3.size, h3.block⟩
      exact ⟨by rw [Lib.cell_of_heap hb]; rfl, lt_of_get hb, (hw.k.block gf (lt_of_get hf5.out) hgn5.out).trans hf5.out, w7, h1, h4, h5⟩
    obtain ⟨NN, hNN⟩ : ∃ NN : Int, ((2 * F.length : Nat) : Int) = NN := ⟨_, rfl⟩
    rw [hNN] at hA hdat ⊢
    replace hA := Lib.hid hA
    replace hdat := Lib.hid hdat
    replace hNN := Lib.hid hNN
    go_wp2_with fail
    (with_reducible refine hA.out.mono ?_)
    rintro e w6 ⟨rfl, hAD⟩
    obtain ⟨t1, t2, t3, w7, hrun, hg7, hw7⟩ := hdat.out w6 hAD
    have s0 : w6.cell? ⟨gf, 0, none⟩ = some (.int .i64 (x : Int)) := by rw [Lib.cell_of_heap t3]; rfl
    have s1 : w6.cell? ⟨gf, 1, none⟩ = some (.int .i64 (y : Int)) := by rw [Lib.cell_of_heap t3]; rfl
    have sl := lt_of_get t3
    replace hg7 := Lib.hid hg7
    replace hw7 := Lib.hid (hww.out.trans hw7)
    clear hAD t3 k0 k1 kl' hdat hA hf5 hgn5 hx5 hww
    go_wp2_with fail
    go_region
    all_goals (
      go_wp2_with fail
      go_ret2
      exact ⟨by rw [hNN.out]; rfl, hg7.out, hw7.out⟩)
set_option maxRecDepth 100000 in
set_option maxHeartbeats 1600000 in
theorem And_eq {B p : Nat} {F : List PN} (x : Nat) (w : World) (h : GI w B p F) (hl : F.length < 50000) (hx : x / 2 < F.length) :
    Calls Try.prog 16 #[pg p, .int .i64 (x : Int), .int .i64 (x : Int)] w (GV w B p (andF F x x).1 (.tuple #[.int .i64 (((andF F x x).2 : Nat) : Int), .int .i64 0])) := by
  have hbs := (Below.refl w.heap.size w).alloc (Nat.le_refl _) (.cells #[.int .i64 (x : Int), .int .i64 (x : Int)] 3)
  have hH : Calls Try.prog 29 #[pg p, .slice (some ⟨w.heap.size, 0, none⟩) 2 2] (w.alloc (.cells #[.int .i64 (x : Int), .int .i64 (x : Int)] 3)) (RV (w.alloc (.cells #[.int .i64 (x : Int), .int .i64 (x : Int)] 3)) (.bool true)) := by
    have h1 := has_t [(x : Int), (x : Int)] (some ⟨w.heap.size, 0, none⟩) 2 (w.alloc (.cells #[.int .i64 (x : Int), .int .i64 (x : Int)] 3)) (h.over hbs) (RL.two w x x) (by simp) (by simp; omega)
    have e : (!([(x : Int), (x : Int)]).any (foreign F.length)) = true := by simp [foreign_not hx]
    rw [e] at h1
    exact h1
  unfold RV at hH
  have hN0 := fun W => Not_t x W (by omega)
  unfold RW at hN0
  unfold andF
  rw [Nat.min_self, Nat.max_self]
  obtain ⟨z, hz⟩ : ∃ z, nt x = z := ⟨_, rfl⟩
  have hzz := nt_ne x
  rw [hz] at hN0 hzz ⊢
  have hG2 := fun (w2 : World) (q : Below (w.alloc (.cells #[.int .i64 (x : Int), .int .i64 (x : Int)] 3)).heap.size (w.alloc (.cells #[.int .i64 (x : Int), .int .i64 (x : Int)] 3)) w2) => GV.of h hbs q
  replace hG2 := Lib.hid hG2
  replace hz := Lib.hid hz
  replace hH := Lib.hid hH
  replace hN0 := Lib.hid hN0
  replace hbs := Lib.hid hbs
  by_cases c0 : x = 0
  · rw [if_pos (Or.inl c0)]
    have d0 : ((x : Int) == 0) = true := by simp [c0]
    replace c0 := Lib.hid c0
    replace hl := Lib.hid hl
    replace hx := Lib.hid hx
    replace hzz := Lib.hid hzz
    go_enter Try.func16, Try.ntmps16
    go_wp2_with fail
    (with_reducible refine hH.out.mono ?_)
    rintro e w2 ⟨rfl, hb2⟩
    obtain ⟨hg2, hw2, hbl2⟩ := hG2.out w2 hb2
    have hb3 := (Below.refl w2.heap.size w2).alloc (Nat.le_refl _) (.cells #[.int .i64 (x : Int), .int .i64 (x : Int)] 58)
    have hf := heap_alloc_new w2 (.cells #[.int .i64 (x : Int), .int .i64 (x : Int)] 58)
    have hg3 := hg2.over hb3
    have hlow : ∀ q, FT (w2.alloc (.cells #[.int .i64 (x : Int), .int .i64 (x : Int)] 58)) p q → q < w2.heap.size := fun q hq => (hg2.lo q (hq.of (hb3.block p hg2.lt))).2
    have hw3 : WP p w (w2.alloc (.cells #[.int .i64 (x : Int), .int .i64 (x : Int)] 58)) := hw2.trans (WP.of hb3 hg2.lt)
    obtain ⟨w3, hw3e⟩ : ∃ W, w2.alloc (.cells #[.int .i64 (x : Int), .int .i64 (x : Int)] 58) = W := ⟨_, rfl⟩
    obtain ⟨gf, hgf⟩ : ∃ g, w2.heap.size = g := ⟨_, rfl⟩
    have hlg := hg2.lt
    rw [hw3e, hgf] at hf hlow
    rw [hw3e] at hg3 hw3 hb3
    rw [hgf] at hlg
    have f0 : w3.cell? ⟨gf, 0, none⟩ = some (.int .i64 (x : Int)) := by rw [Lib.cell_of_heap hf]; rfl
    have f1 : w3.cell? ⟨gf, 1, none⟩ = some (.int .i64 (x : Int)) := by rw [Lib.cell_of_heap hf]; rfl
    have fl := lt_of_get hf
    have fz : ∀ i, w3.frozen? ⟨gf, i, none⟩ = false := fun i => Lib.frozen_of_heap hf i
    replace hf := Lib.hid hf
    replace hlow := Lib.hid hlow
    replace hg3 := Lib.hid hg3
    replace hw3 := Lib.hid hw3
    replace hlg := Lib.hid hlg
    clear hg2 hw2 hbl2 hb2 hb3
    go_wp2_with fail
    clear hw3e hgf
    go_quiet (fail)
    go_wp2_with fail
    go_ret2
    exact ⟨rfl, (GI.over hg3.out (bdn w3 _)), hw3.out.trans (WP.of (bdn w3 _) (hg3.out.lt))⟩
  have d0 : ((x : Int) == 0) = false := by simp; omega
  rw [if_neg (by omega), if_pos (Or.inr rfl)]
  have d1 : ((x : Int) == (z : Int)) = false := by simp; omega
  by_cases c2 : x = 1
  · have d2 : ((x : Int) == 1) = true := by simp [c2]
    replace c2 := Lib.hid c2
    replace c0 := Lib.hid c0
    replace hl := Lib.hid hl
    replace hx := Lib.hid hx
    replace hzz := Lib.hid hzz
    go_enter Try.func16, Try.ntmps16
    go_wp2_with fail
    (with_reducible refine hH.out.mono ?_)
    rintro e w2 ⟨rfl, hb2⟩
    obtain ⟨hg2, hw2, hbl2⟩ := hG2.out w2 hb2
    have hb3 := (Below.refl w2.heap.size w2).alloc (Nat.le_refl _) (.cells #[.int .i64 (x : Int), .int .i64 (x : Int)] 58)
    have hf := heap_alloc_new w2 (.cells #[.int .i64 (x : Int), .int .i64 (x : Int)] 58)
    have hg3 := hg2.over hb3
    have hlow : ∀ q, FT (w2.alloc (.cells #[.int .i64 (x : Int), .int .i64 (x : Int)] 58)) p q → q < w2.heap.size := fun q hq => (hg2.lo q (hq.of (hb3.block p hg2.lt))).2
    have hw3 : WP p w (w2.alloc (.cells #[.int .i64 (x : Int), .int .i64 (x : Int)] 58)) := hw2.trans (WP.of hb3 hg2.lt)
    obtain ⟨w3, hw3e⟩ : ∃ W, w2.alloc (.cells #[.int .i64 (x : Int), .int .i64 (x : Int)] 58) = W := ⟨_, rfl⟩
    obtain ⟨gf, hgf⟩ : ∃ g, w2.heap.size = g := ⟨_, rfl⟩
    have hlg := hg2.lt
    rw [hw3e, hgf] at hf hlow
    rw [hw3e] at hg3 hw3 hb3
    rw [hgf] at hlg
    have f0 : w3.cell? ⟨gf, 0, none⟩ = some (.int .i64 (x : Int)) := by rw [Lib.cell_of_heap hf]; rfl
    have f1 : w3.cell? ⟨gf, 1, none⟩ = some (.int .i64 (x : Int)) := by rw [Lib.cell_of_heap hf]; rfl
    have fl := lt_of_get hf
    have fz : ∀ i, w3.frozen? ⟨gf, i, none⟩ = false := fun i => Lib.frozen_of_heap hf i
    replace hf := Lib.hid hf
    replace hlow := Lib.hid hlow
    replace hg3 := Lib.hid hg3
    replace hw3 := Lib.hid hw3
    replace hlg := Lib.hid hlg
    clear hg2 hw2 hbl2 hb2 hb3
    go_wp2_with fail
    clear hw3e hgf
    go_quiet ((go_at_call 14; (with_reducible refine (hN0.out _).mono ?_); exact (fun e w1 ⟨he, hw1⟩ => ⟨he, _, hw1.symm⟩)))
    go_wp2_with fail
    go_ret2
    exact ⟨rfl, (GI.over hg3.out (bdn w3 _)), hw3.out.trans (WP.of (bdn w3 _) (hg3.out.lt))⟩
  · have d2 : ((x : Int) == 1) = false := by simp; omega
    replace c2 := Lib.hid c2
    replace c0 := Lib.hid c0
    replace hl := Lib.hid hl
    replace hx := Lib.hid hx
    replace hzz := Lib.hid hzz
    go_enter Try.func16, Try.ntmps16
    go_wp2_with fail
    (with_reducible refine hH.out.mono ?_)
    rintro e w2 ⟨rfl, hb2⟩
    obtain ⟨hg2, hw2, hbl2⟩ := hG2.out w2 hb2
    have hb3 := (Below.refl w2.heap.size w2).alloc (Nat.le_refl _) (.cells #[.int .i64 (x : Int), .int .i64 (x : Int)] 58)
    have hf := heap_alloc_new w2 (.cells #[.int .i64 (x : Int), .int .i64 (x : Int)] 58)
    have hg3 := hg2.over hb3
    have hlow : ∀ q, FT (w2.alloc (.cells #[.int .i64 (x : Int), .int .i64 (x : Int)] 58)) p q → q < w2.heap.size := fun q hq => (hg2.lo q (hq.of (hb3.block p hg2.lt))).2
    have hw3 : WP p w (w2.alloc (.cells #[.int .i64 (x : Int), .int .i64 (x : Int)] 58)) := hw2.trans (WP.of hb3 hg2.lt)
    obtain ⟨w3, hw3e⟩ : ∃ W, w2.alloc (.cells #[.int .i64 (x : Int), .int .i64 (x : Int)] 58) = W := ⟨_, rfl⟩
    obtain ⟨gf, hgf⟩ : ∃ g, w2.heap.size = g := ⟨_, rfl⟩
    have hlg := hg2.lt
    rw [hw3e, hgf] at hf hlow
    rw [hw3e] at hg3 hw3 hb3
    rw [hgf] at hlg
    have f0 : w3.cell? ⟨gf, 0, none⟩ = some (.int .i64 (x : Int)) := by rw [Lib.cell_of_heap hf]; rfl
    have f1 : w3.cell? ⟨gf, 1, none⟩ = some (.int .i64 (x : Int)) := by rw [Lib.cell_of_heap hf]; rfl
    have fl := lt_of_get hf
    have fz : ∀ i, w3.frozen? ⟨gf, i, none⟩ = false := fun i => Lib.frozen_of_heap hf i
    replace hf := Lib.hid hf
    replace hlow := Lib.hid hlow
    replace hg3 := Lib.hid hg3
    replace hw3 := Lib.hid hw3
    replace hlg := Lib.hid hlg
    clear hg2 hw2 hbl2 hb2 hb3
    go_wp2_with fail
    clear hw3e hgf
    go_quiet ((go_at_call 14; (with_reducible refine (hN0.out _).mono ?_); exact (fun e w1 ⟨he, hw1⟩ => ⟨he, _, hw1.symm⟩)))
    go_wp2_with fail
    go_ret2
    exact ⟨rfl, (GI.over hg3.out (bdn w3 _)), hw3.out.trans (WP.of (bdn w3 _) (hg3.out.lt))⟩
theorem And_t {B p : Nat} {F : List PN} (a b : Nat) (w : World) (h : GI w B p F) (hl : F.length < 50000) (ha : a / 2 < F.length) (hb : b / 2 < F.length) :
    Calls Try.prog 16 #[pg p, .int .i64 (a : Int), .int .i64 (b : Int)] w (GV w B p (andF F a b).1 (.tuple #[.int .i64 (((andF F a b).2 : Nat) : Int), .int .i64 0])) := by
  rcases Nat.lt_trichotomy a b with e | e | e
  · exact And_lt a b w h hl e hb
  · subst e; exact And_eq a w h hl ha
  · exact And_gt b a w h hl e ha
set_option maxRecDepth 100000 in
theorem And_bad {B p : Nat} {F : List PN} (a b : Int) (w : World) (h : GI w B p F) (ha : a < 4611686018427387904) (hb : b < 4611686018427387904) (hf : (foreign F.length a || foreign F.length b) = true) :
    Calls Try.prog 16 #[pg p, .int .i64 a, .int .i64 b] w (RV w (.tuple #[.int .i64 0, .int .i64 3])) := by
  have hbs := (Below.refl w.heap.size w).alloc (Nat.le_refl _) (.cells #[.int .i64 a, .int .i64 b] 3)
  have hH : Calls Try.prog 29 #[pg p, .slice (some ⟨w.heap.size, 0, none⟩) 2 2] (w.alloc (.cells #[.int .i64 a, .int .i64 b] 3)) (RV (w.alloc (.cells #[.int .i64 a, .int .i64 b] 3)) (.bool false)) := by
    have h1 := has_t [a, b] (some ⟨w.heap.size, 0, none⟩) 2 (w.alloc (.cells #[.int .i64 a, .int .i64 b] 3)) (h.over hbs) (RL.two w a b) (by simp) (by simp; exact ⟨ha, hb⟩)
    have e : (!([a, b]).any (foreign F.length)) = false := by simp only [List.any_cons, List.any_nil, Bool.or_false, hf, Bool.not_true]
    rw [e] at h1
    exact h1
  unfold RV at hH
  replace hH := Lib.hid hH
  replace hbs := Lib.hid hbs
  clear h ha hb hf
  go_enter Try.func16, Try.ntmps16
  go_wp2_with fail
  (with_reducible refine hH.out.mono ?_)
  rintro e w2 ⟨rfl, hb2⟩
  have hb3 := below_call hb2 hbs.out hbs.out.size
  go_wp2_with fail
  go_ret2
  exact ⟨rfl, hb3⟩
end Go.Proofs.Ytinfkjflomdhbaa
