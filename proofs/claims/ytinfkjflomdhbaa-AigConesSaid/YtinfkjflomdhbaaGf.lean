/-
  Graph.New, Input, Fan.
-/
import Derived.Test.YtinfkjflomdhbaaGe
namespace Go.Proofs.Ytinfkjflomdhbaa
open Go.RowKit Go.Lib Go.Maps
/-- A call that makes the graph F' of F, and returns v. -/
def GV (w : World) (B p : Nat) (F' : List PN) (v : Value) (e : Ending) (w' : World) : Prop := e = .returned v ∧ GI w' B p F' ∧ WP p w w'
theorem AD.wp {w w' : World} {B p m n : Nat} {F : List PN} {q : PN} {D : DU} (h : AD w B p F q m n D w') : WP p w w' := by obtain ⟨v, _, _, _, h⟩ := h; exact h
theorem AD.input {w w' : World} {B p m n : Nat} {F : List PN} {v : Value} {D : DU} (h : AD w B p F (0, 0) m n D w') (g : GIx w B p F v m n D) (hl : F.length < 50000) :
    GI (w'.setCell ⟨p, 2, none⟩ (.int .i64 ((cnt F : Int) + 1))) B p (F ++ [(0, 0)]) ∧ WP p w (w'.setCell ⟨p, 2, none⟩ (.int .i64 ((cnt F : Int) + 1))) ∧ w'.cell? ⟨p, 2, none⟩ = some (.int .i64 (cnt F : Int)) ∧ (∀ i, w'.frozen? ⟨p, i, none⟩ = false) ∧ p < w'.heap.size := by
  obtain ⟨v', hb, hr, hm, hw⟩ := h
  have hb2 := heap_set w' p 2 _ _ (.int .i64 ((cnt F : Int) + 1)) hb
  have hcn : ((cnt F : Int) + 1) = ((cnt (F ++ [(0, 0)]) : Nat) : Int) := by rw [cnt_snoc _ _ g.wf.pos]; simp
  have hv : v'.ownBlock ≠ some p := fun e => by
    obtain ⟨cur, hc⟩ := own_blk hr p e
    rw [hb] at hc
    cases hc
  have hmp := g.mp'
  refine ⟨⟨v', m, n, D, ?_⟩, ?_, by rw [Lib.cell_of_heap hb]; rfl, fun i => Lib.frozen_of_heap hb i, lt_of_get hb⟩
  · exact { b := g.b, bm := g.bm, wf := g.wf.input, sm := by rw [List.length_append]; simp; omega, blk := by rw [hb2, ← hcn]; rfl, row := by
              rw [List.length_append]
              exact own_keepT hr fun b hb => Below.heap_setCell _ _ _ _ fun e => hv (by rw [hb, e]), mp := hm.setCell hmp _, ag := g.ag.input, nl := by rw [List.length_append]; have := g.nl; omega }
  · refine ⟨hw.k.set ⟨p, 2, none⟩ (.inl rfl) _, fun x hx => hw.f x ?_⟩
    rcases hx with e | ⟨v2, m2, i2, T2, f2, h1, h2⟩
    · exact .inl e
    · rw [hb2] at h1
      cases h1
      exact .inr ⟨_, _, _, _, _, hb, h2⟩
set_option maxRecDepth 100000 in
theorem Input_t {B p : Nat} {F : List PN} (w : World) (h : GI w B p F) (hl : F.length < 50000) : Calls Try.prog 23 #[pg p] w (GV w B p (F ++ [(0, 0)]) (.tuple #[.int .i64 ((2 * F.length : Nat) : Int), .int .i64 0])) := by
  obtain ⟨v, m, n, D, hx⟩ := h
  have hA : Calls Try.prog 30 #[pg p, .agg #[.int .i64 0, .int .i64 0]] w fun e w' => e = .returned (.tuple #[.int .i64 ((2 * F.length : Nat) : Int), .int .i64 0]) ∧ AD w B p F (0, 0) m n D w' := add_t (0, 0) w hx hl
  have hI := fun w' (q : AD w B p F (0, 0) m n D w') => q.input hx hl
  have hcl : cnt F ≤ 100000 := by
    have h1 : cnt F ≤ F.tail.length := List.countP_le_length
    have h2 : F.tail.length = F.length - 1 := List.length_tail
    omega
  obtain ⟨N, hN⟩ : ∃ N, F.length = N := ⟨_, rfl⟩
  obtain ⟨C, hC⟩ : ∃ C, cnt F = C := ⟨_, rfl⟩
  rw [hN] at hA hl ⊢
  rw [hC] at hI hcl
  clear hx
  replace hA := Lib.hid hA
  replace hI := Lib.hid hI
  replace hN := Lib.hid hN
  replace hC := Lib.hid hC
  go_enter Try.func23, Try.ntmps23
  go_wp2_with fail
  (with_reducible refine hA.out.mono ?_)
  rintro e w2 ⟨rfl, hAD⟩
  obtain ⟨h1, h2, h3, h4, h5⟩ := hI.out w2 hAD
  replace h1 := Lib.hid h1
  replace h2 := Lib.hid h2
  have f2 := h4 2
  clear hAD h4
  go_wp2_with fail
  go_ret2
  exact ⟨rfl, h1.out, h2.out⟩
theorem hmc : (madeCells (Value.agg #[.int .i64 0, .int .i64 0]).cells (1 * 2)).toList = fcells [(0, 0)] := by first | rfl | decide | (simp [madeCells, fcells, Value.cells, List.range, List.range.loop])
set_option maxRecDepth 100000 in
theorem New_t (B : Nat) (w : World) (hB : B ≤ w.heap.size) : Calls Try.prog 22 #[] w fun e w' => ∃ p, e = .returned (pg p) ∧ GI w' B p [(0, 0)] ∧ w.heap.size ≤ p ∧ (∀ g, FT w' p g → w.heap.size ≤ g) ∧ Below w.heap.size w w' := by
  obtain ⟨i0, hi, hz0, hz1, hz2⟩ := info_parts info_fan
  have hmm := @run_makeMap Try.prog
  have hx2 : i0.bytes * 1 ≤ 281474976710656 := by rw [hz2]; decide
  have hx1 : 1 ≤ maxLen := by decide
  replace hx2 := Lib.hid hx2
  replace hx1 := Lib.hid hx1
  replace hB := Lib.hid hB
  go_enter Try.func22, Try.ntmps22
  go_wp2_with (first
    | (at_make; refine wpList_make_full _ rfl _ _ 53 rfl w.heap.size 58 i0 (.agg #[.int .i64 0, .int .i64 0]) 2 Try.underlying53 hi hz0 hz1 .i64 .i64 1 1 1 rfl rfl rfl rfl hx2.out hx1.out (Nat.le_refl _) ?_; intro w1 ho1 hg1; replace ho1 := Lib.hid ho1; replace hg1 := Lib.hid hg1)
    | fail)
  go_ret
  have hm := World.ownsMap_made (H := Unit) w1 Try.prog 58 (plainElem Try.prog 3)
  have hgl := (own_ltT ho1.out w.heap.size rfl).2
  have hsz := hg1.out.size
  have hb := heap_alloc_new (w1.alloc (.map #[] 0)) (.cells #[.slice (some ⟨w.heap.size, 0, none⟩) 1 1, .map (some w1.heap.size), .int .i64 0] 56)
  have hbe : Below w.heap.size w ((w1.alloc (.map #[] 0)).alloc (.cells #[.slice (some ⟨w.heap.size, 0, none⟩) 1 1, .map (some w1.heap.size), .int .i64 0] 56)) := by
    refine Below.alloc (Below.alloc ⟨hg1.out.os, hg1.out.tape, hg1.out.output, hsz, fun k hk => hg1.out.block k hk (by simp)⟩ hsz _) (by simp; omega) _
  have hr : ((w1.alloc (.map #[] 0)).alloc (.cells #[.slice (some ⟨w.heap.size, 0, none⟩) 1 1, .map (some w1.heap.size), .int .i64 0] 56)).ownsRow B 58 2 (.slice (some ⟨w.heap.size, 0, none⟩) 1 1) 1 (fcells [(0, 0)]) := by
    have h1 := (ho1.out.alloc (.map #[] 0)).alloc (.cells #[.slice (some ⟨w.heap.size, 0, none⟩) 1 1, .map (some w1.heap.size), .int .i64 0] 56)
    have hB' := hB.out
    rw [hmc] at h1
    obtain ⟨h2, h3⟩ := h1
    refine ⟨h2, ?_⟩
    rcases h3 with ⟨h4, _⟩ | ⟨g, cap, cur, e, hb, rest⟩
    · cases h4
    · exact .inr ⟨g, cap, cur, e, by omega, rest⟩
  have hs2 : (w1.alloc (.map #[] 0)).heap.size = w1.heap.size + 1 := by simp
  rw [hs2] at hb
  refine ⟨w1.heap.size + 1, by simp, ⟨_, w1.heap.size, 0, .map [], { b := by have := hB.out; omega, bm := by have := hB.out; omega, wf := WF.new, sm := by simp, blk := hb, row := hr, mp := hm.alloc _, ag := AgF.new, nl := by simp }⟩, by omega, fun g hg => ?_, hbe⟩
  rcases hg with e | ⟨v, m, i, T, f, h1, h2⟩
  · omega
  · rw [hb] at h1
    cases h1
    rcases h2 with e | e
    · cases e; exact Nat.le_refl _
    · omega
theorem run_eq_fan {a b : Nat} (ha : a < 1000000) (hb : b < 1000000) (r : Bool) (hr : r = true ↔ a = 0 ∧ b = 0) (W : World) :
    (Op.equalIn 10000 58 (.agg #[.int .i64 (a : Int), .int .i64 (b : Int)]) (.agg #[.int .i64 0, .int .i64 0])).run Try.prog W = .ok r W := by
  obtain ⟨r', h1, h2⟩ := run_equal_deep (P := Try.prog) W (m := 2) (by omega) (k := 58) (by kernel_rfl) (by rw [Try.underlying58]) (key_mk ha hb) (key_mk (a := 0) (b := 0) (by decide) (by decide))
  have e : r' = r := by
    rw [Bool.eq_iff_iff, h2, hr]
    constructor
    · intro h
      have := kl_inj (p := (a, b)) (q := (0, 0)) ⟨ha, hb⟩ ⟨by decide, by decide⟩ h
      simpa using this
    · rintro ⟨rfl, rfl⟩; rfl
  rw [← e]
  exact h1
set_option maxRecDepth 100000 in
theorem Fan_t {B p : Nat} {F : List PN} (i : Nat) (q : PN) (w : World) (h : GI w B p F) (hi : F[i]? = some q) : Calls Try.prog 15 #[pg p, .int .i64 (i : Int)] w (fun e w' => e = .returned (.tuple #[.int .i64 (q.1 : Int), .int .i64 (q.2 : Int), .bool (decide (q.1 ≠ 0))]) ∧ ∃ k, w' = w.drewN k) := by
  obtain ⟨v, m, n, D, hx⟩ := h
  obtain ⟨g, cp, rfl, hBg⟩ := hx.shape
  have hL := Len_t w ⟨_, m, n, D, hx⟩
  obtain ⟨f0, f1⟩ := hx.cell rfl hi
  have c0 := hx.c0
  have hil : i < F.length := (List.getElem?_eq_some_iff.1 hi).1
  have hor := hx.wf.ok i q hi
  have hsm := hx.sm
  obtain ⟨N, hN⟩ : ∃ N, F.length = N := ⟨_, rfl⟩
  rw [hN] at hL c0 hil hsm
  have d1 : decide ((i : Int) < 0) = false := by simp
  have d2 : decide ((N : Int) ≤ (i : Int)) = false := by simp; omega
  obtain ⟨a, b⟩ := q
  simp only at f0 f1 hor ⊢
  unfold RW at hL
  replace hL := Lib.hid hL
  replace hN := Lib.hid hN
  clear hx hi
  by_cases ha : a = 0
  · have hb : b = 0 := by
      rcases hor with e | e
      · exact (Prod.mk.inj e).2
      · omega
    subst ha hb
    have hq := run_eq_fan (a := 0) (b := 0) (by decide) (by decide) true (by simp)
    simp only [Int.natCast_zero] at hq f0 f1
    clear hor
    go_enter Try.func15, Try.ntmps15
    go_wp2_with fail
    (with_reducible refine hL.out.mono ?_)
    rintro e w2 ⟨rfl, hw2⟩
    subst hw2
    go_wp2_with fail
    refine bodyPost_ret (v := .tuple #[.int .i64 0, .int .i64 0, .bool false]) (by simp [results, Try.results15, go_sem]) rfl ⟨by simp, 0, rfl⟩
  · have d3 : ((a : Int) == 0) = false := by simp [ha]
    have d4 : (decide (a ≠ 0)) = true := by simp [ha]
    rw [d4]
    have hor2 : a < b ∧ b / 2 < i := by
      rcases hor with e | e
      · exact absurd (Prod.mk.inj e).1 ha
      · exact ⟨e.2.1, e.2.2.1⟩
    have hq := run_eq_fan (a := a) (b := b) (by omega) (by omega) false (by simp [ha])
    clear hor2
    clear hor
    replace ha := Lib.hid ha
    go_enter Try.func15, Try.ntmps15
    go_wp2_with fail
    (with_reducible refine hL.out.mono ?_)
    rintro e w2 ⟨rfl, hw2⟩
    subst hw2
    go_wp2_with fail
    go_quiet (fail)
    go_wp2_with fail
    refine bodyPost_ret (v := .tuple #[.int .i64 (a : Int), .int .i64 (b : Int), .bool true]) (by simp [results, Try.results15, go_sem]) rfl ⟨rfl, _, rfl⟩
end Go.Proofs.Ytinfkjflomdhbaa
