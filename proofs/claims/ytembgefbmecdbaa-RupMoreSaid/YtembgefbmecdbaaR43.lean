/-
  The statement's awake.
-/
import Derived.Test.YtembgefbmecdbaaR41
import Derived.Test.YtembgefbmecdbaaNc
namespace Go.Proofs.Ytembgefbmecdbaa
open Go.RowKit Go.Lib
def Lw : List (List Int) := [[1, 2], [1, -2], [-1, 2], [-1, -2]]
theorem canon2 (a b : Int) (ha : a = 1 ∨ a = -1) (hb : b = 2 ∨ b = -2) : canon [a, b] = [a, b] := canon_lit (fun x => Iff.rfl) (by
  simp only [List.pairwise_cons, List.mem_singleton, List.mem_nil_iff, List.Pairwise.nil]
  refine ⟨fun y h => ?_, fun y h => absurd h (by simp), trivial⟩
  subst h
  unfold Lq
  rw [va_dom (by omega), va_dom (by omega)]
  omega)
theorem aw_step (cs : List (List Int)) (hn : cs.length < 10) (a b : Int) (ha : a = 1 ∨ a = -1) (hb : b = 2 ∨ b = -2) : addF 2 cs [a, b] = (0, cs ++ [[a, b]]) := by
  unfold addF
  have h1 : [a, b].any (fgn 2) = false := by
    rcases ha with rfl | rfl <;> rcases hb with rfl | rfl <;> decide
  have h2 : opB [a, b] = false := by
    rcases ha with rfl | rfl <;> rcases hb with rfl | rfl <;> decide
  rw [if_neg (by rw [h1]; decide), if_neg (by simp; omega), if_neg (by rw [h2]; decide), canon2 a b ha hb]
theorem aw4 (j : Nat) (hj : j < 4) : addF 2 (Lw.take j) (Lw.getD j []) = (0, Lw.take (j + 1)) := by
  obtain rfl | rfl | rfl | rfl : j = 0 ∨ j = 1 ∨ j = 2 ∨ j = 3 := by omega
  · exact aw_step [] (by simp) 1 2 (by simp) (by simp)
  · exact aw_step [[1, 2]] (by simp) 1 (-2) (by simp) (by simp)
  · exact aw_step [[1, 2], [1, -2]] (by simp) (-1) 2 (by simp) (by simp)
  · exact aw_step [[1, 2], [1, -2], [-1, 2]] (by simp) (-1) (-2) (by simp) (by simp)
theorem up_last {cs : List (List Int)} {A : Int → Prop} {a b : Int} (h : [a, b] ∈ cs) (hn : a ≠ b) (ha : Up cs A (-a)) : Up cs A b :=
  .unit [a, b] b h (by simp) fun y hy hne => by
    simp at hy
    rcases hy with rfl | rfl
    · exact ha
    · exact absurd rfl hne
theorem aw_F1 : Fails Lw (fun x => -x ∈ ([1] : List Int)) := by
  have h1 : Up Lw (fun x => -x ∈ ([1] : List Int)) (-1) := .given _ (by simp)
  exact .inr ⟨2, up_last (a := 1) (b := 2) (by simp [Lw]) (by decide) h1, up_last (a := 1) (b := -2) (by simp [Lw]) (by decide) h1⟩
theorem aw_F2 : Fails (Lw ++ [[1]]) (fun x => -x ∈ ([] : List Int)) := by
  have h1 : Up (Lw ++ [[1]]) (fun x => -x ∈ ([] : List Int)) 1 := .unit [1] 1 (by simp) (by simp) fun y hy hne => absurd (by simpa using hy) hne
  have h2 : Up (Lw ++ [[1]]) (fun x => -x ∈ ([] : List Int)) (- -1) := by rw [Int.neg_neg]; exact h1
  exact .inr ⟨2, up_last (a := -1) (b := 2) (by simp [Lw]) (by decide) h2, up_last (a := -1) (b := -2) (by simp [Lw]) (by decide) h2⟩
theorem aw_F3 : ¬ Fails Lw (fun x => -x ∈ ([] : List Int)) :=
  not_Fails (T := fun _ => False) (fun x h => by simp at h) (fun _ h => h.elim) fun c hc => .inr (by
    simp [Lw] at hc
    rcases hc with rfl | rfl | rfl | rfl
    · exact ⟨1, 2, by simp, by simp, by decide, fun h => h, fun h => h⟩
    · exact ⟨1, -2, by simp, by simp, by decide, fun h => h, fun h => h⟩
    · exact ⟨-1, 2, by simp, by simp, by decide, fun h => h, fun h => h⟩
    · exact ⟨-1, -2, by simp, by simp, by decide, fun h => h, fun h => h⟩)
theorem aw_cl : ∀ c, c ∈ Lw → ∀ y, y ∈ c → y ≠ 0 ∧ y ≤ (2 : Nat) ∧ -y ≤ (2 : Nat) := by
  intro c hc y hy
  simp [Lw] at hc
  rcases hc with rfl | rfl | rfl | rfl <;> simp at hy <;> omega
theorem alloc_at (W : World) (o : Obj) (b : Nat) (x : Obj) (h : W.heap[b]? = some x) : (W.alloc o).heap[b]? = some x := (((Below.refl W.heap.size W).alloc (Nat.le_refl _) o).block b (lt_of_get h)).trans h
abbrev wAw (w1 : World) : World := (((((w1.alloc (Obj.cells #[Value.int IntKind.i64 1, Value.int IntKind.i64 2] 3)).alloc (Obj.cells #[Value.int IntKind.i64 1, Value.int IntKind.i64 (-2)] 3)).alloc (Obj.cells #[Value.int IntKind.i64 (-1), Value.int IntKind.i64 2] 3)).alloc (Obj.cells #[Value.int IntKind.i64 (-1), Value.int IntKind.i64 (-2)] 3)).alloc (Obj.cells #[Value.slice (some { block := w1.heap.size, off := 0 }) 2 2, Value.slice (some { block := w1.heap.size + 1, off := 0 }) 2 2, Value.slice (some { block := w1.heap.size + 1 + 1, off := 0 }) 2 2, Value.slice (some { block := w1.heap.size + 1 + 1 + 1, off := 0 }) 2 2] 23))
abbrev vsAw (s : Nat) : List Value := [Value.slice (some { block := s, off := 0 }) 2 2, Value.slice (some { block := s + 1, off := 0 }) 2 2, Value.slice (some { block := s + 1 + 1, off := 0 }) 2 2, Value.slice (some { block := s + 1 + 1 + 1, off := 0 }) 2 2]
theorem wAw_at (w1 : World) : (wAw w1).heap[w1.heap.size]? = some (.cells #[iz 1, iz 2] 3 (0, 0)) ∧ (wAw w1).heap[w1.heap.size + 1]? = some (.cells #[iz 1, iz (-2)] 3 (0, 0)) ∧ (wAw w1).heap[w1.heap.size + 1 + 1]? = some (.cells #[iz (-1), iz 2] 3 (0, 0)) ∧ (wAw w1).heap[w1.heap.size + 1 + 1 + 1]? = some (.cells #[iz (-1), iz (-2)] 3 (0, 0)) ∧ (wAw w1).heap[w1.heap.size + 1 + 1 + 1 + 1]? = some (.cells (vsAw w1.heap.size).toArray 23 (0, 0)) ∧ Below w1.heap.size w1 (wAw w1) := by
  have n1 := fun (W : World) (o : Obj) (k : Nat) (hk : W.heap.size = k) => (show (W.alloc o).heap[k]? = some o by rw [← hk]; exact heap_alloc_new W o)
  refine ⟨?_, ?_, ?_, ?_, ?_, ?_⟩
  · exact alloc_at _ _ _ _ (alloc_at _ _ _ _ (alloc_at _ _ _ _ (alloc_at _ _ _ _ (n1 _ _ _ rfl))))
  · exact alloc_at _ _ _ _ (alloc_at _ _ _ _ (alloc_at _ _ _ _ (n1 _ _ _ (by simp))))
  · exact alloc_at _ _ _ _ (alloc_at _ _ _ _ (n1 _ _ _ (by simp)))
  · exact alloc_at _ _ _ _ (n1 _ _ _ (by simp))
  · exact n1 _ _ _ (by simp)
  · exact (((((Below.refl _ _).alloc (Nat.le_refl _) _).alloc (by simp) _).alloc (by simp; omega) _).alloc (by simp; omega) _).alloc (by simp; omega) _
theorem aw_RLd {F : Nat → Prop} {w : World} {b : Nat} {x y : Int} (h : w.heap[b]? = some (.cells #[iz x, iz y] 3 (0, 0))) (hF : ¬ F b) : RLd F w (some ⟨b, 0, none⟩) [x, y] := fun _ => by
  refine ⟨b, 0, rfl, lt_of_get h, hF, fun j hj => ?_⟩
  rw [Nat.zero_add, Lib.cell_of_heap h]
  obtain rfl | rfl : j = 0 ∨ j = 1 := by simp at hj; omega
  · rfl
  · rfl
theorem aw_lists (w1 : World) (p : Nat) (hp : p < w1.heap.size) : RLLd (FP p (.slice none 0 0) (.slice none 0 0)) (wAw w1) (some ⟨w1.heap.size + 1 + 1 + 1 + 1, 0, none⟩) (vsAw w1.heap.size) Lw := by
  obtain ⟨h1, h2, h3, h4, h5, _⟩ := wAw_at w1
  have hF : ∀ b, w1.heap.size ≤ b → ¬ FP p (.slice none 0 0) (.slice none 0 0) b := by
    rintro b hb (e | e | e)
    · omega
    · cases e
    · cases e
  refine ⟨rfl, fun _ => ⟨_, 0, rfl, lt_of_get h5, hF _ (by omega), fun j u hj => ?_⟩, fun j hj => ?_⟩
  · rw [Nat.zero_add, Lib.cell_of_heap h5]
    simpa using hj
  · obtain rfl | rfl | rfl | rfl : j = 0 ∨ j = 1 ∨ j = 2 ∨ j = 3 := by simp [Lw] at hj; omega
    · exact ⟨_, _, rfl, aw_RLd h1 (hF _ (by omega))⟩
    · exact ⟨_, _, rfl, aw_RLd h2 (hF _ (by omega))⟩
    · exact ⟨_, _, rfl, aw_RLd h3 (hF _ (by omega))⟩
    · exact ⟨_, _, rfl, aw_RLd h4 (hF _ (by omega))⟩
/-- The formula and the lists while the clauses are added. -/
def AW (B p : Nat) (w wr : World) (A : Option Addr) (vs : List Value) (j : Nat) : Prop := ∃ vl ve, CF B wr p 2 (Lw.take j) vl ve ∧ RLLd (FP p vl ve) wr A vs Lw ∧ Below B w wr
theorem AW.step {B p : Nat} {w wr : World} {A : Option Addr} {vs : List Value} {j : Nat} (h : AW B p w wr A vs j) (hj : j < 4) : ∃ b off A' c', A = some ⟨b, off, none⟩ ∧ b < wr.heap.size ∧ wr.cell? ⟨b, off + j, none⟩ = some (.slice A' 2 c') ∧ Calls Try.prog 8 #[pv p, .slice A' 2 c'] wr fun e w' => e = .returned (.int .i64 0) ∧ AW B p w w' A vs (j + 1) := by
  obtain ⟨vl, ve, h1, h2, h3⟩ := h
  obtain ⟨q1, q2, q3⟩ := h2
  obtain ⟨b, off, e, hb, hF, hc⟩ := q2 (by decide)
  obtain ⟨A', c', e2, hR⟩ := q3 j (by simpa [Lw] using hj)
  have hlen : (Lw.getD j []).length = 2 := by
    obtain rfl | rfl | rfl | rfl : j = 0 ∨ j = 1 ∨ j = 2 ∨ j = 3 := by omega
    all_goals rfl
  have hA := Add_t h1 A' c' _ hR.rl (by omega)
  rw [hlen, aw4 j hj] at hA
  rw [hlen] at e2
  refine ⟨b, off, A', c', e, hb, hc j _ e2, hA.mono ?_⟩
  rintro e' w' ⟨rfl, vl', ve', k1, k2, k3⟩
  have m1 : RLLd (fun b => FP p vl ve b ∨ wr.heap.size ≤ b) wr A vs Lw := RLLd.mono (F := FP p vl ve) ⟨q1, q2, q3⟩ fun b hb hh => hh.elim id fun f => by omega
  exact ⟨rfl, vl', ve', k1, (m1.keep (k2.mono fun b hb => .inl hb)).mono fun b _ hb => k3 b hb, h3.trans (h1.below k2)⟩
theorem aw_check1 (wr : World) {B p : Nat} {vl ve : Value} (h : CF B wr p 2 Lw vl ve) : Calls Try.prog 10 #[pv p, Value.slice (some { block := wr.heap.size + 1, off := 0 }) 2 2] ((wr.alloc (Obj.cells #[Value.int IntKind.i64 1] 3)).alloc (Obj.cells #[Value.slice (some { block := wr.heap.size, off := 0 }) 1 1, Value.slice none 0 0] 23)) fun e w' => e = .returned (.tuple #[iz 0, iz 0]) ∧ Below wr.heap.size wr w' := by
  have hb : Below wr.heap.size wr ((wr.alloc (Obj.cells #[Value.int IntKind.i64 1] 3)).alloc (Obj.cells #[Value.slice (some { block := wr.heap.size, off := 0 }) 1 1, Value.slice none 0 0] 23)) := ((Below.refl _ _).alloc (Nat.le_refl _) _).alloc (by simp) _
  have n1 : ((wr.alloc (Obj.cells #[Value.int IntKind.i64 1] 3)).alloc (Obj.cells #[Value.slice (some { block := wr.heap.size, off := 0 }) 1 1, Value.slice none 0 0] 23)).heap[wr.heap.size]? = some (.cells #[iz 1] 3 (0, 0)) := alloc_at _ _ _ _ (heap_alloc_new wr _)
  have n2 : ((wr.alloc (Obj.cells #[Value.int IntKind.i64 1] 3)).alloc (Obj.cells #[Value.slice (some { block := wr.heap.size, off := 0 }) 1 1, Value.slice none 0 0] 23)).heap[wr.heap.size + 1]? = some (.cells #[Value.slice (some { block := wr.heap.size, off := 0 }) 1 1, Value.slice none 0 0] 23 (0, 0)) := by
    have := heap_alloc_new (wr.alloc (Obj.cells #[Value.int IntKind.i64 1] 3)) (Obj.cells #[Value.slice (some { block := wr.heap.size, off := 0 }) 1 1, Value.slice none 0 0] 23)
    simpa using this
  have hL : RLL ((wr.alloc (Obj.cells #[Value.int IntKind.i64 1] 3)).alloc (Obj.cells #[Value.slice (some { block := wr.heap.size, off := 0 }) 1 1, Value.slice none 0 0] 23)) (some ⟨wr.heap.size + 1, 0, none⟩) [[1], []] := fun _ => by
    refine ⟨_, 0, rfl, lt_of_get n2, fun j hj => ?_⟩
    rw [Nat.zero_add, Lib.cell_of_heap n2]
    obtain rfl | rfl : j = 0 ∨ j = 1 := by simp at hj; omega
    · exact ⟨_, 1, rfl, fun _ => ⟨_, 0, rfl, lt_of_get n1, fun i hi => by
        obtain rfl : i = 0 := by simp at hi; omega
        rw [Nat.zero_add, Lib.cell_of_heap n1]
        rfl⟩, by simp, fun e => by cases e⟩
    · exact ⟨none, 0, rfl, fun h => absurd h (by simp), by simp, fun _ => rfl⟩
  refine (Check_ok _ (h.over hb) (by omega) aw_cl [[1], []] (some ⟨wr.heap.size + 1, 0, none⟩) 2 hL (fun l hl => by simp at hl; rcases hl with rfl | rfl <;> simp) (by simp [Lw]) (by simp) rfl (fun j hj => ?_)).mono ?_
  · obtain rfl | rfl : j = 0 ∨ j = 1 := by simp at hj; omega
    · exact ⟨by decide, by simpa using aw_F1⟩
    · exact ⟨by decide, by simpa using aw_F2⟩
  · rintro e w' ⟨rfl, hb2⟩
    exact ⟨rfl, hb.trans (hb2.mono hb.size)⟩
theorem aw_check2 (wr : World) {B p : Nat} {vl ve : Value} (h : CF B wr p 2 Lw vl ve) : Calls Try.prog 10 #[pv p, Value.slice (some { block := wr.heap.size + 1, off := 0 }) 1 1] ((wr.alloc (Obj.cells #[] 3)).alloc (Obj.cells #[Value.slice (some { block := wr.heap.size, off := 0 }) 0 0] 23)) fun e w' => e = .returned (.tuple #[iz 0, iz 20]) ∧ Below wr.heap.size wr w' := by
  have hb : Below wr.heap.size wr ((wr.alloc (Obj.cells #[] 3)).alloc (Obj.cells #[Value.slice (some { block := wr.heap.size, off := 0 }) 0 0] 23)) := ((Below.refl _ _).alloc (Nat.le_refl _) _).alloc (by simp) _
  have n2 : ((wr.alloc (Obj.cells #[] 3)).alloc (Obj.cells #[Value.slice (some { block := wr.heap.size, off := 0 }) 0 0] 23)).heap[wr.heap.size + 1]? = some (.cells #[Value.slice (some { block := wr.heap.size, off := 0 }) 0 0] 23 (0, 0)) := by
    have := heap_alloc_new (wr.alloc (Obj.cells #[] 3)) (Obj.cells #[Value.slice (some { block := wr.heap.size, off := 0 }) 0 0] 23)
    simpa using this
  have hL : RLL ((wr.alloc (Obj.cells #[] 3)).alloc (Obj.cells #[Value.slice (some { block := wr.heap.size, off := 0 }) 0 0] 23)) (some ⟨wr.heap.size + 1, 0, none⟩) [[]] := fun _ => by
    refine ⟨_, 0, rfl, lt_of_get n2, fun j hj => ?_⟩
    rw [Nat.zero_add, Lib.cell_of_heap n2]
    obtain rfl : j = 0 := by simp at hj; omega
    exact ⟨_, 0, rfl, fun h => absurd h (by simp), by simp, fun _ => rfl⟩
  refine (Check_bad _ (h.over hb) (by omega) aw_cl [[]] (some ⟨wr.heap.size + 1, 0, none⟩) 1 hL (fun l hl => by simp at hl; subst hl; simp) (by simp [Lw]) (by simp) (by decide) (by simpa using aw_F3)).mono ?_
  rintro e w' ⟨rfl, hb2⟩
  exact ⟨rfl, hb.trans (hb2.mono hb.size)⟩
theorem aw_follows (wr : World) {B p : Nat} {vl ve : Value} (h : CF B wr p 2 Lw vl ve) : Calls Try.prog 6 #[pv p, Value.slice (some { block := wr.heap.size, off := 0 }) 1 1] (wr.alloc (Obj.cells #[Value.int IntKind.i64 1] 3)) fun e w' => e = .returned (.bool true) ∧ Below wr.heap.size wr w' := by
  have hb : Below wr.heap.size wr (wr.alloc (Obj.cells #[Value.int IntKind.i64 1] 3)) := (Below.refl _ _).alloc (Nat.le_refl _) _
  refine (Follows_t _ (h.over hb) (by omega) aw_cl (by simp [Lw]) (some ⟨wr.heap.size, 0, none⟩) [1] 1 (RL_new wr [1] _ rfl) (by simp)).mono ?_
  rintro e w' ⟨b, rfl, hF, hb2⟩
  obtain rfl : b = true := hF.2 ⟨by decide, by simpa using aw_F1⟩
  exact ⟨rfl, hb.trans (hb2.mono hb.size)⟩
set_option maxRecDepth 100000 in
set_option maxHeartbeats 1600000 in
theorem awake_r (w : World) : Calls Try.prog 4 #[] w (RV w (.bool true)) := by
  have hN := Lib.hid (New_t 2 2 (by decide) w)
  go_enter Try.func4, Try.ntmps4
  go_wp2_with fail
  (with_reducible refine hN.out.mono ?_)
  rintro e w1 ⟨rfl, h1, hb1⟩
  clear hN
  replace h1 := Lib.hid h1
  replace hb1 := Lib.hid hb1
  go_wp2_with fail
  have hst : AW w.heap.size w.heap.size w (wAw w1) (some ⟨w1.heap.size + 1 + 1 + 1 + 1, 0, none⟩) (vsAw w1.heap.size) 0 := ⟨_, _, h1.out.over (wAw_at w1).2.2.2.2.2, aw_lists w1 w.heap.size h1.out.lt, hb1.out.trans ((wAw_at w1).2.2.2.2.2.mono hb1.out.size)⟩
  replace hst := Lib.hid hst
  go_loopw [17] (fun iv wr => ∃ j : Nat, j ≤ 4 ∧ iv = .int .i64 (j : Int) ∧ Hid (AW w.heap.size w.heap.size w wr (some ⟨w1.heap.size + 1 + 1 + 1 + 1, 0, none⟩) (vsAw w1.heap.size) j)) (fun iv _ => 4 - (RowKit.intOf iv).toNat)
  case atStart => exact ⟨0, by omega, rfl, hst⟩
  case round =>
    obtain ⟨j, hj, rfl, hI⟩ := hrel
    by_cases hlt : j < 4
    · obtain ⟨b, off, A', c', e1, e2, e3, hA⟩ := hI.out.step hlt
      injection e1 with e1
      injection e1 with e4 e5
      subst e4 e5
      rw [Nat.zero_add] at e3
      replace hA := Lib.hid hA
      clear hI hst
      go_wp2_with fail
      (with_reducible refine hA.out.mono ?_)
      rintro e w2 ⟨rfl, hI⟩
      replace hI := Lib.hid hI
      clear hA
      go_wp2_with fail
      go_roundw
      case rel => exact ⟨j + 1, by omega, by go_num, hI⟩
      case measure => (change 4 - ((j : Int) + 1).toNat < 4 - ((j : Int)).toNat; omega)
    · obtain rfl : j = 4 := by omega
      obtain ⟨vl, ve, g1, _, g3⟩ := hI.out
      replace g1 : CF w.heap.size wr w.heap.size 2 Lw vl ve := g1
      replace g1 := Lib.hid g1
      replace g3 := Lib.hid g3
      clear hI hst h1 hb1
      go_wp2_with fail
      have hC1 := aw_check1 wr g1.out
      replace hC1 := Lib.hid hC1
      (with_reducible refine hC1.out.mono ?_)
      rintro e w2 ⟨rfl, hb2⟩
      have g2 := Lib.hid (g1.out.over hb2)
      have g3' := Lib.hid (show Below w.heap.size w w2 from g3.out.trans (hb2.mono g3.out.size))
      clear hC1 hb2 g1 g3
      go_wp2_with fail
      have hC2 := Lib.hid (aw_check2 w2 g2.out)
      (with_reducible refine hC2.out.mono ?_)
      rintro e w3 ⟨rfl, hb3⟩
      have g4 := g2.out.over hb3
      have g5 := Lib.hid (show Below w.heap.size w w3 from g3'.out.trans (hb3.mono g3'.out.size))
      have hF := Lib.hid (aw_follows w3 g4)
      clear hC2 hb3 g2 g3' g4
      go_wp2_with fail
      (with_reducible refine hF.out.mono ?_)
      rintro e w4 ⟨rfl, hb4⟩
      have g6 := Lib.hid (show Below w.heap.size w w4 from g5.out.trans (hb4.mono g5.out.size))
      clear hF hb4 g5
      go_wp2_with fail
      go_ret
      exact ⟨rfl, g6.out⟩
end Go.Proofs.Ytembgefbmecdbaa
