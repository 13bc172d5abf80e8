/-
  The statements' awake for the solver; SatLuby.
-/
import Derived.Test.YtpkmpbnedoldlaaGreatS24
import Derived.Test.YtpkmpbnedoldlaaGreatS18
import Derived.Test.YtpkmpbnedoldlaaGreatKn
namespace Go.Proofs.YtpkmpbnedoldlaaGreat
open Go.RowKit Go.Lib
theorem canon_lit {l r : List Int} (h : ∀ x, x ∈ l ↔ x ∈ r) (hs : r.Pairwise Lq) : canon l = r := by
  rw [canon_ext h, canon_of_sorted hs]
theorem aw_c1 : canon [1, 2] = [1, 2] := canon_lit (fun x => Iff.rfl) (by
  simp only [List.pairwise_cons, List.mem_singleton, List.mem_nil_iff, List.Pairwise.nil]
  refine ⟨fun a h => ?_, fun a h => absurd h (by simp), trivial⟩
  subst h
  unfold Lq
  rw [va_dom (by omega), va_dom (by omega)]
  omega)
theorem aw_c2 (x : Int) : canon [x] = [x] := canon_lit (fun y => Iff.rfl) (by simp)
theorem aw_1 : addF 2 [] [1, 2] = (0, [[1, 2]]) := by
  unfold addF
  rw [if_neg (by decide), if_neg (by simp), if_neg (by decide), aw_c1]
  rfl
theorem aw_2 : addF 2 [[1, 2]] [-1] = (0, [[1, 2], [-1]]) := by
  unfold addF
  rw [if_neg (by decide), if_neg (by simp), if_neg (by decide), aw_c2]
  rfl
theorem aw_3 : addF 2 [[1, 2], [-1]] [-2] = (0, [[1, 2], [-1], [-2]]) := by
  unfold addF
  rw [if_neg (by decide), if_neg (by simp), if_neg (by decide), aw_c2]
  rfl
theorem RL_new (w : World) (l : List Int) (vs : Array Value) (h : vs = (iv l).toArray) : RL (w.alloc (.cells vs 3)) (some ⟨w.heap.size, 0, none⟩) l := fun _ => by
  refine ⟨w.heap.size, 0, rfl, by simp, fun j hj => ?_⟩
  rw [Nat.zero_add, Lib.cell_of_heap (heap_alloc_new w _) j, h]
  simp [iv, List.getD, List.getElem?_eq_getElem hj]
theorem CF.below {base : Nat} {w w' : World} {p V : Nat} {cs : List (List Int)} {vl ve : Value} (h : CF base w p V cs vl ve) (k : Keep (FP p vl ve) w w') : Below base w w' :=
  k.below (Nat.le_trans h.pb (Nat.le_of_lt h.lt)) fun b hb => (h.fp b hb).1
theorem CB.form {base : Nat} {w w' : World} {p V b : Nat} {cs : List (List Int)} {vl ve : Value} {ds : Array Value} (hR : CB w b ds 32) (h : CF base w p V cs vl ve) (k : Keep (FP p vl ve) w w') : CB w' b ds 32 :=
  (k.block b (lt_of_get hR) fun hf => by
    rcases hf with e | e | e
    · exact CB.ne hR h.blk (by decide) e
    · exact CB.own_ne hR h.lits (by decide) b e rfl
    · exact CB.own_ne hR h.ends (by decide) b e rfl).trans hR
set_option maxRecDepth 100000 in
set_option maxHeartbeats 6400000 in
theorem awakeS_t (w : World) : Calls Tryz.prog 4 #[] w (RV w (.bool true)) := by
  have hN := Lib.hid (New_t 2 2 (by decide) w)
  go_enter Tryz.func4, Tryz.ntmps4
  go_wp2_with fail
  (with_reducible refine hN.out.mono ?_)
  rintro e w1 ⟨rfl, h1, hb1⟩
  clear hN
  have z1 := hb1.size
  have hh1 := h1.over ((Below.refl _ w1).alloc (Nat.le_refl _) (.cells #[.int .i64 1, .int .i64 2] 3))
  have hA := Add_t hh1 (some ⟨w1.heap.size, 0, none⟩) 2 [1, 2] (RL_new w1 [1, 2] _ rfl) (by decide)
  rw [aw_1] at hA
  change Calls _ _ #[pv w.heap.size, .slice (some ⟨w1.heap.size, 0, none⟩) 2 2] _ _ at hA
  have hbw1 : Below w.heap.size w (w1.alloc (.cells #[.int .i64 1, .int .i64 2] 3)) := hb1.alloc z1 _
  replace hA := Lib.hid hA
  replace hh1 := Lib.hid hh1
  replace hbw1 := Lib.hid hbw1
  clear h1 hb1
  go_wp2_with fail
  (with_reducible refine hA.out.mono ?_)
  rintro e w2 ⟨rfl, vl, ve, h2, k2, f2⟩
  have hb2 : Below w.heap.size w w2 := hbw1.out.trans (hh1.out.below k2)
  have hS := Lib.hid (solve_1 w2 h2)
  replace h2 := Lib.hid h2
  replace hb2 := Lib.hid hb2
  clear hA hh1 hbw1 k2 f2 z1
  go_wp2_with fail
  (with_reducible refine hS.out.mono ?_)
  rintro e w3 ⟨⟨A, n, c, rfl⟩, b3⟩
  have h3 := h2.out.over b3
  have hb3 := below_call b3 hb2.out hb2.out.size
  -- the first result, then the second clause
  have hr3 : CB (w3.alloc (.cells #[iz 1, .slice A n c, .slice none 0 0, iz 0] 32)) w3.heap.size #[iz 1, .slice A n c, .slice none 0 0, iz 0] 32 := CB.nw rfl
  have al4 := (Below.refl w3.heap.size w3).alloc (Nat.le_refl _) (.cells #[iz 1, .slice A n c, .slice none 0 0, iz 0] 32)
  have h4 := h3.over al4
  have hb4 := below_call al4 hb3 hb3.size
  have hsz4 : (w3.alloc (.cells #[iz 1, .slice A n c, .slice none 0 0, iz 0] 32)).heap.size = w3.heap.size + 1 := by simp
  obtain ⟨w4, hw4⟩ : ∃ W, w3.alloc (.cells #[iz 1, .slice A n c, .slice none 0 0, iz 0] 32) = W := ⟨_, rfl⟩
  rw [hw4] at hr3 h4 hb4 hsz4
  replace h4 := Lib.hid h4
  replace hb4 := Lib.hid hb4
  replace hr3 := Lib.hid hr3
  clear hS b3 h3 hb3 h2 hb2 al4
  have hB := Add_t (h4.out.over ((Below.refl _ w4).alloc (Nat.le_refl _) (.cells #[.int .i64 (-1)] 3))) (some ⟨w4.heap.size, 0, none⟩) 1 [-1] (RL_new w4 [-1] _ rfl) (by decide)
  rw [aw_2] at hB
  change Calls _ _ #[pv w.heap.size, .slice (some ⟨w4.heap.size, 0, none⟩) 1 1] _ _ at hB
  rw [hsz4] at hB
  have al5 := (Below.refl w4.heap.size w4).alloc (Nat.le_refl _) (.cells #[.int .i64 (-1)] 3)
  have h5 := h4.out.over al5
  have hb5 := below_call al5 hb4.out hb4.out.size
  have hr5 := CB.over hr3.out al5
  replace hB := Lib.hid hB
  replace h5 := Lib.hid h5
  replace hb5 := Lib.hid hb5
  replace hr5 := Lib.hid hr5
  have hw5 : w3.alloc (.cells #[.int .i64 1, .slice A n c, .slice none 0 0, .int .i64 0] 32) = w4 := hw4
  replace hw5 := Lib.hid hw5
  clear al5 h4 hb4 hr3 hw4 hsz4
  go_wp2_with fail
  rw [hw5.out]
  (with_reducible refine hB.out.mono ?_)
  rintro e w5 ⟨rfl, vl5, ve5, h6, k6, f6⟩
  have hb6 := hb5.out.trans (h5.out.below k6)
  have hr6 := CB.form hr5.out h5.out k6
  have hC := Add_t (h6.over ((Below.refl _ w5).alloc (Nat.le_refl _) (.cells #[.int .i64 (-2)] 3))) (some ⟨w5.heap.size, 0, none⟩) 1 [-2] (RL_new w5 [-2] _ rfl) (by decide)
  rw [aw_3] at hC
  change Calls _ _ #[pv w.heap.size, .slice (some ⟨w5.heap.size, 0, none⟩) 1 1] _ _ at hC
  have al7 := (Below.refl w5.heap.size w5).alloc (Nat.le_refl _) (.cells #[.int .i64 (-2)] 3)
  have h7 := h6.over al7
  have hb7 := below_call al7 hb6 hb6.size
  have hr7 := CB.over hr6 al7
  replace hC := Lib.hid hC
  replace h7 := Lib.hid h7
  replace hb7 := Lib.hid hb7
  replace hr7 := Lib.hid hr7
  clear hB h5 hb5 hr5 k6 f6 hb6 hr6 al7 h6 hw5
  go_wp2_with fail
  (with_reducible refine hC.out.mono ?_)
  rintro e w6 ⟨rfl, vl7, ve7, h8, k8, f8⟩
  have hb8 := hb7.out.trans (h7.out.below k8)
  have hr8 := CB.form hr7.out h7.out k8
  have hS2 := Lib.hid (solve_2 w6 h8)
  replace h8 := Lib.hid h8
  replace hb8 := Lib.hid hb8
  replace hr8 := Lib.hid hr8
  clear hC h7 hb7 hr7 k8 f8
  go_wp2_with fail
  (with_reducible refine hS2.out.mono ?_)
  rintro e w7 ⟨⟨g, c2, rfl, ⟨A2, c3, hcell⟩, gl⟩, b9⟩
  have h9 := h8.out.over b9
  have hb9 := below_call b9 hb8.out hb8.out.size
  have hr9 := CB.over hr8.out b9
  have e0 : w7.cell? ⟨w3.heap.size, 0, none⟩ = some (iz 1) := hr9.c 0
  have el := lt_of_get hr9
  have al9 := (Below.refl w7.heap.size w7).alloc (Nat.le_refl _) (.cells #[iz 2, .slice none 0 0, .slice (some ⟨g, 0, none⟩) 1 c2, iz 0] 32)
  have hV : Calls Tryz.prog 11 #[pv w.heap.size] (w7.alloc (.cells #[.int .i64 2, .slice none 0 0, .slice (some ⟨g, 0, none⟩) 1 c2, .int .i64 0] 32)) (fun e w' => e = .returned (.int .i64 2) ∧ (w7.alloc (.cells #[.int .i64 2, .slice none 0 0, .slice (some ⟨g, 0, none⟩) 1 c2, .int .i64 0] 32)) = w') := Vars_t (h9.over al9)
  replace hV := Lib.hid hV
  replace hb9 := Lib.hid hb9
  clear hS2 h8 hb8 hr8 h9 hr9 b9 al9
  go_wp2_with fail
  (with_reducible refine hV.out.mono ?_)
  rintro e w8 ⟨rfl, hw8⟩
  subst hw8
  clear hV
  go_wp2_with fail
  go_ret
  exact ⟨rfl, hb9.out.alloc hb9.out.size _⟩
end Go.Proofs.YtpkmpbnedoldlaaGreat
