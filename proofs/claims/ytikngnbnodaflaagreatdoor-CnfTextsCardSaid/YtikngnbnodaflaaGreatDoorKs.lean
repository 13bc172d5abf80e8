/-
  The statements' awake for formulas.
-/
import Derived.Test.YtikngnbnodaflaaGreatDoorKn
import Derived.Test.YtikngnbnodaflaaGreatDoorKo
namespace Go.Proofs.YtikngnbnodaflaaGreatDoor
open Go.RowKit Go.Lib
theorem canon_lit {l r : List Int} (h : ∀ x, x ∈ l ↔ x ∈ r) (hs : r.Pairwise Lq) : canon l = r := by
  rw [canon_ext h, canon_of_sorted hs]
theorem aw_canon : canon [2, -1, 2] = [-1, 2] := canon_lit (fun x => by simp; omega) (by
  simp only [List.pairwise_cons, List.mem_singleton, List.mem_nil_iff, List.Pairwise.nil]
  refine ⟨fun a h => ?_, fun a h => absurd h (by simp), trivial⟩
  subst h
  unfold Lq
  rw [va_dom (by omega), va_dom (by omega)]
  omega)
theorem aw_add1 : addF 2 [] [2, -1, 2] = (0, [[-1, 2]]) := by
  unfold addF
  rw [if_neg (by decide), if_neg (by simp), if_neg (by decide), aw_canon]
  rfl
theorem aw_add2 : addF 2 [[-1, 2]] [1, -1] = (0, [[-1, 2]]) := by
  unfold addF
  rw [if_neg (by decide), if_neg (by simp), if_pos (by decide)]
theorem aw_text : txT 2 [[-1, 2]] = [112, 32, 99, 110, 102, 32, 50, 32, 49, 10, 45, 49, 32, 50, 32, 48, 10] := by
  simp [txT, hdT, clT, litT, itoa, decDigits_one]
/-- A slice that the call has just made. -/
theorem RL_new (w : World) (l : List Int) (vs : Array Value) (h : vs = (iv l).toArray) : RL (w.alloc (.cells vs 3)) (some ⟨w.heap.size, 0, none⟩) l := fun _ => by
  refine ⟨w.heap.size, 0, rfl, by simp, fun j hj => ?_⟩
  rw [Nat.zero_add, Lib.cell_of_heap (heap_alloc_new w _) j, h]
  simp [iv, List.getD, List.getElem?_eq_getElem hj]
theorem CF.below {base : Nat} {w w' : World} {p V : Nat} {cs : List (List Int)} {vl ve : Value} (h : CF base w p V cs vl ve) (k : Keep (FP p vl ve) w w') : Below base w w' :=
  k.below (Nat.le_trans h.pb (Nat.le_of_lt h.lt)) fun b hb => (h.fp b hb).1
theorem LT.low {w w' : World} (h : LT w) (hb : Below w.heap.size w w') : LT w' := h.on hb
set_option maxRecDepth 100000 in
set_option maxHeartbeats 1600000 in
theorem awake_t (w : World) (hT : LT w) : Calls Tryz.prog 4 #[] w (RV w (.bool true)) := by
  have hN := Lib.hid (New_t 2 2 (by decide) w)
  go_enter Tryz.func4, Tryz.ntmps4
  go_wp2_with fail
  (with_reducible refine hN.out.mono ?_)
  rintro e w1 ⟨rfl, h1, hb1⟩
  clear hN
  have z1 := hb1.size
  have hA := Add_t (h1.over ((Below.refl _ w1).alloc (Nat.le_refl _) (.cells #[.int .i64 2, .int .i64 (-1), .int .i64 2] 3))) (some ⟨w1.heap.size, 0, none⟩) 3 [2, -1, 2] (RL_new w1 [2, -1, 2] _ rfl) (by decide)
  rw [aw_add1] at hA
  change Calls _ _ #[pv w.heap.size, .slice (some ⟨w1.heap.size, 0, none⟩) 3 3] _ _ at hA
  have hh2 := h1.over ((Below.refl _ w1).alloc (Nat.le_refl _) (.cells #[.int .i64 2, .int .i64 (-1), .int .i64 2] 3))
  have hbw2 : Below w.heap.size w (w1.alloc (.cells #[.int .i64 2, .int .i64 (-1), .int .i64 2] 3)) := hb1.alloc z1 _
  replace hA := Lib.hid hA
  replace h1 := Lib.hid h1
  replace hh2 := Lib.hid hh2
  go_wp2_with fail
  (with_reducible refine hA.out.mono ?_)
  rintro e w2 ⟨rfl, vl, ve, h2, k2, f2⟩
  have hbw3 : Below w.heap.size w w2 := hbw2.trans (hh2.out.below k2)
  have z2 := hbw3.size
  clear hA h1 hh2 hb1 hbw2 k2 f2
  have hB := Add_t (h2.over ((Below.refl _ w2).alloc (Nat.le_refl _) (.cells #[.int .i64 1, .int .i64 (-1)] 3))) (some ⟨w2.heap.size, 0, none⟩) 2 [1, -1] (RL_new w2 [1, -1] _ rfl) (by decide)
  rw [aw_add2] at hB
  change Calls _ _ #[pv w.heap.size, .slice (some ⟨w2.heap.size, 0, none⟩) 2 2] _ _ at hB
  have hh3 := h2.over ((Below.refl _ w2).alloc (Nat.le_refl _) (.cells #[.int .i64 1, .int .i64 (-1)] 3))
  have hbw4 : Below w.heap.size w (w2.alloc (.cells #[.int .i64 1, .int .i64 (-1)] 3)) := hbw3.alloc z2 _
  replace hB := Lib.hid hB
  replace h2 := Lib.hid h2
  replace hh3 := Lib.hid hh3
  go_wp2_with fail
  (with_reducible refine hB.out.mono ?_)
  rintro e w3 ⟨rfl, vl3, ve3, h3, k3, f3⟩
  have hbw5 : Below w.heap.size w w3 := hbw4.trans (hh3.out.below k3)
  clear hB h2 hh3 hbw3 hbw4 k3 f3
  have hL := Lib.hid (Len_t h3)
  have hX := Text_t h3 (hT.low hbw5)
  rw [aw_text] at hX
  replace hX := Lib.hid hX
  replace h3 := Lib.hid h3
  go_wp2_with fail
  (with_reducible refine hL.out.mono ?_)
  rintro e w4 ⟨rfl, rfl⟩
  go_wp2_with fail
  (with_reducible refine hX.out.mono ?_)
  rintro e w5 ⟨rfl, hb5⟩
  go_wp2_with fail
  go_ret
  exact ⟨rfl, below_call hb5 hbw5 hbw5.size⟩
end Go.Proofs.YtikngnbnodaflaaGreatDoor
