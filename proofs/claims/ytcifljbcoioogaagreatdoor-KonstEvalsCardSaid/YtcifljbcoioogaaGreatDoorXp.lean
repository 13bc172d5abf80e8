/-
  konst.Value: the expression of a number.
-/
import Derived.Test.YtcifljbcoioogaaGreatDoorXo
import Derived.Test.YtcifljbcoioogaaGreatDoorGa
namespace Go.Proofs.YtcifljbcoioogaaGreatDoor
open Go.RowKit Go.Lib Go.Maps
/-- What a maker of an expression leaves: a tree in new or old memory. -/
def VX (w : World) (t : XT) (x : Ending) (w' : World) : Prop := ∃ A c, x = .returned (xv t.h A t.args.length c) ∧ XAr w' w'.heap.size t A ∧ Below w.heap.size w w'
theorem xval_pos {k : Nat} : XVal (k : Int) = .z ⟨1, 0, 0, 0, decB k⟩ := by
  unfold XVal
  rw [if_neg (by omega), if_neg (by omega)]
  try rfl
set_option maxRecDepth 100000 in
set_option maxHeartbeats 400000 in
theorem Value_pos (v : Int) (k : Nat) (hv : min (max v (-2147483648)) 2147483647 = (k : Int)) (w : World) (hT : LT w) : Calls Tryz.prog 13 #[.int .i64 v] w fun x w' => x = .returned (.agg #[.int .i64 1, .int .i64 0, .int .i64 0, .int .i64 0, .string (decB k), .slice none 0 0]) ∧ Below w.heap.size w w' := by
  have hk : k ≤ 2147483647 := by omega
  have hI := fun W (h : LT W) => Itoa_t k (by omega) W h
  have d1 : ((k : Int) == -2147483648) = false := by simp
  have d2 : ¬ (k : Int) < 0 := by omega
  have d3 : decide ((k : Int) < 0) = false := by simp
  have hT1 := hT.on ((Below.refl w.heap.size w).alloc (Nat.le_refl _) (.cells #[.int .i64 0, .int .i64 0, .int .i64 0, .int .i64 0, .string ⟨#[]⟩, .slice none 0 0] 47))
  have hb0 := (Below.refl w.heap.size w).alloc (Nat.le_refl _) (.cells #[.int .i64 0, .int .i64 0, .int .i64 0, .int .i64 0, .string ⟨#[]⟩, .slice none 0 0] 47)
  have hB := BX.new w 47 ⟨0, 0, 0, 0, ⟨#[]⟩⟩ none 0 0
  replace hI := Lib.hid hI
  replace hT1 := Lib.hid hT1
  replace hB := Lib.hid hB
  replace hb0 := Lib.hid hb0
  replace hT := Lib.hid hT
  unfold decB
  go_enter Tryz.func13, Tryz.ntmps13
  go_wp2_with fail
  (with_reducible refine (hI.out _ hT1.out).mono ?_)
  rintro e w1 ⟨rfl, hb1⟩
  have hB1 := hB.out.over hb1
  obtain ⟨b0, b1, b2, b3, b4, b5⟩ := hB1.all
  have bf := Lib.frozen_of_heap hB1
  have bl := hB1.lt
  have hbw : Below w.heap.size w w1 := below_call hb1 hb0.out
  clear hb1 hB1
  go_wp2_with fail
  refine bodyPost_ret (v := .agg #[.int .i64 1, .int .i64 0, .int .i64 0, .int .i64 0, .string ⟨(decDigits k).toArray⟩, .slice none 0 0]) (by simp [results, Tryz.results13, go_sem, b0, b1, b2, b3, b4, b5]) rfl ⟨rfl, ?_⟩
  go_grown
set_option maxRecDepth 100000 in
set_option maxHeartbeats 400000 in
theorem Value_least (v : Int) (hv : min (max v (-2147483648)) 2147483647 = -2147483648) (w : World) : Calls Tryz.prog 13 #[.int .i64 v] w fun x w' => x = .returned (.agg #[.int .i64 1, .int .i64 0, .int .i64 0, .int .i64 0, .string leastB, .slice none 0 0]) ∧ Below w.heap.size w w' := by
  have hB := BX.new w 47 ⟨0, 0, 0, 0, ⟨#[]⟩⟩ none 0 0
  obtain ⟨b0, b1, b2, b3, b4, b5⟩ := hB.all
  go_enter Tryz.func13, Tryz.ntmps13
  go_wp2_with fail
  refine bodyPost_ret (v := .agg #[.int .i64 1, .int .i64 0, .int .i64 0, .int .i64 0, .string leastB, .slice none 0 0]) (by simp [results, Tryz.results13, go_sem, leastB]) rfl ⟨rfl, ?_⟩
  go_grown
set_option maxRecDepth 100000 in
set_option maxHeartbeats 400000 in
theorem Value_neg (v : Int) (k : Nat) (hk : 1 ≤ k) (hv : min (max v (-2147483648)) 2147483647 = -(k : Int)) (hk2 : k ≤ 2147483647) (w : World) (hT : LT w) :
    Calls Tryz.prog 13 #[.int .i64 v] w fun x w' => ∃ b, x = .returned (.agg #[.int .i64 3, .int .i64 0, .int .i64 0, .int .i64 0, .string ⟨#[45]⟩, .slice (some ⟨b, 0, none⟩) 1 1]) ∧ b < w'.heap.size ∧ XC w' b 0 ⟨1, 0, 0, 0, decB k⟩ none 0 0 ∧ Below w.heap.size w w' := by
  have hI := fun W (h : LT W) => Value_pos (k : Int) k (by omega) W h
  obtain ⟨u, hu⟩ : ∃ u : Int, u = -(k : Int) := ⟨_, rfl⟩
  have hu2 : -u = (k : Int) := by omega
  rw [← hu] at hv
  have u1 : -2147483648 < u := by omega
  have u2 : u < 0 := by omega
  have d1 : (u == -2147483648) = false := by simp; omega
  have hT1 := hT.on ((Below.refl w.heap.size w).alloc (Nat.le_refl _) (.cells #[.int .i64 0, .int .i64 0, .int .i64 0, .int .i64 0, .string ⟨#[]⟩, .slice none 0 0] 47))
  have hb0 := (Below.refl w.heap.size w).alloc (Nat.le_refl _) (.cells #[.int .i64 0, .int .i64 0, .int .i64 0, .int .i64 0, .string ⟨#[]⟩, .slice none 0 0] 47)
  have hB := BX.new w 47 ⟨0, 0, 0, 0, ⟨#[]⟩⟩ none 0 0
  obtain ⟨s, hs⟩ : ∃ s, decB k = s := ⟨_, rfl⟩
  rw [hs] at hI ⊢
  replace hI := Lib.hid hI
  replace hT1 := Lib.hid hT1
  replace hB := Lib.hid hB
  replace hb0 := Lib.hid hb0
  replace hT := Lib.hid hT
  replace hs := Lib.hid hs
  clear hu hk hk2
  go_enter Tryz.func13, Tryz.ntmps13
  go_wp2_with fail
  (with_reducible refine (hI.out _ hT1.out).mono ?_)
  rintro e w1 ⟨rfl, hb1⟩
  have hbw : Below w.heap.size w w1 := below_call hb1 hb0.out
  have hB1 := (hB.out.over hb1).alloc (.cells #[.int .i64 1, .int .i64 0, .int .i64 0, .int .i64 0, .string s, .slice none 0 0] 47)
  have hR := heap_alloc_new w1 (.cells #[.int .i64 1, .int .i64 0, .int .i64 0, .int .i64 0, .string s, .slice none 0 0] 47)
  have hl1 := (hB.out.over hb1).lt
  have hbw2 := hbw.alloc hbw.size (.cells #[.int .i64 1, .int .i64 0, .int .i64 0, .int .i64 0, .string s, .slice none 0 0] 47)
  obtain ⟨g1, hg1⟩ : ∃ g1, w1.heap.size = g1 := ⟨_, rfl⟩
  rw [hg1] at hR
  obtain ⟨w2, hw2⟩ : ∃ w2, w1.alloc (.cells #[.int .i64 1, .int .i64 0, .int .i64 0, .int .i64 0, .string s, .slice none 0 0] 47) = w2 := ⟨_, rfl⟩
  rw [hw2] at hB1 hR hbw2
  obtain ⟨b0, b1, b2, b3, b4, b5⟩ := hB1.all
  have bf := Lib.frozen_of_heap hB1
  have bl := hB1.lt
  have hne : w.heap.size ≠ g1 := by omega
  clear hb1 hbw hl1 hv hu2 u1 u2 d1
  replace hB1 := Lib.hid hB1
  replace hR := Lib.hid hR
  replace hbw2 := Lib.hid hbw2
  replace hne := Lib.hid hne
  go_wp2_with fail
  have hb3 := hbw2.out
  refine bodyPost_ret (v := .agg #[.int .i64 3, .int .i64 0, .int .i64 0, .int .i64 0, .string ⟨#[45]⟩, .slice (some ⟨g1, 0, none⟩) 1 1]) (by simp [results, Tryz.results13, go_sem, b0, b1, b2, b3, b4, b5]) rfl ⟨_, rfl, ?_, ?_, ?_⟩
  · simpa using lt_of_get hR.out
  · have hz : BX w2 g1 47 ⟨1, 0, 0, 0, s⟩ none 0 0 := hR.out
    have hz2 : BX (((((((w2.setCell ⟨w.heap.size, 0, none⟩ (.int .i64 3)).setCell ⟨w.heap.size, 1, none⟩ (.int .i64 0)).setCell ⟨w.heap.size, 2, none⟩ (.int .i64 0)).setCell ⟨w.heap.size, 3, none⟩ (.int .i64 0)).setCell ⟨w.heap.size, 4, none⟩ (.string ⟨#[45]⟩)).setCell ⟨w.heap.size, 5, none⟩ (.slice (some ⟨g1, 0, none⟩) 1 1))) g1 47 ⟨1, 0, 0, 0, s⟩ none 0 0 :=
      hz.keep (p := w.heap.size) ((((((((Keep.refl (· = w.heap.size) w2).set _ rfl _).set _ rfl _).set _ rfl _).set _ rfl _).set _ rfl _).set _ rfl _)) (Ne.symm hne.out)
    exact hz2.all
  · go_grown
end Go.Proofs.YtcifljbcoioogaaGreatDoor
