/-
  The fixed fact.
-/
import Derived.Test.YtinfkjflomdhbaaGm
namespace Go.Proofs.Ytinfkjflomdhbaa
open Go.RowKit Go.Lib Go.Maps
set_option maxRecDepth 100000 in
set_option maxHeartbeats 1600000 in
theorem awake_t (w : World) : Calls Try.prog 7 #[] w (RV w (.bool true)) := by
  have hNew := New_t w.heap.size w (Nat.le_refl _)
  have hI1 := fun (p : Nat) (W : World) (h : GI W w.heap.size p [(0, 0)]) => Input_t W h (by decide)
  have hI2 := fun (p : Nat) (W : World) (h : GI W w.heap.size p [(0, 0), (0, 0)]) => Input_t W h (by decide)
  have hA1 := fun (p : Nat) (W : World) (h : GI W w.heap.size p [(0, 0), (0, 0), (0, 0)]) => And_t 2 4 W h (by decide) (by decide) (by decide)
  have hA2 := fun (p : Nat) (W : World) (h : GI W w.heap.size p [(0, 0), (0, 0), (0, 0), (2, 4)]) => And_t 4 2 W h (by decide) (by decide) (by decide)
  have hA3 := fun (p : Nat) (W : World) (h : GI W w.heap.size p [(0, 0), (0, 0), (0, 0), (2, 4)]) => And_t 2 3 W h (by decide) (by decide) (by decide)
  rw [show andF [(0, 0), (0, 0), (0, 0)] 2 4 = ([(0, 0), (0, 0), (0, 0), (2, 4)], 6) by decide] at hA1
  rw [show andF [(0, 0), (0, 0), (0, 0), (2, 4)] 4 2 = ([(0, 0), (0, 0), (0, 0), (2, 4)], 6) by decide] at hA2
  rw [show andF [(0, 0), (0, 0), (0, 0), (2, 4)] 2 3 = ([(0, 0), (0, 0), (0, 0), (2, 4)], 0) by decide] at hA3
  have hN := fun W => Not_t 2 W (by decide)
  rw [show nt 2 = 3 by decide] at hN
  have hL1 := fun (p : Nat) (W : World) (h : GI W w.heap.size p [(0, 0)]) => Len_t W h
  have hL4 := fun (p : Nat) (W : World) (h : GI W w.heap.size p [(0, 0), (0, 0), (0, 0), (2, 4)]) => Len_t W h
  unfold GV at hI1 hI2 hA1 hA2 hA3
  unfold RW at hN hL1 hL4
  simp only [List.length_cons, List.length_nil, Nat.zero_add, Nat.reduceAdd, Nat.reduceMul, List.cons_append, List.nil_append] at hI1 hI2 hA1 hA2 hA3 hL1 hL4
  replace hNew := Lib.hid hNew
  replace hI1 := Lib.hid hI1
  replace hI2 := Lib.hid hI2
  replace hA1 := Lib.hid hA1
  replace hA2 := Lib.hid hA2
  replace hA3 := Lib.hid hA3
  replace hN := Lib.hid hN
  replace hL1 := Lib.hid hL1
  replace hL4 := Lib.hid hL4
  go_enter Try.func7, Try.ntmps7
  go_wp2_with fail
  (with_reducible refine hNew.out.mono ?_)
  rintro e w1 ⟨p, rfl, hg1, hp1, hf1, hb1⟩
  replace hg1 := Lib.hid hg1
  replace hb1 := Lib.hid hb1
  clear hf1 hp1
  go_wp2_with fail
  refine (hL1.out p w1 hg1.out).mono ?_
  rintro e w9 ⟨rfl, hw9⟩
  subst hw9
  go_wp2_with fail
  refine (hI1.out p w1 hg1.out).mono ?_
  rintro e w2 ⟨rfl, hg2, hk2⟩
  have hb2 := hb1.out.trans (hg1.out.below hk2)
  replace hg2 := Lib.hid hg2
  replace hb2 := Lib.hid hb2
  clear hg1 hk2 hb1
  go_wp2_with fail
  refine (hI2.out p w2 hg2.out).mono ?_
  rintro e w3 ⟨rfl, hg3, hk3⟩
  have hb3 := hb2.out.trans (hg2.out.below hk3)
  replace hg3 := Lib.hid hg3
  replace hb3 := Lib.hid hb3
  clear hg2 hk3 hb2
  go_wp2_with fail
  refine (hA1.out p w3 hg3.out).mono ?_
  rintro e w4 ⟨rfl, hg4, hk4⟩
  have hb4 := hb3.out.trans (hg3.out.below hk4)
  replace hg4 := Lib.hid hg4
  replace hb4 := Lib.hid hb4
  clear hg3 hk4 hb3
  go_wp2_with fail
  refine (hA2.out p w4 hg4.out).mono ?_
  rintro e w5 ⟨rfl, hg5, hk5⟩
  have hb5 := hb4.out.trans (hg4.out.below hk5)
  replace hg5 := Lib.hid hg5
  replace hb5 := Lib.hid hb5
  clear hg4 hk5 hb4
  go_wp2_with fail
  refine (hN.out w5).mono ?_
  rintro e w9 ⟨rfl, hw9⟩
  subst hw9
  go_wp2_with fail
  refine (hA3.out p w5 hg5.out).mono ?_
  rintro e w6 ⟨rfl, hg6, hk6⟩
  have hb6 := hb5.out.trans (hg5.out.below hk6)
  replace hg6 := Lib.hid hg6
  replace hb6 := Lib.hid hb6
  clear hg5 hk6 hb5
  go_wp2_with fail
  refine (hL4.out p w6 hg6.out).mono ?_
  rintro e w9 ⟨rfl, hw9⟩
  subst hw9
  go_wp2_with fail
  go_ret
  exact ⟨rfl, hb6.out⟩
end Go.Proofs.Ytinfkjflomdhbaa
