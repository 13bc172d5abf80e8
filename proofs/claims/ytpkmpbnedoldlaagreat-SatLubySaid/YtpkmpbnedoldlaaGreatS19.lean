/-
  literals of the clauses 1 2, -1 and -2.
-/
import Derived.Test.YtpkmpbnedoldlaaGreatS15
namespace Go.Proofs.YtpkmpbnedoldlaaGreat
open Go.RowKit Go.Lib
def LI (w : World) (cs : Array Value) (n : Nat) (e : Ending) (w' : World) : Prop := ∃ b, e = .returned (sl b n) ∧ CB w' b cs 81 ∧ w.heap.size ≤ b ∧ Below w.heap.size w w'
set_option maxRecDepth 100000 in
set_option maxHeartbeats 1600000 in
theorem lits_2 (w : World) (g c : Nat) (hg : g < w.heap.size) (h0 : w.cell? ⟨g, 0, none⟩ = some (iz 1)) (h1 : w.cell? ⟨g, 1, none⟩ = some (iz 2)) : Calls Tryz.prog 35 #[.slice (some ⟨g, 0, none⟩) 2 c] w (LI w #[lv 0, lv 2] 2) := by
  have m1 := mk_l2
  have hL0 : ∀ W, Calls Tryz.prog 44 #[.int .i64 (max 1 (-1) - 1), .bool true] W (RW W (lv 0)) := fun W => litOf_t 0 (by decide) true W
  replace hL0 := Lib.hid hL0
  have hL1 : ∀ W, Calls Tryz.prog 44 #[.int .i64 (max 2 (-2) - 1), .bool true] W (RW W (lv 2)) := fun W => litOf_t 1 (by decide) true W
  replace hL1 := Lib.hid hL1
  go_enter Tryz.func35, Tryz.ntmps35
  go_wp2_with fail
  refine wp_loop_rounds 3 ?_
  rw [rounds_succ]
  go_wp2_with fail
  (with_reducible refine (hL0.out _).mono ?_)
  rintro e w9 ⟨rfl, hw9⟩
  subst hw9
  go_wp2_with fail
  rw [rounds_succ]
  go_wp2_with fail
  (with_reducible refine (hL1.out _).mono ?_)
  rintro e w9 ⟨rfl, hw9⟩
  subst hw9
  go_wp2_with fail
  rw [rounds_succ]
  go_wp2_with fail
  go_ret
  refine ⟨w.heap.size, rfl, CB.nw rfl, Nat.le_refl _, by go_grown⟩
set_option maxRecDepth 100000 in
set_option maxHeartbeats 1600000 in
theorem lits_m1 (w : World) (g c : Nat) (hg : g < w.heap.size) (h0 : w.cell? ⟨g, 0, none⟩ = some (iz (-1))) : Calls Tryz.prog 35 #[.slice (some ⟨g, 0, none⟩) 1 c] w (LI w #[lv 1] 1) := by
  have m1 := mk_l1
  have hL0 : ∀ W, Calls Tryz.prog 44 #[.int .i64 (max (-1) 1 - 1), .bool false] W (RW W (lv 1)) := fun W => litOf_t 0 (by decide) false W
  replace hL0 := Lib.hid hL0
  go_enter Tryz.func35, Tryz.ntmps35
  go_wp2_with fail
  refine wp_loop_rounds 2 ?_
  rw [rounds_succ]
  go_wp2_with fail
  (with_reducible refine (hL0.out _).mono ?_)
  rintro e w9 ⟨rfl, hw9⟩
  subst hw9
  go_wp2_with fail
  rw [rounds_succ]
  go_wp2_with fail
  go_ret
  refine ⟨w.heap.size, rfl, CB.nw rfl, Nat.le_refl _, by go_grown⟩
set_option maxRecDepth 100000 in
set_option maxHeartbeats 1600000 in
theorem lits_m2 (w : World) (g c : Nat) (hg : g < w.heap.size) (h0 : w.cell? ⟨g, 0, none⟩ = some (iz (-2))) : Calls Tryz.prog 35 #[.slice (some ⟨g, 0, none⟩) 1 c] w (LI w #[lv 3] 1) := by
  have m1 := mk_l1
  have hL0 : ∀ W, Calls Tryz.prog 44 #[.int .i64 (max (-2) 2 - 1), .bool false] W (RW W (lv 3)) := fun W => litOf_t 1 (by decide) false W
  replace hL0 := Lib.hid hL0
  go_enter Tryz.func35, Tryz.ntmps35
  go_wp2_with fail
  refine wp_loop_rounds 2 ?_
  rw [rounds_succ]
  go_wp2_with fail
  (with_reducible refine (hL0.out _).mono ?_)
  rintro e w9 ⟨rfl, hw9⟩
  subst hw9
  go_wp2_with fail
  rw [rounds_succ]
  go_wp2_with fail
  go_ret
  refine ⟨w.heap.size, rfl, CB.nw rfl, Nat.le_refl _, by go_grown⟩
end Go.Proofs.YtpkmpbnedoldlaaGreat
