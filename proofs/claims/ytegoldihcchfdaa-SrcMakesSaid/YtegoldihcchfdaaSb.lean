/-
  The walks of cmp.Or at three numbers, of src's Less and of the statements' own order.
-/
import Derived.Test.YtegoldihcchfdaaSa
namespace Go.Proofs.Ytegoldihcchfdaa
open Go.RowKit
def orI (x y z : Int) : Int := if x ≠ 0 then x else if y ≠ 0 then y else z
set_option maxHeartbeats 400000 in
theorem or_t (g : Nat) (x y z : Int) (w : World) (h0 : w.cell? ⟨g, 0, none⟩ = some (.int .i64 x)) (h1 : w.cell? ⟨g, 1, none⟩ = some (.int .i64 y)) (h2 : w.cell? ⟨g, 2, none⟩ = some (.int .i64 z)) :
    Calls Try.prog 31 #[.slice (some ⟨g, 0, none⟩) 3 3] w fun e w' => e = .returned (.int .i64 (orI x y z)) ∧ w' = w := by
  by_cases hx : x = 0
  · by_cases hy : y = 0
    · by_cases hz : z = 0
      · subst hx hy hz
        go_enter Try.func31, Try.ntmps31
        go_wp2
        refine wp_loop_rounds 4 ?_
        iterate 4 (rw [rounds_succ]; go_wp2)
        go_ret
        exact ⟨rfl, rfl⟩
      · have e := Lib.hid (show orI x y z = z by unfold orI; rw [if_neg (by omega), if_neg (by omega)])
        have nz : (z == 0) = false ∧ (z != 0) = true := by constructor <;> simp <;> omega
        obtain ⟨n1, n2⟩ := nz
        subst hx hy
        go_enter Try.func31, Try.ntmps31
        go_wp2
        refine wp_loop_rounds 4 ?_
        iterate 3 (rw [rounds_succ]; go_wp2)
        go_ret
        exact ⟨by rw [e.out]; rfl, rfl⟩
    · have e := Lib.hid (show orI x y z = y by unfold orI; rw [if_neg (by omega), if_pos hy])
      have nz : (y == 0) = false ∧ (y != 0) = true := by constructor <;> simp <;> omega
      obtain ⟨n1, n2⟩ := nz
      subst hx
      go_enter Try.func31, Try.ntmps31
      go_wp2
      refine wp_loop_rounds 4 ?_
      iterate 2 (rw [rounds_succ]; go_wp2)
      go_ret
      exact ⟨by rw [e.out]; rfl, rfl⟩
  · have e := Lib.hid (show orI x y z = x from if_pos hx)
    have nz : (x == 0) = false ∧ (x != 0) = true := by constructor <;> simp <;> omega
    obtain ⟨n1, n2⟩ := nz
    go_enter Try.func31, Try.ntmps31
    go_wp2
    refine wp_loop_rounds 4 ?_
    iterate 1 (rw [rounds_succ]; go_wp2)
    go_ret
    exact ⟨by rw [e.out]; rfl, rfl⟩
/-- The order of positions: by file, line and column. -/
def lessB (a0 a1 a2 b0 b1 b2 : Int) : Bool := if a0 ≠ b0 then decide (a0 < b0) else if a1 ≠ b1 then decide (a1 < b1) else decide (a2 < b2)
theorem or_less (a0 a1 a2 b0 b1 b2 : Int) : decide (orI (cmpI a0 b0) (cmpI a1 b1) (cmpI a2 b2) < 0) = lessB a0 a1 a2 b0 b1 b2 := by
  have k : ∀ a b : Int, cmpI a b ≠ 0 ↔ a ≠ b := fun a b => by unfold cmpI; split <;> (try split) <;> omega
  have l : ∀ a b : Int, decide (cmpI a b < 0) = decide (a < b) := fun a b => by
    rw [Bool.eq_iff_iff]; simp; unfold cmpI; split <;> (try split) <;> omega
  unfold orI lessB
  by_cases h0 : a0 ≠ b0
  · rw [if_pos ((k _ _).2 h0), if_pos h0, l]
  · rw [if_neg (fun h => h0 ((k _ _).1 h)), if_neg h0]
    by_cases h1 : a1 ≠ b1
    · rw [if_pos ((k _ _).2 h1), if_pos h1, l]
    · rw [if_neg (fun h => h1 ((k _ _).1 h)), if_neg h1, l]
theorem lessB_irrefl (a0 a1 a2 : Int) : lessB a0 a1 a2 a0 a1 a2 = false := by unfold lessB; simp
theorem lessB_trans (a0 a1 a2 b0 b1 b2 c0 c1 c2 : Int) (h1 : lessB a0 a1 a2 b0 b1 b2 = true) (h2 : lessB b0 b1 b2 c0 c1 c2 = true) : lessB a0 a1 a2 c0 c1 c2 = true := by
  unfold lessB at *
  split at h1 <;> split at h2 <;> (try split at h1) <;> (try split at h2) <;> simp at h1 h2 <;> split <;> (try split) <;> simp <;> omega
theorem cell_newest (W : World) (cs : Array Value) (t : TypeId) (g i : Nat) (hg : g = W.heap.size) : (W.alloc (.cells cs t)).cell? ⟨g, i, none⟩ = cs[i]? := by
  subst hg; exact World.cell?_alloc_new W cs t i
/-- A position as a value. -/
abbrev pv (a0 a1 a2 : Int) : Value := .agg #[.int .i64 a0, .int .i64 a1, .int .i64 a2]
set_option maxRecDepth 100000 in
set_option maxHeartbeats 800000 in
theorem less_t (a0 a1 a2 b0 b1 b2 : Int) (w : World) :
    Calls Try.prog 23 #[pv a0 a1 a2, pv b0 b1 b2] w (RV w (.bool (lessB a0 a1 a2 b0 b1 b2))) := by
  have e := or_less a0 a1 a2 b0 b1 b2
  obtain ⟨x, hx⟩ : ∃ x, cmpI a0 b0 = x := ⟨_, rfl⟩
  obtain ⟨y, hy⟩ : ∃ x, cmpI a1 b1 = x := ⟨_, rfl⟩
  obtain ⟨z, hz⟩ : ∃ x, cmpI a2 b2 = x := ⟨_, rfl⟩
  have c0 := fun w => compare_t a0 b0 w
  have c1 := fun w => compare_t a1 b1 w
  have c2 := fun w => compare_t a2 b2 w
  rw [hx] at c0
  rw [hy] at c1
  rw [hz] at c2
  rw [hx, hy, hz] at e
  clear hx hy hz
  replace c0 := Lib.hid c0
  replace c1 := Lib.hid c1
  replace c2 := Lib.hid c2
  replace e := Lib.hid e
  go_enter Try.func23, Try.ntmps23
  go_wp2
  refine wp_region_still_tail 15 (by kernel_rfl) (by kernel_rfl) ?_
  simp only [List.take_succ_cons, List.take_zero, List.drop_succ_cons, List.drop_zero]
  change wpStill _ _ (World.drew _) _ _ _
  repeat still_step
  still_call (c0.out _)
  repeat still_step
  still_call (c1.out _)
  repeat still_step
  still_call (c2.out _)
  repeat still_step
  refine wpStill_nil ?_
  change wpList _ _ _ _ _ (World.drew _)
  go_wp2_with (go_at_call 31; refine (or_t _ x y z _ (cell_newest _ _ _ _ 0 (by simp)) (cell_newest _ _ _ _ 1 (by simp)) (cell_newest _ _ _ _ 2 (by simp))).mono ?_; rintro e w' ⟨rfl, rfl⟩)
  go_ret
  exact ⟨by rw [← e.out]; rfl, by go_grown⟩
set_option maxHeartbeats 800000 in
theorem order_t (a0 a1 a2 b0 b1 b2 : Int) (w : World) :
    Calls Try.prog 22 #[pv a0 a1 a2, pv b0 b1 b2] w (RV w (.bool (lessB a0 a1 a2 b0 b1 b2))) := by
  by_cases h0 : a0 = b0
  · subst h0
    by_cases h1 : a1 = b1
    · subst h1
      have e := Lib.hid (show lessB a0 a1 a2 a0 a1 b2 = decide (a2 < b2) by unfold lessB; simp)
      go_enter Try.func22, Try.ntmps22
      go_wp2
      go_ret
      exact ⟨by rw [e.out]; rfl, by go_grown⟩
    · have e := Lib.hid (show lessB a0 a1 a2 a0 b1 b2 = decide (a1 < b1) by unfold lessB; simp [h1])
      have nz : (a1 == b1) = false ∧ (a1 != b1) = true := by constructor <;> simp <;> omega
      obtain ⟨n1, n2⟩ := nz
      go_enter Try.func22, Try.ntmps22
      go_wp2
      go_ret
      exact ⟨by rw [e.out]; rfl, by go_grown⟩
  · have e := Lib.hid (show lessB a0 a1 a2 b0 b1 b2 = decide (a0 < b0) by unfold lessB; simp [h0])
    have nz : (a0 == b0) = false ∧ (a0 != b0) = true := by constructor <;> simp <;> omega
    obtain ⟨n1, n2⟩ := nz
    go_enter Try.func22, Try.ntmps22
    go_wp2
    go_ret
    exact ⟨by rw [e.out]; rfl, by go_grown⟩
end Go.Proofs.Ytegoldihcchfdaa
