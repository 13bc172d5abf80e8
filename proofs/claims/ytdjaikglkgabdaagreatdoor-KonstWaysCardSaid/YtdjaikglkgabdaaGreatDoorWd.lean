/-
  The walks of the bitwise functions of bv: bitwise with each of its functions, and what is made of it: invert, ones.
-/
import Derived.Test.YtdjaikglkgabdaaGreatDoorWb
namespace Go.Proofs.YtdjaikglkgabdaaGreatDoor
open Go.RowKit

set_option maxHeartbeats 400000 in
theorem and_f (x y : Nat) (w : World) : Calls Tryz.prog 132 #[.int .u64 (x : Int), .int .u64 (y : Int)] w fun e w' => e = .returned (.int .u64 (bits .and .u64 (x : Int) (y : Int))) ∧ w' = w := by
  go_enter Tryz.func132, Tryz.ntmps132
  go_wp2
  go_ret
  exact ⟨rfl, rfl⟩
set_option maxHeartbeats 400000 in
theorem or_f (x y : Nat) (w : World) : Calls Tryz.prog 133 #[.int .u64 (x : Int), .int .u64 (y : Int)] w fun e w' => e = .returned (.int .u64 (bits .or .u64 (x : Int) (y : Int))) ∧ w' = w := by
  go_enter Tryz.func133, Tryz.ntmps133
  go_wp2
  go_ret
  exact ⟨rfl, rfl⟩
set_option maxHeartbeats 400000 in
theorem xor_f (x y : Nat) (w : World) : Calls Tryz.prog 134 #[.int .u64 (x : Int), .int .u64 (y : Int)] w fun e w' => e = .returned (.int .u64 (bits .xor .u64 (x : Int) (y : Int))) ∧ w' = w := by
  go_enter Tryz.func134, Tryz.ntmps134
  go_wp2
  go_ret
  exact ⟨rfl, rfl⟩
set_option maxHeartbeats 400000 in
theorem inv_f (x y : Nat) (w : World) : Calls Tryz.prog 125 #[.int .u64 (x : Int), .int .u64 (y : Int)] w fun e w' => e = .returned (.int .u64 (bits .xor .u64 IntKind.u64.max (x : Int))) ∧ w' = w := by
  go_enter Tryz.func125, Tryz.ntmps125
  go_wp2
  go_ret
  exact ⟨rfl, rfl⟩

set_option maxRecDepth 100000 in
set_option maxHeartbeats 1000000 in
theorem bitwise_w (K : FuncId) (n m : Nat) (x0 x1 y0 y1 g0 g1 : Nat) (w : World) (hn : n ≤ 128) (hg0 : g0 < 2 ^ 64) (hg1 : g1 < 2 ^ 64)
    (hcall : ∀ args w, (callFunc K args).run Tryz.prog w = .ok (.enter K args) w)
    (hf0 : ∀ w, Calls Tryz.prog K #[.int .u64 (x0 : Int), .int .u64 (y0 : Int)] w fun e w' => e = .returned (.int .u64 (g0 : Int)) ∧ w' = w)
    (hf1 : ∀ w, Calls Tryz.prog K #[.int .u64 (x1 : Int), .int .u64 (y1 : Int)] w fun e w' => e = .returned (.int .u64 (g1 : Int)) ∧ w' = w) :
    Calls Tryz.prog 124 #[.agg #[.int .i64 (n : Int), .int .u64 (x0 : Int), .int .u64 (x1 : Int)], .agg #[.int .i64 (m : Int), .int .u64 (y0 : Int), .int .u64 (y1 : Int)], .func (.func K) #[] #[]] w (RV w (vv n (trimN n g0 g1))) := by
  have hF0 := Lib.hid hf0
  have hF1 := Lib.hid hf1
  clear hf0 hf1
  go_enter Tryz.func124, Tryz.ntmps124
  go_wp2
  refine wp_loop_rounds 3 ?_
  rw [rounds_succ]
  go_wp2
  refine wp_region_still_tail 13 (by kernel_rfl) (by kernel_rfl) ?_
  simp only [List.take_succ_cons, List.take_zero, List.drop_succ_cons, List.drop_zero]
  change wpStill _ _ (World.drew _) _ _ _
  repeat still_step
  still_call (hF0.out _)
  repeat still_step
  refine wpStill_nil ?_
  change wpList _ _ _ _ _ (World.drew _)
  go_wp2
  rw [rounds_succ]
  go_wp2
  refine wp_region_still_tail 13 (by kernel_rfl) (by kernel_rfl) ?_
  simp only [List.take_succ_cons, List.take_zero, List.drop_succ_cons, List.drop_zero]
  change wpStill _ _ (World.drew _) _ _ _
  repeat still_step
  still_call (hF1.out _)
  repeat still_step
  refine wpStill_nil ?_
  change wpList _ _ _ _ _ (World.drew _)
  go_wp2
  rw [rounds_succ]
  go_wp2_with (go_at_call 111; refine (trimmed_w n g0 g1 _ hn hg0 hg1).mono ?_; rintro e w1 ⟨rfl, hb1⟩; obtain ⟨hc1, hf1⟩ := bcell hb1)
  have hbw : Below w.heap.size w w1 := below_call hb1 (by go_grown)
  refine bodyPost_ret (v := vv n (trimN n g0 g1)) (by simp [results, Tryz.results124, go_sem, hc1]) rfl ⟨rfl, ?_⟩
  clear hb1 hc1 hf1
  go_grown
theorem call_and : ∀ args w, (callFunc 132 args).run Tryz.prog w = .ok (.enter 132 args) w := fun _ _ => by kernel_rfl
theorem call_or : ∀ args w, (callFunc 133 args).run Tryz.prog w = .ok (.enter 133 args) w := fun _ _ => by kernel_rfl
theorem call_xor : ∀ args w, (callFunc 134 args).run Tryz.prog w = .ok (.enter 134 args) w := fun _ _ => by kernel_rfl
theorem call_inv : ∀ args w, (callFunc 125 args).run Tryz.prog w = .ok (.enter 125 args) w := fun _ _ => by kernel_rfl
theorem bitwise_and (n m x y : Nat) (w : World) (hn : n ≤ 128) (hx : x < 2 ^ n) (hy : y < 2 ^ n) :
    Calls Tryz.prog 124 #[vv n x, vv m y, .func (.func 132) #[] #[]] w (RV w (vv n (x &&& y))) := by
  have h := bitwise_w 132 n m (lo x) (hi x) (lo y) (hi y) (lo (x &&& y)) (hi (x &&& y)) w hn (lo_lt _) (hi_lt (Nat.and_lt_two_pow _ hy) hn) call_and
    (fun w => (and_f _ _ w).mono fun e w' h => by rw [u64_and_nat _ _ (lo_lt x) (lo_lt y), ← lo_and] at h; exact h)
    (fun w => (and_f _ _ w).mono fun e w' h => by rw [u64_and_nat _ _ (hi_lt hx hn) (hi_lt hy hn), ← hi_and] at h; exact h)
  rw [trimN_small _ _ (Nat.and_lt_two_pow _ hy)] at h
  exact h
theorem bitwise_or (n m x y : Nat) (w : World) (hn : n ≤ 128) (hx : x < 2 ^ n) (hy : y < 2 ^ n) :
    Calls Tryz.prog 124 #[vv n x, vv m y, .func (.func 133) #[] #[]] w (RV w (vv n (x ||| y))) := by
  have h := bitwise_w 133 n m (lo x) (hi x) (lo y) (hi y) (lo (x ||| y)) (hi (x ||| y)) w hn (lo_lt _) (hi_lt (Nat.or_lt_two_pow hx hy) hn) call_or
    (fun w => (or_f _ _ w).mono fun e w' h => by rw [u64_or_nat _ _ (lo_lt x) (lo_lt y), ← lo_or] at h; exact h)
    (fun w => (or_f _ _ w).mono fun e w' h => by rw [u64_or_nat _ _ (hi_lt hx hn) (hi_lt hy hn), ← hi_or] at h; exact h)
  rw [trimN_small _ _ (Nat.or_lt_two_pow hx hy)] at h
  exact h
theorem bitwise_xor (n m x y : Nat) (w : World) (hn : n ≤ 128) (hx : x < 2 ^ n) (hy : y < 2 ^ n) :
    Calls Tryz.prog 124 #[vv n x, vv m y, .func (.func 134) #[] #[]] w (RV w (vv n (x ^^^ y))) := by
  have h := bitwise_w 134 n m (lo x) (hi x) (lo y) (hi y) (lo (x ^^^ y)) (hi (x ^^^ y)) w hn (lo_lt _) (hi_lt (Nat.xor_lt_two_pow hx hy) hn) call_xor
    (fun w => (xor_f _ _ w).mono fun e w' h => by rw [u64_xor_nat _ _ (lo_lt x) (lo_lt y), ← lo_xor] at h; exact h)
    (fun w => (xor_f _ _ w).mono fun e w' h => by rw [u64_xor_nat _ _ (hi_lt hx hn) (hi_lt hy hn), ← hi_xor] at h; exact h)
  rw [trimN_small _ _ (Nat.xor_lt_two_pow hx hy)] at h
  exact h
set_option maxHeartbeats 400000 in
/-- invert: all bits turned. -/
theorem invert_v (n x : Nat) (w : World) (hn : n ≤ 128) (hx : x < 2 ^ n) : Calls Tryz.prog 113 #[vv n x] w (RV w (vv n (2 ^ n - 1 - x))) := by
  have hx' : x < 2 ^ 128 := Nat.lt_of_lt_of_le hx (Nat.pow_le_pow_right (by decide) hn)
  have h := fun w => bitwise_w 125 n n (lo x) (hi x) (lo x) (hi x) (lo (2 ^ 128 - 1 - x)) (hi (2 ^ 128 - 1 - x)) w hn (lo_lt _) (hi_lt (w := 128) (by omega) (by decide)) call_inv
    (fun w => (inv_f _ _ w).mono fun e w' h => by rw [u64_max_xor _ (lo_lt x), ← lo_not x hx'] at h; exact h)
    (fun w => (inv_f _ _ w).mono fun e w' h => by rw [u64_max_xor _ (hi_lt hx hn), ← hi_not x hx'] at h; exact h)
  rw [trim_not n x hn hx] at h
  have h := Lib.hid h
  go_enter Tryz.func113, Tryz.ntmps113
  go_wp2_with (go_at_call 124; refine (h.out _).mono ?_; rintro e w1 ⟨rfl, hb1⟩; obtain ⟨hc1, hf1⟩ := bcell hb1)
  have hbw : Below w.heap.size w w1 := below_call hb1 (by go_grown)
  refine bodyPost_ret (v := vv n (2 ^ n - 1 - x)) (by simp [results, Tryz.results113, go_sem, hc1]) rfl ⟨rfl, ?_⟩
  clear hb1 hc1 hf1
  go_grown
set_option maxHeartbeats 400000 in
theorem ones_v (n : Nat) (w : World) (hn : n ≤ 128) : Calls Tryz.prog 116 #[.int .i64 (n : Int)] w (RV w (vv n (2 ^ n - 1))) := by
  have h := fun w => invert_v n 0 w hn (Nat.pow_pos (by decide))
  have h := Lib.hid h
  go_enter Tryz.func116, Tryz.ntmps116
  go_wp2_with (go_at_call 113; refine (h.out _).mono ?_; rintro e w1 ⟨rfl, hb1⟩; obtain ⟨hc1, hf1⟩ := bcell hb1)
  have hbw : Below w.heap.size w w1 := below_call hb1 (by go_grown)
  refine bodyPost_ret (v := vv n (2 ^ n - 1)) (by simp [results, Tryz.results116, go_sem, hc1]) rfl ⟨rfl, ?_⟩
  clear hb1 hc1 hf1
  go_grown
end Go.Proofs.YtdjaikglkgabdaaGreatDoor
