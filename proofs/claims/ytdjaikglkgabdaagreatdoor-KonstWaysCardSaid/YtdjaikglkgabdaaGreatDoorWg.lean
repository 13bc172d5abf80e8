/-
  The walks of bv's shiftUp, shiftDown.
  The walk of bv's shiftDown.
  The walks of bv's less, lessSigned, magnitude, contains.
  The walk of bv's lessSigned.
-/
import Derived.Test.YtdjaikglkgabdaaGreatDoorWe
import Derived.Test.YtdjaikglkgabdaaGreatDoorM
import Derived.Deep.RegionHeld3
namespace Go.Proofs.YtdjaikglkgabdaaGreatDoor
open Go.RowKit
set_option maxRecDepth 100000 in
set_option maxHeartbeats 1000000 in
theorem shiftUp_lo (n x k : Nat) (w : World) (hn : n ≤ 128) (hk : k < 64) :
    Calls Tryz.prog 135 #[vv n x, .int .i64 (k : Int)] w (RV w (vv n (x * 2 ^ k % 2 ^ n))) := by
  have e1 : IntKind.i64.wrap (64 - (k : Int)) = 64 - (k : Int) := IntWalk.i64_in _ (by omega)
  have e2 : (64 - (k : Int)).toNat = 64 - k := by omega
  have ht := fun w => trimmed_w n (shlN (lo x) k) (shlN (hi x) k ||| lo x / 2 ^ (64 - k)) w hn (shlN_lt _ _) (or_lt _ _ _ (lo_lt x))
  rw [up_eq n x k hn (by omega), ← or_up_form _ _ _ (lo_lt x), ← shl_form] at ht
  have ht := Lib.hid ht
  go_enter Tryz.func135, Tryz.ntmps135
  go_wp2
  go_quiet (fail)
  go_wp2
  refine wp_region_still_tail 13 (by kernel_rfl) (by kernel_rfl) ?_
  simp only [List.take_succ_cons, List.take_zero, List.drop_succ_cons, List.drop_zero]
  change wpStill _ _ (World.drew _) _ _ _
  repeat still_step
  refine wpStill_nil ?_
  change wpList _ _ _ _ _ (World.drew _)
  go_wp2_with (go_at_call 111; refine (ht.out _).mono ?_; rintro e w1 ⟨rfl, hb1⟩; obtain ⟨hc1, hf1⟩ := bcell hb1)
  have hbw : Below w.heap.size w w1 := below_call hb1 (by refine Below.setCell ?_ (by go_size) _; refine Below.setCell ?_ (by go_size) _; exact below_drewN (by go_grown) _)
  refine bodyPost_ret (v := vv n (x * 2 ^ k % 2 ^ n)) (by simp [results, Tryz.results135, go_sem, hc1]) rfl ⟨rfl, ?_⟩
  clear hb1 hc1 hf1
  go_grown
set_option maxRecDepth 100000 in
set_option maxHeartbeats 1000000 in
theorem shiftUp_hi (n x j : Nat) (w : World) (hn : n ≤ 128) (hk : j ≤ 64) :
    Calls Tryz.prog 135 #[vv n x, .int .i64 (64 + (j : Int))] w (RV w (vv n (x * 2 ^ (64 + j) % 2 ^ n))) := by
  have ht := fun w => trimmed_w n 0 (shlN (lo x) j) w hn (by decide) (shlN_lt _ _)
  have e0 : ((0 : Nat) : Int) = 0 := rfl
  rw [up_eq_hi n x j hn, ← shl_form, e0] at ht
  clear e0
  have ht := Lib.hid ht
  go_enter Tryz.func135, Tryz.ntmps135
  go_wp2
  go_quiet (fail)
  go_wp2_with (go_at_call 111; refine (ht.out _).mono ?_; rintro e w1 ⟨rfl, hb1⟩; obtain ⟨hc1, hf1⟩ := bcell hb1)
  have hbw : Below w.heap.size w w1 := below_call hb1 (by refine Below.setCell ?_ (by go_size) _; refine Below.setCell ?_ (by go_size) _; exact below_drewN (by go_grown) _)
  refine bodyPost_ret (v := vv n (x * 2 ^ (64 + j) % 2 ^ n)) (by simp [results, Tryz.results135, go_sem, hc1]) rfl ⟨rfl, ?_⟩
  clear hb1 hc1 hf1
  go_grown
theorem shiftUp_v (n x k : Nat) (w : World) (hn : n ≤ 128) (hk : k ≤ 128) :
    Calls Tryz.prog 135 #[vv n x, .int .i64 (k : Int)] w (RV w (vv n (x * 2 ^ k % 2 ^ n))) := by
  by_cases h : k < 64
  · exact shiftUp_lo n x k w hn h
  · obtain ⟨j, rfl⟩ : ∃ j, k = 64 + j := ⟨k - 64, by omega⟩
    exact shiftUp_hi n x j w hn (by omega)
end Go.Proofs.YtdjaikglkgabdaaGreatDoor
namespace Go.Proofs.YtdjaikglkgabdaaGreatDoor
open Go.RowKit
set_option maxRecDepth 100000 in
set_option maxHeartbeats 400000 in
theorem shiftDown_lo (n x k : Nat) (w : World) (hk : k < 64) :
    Calls Tryz.prog 136 #[vv n x, .int .i64 (k : Int)] w (RV w (vv n (x / 2 ^ k))) := by
  have e1 : IntKind.i64.wrap (64 - (k : Int)) = 64 - (k : Int) := IntWalk.i64_in _ (by omega)
  have e2 : (64 - (k : Int)).toNat = 64 - k := by omega
  have hr : vv n (x / 2 ^ k) = .agg #[.int .i64 (n : Int), .int .u64 (bits .or .u64 (((lo x : Nat) : Int) / 2 ^ k) (IntKind.u64.wrap (((hi x : Nat) : Int) * 2 ^ (64 - k)))), .int .u64 (((hi x : Nat) : Int) / 2 ^ k)] := by
    unfold vv
    rw [lo_down x k (by omega), hi_down, ← or_down_form _ _ _ (lo_lt x), ← shr_form]
  rw [hr]
  clear hr
  go_enter Tryz.func136, Tryz.ntmps136
  go_wp2
  go_quiet (fail)
  go_wp2
  refine wp_region_still_tail 13 (by kernel_rfl) (by kernel_rfl) ?_
  simp only [List.take_succ_cons, List.take_zero, List.drop_succ_cons, List.drop_zero]
  change wpStill _ _ (World.drew _) _ _ _
  repeat still_step
  refine wpStill_nil ?_
  change wpList _ _ _ _ _ (World.drew _)
  go_wp2
  refine bodyPost_ret (v := .agg #[.int .i64 (n : Int), .int .u64 (bits .or .u64 (((lo x : Nat) : Int) / 2 ^ k) (IntKind.u64.wrap (((hi x : Nat) : Int) * 2 ^ (64 - k)))), .int .u64 (((hi x : Nat) : Int) / 2 ^ k)]) (by simp [results, Tryz.results136, go_sem]) rfl ⟨rfl, ?_⟩
  repeat' (first | (with_reducible refine Below.setCell ?_ ?_ _) | (with_reducible refine below_drewN ?_ _))
  all_goals go_grown
set_option maxRecDepth 100000 in
set_option maxHeartbeats 400000 in
theorem shiftDown_hi (n x j : Nat) (w : World) (hx : x < 2 ^ 128) (hk : j ≤ 64) :
    Calls Tryz.prog 136 #[vv n x, .int .i64 (64 + (j : Int))] w (RV w (vv n (x / 2 ^ (64 + j)))) := by
  have hr : vv n (x / 2 ^ (64 + j)) = .agg #[.int .i64 (n : Int), .int .u64 (((hi x : Nat) : Int) / 2 ^ j), .int .u64 0] := by
    unfold vv
    rw [lo_down_hi x j hx, hi_down_hi x j hx, ← shr_form]; rfl
  rw [hr]
  clear hr hx
  go_enter Tryz.func136, Tryz.ntmps136
  go_wp2
  go_quiet (fail)
  go_wp2
  refine bodyPost_ret (v := .agg #[.int .i64 (n : Int), .int .u64 (((hi x : Nat) : Int) / 2 ^ j), .int .u64 0]) (by simp [results, Tryz.results136, go_sem]) rfl ⟨rfl, ?_⟩
  repeat' (first | (with_reducible refine Below.setCell ?_ ?_ _) | (with_reducible refine below_drewN ?_ _))
  all_goals go_grown
theorem shiftDown_v (n x k : Nat) (w : World) (hx : x < 2 ^ 128) (hk : k ≤ 128) :
    Calls Tryz.prog 136 #[vv n x, .int .i64 (k : Int)] w (RV w (vv n (x / 2 ^ k))) := by
  by_cases h : k < 64
  · exact shiftDown_lo n x k w h
  · obtain ⟨j, rfl⟩ : ∃ j, k = 64 + j := ⟨k - 64, by omega⟩
    exact shiftDown_hi n x j w hx (by omega)
end Go.Proofs.YtdjaikglkgabdaaGreatDoor
namespace Go.Proofs.YtdjaikglkgabdaaGreatDoor
open Go.RowKit
def sub64E : Array Value → Sem Value := fun args => do
  let (x, y, b) ← Extern.MathBitsCarry.three "Sub64" args
  pure (Extern.MathBitsCarry.pair ((x + Extern.MathBitsCarry.m64 - y - b) % Extern.MathBitsCarry.m64) (if x < y + b then 1 else 0))
theorem run_sub64E (x y b : Nat) (hb : b ≤ 1) (w : World) :
    (sub64E #[.int .u64 (x : Int), .int .u64 (y : Int), .int .u64 (b : Int)]).run Tryz.prog w = .ok (.tuple #[.int .u64 ((subLo x y b : Nat) : Int), .int .u64 ((borrowN x y b : Nat) : Int)]) w := by
  have : b = 0 ∨ b = 1 := by omega
  rcases this with rfl | rfl <;> rfl
theorem call_sub (x y c : Nat) (hc : c ≤ 1) (w : World) : (callFunc 144 #[.int .u64 (x : Int), .int .u64 (y : Int), .int .u64 (c : Int)]).run Tryz.prog w = .ok (.value (.tuple #[.int .u64 ((subLo x y c : Nat) : Int), .int .u64 ((borrowN x y c : Nat) : Int)])) w := by
  rw [run_callFunc_extern Tryz.func144 (by kernel_rfl) (by kernel_rfl) (by kernel_rfl) (e := sub64E) (by kernel_rfl), run_sub64E x y c hc]
  rfl
set_option maxRecDepth 100000 in
set_option maxHeartbeats 1000000 in
theorem less_v (n m x y : Nat) (w : World) :
    Calls Tryz.prog 138 #[vv n x, vv m y] w (RV w (.bool (decide (x < y)))) := by
  have h1 := call_sub (lo x) (lo y) 0 (by decide)
  have e0 : ((0 : Nat) : Int) = 0 := rfl
  rw [e0] at h1
  clear e0
  have h2 := call_sub (hi x) (hi y) (borrowN (lo x) (lo y) 0) (borrowN_le _ _ _)
  have hr := borrow_eq x y
  rw [← hr]
  clear hr
  go_enter Tryz.func138, Tryz.ntmps138
  go_wp2
  refine wp_loop_rounds 3 ?_
  rw [rounds_succ]
  go_wp2
  go_quiet (fail)
  go_wp2
  rw [rounds_succ]
  go_wp2
  go_quiet (fail)
  go_wp2
  rw [rounds_succ]
  go_wp2
  go_ret
  refine ⟨rfl, ?_⟩
  repeat' (first | (with_reducible refine below_drewN ?_ _))
  all_goals go_grown
set_option maxHeartbeats 1000000 in
theorem magnitude_v (n x : Nat) (w : World) (hn : n ≤ 128) (hx : x < 2 ^ n) :
    Calls Tryz.prog 143 #[vv n x] w (RV w (vv n (if x.testBit (n - 1) then (0 + 2 ^ n - x) % 2 ^ n else x))) := by
  have hi := fun w => isNegative_v n x w hn hx
  cases hb : x.testBit (n - 1)
  · rw [hb] at hi
    have hi := Lib.hid hi
    clear hx hb
    simp only [Bool.false_eq_true, if_false]
    go_enter Tryz.func143, Tryz.ntmps143
    go_wp2_with (go_at_call 137; refine (hi.out _).mono ?_; rintro e w1 ⟨rfl, hb1⟩; obtain ⟨hc1, hf1⟩ := bcell hb1)
    have hbw : Below w.heap.size w w1 := below_call hb1 (by go_grown)
    refine bodyPost_ret (v := vv n x) (by simp [results, Tryz.results143, go_sem, hc1]) rfl ⟨rfl, ?_⟩
    clear hb1 hc1 hf1
    go_grown
  · rw [hb] at hi
    have hi := Lib.hid hi
    have hn := Lib.hid (fun w => negate_v n x w hn hx)
    clear hx hb
    simp only [if_true]
    go_enter Tryz.func143, Tryz.ntmps143
    go_wp2_with (first | (go_at_call 137; refine (hi.out _).mono ?_; rintro e w1 ⟨rfl, hb1⟩; obtain ⟨hc1, hf1⟩ := bcell hb1; have hz1 := less2 (size_le hb1 (w.heap.size + 2) (by go_size))) | (go_at_call 114; refine (hn.out _).mono ?_; rintro e w2 ⟨rfl, hb2⟩; obtain ⟨hc2, hf2⟩ := bcell hb2))
    have hbw1 : Below w.heap.size w w1 := below_call hb1 (by go_grown)
    have hbw : Below w.heap.size w w2 := below_call hb2 (by go_grown)
    refine bodyPost_ret (v := vv n ((0 + 2 ^ n - x) % 2 ^ n)) (by simp [results, Tryz.results143, go_sem, hc1, hc2, hz1]) rfl ⟨rfl, ?_⟩
    clear hb1 hc1 hf1 hb2 hc2 hf2
    go_grown
end Go.Proofs.YtdjaikglkgabdaaGreatDoor
namespace Go.Proofs.YtdjaikglkgabdaaGreatDoor
open Go.RowKit
def sltN (n x y : Nat) : Bool := if x.testBit (n - 1) != y.testBit (n - 1) then x.testBit (n - 1) else decide (x < y)
theorem below_flip {w w1 w2 : World} (h1 : Below w.heap.size w w1) (h2 : Below w1.heap.size w1 w2) : Below w.heap.size w w2 := below_call h2 h1
set_option maxHeartbeats 1000000 in
theorem lessSigned_b (n x y : Nat) (a b : Bool) (w : World)
    (hix : ∀ w, Calls Tryz.prog 137 #[vv n x] w (RV w (.bool a))) (hiy : ∀ w, Calls Tryz.prog 137 #[vv n y] w (RV w (.bool b))) :
    Calls Tryz.prog 139 #[vv n x, vv n y] w (RV w (.bool (if a != b then a else decide (x < y)))) := by
  have hIX := Lib.hid hix
  have hIY := Lib.hid hiy
  have hl := Lib.hid (fun w => less_v n n x y w)
  clear hix hiy
  cases a <;> cases b
  all_goals
    simp only [bne_self_eq_false, Bool.false_eq_true, if_false, Bool.false_bne, Bool.true_bne, Bool.not_false, if_true]
    go_enter Tryz.func139, Tryz.ntmps139
    go_wp2
    go_region_held3 (fun w' => w'.cell? ⟨w.heap.size, 0, none⟩ = some (.int .i64 (n : Int)) ∧ w'.cell? ⟨w.heap.size, 1, none⟩ = some (.int .u64 ((lo x : Nat) : Int)) ∧ w'.cell? ⟨w.heap.size, 2, none⟩ = some (.int .u64 ((hi x : Nat) : Int)) ∧ w'.cell? ⟨w.heap.size + 1, 0, none⟩ = some (.int .i64 (n : Int)) ∧ w'.cell? ⟨w.heap.size + 1, 1, none⟩ = some (.int .u64 ((lo y : Nat) : Int)) ∧ w'.cell? ⟨w.heap.size + 1, 2, none⟩ = some (.int .u64 ((hi y : Nat) : Int))) (first | (refine ⟨?_, ?_, ?_, ?_, ?_, ?_⟩ <;> (first | (rw [hc1 _ _ (by go_size)]; simp [*]; done) | (rw [hc2 _ _ (by go_size)]; simp [*]; done))) | go_keep)
      (first
        | (go_at_call 137; (with_reducible refine (hIX.out _).mono ?_); rintro e w1 ⟨rfl, hb1⟩; obtain ⟨hc1, hf1⟩ := bcell hb1; have hz1 := less2 (size_le hb1 (w.heap.size + 2) (by go_size)))
        | (go_at_call 137; (with_reducible refine (hIY.out _).mono ?_); rintro e w2 ⟨rfl, hb2⟩; obtain ⟨hc2, hf2⟩ := bcell hb2; have hz2 := less2 (size_le hb2 (w.heap.size + 2) (by go_size))))
  all_goals
    have hbw1 : Below w.heap.size w w1 := below_call hb1 (by go_grown)
    have hbw2 : Below w.heap.size w w2 := below_call hb2 (by go_grown)
    go_wp2_with (first
      | (go_at_call 137; (with_reducible refine (hIX.out _).mono ?_); rintro e w3 ⟨rfl, hb3⟩; have hbw3 : Below w.heap.size w w3 := below_call hb3 (by go_grown))
      | (go_at_call 138; (with_reducible refine (hl.out _).mono ?_); rintro e w3 ⟨rfl, hb3⟩; have hbw3 : Below w.heap.size w w3 := below_call hb3 (by go_grown)))
    go_ret
    exact ⟨rfl, hbw3⟩
theorem lessSigned_v (n x y : Nat) (w : World) (hn : n ≤ 128) (hx : x < 2 ^ n) (hy : y < 2 ^ n) :
    Calls Tryz.prog 139 #[vv n x, vv n y] w (RV w (.bool (sltN n x y))) :=
  lessSigned_b n x y _ _ w (fun w => isNegative_v n x w hn hx) (fun w => isNegative_v n y w hn hy)
end Go.Proofs.YtdjaikglkgabdaaGreatDoor
