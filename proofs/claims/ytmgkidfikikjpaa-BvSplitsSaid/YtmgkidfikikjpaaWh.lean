/-
  The walks of bv's less, lessSigned, magnitude, contains.
-/
import Derived.Test.YtmgkidfikikjpaaWg
import Derived.Test.YtmgkidfikikjpaaWgd
namespace Go.Proofs.Ytmgkidfikikjpaa
open Go.RowKit
def sub64E : Array Value → Sem Value := fun args => do
  let (x, y, b) ← Extern.MathBitsCarry.three "Sub64" args
  pure (Extern.MathBitsCarry.pair ((x + Extern.MathBitsCarry.m64 - y - b) % Extern.MathBitsCarry.m64) (if x < y + b then 1 else 0))
theorem run_sub64E (x y b : Nat) (hb : b ≤ 1) (w : World) :
    (sub64E #[.int .u64 (x : Int), .int .u64 (y : Int), .int .u64 (b : Int)]).run Try.prog w = .ok (.tuple #[.int .u64 ((subLo x y b : Nat) : Int), .int .u64 ((borrowN x y b : Nat) : Int)]) w := by
  have : b = 0 ∨ b = 1 := by omega
  rcases this with rfl | rfl <;> rfl
theorem call_sub (x y c : Nat) (hc : c ≤ 1) (w : World) : (callFunc 80 #[.int .u64 (x : Int), .int .u64 (y : Int), .int .u64 (c : Int)]).run Try.prog w = .ok (.value (.tuple #[.int .u64 ((subLo x y c : Nat) : Int), .int .u64 ((borrowN x y c : Nat) : Int)])) w := by
  rw [run_callFunc_extern Try.func80 (by kernel_rfl) (by kernel_rfl) (by kernel_rfl) (e := sub64E) (by kernel_rfl), run_sub64E x y c hc]
  rfl
set_option maxRecDepth 100000 in
set_option maxHeartbeats 1000000 in
theorem less_v (n m x y : Nat) (w : World) :
    Calls Try.prog 67 #[vv n x, vv m y] w (RV w (.bool (decide (x < y)))) := by
  have h1 := call_sub (lo x) (lo y) 0 (by decide)
  have e0 : ((0 : Nat) : Int) = 0 := rfl
  rw [e0] at h1
  clear e0
  have h2 := call_sub (hi x) (hi y) (borrowN (lo x) (lo y) 0) (borrowN_le _ _ _)
  have hr := borrow_eq x y
  rw [← hr]
  clear hr
  go_enter Try.func67, Try.ntmps67
  go_wp2
  refine wp_loop_rounds 3 ?_
  rw [rounds_succ]
  go_wp2
  go_quiet (fail)
  go_wp2
  rw [rounds_succ]
  go_wp2
  go_quiet (fail)
  go_wp2
  rw [rounds_succ]
  go_wp2
  go_ret
  refine ⟨rfl, ?_⟩
  repeat' (first | (with_reducible refine below_drewN ?_ _))
  all_goals go_grown
set_option maxHeartbeats 1000000 in
theorem magnitude_v (n x : Nat) (w : World) (hn : n ≤ 128) (hx : x < 2 ^ n) :
    Calls Try.prog 78 #[vv n x] w (RV w (vv n (if x.testBit (n - 1) then (0 + 2 ^ n - x) % 2 ^ n else x))) := by
  have hi := fun w => isNegative_v n x w hn hx
  cases hb : x.testBit (n - 1)
  · rw [hb] at hi
    have hi := Lib.hid hi
    clear hx hb
    simp only [Bool.false_eq_true, if_false]
    go_enter Try.func78, Try.ntmps78
    go_wp2_with (go_at_call 56; refine (hi.out _).mono ?_; rintro e w1 ⟨rfl, hb1⟩; obtain ⟨hc1, hf1⟩ := bcell hb1)
    have hbw : Below w.heap.size w w1 := below_call hb1 (by go_grown)
    refine bodyPost_ret (v := vv n x) (by simp [results, Try.results78, go_sem, hc1]) rfl ⟨rfl, ?_⟩
    clear hb1 hc1 hf1
    go_grown
  · rw [hb] at hi
    have hi := Lib.hid hi
    have hn := Lib.hid (fun w => negate_v n x w hn hx)
    clear hx hb
    simp only [if_true]
    go_enter Try.func78, Try.ntmps78
    go_wp2_with (first | (go_at_call 56; refine (hi.out _).mono ?_; rintro e w1 ⟨rfl, hb1⟩; obtain ⟨hc1, hf1⟩ := bcell hb1; have hz1 := less2 (size_le hb1 (w.heap.size + 2) (by go_size))) | (go_at_call 79; refine (hn.out _).mono ?_; rintro e w2 ⟨rfl, hb2⟩; obtain ⟨hc2, hf2⟩ := bcell hb2))
    have hbw1 : Below w.heap.size w w1 := below_call hb1 (by go_grown)
    have hbw : Below w.heap.size w w2 := below_call hb2 (by go_grown)
    refine bodyPost_ret (v := vv n ((0 + 2 ^ n - x) % 2 ^ n)) (by simp [results, Try.results78, go_sem, hc1, hc2, hz1]) rfl ⟨rfl, ?_⟩
    clear hb1 hc1 hf1 hb2 hc2 hf2
    go_grown
end Go.Proofs.Ytmgkidfikikjpaa
