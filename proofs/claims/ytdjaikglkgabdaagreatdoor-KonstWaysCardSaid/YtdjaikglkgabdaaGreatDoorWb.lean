/-
  The walks of small functions of bv over a vector: resized, Bit, isNegative, isZero, Equal, bitOf, truth: what each returns, for every vector whose bits beyond the width are 0.
  Equality of two vectors as the program computes it: isZero, Equal, and the operator on the type itself.
-/
import Derived.Test.YtdjaikglkgabdaaGreatDoorWa
import Derived.ChangeKeysEq
namespace Go.Proofs.YtdjaikglkgabdaaGreatDoor
open Go.RowKit

set_option maxHeartbeats 800000 in
theorem Bit_lo (n i x0 x1 : Nat) (w : World) (hi : i < n) (h : i < 64) :
    Calls Tryz.prog 73 #[.agg #[.int .i64 (n : Int), .int .u64 (x0 : Int), .int .u64 (x1 : Int)], .int .i64 (i : Int)] w (RV w (.bool (bits .and .u64 ((x0 : Int) / 2 ^ i) 1 == 1))) := by
  have hd : ((i : Int) / 64) = 0 := by omega
  have hm : ((i : Int) % 64) = (i : Int) := by omega
  go_enter Tryz.func73, Tryz.ntmps73
  go_wp2
  go_returns
  exact ⟨rfl, by go_grown⟩
set_option maxHeartbeats 800000 in
theorem Bit_hi (n i x0 x1 : Nat) (w : World) (hn : n ≤ 128) (hi : 64 + i < n) :
    Calls Tryz.prog 73 #[.agg #[.int .i64 (n : Int), .int .u64 (x0 : Int), .int .u64 (x1 : Int)], .int .i64 (64 + (i : Int))] w (RV w (.bool (bits .and .u64 ((x1 : Int) / 2 ^ i) 1 == 1))) := by
  have hd : ((64 + (i : Int)) / 64) = 1 := by omega
  have hm : ((64 + (i : Int)) % 64) = (i : Int) := by omega
  go_enter Tryz.func73, Tryz.ntmps73
  go_wp2
  go_returns
  exact ⟨rfl, by go_grown⟩
set_option maxHeartbeats 800000 in
theorem Bit_out (n x0 x1 : Nat) (i : Int) (w : World) (hn : n ≤ 128) (hi : i < 0 ∨ n ≤ i) :
    Calls Tryz.prog 73 #[.agg #[.int .i64 (n : Int), .int .u64 (x0 : Int), .int .u64 (x1 : Int)], .int .i64 i] w (RV w (.bool false)) := by
  rcases hi with hi | hi
  · go_enter Tryz.func73, Tryz.ntmps73
    go_wp2
    go_returns
    exact ⟨rfl, by go_grown⟩
  · have h0 : ¬ i < 0 := by omega
    go_enter Tryz.func73, Tryz.ntmps73
    go_wp2
    go_returns
    exact ⟨rfl, by go_grown⟩
theorem Bit_v (n x : Nat) (i : Int) (w : World) (hn : n ≤ 128) (hx : x < 2 ^ n) :
    Calls Tryz.prog 73 #[vv n x, .int .i64 i] w (RV w (.bool (bitI n x i))) := by
  by_cases h : 0 ≤ i ∧ i < n
  · obtain ⟨k, rfl⟩ := Int.eq_ofNat_of_zero_le h.1
    have e : bitI n x (k : Int) = x.testBit k := by unfold bitI; simp [h]
    rw [e]
    by_cases hk : k < 64
    · rw [← testBit_lo x k hk, ← testBit_word _ _ (lo_lt x)]
      exact Bit_lo n k (lo x) (hi x) w (by omega) hk
    · obtain ⟨j, rfl⟩ : ∃ j, k = 64 + j := ⟨k - 64, by omega⟩
      rw [← testBit_hi x j, ← testBit_word _ _ (hi_lt hx hn)]
      exact Bit_hi n j (lo x) (hi x) w hn (by omega)
  · have e : bitI n x i = false := by unfold bitI; simp [h]
    rw [e]
    exact Bit_out n (lo x) (hi x) i w hn (by omega)

theorem bitI_top (n x : Nat) (hx : x < 2 ^ n) : bitI n x ((n : Int) - 1) = x.testBit (n - 1) := by
  unfold bitI
  by_cases h : 1 ≤ n
  · rw [show ((n : Int) - 1).toNat = n - 1 from by omega]; simp; omega
  · obtain rfl : n = 0 := by omega
    obtain rfl : x = 0 := by simpa using hx
    simp
set_option maxHeartbeats 800000 in
theorem isNegative_v (n x : Nat) (w : World) (hn : n ≤ 128) (hx : x < 2 ^ n) :
    Calls Tryz.prog 137 #[vv n x] w (RV w (.bool (x.testBit (n - 1)))) := by
  have he := Lib.hid (bitI_top n x hx)
  go_enter Tryz.func137, Tryz.ntmps137
  go_wp2_with (go_at_call 73; refine (Bit_v n x _ _ hn hx).mono ?_; rintro e w1 ⟨rfl, hb1⟩)
  have hbw : Below w.heap.size w w1 := below_call hb1 (by go_grown)
  go_returns
  exact ⟨by rw [← he.out]; rfl, hbw⟩
set_option maxHeartbeats 800000 in
theorem bitOf_v (n x : Nat) (i : Int) (w : World) (hn : n ≤ 128) (hx : x < 2 ^ n) :
    Calls Tryz.prog 142 #[vv n x, .int .i64 i] w (RV w (.int .u64 (((bitI n x i).toNat : Nat) : Int))) := by
  cases hc : bitI n x i with
  | false =>
    have he := Lib.hid hc
    clear hc
    go_enter Tryz.func142, Tryz.ntmps142
    go_wp2_with (go_at_call 73; refine (Bit_v n x _ _ hn hx).mono ?_; rw [he.out]; rintro e w1 ⟨rfl, hb1⟩)
    have hbw : Below w.heap.size w w1 := below_call hb1 (by go_grown)
    go_returns
    exact ⟨rfl, hbw⟩
  | true =>
    have he := Lib.hid hc
    clear hc
    go_enter Tryz.func142, Tryz.ntmps142
    go_wp2_with (go_at_call 73; refine (Bit_v n x _ _ hn hx).mono ?_; rw [he.out]; rintro e w1 ⟨rfl, hb1⟩)
    have hbw : Below w.heap.size w w1 := below_call hb1 (by go_grown)
    go_returns
    exact ⟨rfl, hbw⟩
set_option maxHeartbeats 800000 in
theorem truth_v (b : Bool) (w : World) : Calls Tryz.prog 115 #[.bool b] w (RV w (vv 1 b.toNat)) := by
  cases b
  · go_enter Tryz.func115, Tryz.ntmps115
    go_wp2
    go_returns
    exact ⟨rfl, by go_grown⟩
  · go_enter Tryz.func115, Tryz.ntmps115
    go_wp2
    go_returns
    exact ⟨rfl, by go_grown⟩
end Go.Proofs.YtdjaikglkgabdaaGreatDoor
namespace Go.Proofs.YtdjaikglkgabdaaGreatDoor
open Go.RowKit
theorem part_w0 (b c : Value) (w : World) : (part 93 #[b, c] 0).run Tryz.prog w = .ok b w := by kernel_rfl
theorem part_w1 (b c : Value) (w : World) : (part 93 #[b, c] 1).run Tryz.prog w = .ok c w := by kernel_rfl
theorem part_v0 (a b c : Value) (w : World) : (part 3 #[a, b, c] 0).run Tryz.prog w = .ok a w := by kernel_rfl
theorem part_v1 (a b c : Value) (w : World) : (part 104 #[a, b, c] 1).run Tryz.prog w = .ok (.agg #[b, c]) w := by kernel_rfl
theorem cellsOf_u64 : Tryz.prog.cellsOf 93 = 1 := by kernel_rfl
theorem run_eqw (d : Nat) (b c b' c' : Int) (w : World) : (Op.equalIn (d + 2) 104 (.agg #[.int .u64 b, .int .u64 c]) (.agg #[.int .u64 b', .int .u64 c'])).run Tryz.prog w = .ok (b == b' && c == c') w := by
  rw [run_equalIn_array (i := (Tryz.prog.info? 93).get!) w (d + 1) (n := 2) (e := 93) _ _ (by kernel_rfl) (by kernel_rfl), cellsOf_u64]
  simp only [List.range, List.range.loop, Op.eqItems, Nat.zero_mul, Nat.one_mul, Sem.run_bind, part_w0, Result.andThen_ok, run_equalIn_int w d 93 .u64 .u64 _ _ Tryz.underlying93]
  cases b == b'
  · simp
  · simp only [Bool.not_true, Bool.false_eq_true, if_false, Sem.run_bind, part_w1, Result.andThen_ok, run_equalIn_int w d 93 .u64 .u64 _ _ Tryz.underlying93]
    cases c == c' <;> simp
theorem vecFields : (Tryz.prog.fieldsOf 106).toList.map (fun f => (f.name != "_", f.type, f.offset)) = [(true, 3, 0), (true, 104, 1)] := by kernel_rfl
theorem run_eqv (a b c a' b' c' : Int) (w : World) : (Op.equalIn 10000 106 (.agg #[.int .i64 a, .int .u64 b, .int .u64 c]) (.agg #[.int .i64 a', .int .u64 b', .int .u64 c'])).run Tryz.prog w = .ok (a == a' && b == b' && c == c') w := by
  rw [run_equalIn_struct w 9999 _ _ _ (by kernel_rfl) (by kernel_rfl)]
  have hf := vecFields
  generalize (Tryz.prog.fieldsOf 106).toList = l at hf
  have hl : l.length = 2 := by simpa using congrArg List.length hf
  match l, hl, hf with
  | [f0, f1], _, hf =>
    simp only [List.map_cons, List.map_nil, List.cons.injEq, Prod.mk.injEq, and_true, bne_iff_ne] at hf
    obtain ⟨⟨n0, t0, o0⟩, n1, t1, o1⟩ := hf
    simp only [Op.eqFields, ne_eq, n0, n1, not_false_eq_true, if_true, t0, t1, o0, o1, Sem.run_bind, part_v0, Result.andThen_ok, run_equalIn_int w 9998 3 .i64 .i64 _ _ Tryz.underlying3]
    cases a == a'
    · simp
    · simp only [Bool.not_true, Bool.false_eq_true, if_false, Sem.run_bind, part_v1, Result.andThen_ok, run_eqw 9997]
      cases b == b' <;> cases c == c' <;> simp
theorem eql_vec (a b c a' b' c' : Int) (w : World) : (binOp .eql 106 (.agg #[.int .i64 a, .int .u64 b, .int .u64 c]) (.agg #[.int .i64 a', .int .u64 b', .int .u64 c'])).run Tryz.prog w = .ok (.bool (a == a' && b == b' && c == c')) w := by
  rw [run_eql_struct, run_eqv]; rfl
theorem neq_vec (a b c a' b' c' : Int) (w : World) : (binOp .neq 106 (.agg #[.int .i64 a, .int .u64 b, .int .u64 c]) (.agg #[.int .i64 a', .int .u64 b', .int .u64 c'])).run Tryz.prog w = .ok (.bool (!(a == a' && b == b' && c == c'))) w := by
  rw [run_neq_struct, run_eqv]; rfl
theorem guard_vec (op : BinOp) (x y : Operand) (xs ys : Array Value) (w : World) : (eqGuard op 106 x y (.agg xs) (.agg ys)).run Tryz.prog w = .ok () w := run_eqGuard_agg w op _ x y xs ys (by kernel_rfl)

def eqB (n x m y : Nat) : Bool := n == m && x == y
theorem eqB_zero (n x : Nat) : eqB n x n 0 = (x == 0) := by simp [eqB]
set_option maxHeartbeats 800000 in
theorem isZero_v (n x : Nat) (w : World) : Calls Tryz.prog 117 #[vv n x] w (RV w (.bool (x == 0))) := by
  have he := Lib.hid (show (((lo x : Nat) : Int) == 0 && ((hi x : Nat) : Int) == 0) = (x == 0) from by have h := (vv_inj n x n 0).trans (eqB_zero n x); simpa [lo, hi] using h)
  have hq := eql_vec n (lo x) (hi x) n 0 0
  have hg := guard_vec
  go_enter Tryz.func117, Tryz.ntmps117
  go_wp2
  go_returns
  exact ⟨by rw [← he.out]; rfl, by go_grown⟩
end Go.Proofs.YtdjaikglkgabdaaGreatDoor
