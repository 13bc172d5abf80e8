/-
  The walks of small functions of bv over a vector: resized, Bit, isNegative, isZero, Equal, bitOf, truth: what each returns, for every vector whose bits beyond the width are 0.
  Equality of two vectors as the program computes it: isZero, Equal, and the operator on the type itself.
-/
import Derived.Test.YtbmdnmjgijblpaaDoorWa
import Derived.ChangeKeysEq
namespace Go.Proofs.YtbmdnmjgijblpaaDoor
open Go.RowKit

set_option maxHeartbeats 800000 in
theorem Bit_lo (n i x0 x1 : Nat) (w : World) (hi : i < n) (h : i < 64) :
    Calls Tryd.prog 49 #[.agg #[.int .i64 (n : Int), .int .u64 (x0 : Int), .int .u64 (x1 : Int)], .int .i64 (i : Int)] w (RV w (.bool (bits .and .u64 ((x0 : Int) / 2 ^ i) 1 == 1))) := by
  have hd : ((i : Int) / 64) = 0 := by omega
  have hm : ((i : Int) % 64) = (i : Int) := by omega
  go_enter Tryd.func49, Tryd.ntmps49
  go_wp2
  go_returns
  exact ⟨rfl, by go_grown⟩
set_option maxHeartbeats 800000 in
theorem Bit_hi (n i x0 x1 : Nat) (w : World) (hn : n ≤ 128) (hi : 64 + i < n) :
    Calls Tryd.prog 49 #[.agg #[.int .i64 (n : Int), .int .u64 (x0 : Int), .int .u64 (x1 : Int)], .int .i64 (64 + (i : Int))] w (RV w (.bool (bits .and .u64 ((x1 : Int) / 2 ^ i) 1 == 1))) := by
  have hd : ((64 + (i : Int)) / 64) = 1 := by omega
  have hm : ((64 + (i : Int)) % 64) = (i : Int) := by omega
  go_enter Tryd.func49, Tryd.ntmps49
  go_wp2
  go_returns
  exact ⟨rfl, by go_grown⟩
set_option maxHeartbeats 800000 in
theorem Bit_out (n x0 x1 : Nat) (i : Int) (w : World) (hn : n ≤ 128) (hi : i < 0 ∨ n ≤ i) :
    Calls Tryd.prog 49 #[.agg #[.int .i64 (n : Int), .int .u64 (x0 : Int), .int .u64 (x1 : Int)], .int .i64 i] w (RV w (.bool false)) := by
  rcases hi with hi | hi
  · go_enter Tryd.func49, Tryd.ntmps49
    go_wp2
    go_returns
    exact ⟨rfl, by go_grown⟩
  · have h0 : ¬ i < 0 := by omega
    go_enter Tryd.func49, Tryd.ntmps49
    go_wp2
    go_returns
    exact ⟨rfl, by go_grown⟩
theorem Bit_v (n x : Nat) (i : Int) (w : World) (hn : n ≤ 128) (hx : x < 2 ^ n) :
    Calls Tryd.prog 49 #[vv n x, .int .i64 i] w (RV w (.bool (bitI n x i))) := by
  by_cases h : 0 ≤ i ∧ i < n
  · obtain ⟨k, rfl⟩ := Int.eq_ofNat_of_zero_le h.1
    have e : bitI n x (k : Int) = x.testBit k := by unfold bitI; simp [h]
    rw [e]
    by_cases hk : k < 64
    · rw [← testBit_lo x k hk, ← testBit_word _ _ (lo_lt x)]
      exact Bit_lo n k (lo x) (hi x) w (by omega) hk
    · obtain ⟨j, rfl⟩ : ∃ j, k = 64 + j := ⟨k - 64, by omega⟩
      rw [← testBit_hi x j, ← testBit_word _ _ (hi_lt hx hn)]
      exact Bit_hi n j (lo x) (hi x) w hn (by omega)
  · have e : bitI n x i = false := by unfold bitI; simp [h]
    rw [e]
    exact Bit_out n (lo x) (hi x) i w hn (by omega)
end Go.Proofs.YtbmdnmjgijblpaaDoor
namespace Go.Proofs.YtbmdnmjgijblpaaDoor
open Go.RowKit
theorem part_w0 (b c : Value) (w : World) : (part 31 #[b, c] 0).run Tryd.prog w = .ok b w := by kernel_rfl
theorem part_w1 (b c : Value) (w : World) : (part 31 #[b, c] 1).run Tryd.prog w = .ok c w := by kernel_rfl
theorem part_v0 (a b c : Value) (w : World) : (part 3 #[a, b, c] 0).run Tryd.prog w = .ok a w := by kernel_rfl
theorem part_v1 (a b c : Value) (w : World) : (part 32 #[a, b, c] 1).run Tryd.prog w = .ok (.agg #[b, c]) w := by kernel_rfl
theorem cellsOf_u64 : Tryd.prog.cellsOf 31 = 1 := by kernel_rfl
theorem run_eqw (d : Nat) (b c b' c' : Int) (w : World) : (Op.equalIn (d + 2) 32 (.agg #[.int .u64 b, .int .u64 c]) (.agg #[.int .u64 b', .int .u64 c'])).run Tryd.prog w = .ok (b == b' && c == c') w := by
  rw [run_equalIn_array (i := (Tryd.prog.info? 31).get!) w (d + 1) (n := 2) (e := 31) _ _ (by kernel_rfl) (by kernel_rfl), cellsOf_u64]
  simp only [List.range, List.range.loop, Op.eqItems, Nat.zero_mul, Nat.one_mul, Sem.run_bind, part_w0, Result.andThen_ok, run_equalIn_int w d 31 .u64 .u64 _ _ Tryd.underlying31]
  cases b == b'
  · simp
  · simp only [Bool.not_true, Bool.false_eq_true, if_false, Sem.run_bind, part_w1, Result.andThen_ok, run_equalIn_int w d 31 .u64 .u64 _ _ Tryd.underlying31]
    cases c == c' <;> simp
theorem vecFields : (Tryd.prog.fieldsOf 34).toList.map (fun f => (f.name != "_", f.type, f.offset)) = [(true, 3, 0), (true, 32, 1)] := by kernel_rfl
theorem run_eqv (a b c a' b' c' : Int) (w : World) : (Op.equalIn 10000 34 (.agg #[.int .i64 a, .int .u64 b, .int .u64 c]) (.agg #[.int .i64 a', .int .u64 b', .int .u64 c'])).run Tryd.prog w = .ok (a == a' && b == b' && c == c') w := by
  rw [run_equalIn_struct w 9999 _ _ _ (by kernel_rfl) (by kernel_rfl)]
  have hf := vecFields
  generalize (Tryd.prog.fieldsOf 34).toList = l at hf
  have hl : l.length = 2 := by simpa using congrArg List.length hf
  match l, hl, hf with
  | [f0, f1], _, hf =>
    simp only [List.map_cons, List.map_nil, List.cons.injEq, Prod.mk.injEq, and_true, bne_iff_ne] at hf
    obtain ⟨⟨n0, t0, o0⟩, n1, t1, o1⟩ := hf
    simp only [Op.eqFields, ne_eq, n0, n1, not_false_eq_true, if_true, t0, t1, o0, o1, Sem.run_bind, part_v0, Result.andThen_ok, run_equalIn_int w 9998 3 .i64 .i64 _ _ Tryd.underlying3]
    cases a == a'
    · simp
    · simp only [Bool.not_true, Bool.false_eq_true, if_false, Sem.run_bind, part_v1, Result.andThen_ok, run_eqw 9997]
      cases b == b' <;> cases c == c' <;> simp
theorem eql_vec (a b c a' b' c' : Int) (w : World) : (binOp .eql 34 (.agg #[.int .i64 a, .int .u64 b, .int .u64 c]) (.agg #[.int .i64 a', .int .u64 b', .int .u64 c'])).run Tryd.prog w = .ok (.bool (a == a' && b == b' && c == c')) w := by
  rw [run_eql_struct, run_eqv]; rfl
theorem neq_vec (a b c a' b' c' : Int) (w : World) : (binOp .neq 34 (.agg #[.int .i64 a, .int .u64 b, .int .u64 c]) (.agg #[.int .i64 a', .int .u64 b', .int .u64 c'])).run Tryd.prog w = .ok (.bool (!(a == a' && b == b' && c == c'))) w := by
  rw [run_neq_struct, run_eqv]; rfl
theorem guard_vec (op : BinOp) (x y : Operand) (xs ys : Array Value) (w : World) : (eqGuard op 34 x y (.agg xs) (.agg ys)).run Tryd.prog w = .ok () w := run_eqGuard_agg w op _ x y xs ys (by kernel_rfl)
def eqB (n x m y : Nat) : Bool := n == m && x == y
set_option maxHeartbeats 800000 in
theorem Equal_v (n x m y : Nat) (w : World) : Calls Tryd.prog 9 #[vv n x, vv m y] w (RV w (.bool (eqB n x m y))) := by
  have he := Lib.hid (vv_inj n x m y)
  have hq := eql_vec n (lo x) (hi x) m (lo y) (hi y)
  have hg := guard_vec
  go_enter Tryd.func9, Tryd.ntmps9
  go_wp2
  go_returns
  exact ⟨by rw [eqB, ← he.out]; rfl, by go_grown⟩
end Go.Proofs.YtbmdnmjgijblpaaDoor
