/-
  Equality of two vectors as the program computes it: isZero, Equal, and the operator on the type itself.
-/
import Derived.Test.YtmgkidfikikjpaaWb
import Derived.ChangeKeysEq
namespace Go.Proofs.Ytmgkidfikikjpaa
open Go.RowKit
theorem part_w0 (b c : Value) (w : World) : (part 25 #[b, c] 0).run Try.prog w = .ok b w := by kernel_rfl
theorem part_w1 (b c : Value) (w : World) : (part 25 #[b, c] 1).run Try.prog w = .ok c w := by kernel_rfl
theorem part_v0 (a b c : Value) (w : World) : (part 3 #[a, b, c] 0).run Try.prog w = .ok a w := by kernel_rfl
theorem part_v1 (a b c : Value) (w : World) : (part 26 #[a, b, c] 1).run Try.prog w = .ok (.agg #[b, c]) w := by kernel_rfl
theorem cellsOf_u64 : Try.prog.cellsOf 25 = 1 := by kernel_rfl
theorem run_eqw (d : Nat) (b c b' c' : Int) (w : World) : (Op.equalIn (d + 2) 26 (.agg #[.int .u64 b, .int .u64 c]) (.agg #[.int .u64 b', .int .u64 c'])).run Try.prog w = .ok (b == b' && c == c') w := by
  rw [run_equalIn_array (i := (Try.prog.info? 25).get!) w (d + 1) (n := 2) (e := 25) _ _ (by kernel_rfl) (by kernel_rfl), cellsOf_u64]
  simp only [List.range, List.range.loop, Op.eqItems, Nat.zero_mul, Nat.one_mul, Sem.run_bind, part_w0, Result.andThen_ok, run_equalIn_int w d 25 .u64 .u64 _ _ Try.underlying25]
  cases b == b'
  · simp
  · simp only [Bool.not_true, Bool.false_eq_true, if_false, Sem.run_bind, part_w1, Result.andThen_ok, run_equalIn_int w d 25 .u64 .u64 _ _ Try.underlying25]
    cases c == c' <;> simp
theorem vecFields : (Try.prog.fieldsOf 28).toList.map (fun f => (f.name != "_", f.type, f.offset)) = [(true, 3, 0), (true, 26, 1)] := by kernel_rfl
theorem run_eqv (a b c a' b' c' : Int) (w : World) : (Op.equalIn 10000 28 (.agg #[.int .i64 a, .int .u64 b, .int .u64 c]) (.agg #[.int .i64 a', .int .u64 b', .int .u64 c'])).run Try.prog w = .ok (a == a' && b == b' && c == c') w := by
  rw [run_equalIn_struct w 9999 _ _ _ (by kernel_rfl) (by kernel_rfl)]
  have hf := vecFields
  generalize (Try.prog.fieldsOf 28).toList = l at hf
  have hl : l.length = 2 := by simpa using congrArg List.length hf
  match l, hl, hf with
  | [f0, f1], _, hf =>
    simp only [List.map_cons, List.map_nil, List.cons.injEq, Prod.mk.injEq, and_true, bne_iff_ne] at hf
    obtain ⟨⟨n0, t0, o0⟩, n1, t1, o1⟩ := hf
    simp only [Op.eqFields, ne_eq, n0, n1, not_false_eq_true, if_true, t0, t1, o0, o1, Sem.run_bind, part_v0, Result.andThen_ok, run_equalIn_int w 9998 3 .i64 .i64 _ _ Try.underlying3]
    cases a == a'
    · simp
    · simp only [Bool.not_true, Bool.false_eq_true, if_false, Sem.run_bind, part_v1, Result.andThen_ok, run_eqw 9997]
      cases b == b' <;> cases c == c' <;> simp
theorem eql_vec (a b c a' b' c' : Int) (w : World) : (binOp .eql 28 (.agg #[.int .i64 a, .int .u64 b, .int .u64 c]) (.agg #[.int .i64 a', .int .u64 b', .int .u64 c'])).run Try.prog w = .ok (.bool (a == a' && b == b' && c == c')) w := by
  rw [run_eql_struct, run_eqv]; rfl
theorem neq_vec (a b c a' b' c' : Int) (w : World) : (binOp .neq 28 (.agg #[.int .i64 a, .int .u64 b, .int .u64 c]) (.agg #[.int .i64 a', .int .u64 b', .int .u64 c'])).run Try.prog w = .ok (.bool (!(a == a' && b == b' && c == c'))) w := by
  rw [run_neq_struct, run_eqv]; rfl
theorem guard_vec (op : BinOp) (x y : Operand) (xs ys : Array Value) (w : World) : (eqGuard op 28 x y (.agg xs) (.agg ys)).run Try.prog w = .ok () w := run_eqGuard_agg w op _ x y xs ys (by kernel_rfl)

def eqB (n x m y : Nat) : Bool := n == m && x == y
set_option maxHeartbeats 800000 in
theorem Equal_v (n x m y : Nat) (w : World) : Calls Try.prog 21 #[vv n x, vv m y] w (RV w (.bool (eqB n x m y))) := by
  have he := Lib.hid (vv_inj n x m y)
  have hq := eql_vec n (lo x) (hi x) m (lo y) (hi y)
  have hg := guard_vec
  go_enter Try.func21, Try.ntmps21
  go_wp2
  go_returns
  exact ⟨by rw [eqB, ← he.out]; rfl, by go_grown⟩
theorem eqB_zero (n x : Nat) : eqB n x n 0 = (x == 0) := by simp [eqB]
set_option maxHeartbeats 800000 in
theorem isZero_v (n x : Nat) (w : World) : Calls Try.prog 76 #[vv n x] w (RV w (.bool (x == 0))) := by
  have he := Lib.hid (show (((lo x : Nat) : Int) == 0 && ((hi x : Nat) : Int) == 0) = (x == 0) from by have h := (vv_inj n x n 0).trans (eqB_zero n x); simpa [lo, hi] using h)
  have hq := eql_vec n (lo x) (hi x) n 0 0
  have hg := guard_vec
  go_enter Try.func76, Try.ntmps76
  go_wp2
  go_returns
  exact ⟨by rw [← he.out]; rfl, by go_grown⟩
end Go.Proofs.Ytmgkidfikikjpaa
