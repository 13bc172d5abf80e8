/-
  Equality of positions as the program computes it; a table of one file and of two; the fixed fact that the statements of layer 6 begin with holds.
-/
import Derived.Test.YtegoldihcchfdaaSi
import Derived.ChangeKeysEq
namespace Go.Proofs.Ytegoldihcchfdaa
open Go.RowKit
theorem part_p0 (a b c : Value) (w : World) : (part 3 #[a, b, c] 0).run Try.prog w = .ok a w := by kernel_rfl
theorem part_p1 (a b c : Value) (w : World) : (part 3 #[a, b, c] 1).run Try.prog w = .ok b w := by kernel_rfl
theorem part_p2 (a b c : Value) (w : World) : (part 3 #[a, b, c] 2).run Try.prog w = .ok c w := by kernel_rfl
theorem posFields : (Try.prog.fieldsOf 44).toList.map (fun f => (f.name != "_", f.type, f.offset)) = [(true, 3, 0), (true, 3, 1), (true, 3, 2)] := by kernel_rfl
theorem run_eqp (a b c a' b' c' : Int) (w : World) : (Op.equalIn 10000 44 (pv a b c) (pv a' b' c')).run Try.prog w = .ok (a == a' && b == b' && c == c') w := by
  rw [run_equalIn_struct w 9999 _ _ _ (by kernel_rfl) (by kernel_rfl)]
  have hf := posFields
  generalize (Try.prog.fieldsOf 44).toList = l at hf
  have hl : l.length = 3 := by simpa using congrArg List.length hf
  match l, hl, hf with
  | [f0, f1, f2], _, hf =>
    simp only [List.map_cons, List.map_nil, List.cons.injEq, Prod.mk.injEq, and_true, bne_iff_ne] at hf
    obtain ⟨⟨n0, t0, o0⟩, ⟨n1, t1, o1⟩, n2, t2, o2⟩ := hf
    simp only [Op.eqFields, ne_eq, n0, n1, n2, not_false_eq_true, if_true, t0, t1, t2, o0, o1, o2, Sem.run_bind, part_p0, Result.andThen_ok, run_equalIn_int w 9998 3 .i64 .i64 _ _ Try.underlying3]
    cases a == a'
    · simp
    · simp only [Bool.not_true, Bool.false_eq_true, if_false, Sem.run_bind, part_p1, Result.andThen_ok, run_equalIn_int w 9998 3 .i64 .i64 _ _ Try.underlying3]
      cases b == b'
      · simp
      · simp only [Bool.not_true, Bool.false_eq_true, if_false, Sem.run_bind, part_p2, Result.andThen_ok, run_equalIn_int w 9998 3 .i64 .i64 _ _ Try.underlying3]
        cases c == c' <;> simp
theorem eql_pos (a b c a' b' c' : Int) (w : World) : (binOp .eql 44 (pv a b c) (pv a' b' c')).run Try.prog w = .ok (.bool (a == a' && b == b' && c == c')) w := by
  rw [run_eql_struct, run_eqp]; rfl
theorem neq_pos (a b c a' b' c' : Int) (w : World) : (binOp .neq 44 (pv a b c) (pv a' b' c')).run Try.prog w = .ok (.bool (!(a == a' && b == b' && c == c'))) w := by
  rw [run_neq_struct, run_eqp]; rfl
theorem guard_pos (op : BinOp) (x y : Operand) (xs ys : Array Value) (w : World) : (eqGuard op 44 x y (.agg xs) (.agg ys)).run Try.prog w = .ok () w := run_eqGuard_agg w op _ x y xs ys (by kernel_rfl)
theorem RF_one (w : World) (a b : ByteArray) : RF (w.alloc (.cells #[.string a, .string b] 34)) (some ⟨w.heap.size, 0, none⟩) 1 (fun _ => a) (fun _ => b) := fun _ =>
  ⟨w.heap.size, 0, rfl, by simp, fun j hj => by
    obtain rfl : j = 0 := by omega
    exact ⟨World.cell?_alloc_new w _ _ 0, World.cell?_alloc_new w _ _ 1⟩⟩
theorem ferr_one (a b : ByteArray) (ha : nameB a = true) (hb : b.size ≤ 32768) : ferr 1 (fun _ => a) (fun _ => b) = 0 := by
  unfold ferr
  rw [if_neg (by omega), if_neg (by simp [anyB, ha]), if_neg (by simp [dupB, anyB]), if_neg (by simp [totB]; omega)]
theorem New_one (a b : ByteArray) (g : Nat) (w : World) (hg : g = w.heap.size) (ha : nameB a = true) (hb : b.size ≤ 32768) :
    Calls Try.prog 10 #[.slice (some ⟨g, 0, none⟩) 1 1] (w.alloc (.cells #[.string a, .string b] 34)) (NV (w.alloc (.cells #[.string a, .string b] 34)) 1 (fun _ => a) (fun _ => b)) := by
  subst hg
  exact New_ok 1 1 _ _ _ _ (RF_one w a b) (by omega) (by omega) (fun _ _ => hb) (ferr_one a b ha hb)
def av : ByteArray := ⟨#[97, 46, 118]⟩
def abc : ByteArray := ⟨#[97, 10, 98, 99]⟩
theorem av_name : nameB av = true := by decide
theorem abc_pos : plL abc 3 = 2 ∧ plC abc 3 = 2 ∧ nOf abc = 2 ∧ abc.size = 4 := by decide
set_option maxRecDepth 100000 in
set_option maxHeartbeats 400000 in
theorem awake_t (w : World) : Calls Try.prog 8 #[] w (RV w (.bool true)) := by
  have hN : ∀ (w : World) (g : Nat), g = w.heap.size → Calls Try.prog 10 #[.slice (some ⟨g, 0, none⟩) 1 1] (w.alloc (.cells #[.string ⟨#[97, 46, 118]⟩, .string ⟨#[97, 10, 98, 99]⟩] 34)) (NV (w.alloc (.cells #[.string ⟨#[97, 46, 118]⟩, .string ⟨#[97, 10, 98, 99]⟩] 34)) 1 (fun _ => av) (fun _ => abc)) :=
    fun w g hg => New_one av abc g w hg av_name (by rw [abc_pos.2.2.2]; decide)
  have hP : ∀ (w : World) (q : Nat), Tab w q 1 (fun _ => av) (fun _ => abc) → Calls Try.prog 18 #[.pointer (some ⟨q, 0, none⟩), .int .i64 1, .int .i64 3] w (RV w (.tuple #[pv 1 2 2, .int .i64 0])) := fun w q h => by
    have hp := Pos_ok q 1 0 3 (fun _ => av) (fun _ => abc) w h (by omega) (by omega) (by rw [abc_pos.2.2.2]; decide) (by rw [abc_pos.2.2.2]; decide)
    rw [abc_pos.1, abc_pos.2.1] at hp
    exact hp
  have hL : ∀ (w : World) (q : Nat), Tab w q 1 (fun _ => av) (fun _ => abc) → Calls Try.prog 15 #[.pointer (some ⟨q, 0, none⟩), .int .i64 1] w fun e w' => e = .returned (.int .i64 2) ∧ w = w' := fun w q h => by
    have hp := Lines_ok q 1 0 (fun _ => av) (fun _ => abc) w h (by omega) (by omega)
    rw [abc_pos.2.2.1] at hp
    exact hp
  have hq := eql_pos 1 2 2 1 2 2
  have hg := guard_pos
  replace hN := Lib.hid hN
  replace hP := Lib.hid hP
  replace hL := Lib.hid hL
  go_enter Try.func8, Try.ntmps8
  go_wp2_with (first
    | (go_at_call 10; (with_reducible refine (hN.out _ _ rfl).mono ?_); rintro e w1 ⟨q, rfl, hT1, hb1⟩; have hbw1 : Below w.heap.size w w1 := below_call hb1 (by go_grown); have z1 := hbw1.size; replace hT1 := Lib.hid hT1; clear hb1)
    | (go_at_call 18; (with_reducible refine (hP.out _ _ hT1.out).mono ?_); rintro e w2 ⟨rfl, hb2⟩; have hT2 := hT1.out.over hb2; have hbw2 : Below w.heap.size w w2 := below_call hb2 hbw1; have z2 := hbw2.size; replace hT2 := Lib.hid hT2; clear hb2)
    | (go_at_call 15; (with_reducible refine (hL.out _ _ (hT2.out.over ((Below.refl _ _).alloc (Nat.le_refl _) _))).mono ?_); rintro e w3 ⟨rfl, rfl⟩))
  go_ret
  exact ⟨rfl, by go_grown⟩
end Go.Proofs.Ytegoldihcchfdaa
