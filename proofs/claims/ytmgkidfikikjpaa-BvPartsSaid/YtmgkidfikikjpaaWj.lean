/-
  The walk of bv's divide: long division.
-/
import Derived.Test.YtmgkidfikikjpaaWg
import Derived.Test.YtmgkidfikikjpaaM4
namespace Go.Proofs.Ytmgkidfikikjpaa
open Go.RowKit
set_option maxRecDepth 100000 in
set_option maxHeartbeats 400000 in
theorem divide_zero (n x : Nat) (w : World) (hn : n ≤ 128) :
    Calls Try.prog 62 #[vv n x, vv n 0] w (RV w (.tuple #[vv n (2 ^ n - 1), vv n x])) := by
  have hz := fun w => isZero_v n 0 w
  have e0 : ((0 : Nat) == 0) = true := rfl
  rw [e0] at hz
  clear e0
  have hz := Lib.hid hz
  have ho := Lib.hid (fun w => ones_v n w hn)
  go_enter Try.func62, Try.ntmps62
  go_wp2_with (go_at_call 76; (with_reducible refine (hz.out _).mono ?_); rintro e w1 ⟨rfl, hb1⟩; obtain ⟨A1, B1, Q1, R1, hbw1⟩ := start4 hb1; have a1 := A1.all; have q1 := Q1.all; have r1 := R1.all; clear hb1)
  go_region_held3 (fun w' => w'.cell? ⟨w.heap.size, 0, none⟩ = some (.int .i64 (n : Int)) ∧ w'.cell? ⟨w.heap.size, 1, none⟩ = some (.int .u64 ((lo x : Nat) : Int)) ∧ w'.cell? ⟨w.heap.size, 2, none⟩ = some (.int .u64 ((hi x : Nat) : Int)))
    (first | (with_reducible exact A2.keep3) | (with_reducible exact (A2.far3 (by omega)).keep3) | (with_reducible exact ((A2.far3 (by omega)).far3 (by omega)).keep3) | (with_reducible exact A1.drew.keep3))
    (first | (go_at_call 51; (with_reducible refine (ho.out _).mono ?_); rintro e w2 ⟨rfl, hb2⟩; have A2 := A1.drew.over hb2; have Q2 := Q1.drew.over hb2; have R2 := R1.drew.over hb2; have hbw2 : Below w.heap.size w w2 := below_call hb2 hbw1.drew; have a2 := A2.all; have q2 := Q2.all; have r2 := R2.all; clear a1 q1 r1))
  go_wp2
  have Q3 := Q2.set3 n (2 ^ n - 1)
  have R3 := R2.set3 n x
  refine bodyPost_ret (v := .tuple #[vv n (2 ^ n - 1), vv n x]) (by simp [results, Try.results62, go_sem, q2, r2]) rfl ⟨rfl, ?_⟩
  repeat' (first | (with_reducible refine Below.setCell ?_ ?_ _))
  all_goals (first | exact hbw2 | (have := hbw2.size; go_size))

end Go.Proofs.Ytmgkidfikikjpaa
