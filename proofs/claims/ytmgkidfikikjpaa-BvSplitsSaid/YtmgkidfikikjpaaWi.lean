/-
  The walk of bv's lessSigned.
-/
import Derived.Test.YtmgkidfikikjpaaWh
import Derived.Deep.RegionHeld3
namespace Go.Proofs.Ytmgkidfikikjpaa
open Go.RowKit
def sltN (n x y : Nat) : Bool := if x.testBit (n - 1) != y.testBit (n - 1) then x.testBit (n - 1) else decide (x < y)
theorem below_flip {w w1 w2 : World} (h1 : Below w.heap.size w w1) (h2 : Below w1.heap.size w1 w2) : Below w.heap.size w w2 := below_call h2 h1
set_option maxHeartbeats 1000000 in
theorem lessSigned_b (n x y : Nat) (a b : Bool) (w : World)
    (hix : ∀ w, Calls Try.prog 56 #[vv n x] w (RV w (.bool a))) (hiy : ∀ w, Calls Try.prog 56 #[vv n y] w (RV w (.bool b))) :
    Calls Try.prog 68 #[vv n x, vv n y] w (RV w (.bool (if a != b then a else decide (x < y)))) := by
  have hIX := Lib.hid hix
  have hIY := Lib.hid hiy
  have hl := Lib.hid (fun w => less_v n n x y w)
  clear hix hiy
  cases a <;> cases b
  all_goals
    simp only [bne_self_eq_false, Bool.false_eq_true, if_false, Bool.false_bne, Bool.true_bne, Bool.not_false, if_true]
    go_enter Try.func68, Try.ntmps68
    go_wp2
    go_region_held3 (fun w' => w'.cell? ⟨w.heap.size, 0, none⟩ = some (.int .i64 (n : Int)) ∧ w'.cell? ⟨w.heap.size, 1, none⟩ = some (.int .u64 ((lo x : Nat) : Int)) ∧ w'.cell? ⟨w.heap.size, 2, none⟩ = some (.int .u64 ((hi x : Nat) : Int)) ∧ w'.cell? ⟨w.heap.size + 1, 0, none⟩ = some (.int .i64 (n : Int)) ∧ w'.cell? ⟨w.heap.size + 1, 1, none⟩ = some (.int .u64 ((lo y : Nat) : Int)) ∧ w'.cell? ⟨w.heap.size + 1, 2, none⟩ = some (.int .u64 ((hi y : Nat) : Int))) (first | (refine ⟨?_, ?_, ?_, ?_, ?_, ?_⟩ <;> (first | (rw [hc1 _ _ (by go_size)]; simp [*]; done) | (rw [hc2 _ _ (by go_size)]; simp [*]; done))) | go_keep)
      (first
        | (go_at_call 56; (with_reducible refine (hIX.out _).mono ?_); rintro e w1 ⟨rfl, hb1⟩; obtain ⟨hc1, hf1⟩ := bcell hb1; have hz1 := less2 (size_le hb1 (w.heap.size + 2) (by go_size)))
        | (go_at_call 56; (with_reducible refine (hIY.out _).mono ?_); rintro e w2 ⟨rfl, hb2⟩; obtain ⟨hc2, hf2⟩ := bcell hb2; have hz2 := less2 (size_le hb2 (w.heap.size + 2) (by go_size))))
  all_goals
    have hbw1 : Below w.heap.size w w1 := below_call hb1 (by go_grown)
    have hbw2 : Below w.heap.size w w2 := below_call hb2 (by go_grown)
    go_wp2_with (first
      | (go_at_call 56; (with_reducible refine (hIX.out _).mono ?_); rintro e w3 ⟨rfl, hb3⟩; have hbw3 : Below w.heap.size w w3 := below_call hb3 (by go_grown))
      | (go_at_call 67; (with_reducible refine (hl.out _).mono ?_); rintro e w3 ⟨rfl, hb3⟩; have hbw3 : Below w.heap.size w w3 := below_call hb3 (by go_grown)))
    go_ret
    exact ⟨rfl, hbw3⟩
theorem lessSigned_v (n x y : Nat) (w : World) (hn : n ≤ 128) (hx : x < 2 ^ n) (hy : y < 2 ^ n) :
    Calls Try.prog 68 #[vv n x, vv n y] w (RV w (.bool (sltN n x y))) :=
  lessSigned_b n x y _ _ w (fun w => isNegative_v n x w hn hx) (fun w => isNegative_v n y w hn hy)
end Go.Proofs.Ytmgkidfikikjpaa
