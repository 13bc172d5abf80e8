/-
  The walk of the reference's Int.
-/
import Derived.Test.YtalmhopbnaeamaaGreatDoorGp
namespace Go.Proofs.YtalmhopbnaeamaaGreatDoor
open Go.RowKit Go.Lib
set_option maxRecDepth 100000 in
set_option maxHeartbeats 3200000 in
theorem refInt_w0 (n c : Nat) (A : Option Addr) (sg sz : Bool) (w : World) (h0 : n = 0) : Calls Tryz.prog 17 #[.agg #[.slice A n c, .bool sg, .bool sz]] w (RV w (.tuple #[.int .i64 0, .int .i64 2])) := by
  have nz : ((n : Int) == 0) = true := by simp; omega
  clear h0
  go_enter Tryz.func17, Tryz.ntmps17
  go_wp2_with fail
  refine bodyPost_ret (v := .tuple #[.int .i64 0, .int .i64 2]) (by simp [results, Tryz.results17, go_sem]) rfl ⟨rfl, ?_⟩
  go_grown
set_option maxRecDepth 100000 in
set_option maxHeartbeats 3200000 in
theorem refInt_u_big (n c v : Nat) (A : Option Addr) (sz : Bool) (w : World) (h0 : n ≠ 0) (hn : n ≤ 128) (hb : 2147483648 ≤ v)
    (hM : ∀ w1, Below w.heap.size w w1 → Calls Tryz.prog 39 #[.slice A n c, .int .i64 1099511627776] w1 fun e w' => e = .returned (.int .i64 (v : Int)) ∧ w' = w1) : Calls Tryz.prog 17 #[.agg #[.slice A n c, .bool false, .bool sz]] w (RV w (.tuple #[.int .i64 0, .int .i64 3])) := by
  have nz : ((n : Int) == 0) = false := by simp; omega
  have k1 : decide (2147483648 ≤ (v : Int)) = true := by simp; omega
  have k2 : decide (2147483648 ≤ v) = true := by simp; omega
  replace hM := Lib.hid hM
  clear h0 hn hb
  go_enter Tryz.func17, Tryz.ntmps17
  go_wp2_with fail
  (with_reducible refine (hM.out _ (by go_grown)).mono ?_)
  rintro e w1 ⟨rfl, rfl⟩
  go_wp2_with fail
  refine bodyPost_ret (v := .tuple #[.int .i64 0, .int .i64 3]) (by simp [results, Tryz.results17, go_sem]) rfl ⟨rfl, ?_⟩
  go_grown
set_option maxRecDepth 100000 in
set_option maxHeartbeats 3200000 in
theorem refInt_u_ok (n c v : Nat) (A : Option Addr) (sz : Bool) (w : World) (h0 : n ≠ 0) (hn : n ≤ 128) (hb : v < 2147483648)
    (hM : ∀ w1, Below w.heap.size w w1 → Calls Tryz.prog 39 #[.slice A n c, .int .i64 1099511627776] w1 fun e w' => e = .returned (.int .i64 (v : Int)) ∧ w' = w1) : Calls Tryz.prog 17 #[.agg #[.slice A n c, .bool false, .bool sz]] w (RV w (.tuple #[.int .i64 (v : Int), .int .i64 0])) := by
  have nz : ((n : Int) == 0) = false := by simp; omega
  have k1 : decide (2147483648 ≤ (v : Int)) = false := by simp; omega
  have k2 : decide (2147483648 ≤ v) = false := by simp; omega
  replace hM := Lib.hid hM
  clear h0 hn hb
  go_enter Tryz.func17, Tryz.ntmps17
  go_wp2_with fail
  (with_reducible refine (hM.out _ (by go_grown)).mono ?_)
  rintro e w1 ⟨rfl, rfl⟩
  go_wp2_with fail
  refine bodyPost_ret (v := .tuple #[.int .i64 (v : Int), .int .i64 0]) (by simp [results, Tryz.results17, go_sem]) rfl ⟨rfl, ?_⟩
  go_grown
set_option maxRecDepth 100000 in
set_option maxHeartbeats 3200000 in
theorem refInt_s_big (n c v : Nat) (A : Option Addr) (sz : Bool) (w : World) (h0 : n ≠ 0) (hn : n ≤ 128) (b off q : Nat) (hq : n = q + 1) (hA : A = some ⟨b, off, none⟩) (hl : b < w.heap.size) (hc : w.cell? ⟨b, off + q, none⟩ = some (.bool false)) (hb : 2147483648 ≤ v)
    (hM : ∀ w1, Below w.heap.size w w1 → Calls Tryz.prog 39 #[.slice A n c, .int .i64 1099511627776] w1 fun e w' => e = .returned (.int .i64 (v : Int)) ∧ w' = w1) : Calls Tryz.prog 17 #[.agg #[.slice A n c, .bool true, .bool sz]] w (RV w (.tuple #[.int .i64 0, .int .i64 3])) := by
  have nz : ((n : Int) == 0) = false := by simp; omega
  have k1 : decide (2147483648 ≤ (v : Int)) = true := by simp; omega
  have k2 : decide (2147483648 ≤ v) = true := by simp; omega
  have en : IntKind.i64.wrap ((n : Int) - 1) = (q : Int) := by rw [IntWalk.i64_in _ (by omega)]; omega
  have q1 : (q : Int) < (n : Int) := by omega
  have q2 : q < n := by omega
  subst hA
  replace hM := Lib.hid hM
  clear h0 hn hb hq
  go_enter Tryz.func17, Tryz.ntmps17
  go_wp2_with fail
  (with_reducible refine (hM.out _ (by go_grown)).mono ?_)
  rintro e w1 ⟨rfl, rfl⟩
  go_wp2_with fail
  refine bodyPost_ret (v := .tuple #[.int .i64 0, .int .i64 3]) (by simp [results, Tryz.results17, go_sem]) rfl ⟨rfl, ?_⟩
  go_grown
set_option maxRecDepth 100000 in
set_option maxHeartbeats 3200000 in
theorem refInt_s_ok (n c v : Nat) (A : Option Addr) (sz : Bool) (w : World) (h0 : n ≠ 0) (hn : n ≤ 128) (b off q : Nat) (hq : n = q + 1) (hA : A = some ⟨b, off, none⟩) (hl : b < w.heap.size) (hc : w.cell? ⟨b, off + q, none⟩ = some (.bool false)) (hb : v < 2147483648)
    (hM : ∀ w1, Below w.heap.size w w1 → Calls Tryz.prog 39 #[.slice A n c, .int .i64 1099511627776] w1 fun e w' => e = .returned (.int .i64 (v : Int)) ∧ w' = w1) : Calls Tryz.prog 17 #[.agg #[.slice A n c, .bool true, .bool sz]] w (RV w (.tuple #[.int .i64 (v : Int), .int .i64 0])) := by
  have nz : ((n : Int) == 0) = false := by simp; omega
  have k1 : decide (2147483648 ≤ (v : Int)) = false := by simp; omega
  have k2 : decide (2147483648 ≤ v) = false := by simp; omega
  have en : IntKind.i64.wrap ((n : Int) - 1) = (q : Int) := by rw [IntWalk.i64_in _ (by omega)]; omega
  have q1 : (q : Int) < (n : Int) := by omega
  have q2 : q < n := by omega
  subst hA
  replace hM := Lib.hid hM
  clear h0 hn hb hq
  go_enter Tryz.func17, Tryz.ntmps17
  go_wp2_with fail
  (with_reducible refine (hM.out _ (by go_grown)).mono ?_)
  rintro e w1 ⟨rfl, rfl⟩
  go_wp2_with fail
  refine bodyPost_ret (v := .tuple #[.int .i64 (v : Int), .int .i64 0]) (by simp [results, Tryz.results17, go_sem]) rfl ⟨rfl, ?_⟩
  go_grown
set_option maxRecDepth 100000 in
set_option maxHeartbeats 3200000 in
theorem refInt_n_big (n c v : Nat) (hf : Nat → Bool) (A : Option Addr) (sz : Bool) (w : World) (h0 : n ≠ 0) (hn : n ≤ 128) (b off q : Nat) (hq : n = q + 1) (hA : A = some ⟨b, off, none⟩) (hl : b < w.heap.size) (hc : w.cell? ⟨b, off + q, none⟩ = some (.bool true)) (hb : 2147483648 < v)
    (hN : ∀ w1, Below w.heap.size w w1 → Calls Tryz.prog 43 #[.slice A n c] w1 (GS w1 n hf))
    (hM : ∀ w1 B d, RB w1 B n hf → Calls Tryz.prog 39 #[.slice B n d, .int .i64 1099511627776] w1 fun e w' => e = .returned (.int .i64 (v : Int)) ∧ w' = w1) : Calls Tryz.prog 17 #[.agg #[.slice A n c, .bool true, .bool sz]] w (RV w (.tuple #[.int .i64 0, .int .i64 3])) := by
  have nz : ((n : Int) == 0) = false := by simp; omega
  have k1 : decide (2147483648 < (v : Int)) = true := by simp; omega
  have k2 : decide (2147483648 < v) = true := by simp; omega
  have en : IntKind.i64.wrap ((n : Int) - 1) = (q : Int) := by rw [IntWalk.i64_in _ (by omega)]; omega
  have q1 : (q : Int) < (n : Int) := by omega
  have q2 : q < n := by omega
  have ev : True := by trivial
  subst hA
  replace hN := Lib.hid hN
  replace hM := Lib.hid hM
  clear h0 hn hb hq
  go_enter Tryz.func17, Tryz.ntmps17
  go_wp2_with fail
  (with_reducible refine (hN.out _ (by go_grown)).mono ?_)
  rintro e w1 ⟨B1, d1, rfl, hr, hb1⟩
  have hbw1 : Below w.heap.size w w1 := below_call hb1 (by go_grown)
  clear hb1
  go_wp2_with fail
  (with_reducible refine (hM.out _ _ _ hr).mono ?_)
  rintro e w2 ⟨rfl, rfl⟩
  go_wp2_with fail
  refine bodyPost_ret (v := .tuple #[.int .i64 0, .int .i64 3]) (by simp [results, Tryz.results17, go_sem]) rfl ⟨rfl, ?_⟩
  go_grown
set_option maxRecDepth 100000 in
set_option maxHeartbeats 3200000 in
theorem refInt_n_ok (n c v : Nat) (hf : Nat → Bool) (A : Option Addr) (sz : Bool) (w : World) (h0 : n ≠ 0) (hn : n ≤ 128) (b off q : Nat) (hq : n = q + 1) (hA : A = some ⟨b, off, none⟩) (hl : b < w.heap.size) (hc : w.cell? ⟨b, off + q, none⟩ = some (.bool true)) (hb : v ≤ 2147483648)
    (hN : ∀ w1, Below w.heap.size w w1 → Calls Tryz.prog 43 #[.slice A n c] w1 (GS w1 n hf))
    (hM : ∀ w1 B d, RB w1 B n hf → Calls Tryz.prog 39 #[.slice B n d, .int .i64 1099511627776] w1 fun e w' => e = .returned (.int .i64 (v : Int)) ∧ w' = w1) : Calls Tryz.prog 17 #[.agg #[.slice A n c, .bool true, .bool sz]] w (RV w (.tuple #[.int .i64 (-(v : Int)), .int .i64 0])) := by
  have nz : ((n : Int) == 0) = false := by simp; omega
  have k1 : decide (2147483648 < (v : Int)) = false := by simp; omega
  have k2 : decide (2147483648 < v) = false := by simp; omega
  have en : IntKind.i64.wrap ((n : Int) - 1) = (q : Int) := by rw [IntWalk.i64_in _ (by omega)]; omega
  have q1 : (q : Int) < (n : Int) := by omega
  have q2 : q < n := by omega
  have ev : IntKind.i64.wrap (-(v : Int)) = -(v : Int) := by exact IntWalk.i64_in _ (by omega)
  subst hA
  replace hN := Lib.hid hN
  replace hM := Lib.hid hM
  clear h0 hn hb hq
  go_enter Tryz.func17, Tryz.ntmps17
  go_wp2_with fail
  (with_reducible refine (hN.out _ (by go_grown)).mono ?_)
  rintro e w1 ⟨B1, d1, rfl, hr, hb1⟩
  have hbw1 : Below w.heap.size w w1 := below_call hb1 (by go_grown)
  clear hb1
  go_wp2_with fail
  (with_reducible refine (hM.out _ _ _ hr).mono ?_)
  rintro e w2 ⟨rfl, rfl⟩
  go_wp2_with fail
  refine bodyPost_ret (v := .tuple #[.int .i64 (-(v : Int)), .int .i64 0]) (by simp [results, Tryz.results17, go_sem]) rfl ⟨rfl, ?_⟩
  go_grown
/-- The reference's Int, of any bits. -/
theorem refInt_t (n c : Nat) (A : Option Addr) (f : Nat → Bool) (sg sz : Bool) (w : World) (hn : n ≤ 128) (hA : RB w A n f) :
    Calls Tryz.prog 17 #[.agg #[.slice A n c, .bool sg, .bool sz]] w (RV w (.tuple #[.int .i64 (inV n (valB f n) sg).1, .int .i64 (inV n (valB f n) sg).2])) := by
  unfold inV
  by_cases h0 : n = 0
  · rw [if_pos h0]; exact refInt_w0 n c A sg sz w h0
  rw [if_neg h0]
  have hx := valB_lt f n
  have hM := fun w1 (hb : Below w.heap.size w w1) => refNum_nat n c 1099511627776 (by decide) A f w1 hn (hA.keep hb)
  have few : ∀ (v : Nat) (sz : Bool), (2147483648 ≤ v → 2147483648 ≤ min v 1099511627776) ∧ (v < 2147483648 → min v 1099511627776 = v) := fun v sz => ⟨fun h => by omega, fun h => by omega⟩
  obtain ⟨q, hq⟩ : ∃ q, n = q + 1 := ⟨n - 1, by omega⟩
  obtain ⟨b, off, hAe, hl, hcs⟩ := hA (by omega)
  have hc := hcs q (by omega)
  have ht : (valB f n).testBit (n - 1) = f q := by rw [valB_testBit]; simp [hq]
  cases sg
  · rw [Bool.false_and, if_neg (by decide)]
    by_cases h2 : 2147483648 ≤ valB f n
    · rw [if_pos h2]
      exact refInt_u_big n c _ A sz w h0 hn ((few _ sz).1 h2) hM
    · rw [if_neg h2]
      have e := (few (valB f n) sz).2 (by omega)
      rw [e] at hM
      exact refInt_u_ok n c _ A sz w h0 hn (by omega) hM
  · rw [Bool.true_and, ht]
    cases hfq : f q
    · rw [if_neg (by decide)]
      rw [hfq] at hc
      by_cases h2 : 2147483648 ≤ valB f n
      · rw [if_pos h2]
        exact refInt_s_big n c _ A sz w h0 hn b off q hq hAe hl hc ((few _ sz).1 h2) hM
      · rw [if_neg h2]
        have e := (few (valB f n) sz).2 (by omega)
        rw [e] at hM
        exact refInt_s_ok n c _ A sz w h0 hn b off q hq hAe hl hc (by omega) hM
    · rw [if_pos rfl]
      rw [hfq] at hc
      have hN := fun w1 (hb : Below w.heap.size w w1) => refNeg_ok n c A f w1 (by omega) (hA.keep hb)
      have hM2 := fun w1 B d (h : RB w1 B n (smB (fun j => !f j) (fun _ => false) true)) => refNum_nat n d 1099511627776 (by decide) B _ w1 hn h
      have hv := neg_val f n
      have hx2 : 2 ^ q ≤ valB f n := by
        have hb : (valB f n).testBit q = true := by rw [← hfq, ← ht, hq]; rfl
        exact Nat.ge_two_pow_of_testBit hb
      have hp := Nat.two_pow_pos q
      have hx3 : valB f n ≠ 0 := by omega
      have e : (0 + 2 ^ n - valB f n) % 2 ^ n = 2 ^ n - valB f n := by rw [Nat.zero_add]; exact Nat.mod_eq_of_lt (by omega)
      rw [e] at hv
      generalize 2 ^ n = M at *
      by_cases h2 : 2147483648 ≤ M - 1 - valB f n
      · rw [if_pos h2]
        simp only [hv] at hM2
        exact refInt_n_big n c _ _ A sz w h0 hn b off q hq hAe hl hc (by omega) hN hM2
      · rw [if_neg h2]
        have e3 : min (M - valB f n) 1099511627776 = M - valB f n := by omega
        simp only [hv, e3] at hM2
        have k := refInt_n_ok n c _ _ A sz w h0 hn b off q hq hAe hl hc (by omega) hN hM2
        rw [show (-1 - ((M - 1 - valB f n : Nat) : Int)) = -((M - valB f n : Nat) : Int) by omega]
        exact k
end Go.Proofs.YtalmhopbnaeamaaGreatDoor
