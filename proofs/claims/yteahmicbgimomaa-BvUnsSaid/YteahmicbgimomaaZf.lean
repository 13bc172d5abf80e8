/-
  The walk of the statement BvUns.
-/
import Derived.Test.YteahmicbgimomaaZe
namespace Go.Proofs.Yteahmicbgimomaa
open Go.RowKit
attribute [local go_sem ↓] Go.wp_at_zero Go.wp_at_succ
set_option maxRecDepth 1000000 in
set_option maxHeartbeats 4000000 in
theorem Uns_a (n0 n c : Nat) (A : Option Addr) (f : Nat → Bool) (w : World) (hn : n ≤ 128) (hA : RB w A n f)
    (hS : ∀ w, Calls Try.prog 14 #[.slice A n0 c] w fun e w' => e = .returned (.slice A n c) ∧ w' = w)
    (hO : ∀ w, RB w A n f → Calls Try.prog 25 #[.slice A n c] w (RV w (vv n (valB f n))))
    
    (hU : ∀ k : Nat, k < 8 → ∃ (nk : Nat) (hk : Nat → Bool) (ek : Int), nk ≤ 128 ∧ (∀ w, Calls Try.prog 28 #[.int .i64 ((k : Int) - 1), vv n (valB f n)] w (RV w (.tuple #[vv nk (valB hk nk), .int .i64 ek]))) ∧
      (∀ w, RB w A n f → Calls Try.prog 29 #[.int .i64 ((k : Int) - 1), .slice A n c] w (LB w nk hk ek))) :
    Calls Try.prog 5 #[.slice A n0 c] w (RV w (.bool true)) := by
  have hA2 : RB w A n f := hA
  have cI := fun w (h : RB w A n f) => Is_ok n c A f w hn h
  have cIk := fun nk (hk : Nat → Bool) (hn : nk ≤ 128) w c1 A1 (h : RB w A1 nk hk) => Is_ok nk c1 A1 hk w hn h
  have d128 : ¬ (128 : Int) < (n : Int) := by omega
  generalize valB f n = x at *
  replace hA := Lib.hid hA
  replace hA2 := Lib.hid hA2
  replace hS := Lib.hid hS
  replace hO := Lib.hid hO
  replace hU := Lib.hid hU
  replace cI := Lib.hid cI
  replace cIk := Lib.hid cIk
  go_enter Try.func5, Try.ntmps5
  go_wp2_with fail
  (with_reducible refine (awake_t _).mono ?_)
  rintro e w1 ⟨rfl, hbw1⟩
  go_wp2_with fail
  (with_reducible refine (hS.out _).mono ?_)
  rintro e w0 ⟨rfl, rfl⟩
  go_wp2_with fail
  (with_reducible refine (hO.out _ (hA.out.keep hbw1)).mono ?_)
  rintro e w2 ⟨rfl, hb2⟩
  have hbw2 : Below w.heap.size w w2 := below_call hb2 hbw1
  have s2 := hbw2.size
  have X0 := HV.new w2 29 n x
  clear hb2 hbw1
  go_wp2_with fail
  go_loopw [4] (fun i wr => ∃ k : Nat, k ≤ 8 ∧ i = .int .i64 ((k : Int) - 1) ∧ HV 29 wr w2.heap.size n x ∧ Below w.heap.size w wr) (fun i _ => (7 - intOf i).toNat)
  case atStart => exact ⟨0, by omega, rfl, X0, by go_grown⟩
  case round =>
    obtain ⟨k, hk, rfl, V, hbw⟩ := hrel
    clear X0 hbw2
    by_cases hlt : k < 8
    · obtain ⟨nk, hk2, ek, hnk, cU, cR⟩ := hU.out k hlt
      have cJ := cIk.out nk hk2 hnk
      generalize valB hk2 nk = xk at cU cJ
      obtain ⟨op, hop⟩ : ∃ op : Int, (k : Int) - 1 = op := ⟨_, rfl⟩
      rw [hop] at cU cR
      rw [hop]
      have o1 : -1 ≤ op := by omega
      have o2 : op ≤ 6 := by omega
      have nx : Value.int .i64 (op + 1) = Value.int .i64 (((k + 1 : Nat) : Int) - 1) := by congr 1; omega
      have ee : (ek != ek) = false := by simp
      clear hop
      replace nx := Lib.hid nx
      replace cU := Lib.hid cU
      replace cR := Lib.hid cR
      replace cJ := Lib.hid cJ
      have v := V.all
      go_wp2_with fail
      (with_reducible refine (cU.out _).mono ?_)
      rintro e w3 ⟨rfl, hb3⟩
      have hbw3 : Below w.heap.size w w3 := below_call hb3 hbw
      have s3 := hbw3.size
      have V3 := V.over hb3
      clear hb3 hbw V v
      go_wp2_with fail
      (with_reducible refine (cR.out _ (hA2.out.keep (by go_grown))).mono ?_)
      rintro e w4 ⟨Ak, ck, rfl, Rk, hb4⟩
      have hbw4 : Below w.heap.size w w4 := below_call hb4 (by go_grown)
      have K4 := (HV.new w3 29 nk xk).over hb4
      have V4 := (V3.alloc _).over hb4
      have k4 := K4.all
      clear hb4 hbw3 V3
      go_wp2_with fail
      (with_reducible refine (cJ.out _ _ _ Rk).mono ?_)
      rintro e w5 ⟨rfl, hb5⟩
      have hbw5 : Below w.heap.size w w5 := below_call hb5 hbw4
      have V5 := V4.over hb5
      have v5 := V5.all
      clear hb5 hbw4 V4 K4 k4 Rk
      go_wp2_with fail
      (with_reducible refine (cI.out _ (hA2.out.keep hbw5)).mono ?_)
      rintro e w6 ⟨rfl, hb6⟩
      have hbw6 : Below w.heap.size w w6 := below_call hb6 hbw5
      have V6 := V5.over hb6
      clear hb6 hbw5 V5 v5
      go_wp2_with fail
      go_roundw
      case rel => exact ⟨k + 1, by omega, nx.out, V6, hbw6⟩
      case measure => simp [intOf]; omega
    · obtain rfl : k = 8 := by omega
      clear V hlt hk
      go_wp2_with fail
      go_ret
      exact ⟨rfl, hbw⟩
set_option maxRecDepth 1000000 in
set_option maxHeartbeats 4000000 in
theorem Uns_b (n0 n c m x : Nat) (A : Option Addr) (f : Nat → Bool) (w : World) (hn : 128 < n) (hA : RB w A n f)
    (hS : ∀ w, Calls Try.prog 14 #[.slice A n0 c] w fun e w' => e = .returned (.slice A n c) ∧ w' = w)
    (hO : ∀ w, RB w A n f → Calls Try.prog 25 #[.slice A n c] w (RV w (vv m x)))
    (hIs : ∀ w, Calls Try.prog 17 #[vv m x, .slice none 0 0] w (RV w (.bool true)))
    (hU : ∀ k : Nat, k < 8 → ∃ (nk : Nat) (hk : Nat → Bool) (ek : Int), nk ≤ 128 ∧ (∀ w, Calls Try.prog 28 #[.int .i64 ((k : Int) - 1), vv m x] w (RV w (.tuple #[vv nk (valB hk nk), .int .i64 ek]))) ∧
      (∀ w, RB w none 0 f → Calls Try.prog 29 #[.int .i64 ((k : Int) - 1), .slice none 0 0] w (LB w nk hk ek))) :
    Calls Try.prog 5 #[.slice A n0 c] w (RV w (.bool true)) := by
  have hA2 : RB w none 0 f := fun h => absurd h (by omega)
  have cI := fun w (_ : RB w none 0 f) => hIs w
  have cIk := fun nk (hk : Nat → Bool) (hn : nk ≤ 128) w c1 A1 (h : RB w A1 nk hk) => Is_ok nk c1 A1 hk w hn h
  have d128 : (128 : Int) < (n : Int) := by omega
  clear hIs
  replace hA := Lib.hid hA
  replace hA2 := Lib.hid hA2
  replace hS := Lib.hid hS
  replace hO := Lib.hid hO
  replace hU := Lib.hid hU
  replace cI := Lib.hid cI
  replace cIk := Lib.hid cIk
  go_enter Try.func5, Try.ntmps5
  go_wp2_with fail
  (with_reducible refine (awake_t _).mono ?_)
  rintro e w1 ⟨rfl, hbw1⟩
  go_wp2_with fail
  (with_reducible refine (hS.out _).mono ?_)
  rintro e w0 ⟨rfl, rfl⟩
  go_wp2_with fail
  (with_reducible refine (hO.out _ (hA.out.keep hbw1)).mono ?_)
  rintro e w2 ⟨rfl, hb2⟩
  have hbw2 : Below w.heap.size w w2 := below_call hb2 hbw1
  have s2 := hbw2.size
  have X0 := HV.new w2 29 m x
  clear hb2 hbw1
  go_wp2_with fail
  go_loopw [4] (fun i wr => ∃ k : Nat, k ≤ 8 ∧ i = .int .i64 ((k : Int) - 1) ∧ HV 29 wr w2.heap.size m x ∧ Below w.heap.size w wr) (fun i _ => (7 - intOf i).toNat)
  case atStart => exact ⟨0, by omega, rfl, X0, by go_grown⟩
  case round =>
    obtain ⟨k, hk, rfl, V, hbw⟩ := hrel
    clear X0 hbw2
    by_cases hlt : k < 8
    · obtain ⟨nk, hk2, ek, hnk, cU, cR⟩ := hU.out k hlt
      have cJ := cIk.out nk hk2 hnk
      generalize valB hk2 nk = xk at cU cJ
      obtain ⟨op, hop⟩ : ∃ op : Int, (k : Int) - 1 = op := ⟨_, rfl⟩
      rw [hop] at cU cR
      rw [hop]
      have o1 : -1 ≤ op := by omega
      have o2 : op ≤ 6 := by omega
      have nx : Value.int .i64 (op + 1) = Value.int .i64 (((k + 1 : Nat) : Int) - 1) := by congr 1; omega
      have ee : (ek != ek) = false := by simp
      clear hop
      replace nx := Lib.hid nx
      replace cU := Lib.hid cU
      replace cR := Lib.hid cR
      replace cJ := Lib.hid cJ
      have v := V.all
      go_wp2_with fail
      (with_reducible refine (cU.out _).mono ?_)
      rintro e w3 ⟨rfl, hb3⟩
      have hbw3 : Below w.heap.size w w3 := below_call hb3 hbw
      have s3 := hbw3.size
      have V3 := V.over hb3
      clear hb3 hbw V v
      go_wp2_with fail
      (with_reducible refine (cR.out _ (hA2.out.keep (by go_grown))).mono ?_)
      rintro e w4 ⟨Ak, ck, rfl, Rk, hb4⟩
      have hbw4 : Below w.heap.size w w4 := below_call hb4 (by go_grown)
      have K4 := (HV.new w3 29 nk xk).over hb4
      have V4 := (V3.alloc _).over hb4
      have k4 := K4.all
      clear hb4 hbw3 V3
      go_wp2_with fail
      (with_reducible refine (cJ.out _ _ _ Rk).mono ?_)
      rintro e w5 ⟨rfl, hb5⟩
      have hbw5 : Below w.heap.size w w5 := below_call hb5 hbw4
      have V5 := V4.over hb5
      have v5 := V5.all
      clear hb5 hbw4 V4 K4 k4 Rk
      go_wp2_with fail
      (with_reducible refine (cI.out _ (hA2.out.keep hbw5)).mono ?_)
      rintro e w6 ⟨rfl, hb6⟩
      have hbw6 : Below w.heap.size w w6 := below_call hb6 hbw5
      have V6 := V5.over hb6
      clear hb6 hbw5 V5 v5
      go_wp2_with fail
      go_roundw
      case rel => exact ⟨k + 1, by omega, nx.out, V6, hbw6⟩
      case measure => simp [intOf]; omega
    · obtain rfl : k = 8 := by omega
      clear V hlt hk
      go_wp2_with fail
      go_ret
      exact ⟨rfl, hbw⟩
theorem not_two (n x : Nat) (hx : x < 2 ^ n) : (2 ^ n - 1 - x == 0) = (x == 2 ^ n - 1) := by
  rw [Bool.eq_iff_iff]; simp; omega
theorem uns_pack (n c : Nat) (A : Option Addr) (f : Nat → Bool) (hn : n ≤ 128) : ∀ k : Nat, k < 8 → ∃ (nk : Nat) (hk : Nat → Bool) (ek : Int), nk ≤ 128 ∧ (∀ w, Calls Try.prog 28 #[.int .i64 ((k : Int) - 1), vv n (valB f n)] w (RV w (.tuple #[vv nk (valB hk nk), .int .i64 ek]))) ∧
      (∀ w, RB w A n f → Calls Try.prog 29 #[.int .i64 ((k : Int) - 1), .slice A n c] w (LB w nk hk ek)) := by
  intro k hk
  have hx := valB_lt f n
  have hx128 : valB f n < 2 ^ 128 := Nat.lt_of_lt_of_le hx (Nat.pow_le_pow_right (by decide) hn)
  by_cases hb : k = 0 ∨ k = 7
  · exact ⟨0, fun _ => false, 1, by omega, fun w => Un_bad _ n _ w (by omega), fun w _ => refUn_bad _ n c A _ w (by omega)⟩
  by_cases h0 : n = 0
  · subst h0
    exact ⟨0, fun _ => false, 2, by omega, fun w => Un_none _ _ w (by omega) (by omega), fun w _ => refUn_none _ c A _ w (by omega) (by omega)⟩
  have h1 : 1 ≤ n := by omega
  obtain h | h | h | h | h | h : k = 1 ∨ k = 2 ∨ k = 3 ∨ k = 4 ∨ k = 5 ∨ k = 6 := by omega
  · subst h
    exact ⟨n, _, 0, hn, fun w => by rw [not_val]; exact Un_0 n _ w h1 hn hx, fun w h => refUn_0 n c A f w h1 hn h⟩
  · subst h
    exact ⟨n, _, 0, hn, fun w => by rw [neg_val]; exact Un_1 n _ w h1 hn hx, fun w h => refUn_1 n c A f w h1 hn h⟩
  · subst h
    refine ⟨1, (fun _ => !(!(valB (fun j => !f j) n == 0))), 0, by omega, fun w => ?_, fun w h => refUn_2 n c A f w h1 hn h⟩
    rw [valB_one, Bool.not_not, not_val, not_two n _ hx]
    exact Un_2 n _ w h1 hn
  · subst h
    refine ⟨1, (fun _ => !(valB f n == 0)), 0, by omega, fun w => ?_, fun w h => refUn_3 n c A f w h1 hn h⟩
    rw [valB_one]
    exact Un_3 n _ w h1
  · subst h
    refine ⟨1, (fun _ => xrB f n), 0, by omega, fun w => ?_, fun w h => refUn_4 n c A f w h1 hn h⟩
    rw [valB_one, ← par_row f n hn]
    exact Un_4 n _ w h1 hx128
  · subst h
    refine ⟨1, (fun _ => !(!(valB f n == 0))), 0, by omega, fun w => ?_, fun w h => refUn_5 n c A f w h1 hn h⟩
    rw [valB_one, Bool.not_not]
    exact Un_5 n _ w h1
end Go.Proofs.Yteahmicbgimomaa
