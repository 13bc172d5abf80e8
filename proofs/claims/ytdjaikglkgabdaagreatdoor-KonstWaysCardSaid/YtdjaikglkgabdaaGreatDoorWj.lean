/-
  The walk of bv's divide: long division.
  The walk of bv's divide where the divisor is not 0.
-/
import Derived.Test.YtdjaikglkgabdaaGreatDoorWg
import Derived.Test.YtdjaikglkgabdaaGreatDoorM
import Derived.Deep.DeepCutAuto
import Derived.Test.YtdjaikglkgabdaaGreatDoorRt
import Derived.Deep.Light
namespace Go.Proofs.YtdjaikglkgabdaaGreatDoor
open Go.RowKit
set_option maxRecDepth 100000 in
set_option maxHeartbeats 400000 in
theorem divide_zero (n x : Nat) (w : World) (hn : n ≤ 128) :
    Calls Tryz.prog 130 #[vv n x, vv n 0] w (RV w (.tuple #[vv n (2 ^ n - 1), vv n x])) := by
  have hz := fun w => isZero_v n 0 w
  have e0 : ((0 : Nat) == 0) = true := rfl
  rw [e0] at hz
  clear e0
  have hz := Lib.hid hz
  have ho := Lib.hid (fun w => ones_v n w hn)
  go_enter Tryz.func130, Tryz.ntmps130
  go_wp2_with (go_at_call 117; (with_reducible refine (hz.out _).mono ?_); rintro e w1 ⟨rfl, hb1⟩; obtain ⟨A1, B1, Q1, R1, hbw1⟩ := start4 hb1; have a1 := A1.all; have q1 := Q1.all; have r1 := R1.all; clear hb1)
  go_region_held3 (fun w' => w'.cell? ⟨w.heap.size, 0, none⟩ = some (.int .i64 (n : Int)) ∧ w'.cell? ⟨w.heap.size, 1, none⟩ = some (.int .u64 ((lo x : Nat) : Int)) ∧ w'.cell? ⟨w.heap.size, 2, none⟩ = some (.int .u64 ((hi x : Nat) : Int)))
    (first | (with_reducible exact A2.keep3) | (with_reducible exact (A2.far3 (by omega)).keep3) | (with_reducible exact ((A2.far3 (by omega)).far3 (by omega)).keep3) | (with_reducible exact A1.drew.keep3))
    (first | (go_at_call 116; (with_reducible refine (ho.out _).mono ?_); rintro e w2 ⟨rfl, hb2⟩; have A2 := A1.drew.over hb2; have Q2 := Q1.drew.over hb2; have R2 := R1.drew.over hb2; have hbw2 : Below w.heap.size w w2 := below_call hb2 hbw1.drew; have a2 := A2.all; have q2 := Q2.all; have r2 := R2.all; clear a1 q1 r1))
  go_wp2
  have Q3 := Q2.set3 n (2 ^ n - 1)
  have R3 := R2.set3 n x
  refine bodyPost_ret (v := .tuple #[vv n (2 ^ n - 1), vv n x]) (by simp [results, Tryz.results130, go_sem, q2, r2]) rfl ⟨rfl, ?_⟩
  repeat' (first | (with_reducible refine Below.setCell ?_ ?_ _))
  all_goals (first | exact hbw2 | (have := hbw2.size; go_size))

end Go.Proofs.YtdjaikglkgabdaaGreatDoor
namespace Go.Proofs.YtdjaikglkgabdaaGreatDoor
open Go.RowKit
set_option maxRecDepth 100000 in
set_option maxHeartbeats 2000000 in
theorem divide_pos (n x y : Nat) (w : World) (hn : n ≤ 128) (hx : x < 2 ^ n) (hy : 0 < y) (hyn : y < 2 ^ n) :
    Calls Tryz.prog 130 #[vv n x, vv n y] w (RV w (.tuple #[vv n (x / y), vv n (x % y)])) := by
  have hz := fun w => isZero_v n y w
  have e0 : (y == 0) = false := by simp; omega
  rw [e0] at hz
  clear e0
  replace hz := Lib.hid hz
  have e1 : ((1 : Nat) : Int) = 1 := rfl
  go_enter Tryz.func130, Tryz.ntmps130
  go_wp2_with (go_at_call 117; (with_reducible refine (hz.out _).mono ?_); rintro e w1 ⟨rfl, hb1⟩; obtain ⟨A1, B1, Q1, R1, hbw1⟩ := start4 hb1; have a1 := A1.all; have q1 := Q1.all; have r1 := R1.all; clear hb1)
  go_region_held3 (fun w' => w'.cell? ⟨w.heap.size, 0, none⟩ = some (.int .i64 (n : Int)))
    (first | (with_reducible exact A1.drew.c0) | (with_reducible exact (A1.far3 (by omega)).drew.c0) | (with_reducible exact ((A1.far3 (by omega)).far3 (by omega)).drew.c0)) (fail)
  have A2 := (A1.far3 (d := w.heap.size + 1 + 1) (i := 0) (j := 1) (k := 2) (u := .int .i64 (n : Int)) (v := .int .u64 0) (z := .int .u64 0) (by omega)).far3 (d := w.heap.size + 1 + 1 + 1) (i := 0) (j := 1) (k := 2) (u := .int .i64 (n : Int)) (v := .int .u64 0) (z := .int .u64 0) (by omega)
  have B2 := (B1.far3 (d := w.heap.size + 1 + 1) (i := 0) (j := 1) (k := 2) (u := .int .i64 (n : Int)) (v := .int .u64 0) (z := .int .u64 0) (by omega)).far3 (d := w.heap.size + 1 + 1 + 1) (i := 0) (j := 1) (k := 2) (u := .int .i64 (n : Int)) (v := .int .u64 0) (z := .int .u64 0) (by omega)
  have Q2 := (Q1.set3 n 0).far3 (d := w.heap.size + 1 + 1 + 1) (i := 0) (j := 1) (k := 2) (u := .int .i64 (n : Int)) (v := .int .u64 0) (z := .int .u64 0) (by omega)
  have R2 := (R1.far3 (d := w.heap.size + 1 + 1) (i := 0) (j := 1) (k := 2) (u := .int .i64 (n : Int)) (v := .int .u64 0) (z := .int .u64 0) (by omega)).set3 n 0
  have hbw2 : Below w.heap.size w ((((((w1.setCell ⟨w.heap.size + 1 + 1, 0, none⟩ (.int .i64 (n : Int))).setCell ⟨w.heap.size + 1 + 1, 1, none⟩ (.int .u64 0)).setCell ⟨w.heap.size + 1 + 1, 2, none⟩ (.int .u64 0)).setCell ⟨w.heap.size + 1 + 1 + 1, 0, none⟩ (.int .i64 (n : Int))).setCell ⟨w.heap.size + 1 + 1 + 1, 1, none⟩ (.int .u64 0)).setCell ⟨w.heap.size + 1 + 1 + 1, 2, none⟩ (.int .u64 0)) := by
    repeat' (first | (with_reducible refine Below.setCell ?_ ?_ _))
    all_goals (first | exact hbw1 | go_size)
  clear a1 q1 r1 A1 B1 Q1 R1 hbw1
  go_wp2
  go_loopw [22] (fun i wr => ∃ k : Nat, k ≤ n ∧ i = .int .i64 (k : Int) ∧ HV 106 wr w.heap.size n x ∧ HV 106 wr (w.heap.size + 1) n y ∧ HV 106 wr (w.heap.size + 1 + 1) n (quoK n x y k) ∧ HV 106 wr (w.heap.size + 1 + 1 + 1) n (remK n x y k) ∧ Below w.heap.size w wr) (fun i _ => n - (intOf i).toNat)
  case atStart =>
    refine ⟨0, Nat.zero_le _, rfl, A2.drew, B2.drew, ?_, ?_, hbw2.drew⟩
    · rw [quoK_zero n x y hx]; exact Q2.drew
    · rw [remK_zero n x y hx]; exact R2.drew
  case round =>
    clear A2 B2 Q2 R2 hbw2
    obtain ⟨k, hk, rfl, A3, B3, Q3, R3, hbw3⟩ := hrel
    by_cases hlt : k < n
    · have hq : quoK n x y k < 2 ^ n := Nat.lt_of_lt_of_le (quoK_lt n x y k hx (by omega)) (Nat.pow_le_pow_right (by decide) (by omega))
      have hr := remK_lt n x y k hy
      have hN := fun w => isNegative_v n (remK n x y k) w hn (by omega)
      have hB := fun w => bitOf_v n x ((n : Int) - 1 - (k : Int)) w hn hx
      rw [bitI_top_k n x k hlt] at hB
      have hS := fun w => sum_v n (remK n x y k) (remK n x y k) (bitK n x k) w hn (bitK_le n x k)
      have hU := fun w => shiftUp_v n (quoK n x y k) 1 w hn (by omega)
      rw [quo_shift n x y k hx hlt, e1] at hU
      have hL := fun w => less_v n n (remM n x y k) y w
      have hD := fun w => difference_v n (remM n x y k) y w hn hyn
      have hO := or_one_form (quoK n x y k)
      have hE := hi_even (quoK n x y k)
      have hyes := step_yes n x y k hy hyn hlt
      have hno := step_no n x y k hy hyn hlt
      change ∀ w, Calls Tryz.prog 128 _ w (RV w (vv n (remM n x y k))) at hS
      have w0 : IntKind.i64.wrap ((n : Int) - 1) = (n : Int) - 1 := IntWalk.i64_in _ (by omega)
      have w1' : IntKind.i64.wrap ((n : Int) - 1 - (k : Int)) = (n : Int) - 1 - (k : Int) := IntWalk.i64_in _ (by omega)
      clear hx hy hyn hq hr
      obtain ⟨q', hdq⟩ : ∃ q', quoK n x y (k + 1) = q' := ⟨_, rfl⟩
      obtain ⟨r', hdr⟩ : ∃ r', remK n x y (k + 1) = r' := ⟨_, rfl⟩
      rw [hdq, hdr] at hyes hno
      replace hdq := Lib.hid hdq
      replace hdr := Lib.hid hdr
      generalize remM n x y k = rm at *
      generalize quoK n x y k = q at *
      generalize remK n x y k = r at *
      generalize bitK n x k = bt at *
      have a3 := A3.all
      have q3 := Q3.all
      have r3 := R3.all
      have b3 := B3.all
      obtain ⟨ov, hov⟩ : ∃ ov : Bool, r.testBit (n - 1) = ov := ⟨_, rfl⟩
      rw [hov] at hN hyes hno
      clear hov
      obtain ⟨ls, hls⟩ : ∃ ls : Bool, decide (rm < y) = ls := ⟨_, rfl⟩
      have hls2 : (rm < y) = (ls = true) := by rw [← hls]; simp
      rw [hls2] at hyes hno
      simp only [hls] at hL
      clear hls hls2
      replace hN := Lib.hid hN
      replace hB := Lib.hid hB
      replace hS := Lib.hid hS
      replace hU := Lib.hid hU
      replace hL := Lib.hid hL
      replace hD := Lib.hid hD
      replace hE := Lib.hid hE
      replace hyes := Lib.hid hyes
      replace hno := Lib.hid hno
      go_wp2_with (go_at_call 137; (with_reducible refine (hN.out _).mono ?_); rintro e w4 ⟨rfl, hb4⟩; have A4 := A3.over hb4; have B4 := B3.over hb4; have Q4 := Q3.over hb4; have R4 := R3.over hb4; have hbw4 : Below w.heap.size w w4 := below_call hb4 hbw3; have a4 := A4.all; have q4 := Q4.all; have r4 := R4.all; have b4 := B4.all; clear a3 b3 q3 r3 A3 B3 Q3 R3 hb4 hbw3)
      go_cut [] (fun wz => HV 106 wz w.heap.size n x ∧ HV 106 wz (w.heap.size + 1) n y ∧ HV 106 wz (w.heap.size + 1 + 1) n q ∧ HV 106 wz (w.heap.size + 1 + 1 + 1) n rm ∧ Below w.heap.size w wz)
      case first =>
        clear hyes hno hO hE hU hL hD hN hz e1 b4
        clear hk hlt a4 r4
        have a4 := A4.keep3
        have r4 := R4.keep3
        have f4 := R4.fz
        clear f4
        have hS0 : (w4.drew.cell? ⟨w.heap.size, 0, none⟩ = some (.int .i64 (n : Int)) ∧ w4.drew.cell? ⟨w.heap.size, 1, none⟩ = some (.int .u64 (lo x)) ∧ w4.drew.cell? ⟨w.heap.size, 2, none⟩ = some (.int .u64 (hi x))) ∧ (w4.drew.cell? ⟨w.heap.size + 1 + 1 + 1, 0, none⟩ = some (.int .i64 (n : Int)) ∧ w4.drew.cell? ⟨w.heap.size + 1 + 1 + 1, 1, none⟩ = some (.int .u64 (lo r)) ∧ w4.drew.cell? ⟨w.heap.size + 1 + 1 + 1, 2, none⟩ = some (.int .u64 (hi r))) := ⟨A4.drew.keep3, R4.drew.keep3⟩
        refine region_anyT (n := 10) (S := fun w' => (w'.cell? ⟨w.heap.size, 0, none⟩ = some (.int .i64 (n : Int)) ∧ w'.cell? ⟨w.heap.size, 1, none⟩ = some (.int .u64 (lo x)) ∧ w'.cell? ⟨w.heap.size, 2, none⟩ = some (.int .u64 (hi x))) ∧ (w'.cell? ⟨w.heap.size + 1 + 1 + 1, 0, none⟩ = some (.int .i64 (n : Int)) ∧ w'.cell? ⟨w.heap.size + 1 + 1 + 1, 1, none⟩ = some (.int .u64 (lo r)) ∧ w'.cell? ⟨w.heap.size + 1 + 1 + 1, 2, none⟩ = some (.int .u64 (hi r)))) (by kernel_rfl) ?_
        clear a4 r4 q4
        refine anyT_take (i := 0) (v := vv n r) rfl (by kernel_rfl) (by kernel_rfl) (fun _ _ _ h => h) (Or.inl ⟨by rfl, ?_⟩) hS0 ?_
        · intro w' hw'
          obtain ⟨⟨k1, k2, k3⟩, k4, k5, k6⟩ := hw'
          go_simp
          try with_reducible rfl
        simp only [Act.put, List.setIfInBounds_toArray]
        refine anyT_take (i := 1) (v := vv n r) rfl (by kernel_rfl) (by kernel_rfl) (fun _ _ _ h => h) (Or.inl ⟨by rfl, ?_⟩) hS0 ?_
        · intro w' hw'
          obtain ⟨⟨k1, k2, k3⟩, k4, k5, k6⟩ := hw'
          go_simp
          try with_reducible rfl
        try simp only [Act.put]
        refine anyT_take (i := 2) (v := vv n x) rfl (by kernel_rfl) (by kernel_rfl) (fun _ _ _ h => h) (Or.inl ⟨by rfl, ?_⟩) hS0 ?_
        · intro w' hw'
          obtain ⟨⟨k1, k2, k3⟩, k4, k5, k6⟩ := hw'
          go_simp
          try with_reducible rfl
        try simp only [Act.put]
        refine anyT_take (i := 3) (v := .pointer (some ⟨w.heap.size, 0, none⟩)) rfl (by kernel_rfl) (by kernel_rfl) (fun _ _ _ h => h) (Or.inl ⟨by rfl, ?_⟩) hS0 ?_
        · intro w' hw'
          obtain ⟨⟨k1, k2, k3⟩, k4, k5, k6⟩ := hw'
          go_simp
          try with_reducible rfl
        try simp only [Act.put]
        refine anyT_take (i := 4) (v := .int .i64 (n : Int)) rfl (by kernel_rfl) (by kernel_rfl) (fun _ _ _ h => h) (Or.inl ⟨by rfl, ?_⟩) hS0 ?_
        · intro w' hw'
          obtain ⟨⟨k1, k2, k3⟩, k4, k5, k6⟩ := hw'
          go_simp
          try with_reducible rfl
        try simp only [Act.put]
        refine anyT_take (i := 5) (v := .int .i64 ((n : Int) - 1)) rfl (by kernel_rfl) (by kernel_rfl) (fun _ _ _ h => h) (Or.inl ⟨by rfl, ?_⟩) hS0 ?_
        · intro w' hw'
          obtain ⟨⟨k1, k2, k3⟩, k4, k5, k6⟩ := hw'
          go_simp
          try with_reducible rfl
        try simp only [Act.put]
        refine anyT_take (i := 6) (v := .int .i64 (k : Int)) rfl (by kernel_rfl) (by kernel_rfl) (fun _ _ _ h => h) (Or.inl ⟨by rfl, ?_⟩) hS0 ?_
        · intro w' hw'
          obtain ⟨⟨k1, k2, k3⟩, k4, k5, k6⟩ := hw'
          go_simp
          try with_reducible rfl
        try simp only [Act.put]
        refine anyT_take (i := 7) (v := .int .i64 ((n : Int) - 1 - (k : Int))) rfl (by kernel_rfl) (by kernel_rfl) (fun _ _ _ h => h) (Or.inl ⟨by rfl, ?_⟩) hS0 ?_
        · intro w' hw'
          obtain ⟨⟨k1, k2, k3⟩, k4, k5, k6⟩ := hw'
          go_simp
          try with_reducible rfl
        try simp only [Act.put]
        refine anyT_one (i := 8) (by kernel_rfl) ?_
        refine wpOp_step rfl (fun K hK => ?_)
        replace hK := Lib.hid hK
        go_simp
        (with_reducible refine (hB.out _).mono ?_)
        rintro e w5 ⟨rfl, hb5⟩
        have A5 := A4.drew.over hb5
        have B5 := B4.drew.over hb5
        have Q5 := Q4.drew.over hb5
        have R5 := R4.drew.over hb5
        have hbw5 : Below w.heap.size w w5 := below_call hb5 hbw4.drew
        clear hb5 A4 B4 Q4 R4 hbw4 hB hS0
        refine hK.out _ _ ⟨fun _ => ⟨A5.keep3, R5.keep3⟩, ?_⟩
        clear hK K
        try simp only [Act.put]
        refine anyT_one (i := 9) (by kernel_rfl) ?_
        refine wpOp_step rfl (fun K hK => ?_)
        replace hK := Lib.hid hK
        go_simp
        (with_reducible refine (hS.out _).mono ?_)
        rintro e w6 ⟨rfl, hb6⟩
        have A6 := A5.over hb6
        have B6 := B5.over hb6
        have Q6 := Q5.over hb6
        have R6 := R5.over hb6
        have hbw6 : Below w.heap.size w w6 := below_call hb6 hbw5
        clear hb6 A5 B5 Q5 R5 hbw5 hS
        refine hK.out _ _ ⟨fun _ => ⟨A6.keep3, R6.keep3⟩, ?_⟩
        clear hK K
        try simp only [Act.put]
        have r6 := R6.all
        refine anyT_one (i := 10) (by kernel_rfl) ?_
        refine wpOp_step rfl (fun K hK => ?_)
        replace hK := Lib.hid hK
        go_simp
        refine hK.out _ _ ⟨fun h => absurd h (by decide), ?_⟩
        clear hK K r6
        refine anyT_done (by kernel_rfl) ?_ _
        go_wp2_with fail
        go_meet
        refine ⟨A6.far3 (by omega), B6.far3 (by omega), Q6.far3 (by omega), R6.set3 n rm, ?_⟩
        repeat' (first | (with_reducible refine Below.setCell ?_ ?_ _))
        all_goals (first | exact hbw6 | go_size)
      case rest =>
        obtain ⟨A5, B5, Q5, R5, hbw5⟩ := hcut
        clear A4 B4 Q4 R4 hbw4 a4 q4 r4 b4 hN hB hS
        have q5 := Q5.all
        go_wp2_with fail
        (with_reducible refine (hU.out _).mono ?_)
        rintro e w6 ⟨rfl, hb6⟩
        have A6 := A5.over hb6
        have B6 := B5.over hb6
        have Q6 := Q5.over hb6
        have R6 := R5.over hb6
        have hbw6 : Below w.heap.size w w6 := below_call hb6 hbw5
        clear hb6 A5 B5 Q5 R5 hbw5 q5 hU
        have q6 := Q6.all
        have r6 := R6.all
        have b6 := B6.all
        cases ov
        · go_wp2_with fail
          (with_reducible refine (hL.out _).mono ?_)
          rintro e w7 ⟨rfl, hb7⟩
          have hbw7 : Below w.heap.size w w7 := below_call hb7 (by
            repeat' (first | (with_reducible refine Below.setCell ?_ ?_ _))
            all_goals (first | exact hbw6 | go_size))
          have A7 := (A6.far3 (by omega)).over hb7
          have B7 := (B6.far3 (by omega)).over hb7
          have Q7 := (Q6.set3 n (2 * q)).over hb7
          have R7 := (R6.far3 (by omega)).over hb7
          clear hb7 A6 B6 Q6 R6 hbw6 q6 r6 b6 hL
          have q7 := Q7.all
          have r7 := R7.all
          have b7 := B7.all
          cases ls
          · go_wp2_with fail
            (with_reducible refine (hD.out _).mono ?_)
            rintro e w8 ⟨rfl, hb8⟩
            have A8 := A7.over hb8
            have B8 := B7.over hb8
            have Q8 := Q7.over hb8
            have R8 := R7.over hb8
            have hbw8 : Below w.heap.size w w8 := below_call hb8 hbw7
            clear hb8 A7 B7 Q7 R7 hbw7 hD q7 r7 b7
            have q8 := Q8.all
            have r8 := R8.all
            go_wp2_with fail
            obtain ⟨y1, y2⟩ := hyes.out (Or.inr (by simp))
            have Q9 := (Q8.far3 (d := w.heap.size + 1 + 1 + 1) (i := 0) (j := 1) (k := 2) (u := .int .i64 (n : Int)) (v := .int .u64 ((lo ((rm + 2 ^ n - y) % 2 ^ n) : Nat) : Int)) (z := .int .u64 ((hi ((rm + 2 ^ n - y) % 2 ^ n) : Nat) : Int)) (by omega)).set1 (2 * q + 1) hE.out
            have R9 := (R8.set3 n ((rm + 2 ^ n - y) % 2 ^ n)).far (p := ⟨w.heap.size + 1 + 1, 1, none⟩) (by simp) (.int .u64 ((lo (2 * q + 1) : Nat) : Int))
            have A9 := (A8.far3 (d := w.heap.size + 1 + 1 + 1) (i := 0) (j := 1) (k := 2) (u := .int .i64 (n : Int)) (v := .int .u64 ((lo ((rm + 2 ^ n - y) % 2 ^ n) : Nat) : Int)) (z := .int .u64 ((hi ((rm + 2 ^ n - y) % 2 ^ n) : Nat) : Int)) (by omega)).far (p := ⟨w.heap.size + 1 + 1, 1, none⟩) (by simp; omega) (.int .u64 ((lo (2 * q + 1) : Nat) : Int))
            have B9 := (B8.far3 (d := w.heap.size + 1 + 1 + 1) (i := 0) (j := 1) (k := 2) (u := .int .i64 (n : Int)) (v := .int .u64 ((lo ((rm + 2 ^ n - y) % 2 ^ n) : Nat) : Int)) (z := .int .u64 ((hi ((rm + 2 ^ n - y) % 2 ^ n) : Nat) : Int)) (by omega)).far (p := ⟨w.heap.size + 1 + 1, 1, none⟩) (by simp) (.int .u64 ((lo (2 * q + 1) : Nat) : Int))
            clear Q8 R8 A8 B8 q8 r8
            go_roundw
            case rel =>
              refine ⟨k + 1, by omega, by go_num, A9, B9, ?_, ?_, ?_⟩
              · rw [hdq.out, ← y2]; exact Q9
              · rw [hdr.out, ← y1]; exact R9
              · repeat' (first | (with_reducible refine Below.setCell ?_ ?_ _))
                all_goals (first | exact hbw8 | go_size)
            case measure => simp [intOf]; omega
          · go_wp2_with fail
            obtain ⟨y1, y2⟩ := hno.out (by simp) (by simp)
            go_roundw
            case rel =>
              refine ⟨k + 1, by omega, by go_num, A7, B7, ?_, ?_, hbw7⟩
              · rw [hdq.out, ← y2]; exact Q7
              · rw [hdr.out, ← y1]; exact R7
            case measure => simp [intOf]; omega
        · go_wp2_with fail
          (with_reducible refine (hD.out _).mono ?_)
          rintro e w8 ⟨rfl, hb8⟩
          have hbw8 : Below w.heap.size w w8 := below_call hb8 (by
            repeat' (first | (with_reducible refine Below.setCell ?_ ?_ _))
            all_goals (first | exact hbw6 | go_size))
          have A8 := (A6.far3 (by omega)).over hb8
          have B8 := (B6.far3 (by omega)).over hb8
          have Q8 := (Q6.set3 n (2 * q)).over hb8
          have R8 := (R6.far3 (by omega)).over hb8
          clear hb8 A6 B6 Q6 R6 hbw6 q6 r6 b6 hL hD
          have q8 := Q8.all
          have r8 := R8.all
          go_wp2_with fail
          obtain ⟨y1, y2⟩ := hyes.out (Or.inl (by simp))
          have Q9 := (Q8.far3 (d := w.heap.size + 1 + 1 + 1) (i := 0) (j := 1) (k := 2) (u := .int .i64 (n : Int)) (v := .int .u64 ((lo ((rm + 2 ^ n - y) % 2 ^ n) : Nat) : Int)) (z := .int .u64 ((hi ((rm + 2 ^ n - y) % 2 ^ n) : Nat) : Int)) (by omega)).set1 (2 * q + 1) hE.out
          have R9 := (R8.set3 n ((rm + 2 ^ n - y) % 2 ^ n)).far (p := ⟨w.heap.size + 1 + 1, 1, none⟩) (by simp) (.int .u64 ((lo (2 * q + 1) : Nat) : Int))
          have A9 := (A8.far3 (d := w.heap.size + 1 + 1 + 1) (i := 0) (j := 1) (k := 2) (u := .int .i64 (n : Int)) (v := .int .u64 ((lo ((rm + 2 ^ n - y) % 2 ^ n) : Nat) : Int)) (z := .int .u64 ((hi ((rm + 2 ^ n - y) % 2 ^ n) : Nat) : Int)) (by omega)).far (p := ⟨w.heap.size + 1 + 1, 1, none⟩) (by simp; omega) (.int .u64 ((lo (2 * q + 1) : Nat) : Int))
          have B9 := (B8.far3 (d := w.heap.size + 1 + 1 + 1) (i := 0) (j := 1) (k := 2) (u := .int .i64 (n : Int)) (v := .int .u64 ((lo ((rm + 2 ^ n - y) % 2 ^ n) : Nat) : Int)) (z := .int .u64 ((hi ((rm + 2 ^ n - y) % 2 ^ n) : Nat) : Int)) (by omega)).far (p := ⟨w.heap.size + 1 + 1, 1, none⟩) (by simp) (.int .u64 ((lo (2 * q + 1) : Nat) : Int))
          clear Q8 R8 A8 B8 q8 r8
          go_roundw
          case rel =>
            refine ⟨k + 1, by omega, by go_num, A9, B9, ?_, ?_, ?_⟩
            · rw [hdq.out, ← y2]; exact Q9
            · rw [hdr.out, ← y1]; exact R9
            · repeat' (first | (with_reducible refine Below.setCell ?_ ?_ _))
              all_goals (first | exact hbw8 | go_size)
          case measure => simp [intOf]; omega
    · obtain rfl : k = n := by omega
      rw [quoK_end] at Q3
      rw [remK_end] at R3
      have q3 := Q3.all
      have r3 := R3.all
      clear A3 B3 hz hx hy hyn
      go_wp2_with fail
      go_region
      all_goals
        go_wp2
        refine bodyPost_ret (v := .tuple #[vv k (x / y), vv k (x % y)]) (by simp [results, Tryz.results130, go_sem, q3, r3]) rfl ⟨rfl, ?_⟩
        repeat' (first | (with_reducible refine Below.drew ?_) | (with_reducible refine Below.setCell ?_ ?_ _))
        all_goals (first | exact hbw3 | (show w.heap.size ≤ _ + 1; omega))
end Go.Proofs.YtdjaikglkgabdaaGreatDoor
