/-
  The walk of the statement BvNumbers.
-/
import Derived.Test.YtknbnpbmgbnlfaaWr
import Derived.Test.YtknbnpbmgbnlfaaWy
import Derived.Test.YtknbnpbmgbnlfaaWp
import Derived.Deep.RegionHeld3
namespace Go.Proofs.Ytknbnpbmgbnlfaa
open Go.RowKit
theorem beq_cast (x y : Nat) : ((x : Int) == (y : Int)) = (x == y) := by
  rw [Bool.eq_iff_iff, beq_iff_eq, beq_iff_eq]; omega
set_option maxRecDepth 100000 in
set_option maxHeartbeats 4000000 in
theorem Num_t (n P A0 B0 x y z0 z1 z2 S0 R1 S1 S2 : Nat) (width : Int) (q m0 : Nat) (bl be : Bool) (w : World) (h1 : 1 ≤ n) (hn : n ≤ 31)
    (hm : ∃ m : Int, (if (31 : Int) < width then 31 else width) = m ∧ (if 1 < m then m else 1) = (n : Int))
    (hP : IntKind.u64.wrap ((2 : Int) ^ n) = (P : Int)) (hP0 : 0 < P) (hP1 : P ≤ 2147483648)
    (hx : A0 % P = x) (hy : B0 % P = y) (hxP : x < P) (hyP : y < P) 
    (hS0 : IntKind.u64.wrap ((x : Int) + (y : Int)) = (S0 : Int)) (hR1 : IntKind.u64.wrap ((x : Int) + (P : Int)) = (R1 : Int)) (hS1 : IntKind.u64.wrap ((R1 : Int) - (y : Int)) = (S1 : Int)) (hS2 : IntKind.u64.wrap ((x : Int) * (y : Int)) = (S2 : Int))
    (ht0 : (S0 : Int).tmod (P : Int) = (z0 : Int)) (ht1 : (S1 : Int).tmod (P : Int) = (z1 : Int)) (ht2 : (S2 : Int).tmod (P : Int) = (z2 : Int))
    (hc0 : IntKind.i64.wrap (z0 : Int) = (z0 : Int)) (hc1 : IntKind.i64.wrap (z1 : Int) = (z1 : Int)) (hc2 : IntKind.i64.wrap (z2 : Int) = (z2 : Int))
    (hq : 0 < y → x / y = q ∧ x % y = m0)
    (hl : decide ((x : Int) < (y : Int)) = bl) (he : ((x : Int) == (y : Int)) = be)
    (hNx : ∀ (w : World) (g : Nat), g = w.heap.size → Calls Try.prog 15 #[.int .i64 (n : Int), .slice (some ⟨g, 0, none⟩) 1 1] (w.alloc (.cells #[.int .u64 (x : Int)] 26)) (RV (w.alloc (.cells #[.int .u64 (x : Int)] 26)) (.tuple #[vv n x, .int .i64 0])))
    (hNy : ∀ (w : World) (g : Nat), g = w.heap.size → Calls Try.prog 15 #[.int .i64 (n : Int), .slice (some ⟨g, 0, none⟩) 1 1] (w.alloc (.cells #[.int .u64 (y : Int)] 26)) (RV (w.alloc (.cells #[.int .u64 (y : Int)] 26)) (.tuple #[vv n y, .int .i64 0])))
    (hB0 : ∀ w, Calls Try.prog 26 #[.int .i64 0, vv n x, vv n y] w (RV w (.tuple #[vv n z0, .int .i64 0])))
    (hB1 : ∀ w, Calls Try.prog 26 #[.int .i64 1, vv n x, vv n y] w (RV w (.tuple #[vv n z1, .int .i64 0])))
    (hB2 : ∀ w, Calls Try.prog 26 #[.int .i64 2, vv n x, vv n y] w (RV w (.tuple #[vv n z2, .int .i64 0])))
    (hB3 : ∀ w, Calls Try.prog 26 #[.int .i64 3, vv n x, vv n y] w (RV w (.tuple #[vv n q, .int .i64 0])))
    (hB4 : ∀ w, Calls Try.prog 26 #[.int .i64 4, vv n x, vv n y] w (RV w (.tuple #[vv n m0, .int .i64 0])))
    (hBl : ∀ w, Calls Try.prog 26 #[.int .i64 15, vv n x, vv n y] w (RV w (.tuple #[vv 1 bl.toNat, .int .i64 0])))
    (hBe : ∀ w, Calls Try.prog 26 #[.int .i64 13, vv n x, vv n y] w (RV w (.tuple #[vv 1 be.toNat, .int .i64 0])))
    (hT0 : ∀ w, Calls Try.prog 20 #[vv n z0, .int .i64 1099511627776] w (RV w (.int .i64 (z0 : Int))))
    (hT1 : ∀ w, Calls Try.prog 20 #[vv n z1, .int .i64 1099511627776] w (RV w (.int .i64 (z1 : Int))))
    (hT2 : ∀ w, Calls Try.prog 20 #[vv n z2, .int .i64 1099511627776] w (RV w (.int .i64 (z2 : Int))))
    (hTq : 0 < y → ∀ w, Calls Try.prog 20 #[vv n q, .int .i64 1099511627776] w (RV w (.int .i64 (q : Int))))
    (hTm : 0 < y → ∀ w, Calls Try.prog 20 #[vv n m0, .int .i64 1099511627776] w (RV w (.int .i64 (m0 : Int))))
    (hKl : ∀ w, Calls Try.prog 39 #[vv 1 bl.toNat, .int .i64 0] w (RV w (.bool bl)))
    (hKe : ∀ w, Calls Try.prog 39 #[vv 1 be.toNat, .int .i64 0] w (RV w (.bool be))) :
    Calls Try.prog 7 #[.int .i64 width, .int .u64 (A0 : Int), .int .u64 (B0 : Int)] w (RV w (.bool true)) := by
  replace hNx := Lib.hid hNx
  replace hNy := Lib.hid hNy
  replace hB0 := Lib.hid hB0
  replace hB1 := Lib.hid hB1
  replace hB2 := Lib.hid hB2
  replace hB3 := Lib.hid hB3
  replace hB4 := Lib.hid hB4
  replace hBl := Lib.hid hBl
  replace hBe := Lib.hid hBe
  replace hT0 := Lib.hid hT0
  replace hT1 := Lib.hid hT1
  replace hT2 := Lib.hid hT2
  replace hTq := Lib.hid hTq
  replace hTm := Lib.hid hTm
  replace hKl := Lib.hid hKl
  replace hKe := Lib.hid hKe
  replace hq := Lib.hid hq
  replace hxP := Lib.hid hxP
  replace hyP := Lib.hid hyP
  obtain ⟨m, hm1, hm2⟩ := hm
  have P0 : ((P : Int) == 0) = false := by simp; omega
  have Pn : ¬ P = 0 := by omega
  have ta : (A0 : Int).tmod (P : Int) = (x : Int) := by rw [← hx]; rfl
  have tb : (B0 : Int).tmod (P : Int) = (y : Int) := by rw [← hy]; rfl
  replace hx := Lib.hid hx
  replace hy := Lib.hid hy
  replace hl := Lib.hid hl
  replace he := Lib.hid he
  go_enter Try.func7, Try.ntmps7
  go_wp2_with fail
  (with_reducible refine (awake_t _).mono ?_)
  rintro e w1 ⟨rfl, hbw1⟩
  go_wp2_with fail
  go_quiet (fail)
  have hbwq := below_drewN hbw1
  clear ta tb
  go_wp2_with fail
  (with_reducible refine (hNx.out _ _ (by simp)).mono ?_)
  rintro e w2 ⟨rfl, hb2⟩
  have hbw2 : Below w.heap.size w w2 := below_call hb2 (by refine Below.alloc (hbwq _) ?_ _; exact hbw1.size)
  have s2 := hbw2.size
  clear hb2 hbwq hbw1
  go_wp2_with fail
  (with_reducible refine (hNy.out _ _ (by simp)).mono ?_)
  rintro e w3 ⟨rfl, hb3⟩
  have X3 : HV 29 w3 w2.heap.size n x := ((HV.new w2 29 n x).alloc _).over hb3
  have hbw3 : Below w.heap.size w w3 := below_call hb3 (by go_grown)
  have x3 := X3.all
  have l3 := X3.lt
  have s3 := hbw3.size
  clear hb3 hbw2
  go_wp2_with fail
  have i0 : ∀ w, (Instr.index 63 (.agg #[.int .u64 (S0 : Int), .int .u64 (S1 : Int), .int .u64 (S2 : Int)]) (.int .i64 0)).run Try.prog w = .ok (.int .u64 (S0 : Int)) w := fun _ => by kernel_rfl
  have i1 : ∀ w, (Instr.index 63 (.agg #[.int .u64 (S0 : Int), .int .u64 (S1 : Int), .int .u64 (S2 : Int)]) (.int .i64 1)).run Try.prog w = .ok (.int .u64 (S1 : Int)) w := fun _ => by kernel_rfl
  have i2 : ∀ w, (Instr.index 63 (.agg #[.int .u64 (S0 : Int), .int .u64 (S1 : Int), .int .u64 (S2 : Int)]) (.int .i64 2)).run Try.prog w = .ok (.int .u64 (S2 : Int)) w := fun _ => by kernel_rfl
  clear hS0 hR1 hS1 hS2 hm1 hm2
  have Y3 : HV 29 (w3.alloc (.cells (vcs n y) 29)) w3.heap.size n y := HV.new w3 29 n y
  have X3' := X3.alloc (.cells (vcs n y) 29)
  have hbw3' : Below w.heap.size w (w3.alloc (.cells (vcs n y) 29)) := by go_grown
  have y3 := Y3.all
  have x3' := X3'.all
  have m3 := Y3.lt
  have l3' := X3'.lt
  clear x3 X3 l3 hbw3
  refine wp_loop_rounds 4 ?_
  rw [rounds_succ]
  go_wp2_with fail
  (with_reducible refine (hB0.out _).mono ?_)
  rintro e w4 ⟨rfl, hb4⟩
  have hbw4 : Below w.heap.size w w4 := below_call hb4 hbw3'
  have X4 := (X3'.over hb4).alloc (.cells (vcs n z0) 29)
  have Y4 := (Y3.over hb4).alloc (.cells (vcs n z0) 29)
  have V4 := HV.new w4 29 n z0
  have v4 := V4.all
  have s4 := hbw4.size
  clear hb4 x3' y3 l3' m3 X3' Y3 i0
  go_wp2_with fail
  go_region_held3 (fun w' => w'.cell? ⟨w4.heap.size, 0, none⟩ = some (.int .i64 (n : Int)) ∧ w'.cell? ⟨w4.heap.size, 1, none⟩ = some (.int .u64 ((lo z0 : Nat) : Int)) ∧ w'.cell? ⟨w4.heap.size, 2, none⟩ = some (.int .u64 ((hi z0 : Nat) : Int)))
    (first | (with_reducible exact V4.drew.keep3) | (with_reducible exact V5.keep3))
    ((go_at_call 20; (with_reducible refine (hT0.out _).mono ?_); rintro e w5 ⟨rfl, hb5⟩; have X5 := X4.drew.over hb5; have Y5 := Y4.drew.over hb5; have V5 := V4.drew.over hb5; have hbw5 : Below w.heap.size w w5 := below_call hb5 (Below.drew (by go_grown)); have x5 := X5.all; have y5 := Y5.all; have l5 := X5.lt; have m5 := Y5.lt; clear hb5 v4))
  clear X4 Y4 V4 V5 s4 hbw4 ht0 hc0
  go_wp2_with fail
  rw [rounds_succ]
  go_wp2_with fail
  (with_reducible refine (hB1.out _).mono ?_)
  rintro e w6 ⟨rfl, hb6⟩
  have hbw6 : Below w.heap.size w w6 := below_call hb6 hbw5
  have X6 := (X5.over hb6).alloc (.cells (vcs n z1) 29)
  have Y6 := (Y5.over hb6).alloc (.cells (vcs n z1) 29)
  have V6 := HV.new w6 29 n z1
  have v6 := V6.all
  have s6 := hbw6.size
  clear hb6 x5 y5 l5 m5 X5 Y5 i1
  go_wp2_with fail
  go_region_held3 (fun w' => w'.cell? ⟨w6.heap.size, 0, none⟩ = some (.int .i64 (n : Int)) ∧ w'.cell? ⟨w6.heap.size, 1, none⟩ = some (.int .u64 ((lo z1 : Nat) : Int)) ∧ w'.cell? ⟨w6.heap.size, 2, none⟩ = some (.int .u64 ((hi z1 : Nat) : Int)))
    (first | (with_reducible exact V6.drew.keep3) | (with_reducible exact V7.keep3))
    ((go_at_call 20; (with_reducible refine (hT1.out _).mono ?_); rintro e w7 ⟨rfl, hb7⟩; have X7 := X6.drew.over hb7; have Y7 := Y6.drew.over hb7; have V7 := V6.drew.over hb7; have hbw7 : Below w.heap.size w w7 := below_call hb7 (Below.drew (by go_grown)); have x7 := X7.all; have y7 := Y7.all; have l7 := X7.lt; have m7 := Y7.lt; clear hb7 v6))
  clear X6 Y6 V6 V7 s6 hbw6 ht1 hc1
  go_wp2_with fail
  rw [rounds_succ]
  go_wp2_with fail
  (with_reducible refine (hB2.out _).mono ?_)
  rintro e w8 ⟨rfl, hb8⟩
  have hbw8 : Below w.heap.size w w8 := below_call hb8 hbw7
  have X8 := (X7.over hb8).alloc (.cells (vcs n z2) 29)
  have Y8 := (Y7.over hb8).alloc (.cells (vcs n z2) 29)
  have V8 := HV.new w8 29 n z2
  have v8 := V8.all
  have s8 := hbw8.size
  clear hb8 x7 y7 l7 m7 X7 Y7 i2
  go_wp2_with fail
  go_region_held3 (fun w' => w'.cell? ⟨w8.heap.size, 0, none⟩ = some (.int .i64 (n : Int)) ∧ w'.cell? ⟨w8.heap.size, 1, none⟩ = some (.int .u64 ((lo z2 : Nat) : Int)) ∧ w'.cell? ⟨w8.heap.size, 2, none⟩ = some (.int .u64 ((hi z2 : Nat) : Int)))
    (first | (with_reducible exact V8.drew.keep3) | (with_reducible exact V9.keep3))
    ((go_at_call 20; (with_reducible refine (hT2.out _).mono ?_); rintro e w9 ⟨rfl, hb9⟩; have X9 := X8.drew.over hb9; have Y9 := Y8.drew.over hb9; have V9 := V8.drew.over hb9; have hbw9 : Below w.heap.size w w9 := below_call hb9 (Below.drew (by go_grown)); have x9 := X9.all; have y9 := Y9.all; have l9 := X9.lt; have m9 := Y9.lt; clear hb9 v8))
  clear X8 Y8 V8 V9 s8 hbw8 ht2 hc2
  go_wp2_with fail
  rw [rounds_succ]
  go_wp2_with fail
  (with_reducible refine (hB3.out _).mono ?_)
  rintro e w10 ⟨rfl, hb10⟩
  have hbw10 : Below w.heap.size w w10 := below_call hb10 hbw9
  have X10 := (X9.over hb10).alloc (.cells (vcs n q) 29)
  have Y10 := (Y9.over hb10).alloc (.cells (vcs n q) 29)
  have Q10 := HV.new w10 29 n q
  have x10 := X10.all
  have y10 := Y10.all
  have l10 := X10.lt
  have m10 := Y10.lt
  have s10 := hbw10.size
  clear hb10 x9 y9 l9 m9 X9 Y9 hbw9 hB3
  go_wp2_with fail
  (with_reducible refine (hB4.out _).mono ?_)
  rintro e w11 ⟨rfl, hb11⟩
  have hbw11 : Below w.heap.size w w11 := below_call hb11 (by go_grown)
  have X11 := (X10.over hb11).alloc (.cells (vcs n m0) 29)
  have Y11 := (Y10.over hb11).alloc (.cells (vcs n m0) 29)
  have Q11 := (Q10.over hb11).alloc (.cells (vcs n m0) 29)
  have M11 := HV.new w11 29 n m0
  have s11 := hbw11.size
  have hbw11' : Below w.heap.size w (w11.alloc (.cells (vcs n m0) 29)) := by go_grown
  clear hb11 x10 y10 l10 m10 s10 X10 Y10 Q10 hbw10 hB4
  rcases Nat.eq_zero_or_pos y with hy0 | hy0
  · have d0 : ((y : Int) == 0) = true := by simp; omega
    have d1 : ((y : Int) != 0) = false := by simp; omega
    replace hy0 := Lib.hid hy0
    go_wp2_with fail
    go_quiet (fail)
    have hB := below_drewN hbw11'
    have xr := (X11.drewN nq).all
    have yr := (Y11.drewN nq).all
    have lr := X11.lt
    have mr := Y11.lt
    go_wp2_with fail
    (with_reducible refine (hBl.out _).mono ?_)
    rintro e w14 ⟨rfl, hb14⟩
    have hbw14 : Below w.heap.size w w14 := below_call hb14 (hB _)
    have X14 := (X11.drewN _).over hb14
    have Y14 := (Y11.drewN _).over hb14
    have x14 := X14.all
    have y14 := Y14.all
    have l14 := X14.lt
    have m14 := Y14.lt
    have s14 := hbw14.size
    clear hb14 xr yr lr mr
    go_wp2_with fail
    (with_reducible refine (hBe.out _).mono ?_)
    rintro e w15 ⟨rfl, hb15⟩
    have hbw15 : Below w.heap.size w w15 := below_call hb15 (by go_grown)
    have L15 : HV 29 w15 w14.heap.size 1 bl.toNat := (HV.new w14 29 1 bl.toNat).over hb15
    have a15 := L15.all
    have b15 := L15.lt
    have s15 := hbw15.size
    clear hb15 x14 y14 l14 m14 s14
    have hl' := hl.out
    have he' := he.out
    have hl2 : decide (x < y) = bl := by rw [← hl']; exact decide_eq_decide.2 (by omega)
    have he2 : (x == y) = be := by rw [← he']; exact (beq_cast x y).symm
    go_wp2_with fail
    refine (hKl.out _).mono ?_
    rintro e w16 ⟨rfl, hb16⟩
    have E16 : HV 29 w16 w15.heap.size 1 be.toNat := (HV.new w15 29 1 be.toNat).over hb16
    have hbw16 : Below w.heap.size w w16 := below_call hb16 (by go_grown)
    have e16 := E16.all
    clear hb16 a15 b15
    go_wp2_with fail
    refine (hKe.out _).mono ?_
    rintro e w17 ⟨rfl, hb17⟩
    have hbw17 : Below w.heap.size w w17 := below_call hb17 hbw16
    clear hb17 e16
    go_wp2_with fail
    go_ret
    exact ⟨rfl, hbw17⟩
  · have d0 : ((y : Int) == 0) = false := by simp; omega
    have d1 : ((y : Int) != 0) = true := by simp; omega
    have yn : ¬ y = 0 := by omega
    obtain ⟨q1, q2⟩ := hq.out hy0
    have tq : (x : Int).tdiv (y : Int) = (q : Int) := by rw [← q1]; rfl
    have tm : (x : Int).tmod (y : Int) = (m0 : Int) := by rw [← q2]; rfl
    have hq32 : q < 2147483648 := by have := hxP.out; have := Nat.div_le_self x y; omega
    have hm32 : m0 < 2147483648 := by have := hxP.out; have := Nat.mod_le x y; omega
    have cq : IntKind.i64.wrap (q : Int) = (q : Int) := IntWalk.i64_in _ (by omega)
    have cm : IntKind.i64.wrap (m0 : Int) = (m0 : Int) := IntWalk.i64_in _ (by omega)
    have uq : IntKind.u64.wrap (q : Int) = (q : Int) := by rw [IntKind.wrap_u64]; omega
    have hTq' := Lib.hid (hTq.out hy0)
    have hTm' := Lib.hid (hTm.out hy0)
    clear q1 q2 hq32 hm32 hTq hTm
    go_wp2_with fail
    go_region_held3 (fun w' => (w'.cell? ⟨w10.heap.size, 0, none⟩ = some (.int .i64 (n : Int)) ∧ w'.cell? ⟨w10.heap.size, 1, none⟩ = some (.int .u64 ((lo q : Nat) : Int)) ∧ w'.cell? ⟨w10.heap.size, 2, none⟩ = some (.int .u64 ((hi q : Nat) : Int))) ∧ (w'.cell? ⟨w11.heap.size, 0, none⟩ = some (.int .i64 (n : Int)) ∧ w'.cell? ⟨w11.heap.size, 1, none⟩ = some (.int .u64 ((lo m0 : Nat) : Int)) ∧ w'.cell? ⟨w11.heap.size, 2, none⟩ = some (.int .u64 ((hi m0 : Nat) : Int))))
      (first | (with_reducible exact ⟨Q11.drew.keep3, M11.drew.keep3⟩) | (with_reducible exact ⟨Q12.keep3, M12.keep3⟩) | (with_reducible exact ⟨Q13.keep3, M13.keep3⟩))
      (first
        | (go_at_call 20; (with_reducible refine (hTq'.out _).mono ?_); rintro e w12 ⟨rfl, hb12⟩; have X12 := X11.drew.over hb12; have Y12 := Y11.drew.over hb12; have Q12 := Q11.drew.over hb12; have M12 := M11.drew.over hb12; have hbw12 : Below w.heap.size w w12 := below_call hb12 hbw11'.drew; clear hb12 hTq')
        | (go_at_call 20; (with_reducible refine (hTm'.out _).mono ?_); rintro e w13 ⟨rfl, hb13⟩; have X13 := X12.over hb13; have Y13 := Y12.over hb13; have Q13 := Q12.over hb13; have M13 := M12.over hb13; have hbw13 : Below w.heap.size w w13 := below_call hb13 hbw12; clear hb13 hTm'))
    have xr := X13.all
    have yr := Y13.all
    have lr := X13.lt
    have mr := Y13.lt
    clear tq tm cq cm uq X11 Y11 Q11 M11 X12 Y12 Q12 M12 Q13 M13 hbw11 hbw11' hbw12
    go_wp2_with fail
    (with_reducible refine (hBl.out _).mono ?_)
    rintro e w14 ⟨rfl, hb14⟩
    have hbw14 : Below w.heap.size w w14 := below_call hb14 hbw13
    have X14 := X13.over hb14
    have Y14 := Y13.over hb14
    have x14 := X14.all
    have y14 := Y14.all
    have l14 := X14.lt
    have m14 := Y14.lt
    have s14 := hbw14.size
    clear hb14 xr yr lr mr
    go_wp2_with fail
    (with_reducible refine (hBe.out _).mono ?_)
    rintro e w15 ⟨rfl, hb15⟩
    have hbw15 : Below w.heap.size w w15 := below_call hb15 (by go_grown)
    have L15 : HV 29 w15 w14.heap.size 1 bl.toNat := (HV.new w14 29 1 bl.toNat).over hb15
    have a15 := L15.all
    have b15 := L15.lt
    have s15 := hbw15.size
    clear hb15 x14 y14 l14 m14 s14
    have hl' := hl.out
    have he' := he.out
    have hl2 : decide (x < y) = bl := by rw [← hl']; exact decide_eq_decide.2 (by omega)
    have he2 : (x == y) = be := by rw [← he']; exact (beq_cast x y).symm
    go_wp2_with fail
    refine (hKl.out _).mono ?_
    rintro e w16 ⟨rfl, hb16⟩
    have E16 : HV 29 w16 w15.heap.size 1 be.toNat := (HV.new w15 29 1 be.toNat).over hb16
    have hbw16 : Below w.heap.size w w16 := below_call hb16 (by go_grown)
    have e16 := E16.all
    clear hb16 a15 b15
    go_wp2_with fail
    refine (hKe.out _).mono ?_
    rintro e w17 ⟨rfl, hb17⟩
    have hbw17 : Below w.heap.size w w17 := below_call hb17 hbw16
    clear hb17 e16
    go_wp2_with fail
    go_ret
    exact ⟨rfl, hbw17⟩
end Go.Proofs.Ytknbnpbmgbnlfaa
