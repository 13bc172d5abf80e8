/-
  The walk of the statement BvRing.
-/
import Derived.Test.YtknbnpbmgbnlfaaWy
import Derived.Test.YtknbnpbmgbnlfaaRs
import Derived.Deep.RegionHeld3
import Derived.Deep.DeepCutAuto
namespace Go.Proofs.Ytknbnpbmgbnlfaa
open Go.RowKit
set_option maxRecDepth 100000 in
set_option maxHeartbeats 40000000 in
theorem Ring_t (n ca cb cc mb mc x y z s p d t1 yz m1 xz yw ng : Nat) (A B C : Option Addr) (f g h : Nat → Bool) (w : World) (h1 : 1 ≤ n) (hn : n ≤ 128)
    (hA : RB w A n f) (hB : RB w B mb g) (hC : RB w C mc h)
    (hx : ∀ w, RB w A n f → Calls Try.prog 25 #[.slice A n ca] w (RV w (vv n x)))
    (hy : ∀ w b, RB w (some ⟨b, 0, none⟩) n (fun j => decide (j < mb) && g j) → Calls Try.prog 25 #[.slice (some ⟨b, 0, none⟩) n n] w (RV w (vv n y)))
    (hz : ∀ w b, RB w (some ⟨b, 0, none⟩) n (fun j => decide (j < mc) && h j) → Calls Try.prog 25 #[.slice (some ⟨b, 0, none⟩) n n] w (RV w (vv n z)))
    (hs : ∀ w, Calls Try.prog 41 #[.int .i64 0, vv n x, vv n y] w (RV w (vv n s)))
    (hp : ∀ w, Calls Try.prog 41 #[.int .i64 2, vv n x, vv n y] w (RV w (vv n p)))
    (hA2 : ∀ w, Calls Try.prog 41 #[.int .i64 0, vv n y, vv n x] w (RV w (vv n s)))
    (hM2 : ∀ w, Calls Try.prog 41 #[.int .i64 2, vv n y, vv n x] w (RV w (vv n p)))
    (hD2 : ∀ w, Calls Try.prog 41 #[.int .i64 1, vv n s, vv n y] w (RV w (vv n x)))
    (hG1 : ∀ w, Calls Try.prog 41 #[.int .i64 0, vv n x, vv n ng] w (RV w (vv n d)))
    (hG2 : ∀ w, Calls Try.prog 41 #[.int .i64 1, vv n x, vv n y] w (RV w (vv n d)))
    (hT1 : ∀ w, Calls Try.prog 41 #[.int .i64 0, vv n s, vv n z] w (RV w (vv n t1)))
    (hT2 : ∀ w, Calls Try.prog 41 #[.int .i64 0, vv n y, vv n z] w (RV w (vv n yz)))
    (hT3 : ∀ w, Calls Try.prog 41 #[.int .i64 0, vv n x, vv n yz] w (RV w (vv n t1)))
    (hU1 : ∀ w, Calls Try.prog 41 #[.int .i64 2, vv n s, vv n z] w (RV w (vv n m1)))
    (hU2 : ∀ w, Calls Try.prog 41 #[.int .i64 2, vv n x, vv n z] w (RV w (vv n xz)))
    (hU3 : ∀ w, Calls Try.prog 41 #[.int .i64 2, vv n y, vv n z] w (RV w (vv n yw)))
    (hU4 : ∀ w, Calls Try.prog 41 #[.int .i64 0, vv n xz, vv n yw] w (RV w (vv n m1)))
    (hN : ∀ w, Calls Try.prog 28 #[.int .i64 1, vv n y] w (RV w (.tuple #[vv n ng, .int .i64 0])))
    (hEq : ∀ v w, Calls Try.prog 24 #[vv n v, vv n v] w (RV w (.bool true))) :
    Calls Try.prog 8 #[.slice A n ca, .slice B mb cb, .slice C mc cc] w (RV w (.bool true)) := by
  have hS := Lib.hid (fun w => short_le n ca A w (by omega))
  have hFB := Lib.hid (fun w (h : RB w B mb g) => fit_ok n mb cb B g w hn h)
  have hFC := Lib.hid (fun w (h' : RB w C mc h) => fit_ok n mc cc C h w hn h')
  replace hx := Lib.hid hx
  replace hy := Lib.hid hy
  replace hz := Lib.hid hz
  replace hs := Lib.hid hs
  replace hp := Lib.hid hp
  replace hA2 := Lib.hid hA2
  replace hM2 := Lib.hid hM2
  replace hD2 := Lib.hid hD2
  replace hG1 := Lib.hid hG1
  replace hG2 := Lib.hid hG2
  replace hT1 := Lib.hid hT1
  replace hT2 := Lib.hid hT2
  replace hT3 := Lib.hid hT3
  replace hU1 := Lib.hid hU1
  replace hU2 := Lib.hid hU2
  replace hU3 := Lib.hid hU3
  replace hU4 := Lib.hid hU4
  replace hN := Lib.hid hN
  replace hEq := Lib.hid hEq
  replace hA := Lib.hid hA
  replace hB := Lib.hid hB
  replace hC := Lib.hid hC
  have n0 : ((n : Int) == 0) = false := by simp; omega
  have n128 : ¬ (128 < n) := by omega
  go_enter Try.func8, Try.ntmps8
  go_wp2_with fail
  (with_reducible refine (awake_t _).mono ?_)
  rintro e w1 ⟨rfl, hbw1⟩
  go_wp2_with fail
  (with_reducible refine (hS.out _).mono ?_)
  rintro e w0 ⟨rfl, rfl⟩
  go_wp2_with fail
  (with_reducible refine (hx.out _ (hA.out.keep hbw1)).mono ?_)
  rintro e w2 ⟨rfl, hb2⟩
  have hbw2 : Below w.heap.size w w2 := below_call hb2 hbw1
  clear hb2 hbw1
  go_wp2_with fail
  (with_reducible refine (hFB.out _ (hB.out.keep hbw2)).mono ?_)
  rintro e w3 ⟨b3, rfl, R3, hb3⟩
  have hbw3 : Below w.heap.size w w3 := below_call hb3 hbw2
  replace R3 := Lib.hid R3
  clear hb3 hbw2
  go_wp2_with fail
  (with_reducible refine (hy.out _ _ R3.out).mono ?_)
  rintro e w4 ⟨rfl, hb4⟩
  have hbw4 : Below w.heap.size w w4 := below_call hb4 hbw3
  clear hb4 hbw3 R3
  go_wp2_with fail
  (with_reducible refine (hFC.out _ (hC.out.keep hbw4)).mono ?_)
  rintro e w5 ⟨b5, rfl, R5, hb5⟩
  have hbw5 : Below w.heap.size w w5 := below_call hb5 hbw4
  replace R5 := Lib.hid R5
  clear hb5 hbw4
  go_wp2_with fail
  (with_reducible refine (hz.out _ _ R5.out).mono ?_)
  rintro e w6 ⟨rfl, hb6⟩
  have hbw6 : Below w.heap.size w w6 := below_call hb6 hbw5
  have z6 := hbw6.size
  clear hb6 hbw5 R5
  go_wp2_with fail
  have X7 : HV 29 (((w6.alloc (.cells (vcs n x) 29)).alloc (.cells (vcs n y) 29)).alloc (.cells (vcs n z) 29)) w6.heap.size n x := ((HV.new w6 29 n x).alloc _).alloc _
  have Y7 : HV 29 (((w6.alloc (.cells (vcs n x) 29)).alloc (.cells (vcs n y) 29)).alloc (.cells (vcs n z) 29)) (w6.heap.size + 1) n y := by
    have h := (HV.new (w6.alloc (.cells (vcs n x) 29)) 29 n y).alloc (.cells (vcs n z) 29)
    rw [World.size_alloc] at h
    exact h
  have Z7 : HV 29 (((w6.alloc (.cells (vcs n x) 29)).alloc (.cells (vcs n y) 29)).alloc (.cells (vcs n z) 29)) (w6.heap.size + 1 + 1) n z := by
    have h := HV.new ((w6.alloc (.cells (vcs n x) 29)).alloc (.cells (vcs n y) 29)) 29 n z
    rw [World.size_alloc, World.size_alloc] at h
    exact h
  have hbw7 : Below w.heap.size w (((w6.alloc (.cells (vcs n x) 29)).alloc (.cells (vcs n y) 29)).alloc (.cells (vcs n z) 29)) := by go_grown
  go_cut [11, 12] (fun sv tv wz => ∃ bp bq : Nat, sv = .pointer (some ⟨bp, 0, none⟩) ∧ tv = .pointer (some ⟨bq, 0, none⟩) ∧ HV 29 wz (w6.heap.size) n x ∧ HV 29 wz (w6.heap.size + 1) n y ∧ HV 29 wz (w6.heap.size + 1 + 1) n z ∧ HV 29 wz (bp) n s ∧ HV 29 wz (bq) n p ∧ Below w.heap.size w wz)
  case first =>
    refine region_anyT (n := 10) (S := fun w' => (w'.cell? ⟨w6.heap.size, 0, none⟩ = some (.int .i64 (n : Int)) ∧ w'.cell? ⟨w6.heap.size, 1, none⟩ = some (.int .u64 ((lo x : Nat) : Int)) ∧ w'.cell? ⟨w6.heap.size, 2, none⟩ = some (.int .u64 ((hi x : Nat) : Int))) ∧ (w'.cell? ⟨w6.heap.size + 1, 0, none⟩ = some (.int .i64 (n : Int)) ∧ w'.cell? ⟨w6.heap.size + 1, 1, none⟩ = some (.int .u64 ((lo y : Nat) : Int)) ∧ w'.cell? ⟨w6.heap.size + 1, 2, none⟩ = some (.int .u64 ((hi y : Nat) : Int)))) (by kernel_rfl) ?_
    have hS0 : (fun w' : World => (w'.cell? ⟨w6.heap.size, 0, none⟩ = some (.int .i64 (n : Int)) ∧ w'.cell? ⟨w6.heap.size, 1, none⟩ = some (.int .u64 ((lo x : Nat) : Int)) ∧ w'.cell? ⟨w6.heap.size, 2, none⟩ = some (.int .u64 ((hi x : Nat) : Int))) ∧ (w'.cell? ⟨w6.heap.size + 1, 0, none⟩ = some (.int .i64 (n : Int)) ∧ w'.cell? ⟨w6.heap.size + 1, 1, none⟩ = some (.int .u64 ((lo y : Nat) : Int)) ∧ w'.cell? ⟨w6.heap.size + 1, 2, none⟩ = some (.int .u64 ((hi y : Nat) : Int)))) (((w6.alloc (.cells (vcs n x) 29)).alloc (.cells (vcs n y) 29)).alloc (.cells (vcs n z) 29)).drew := ⟨X7.drew.keep3, Y7.drew.keep3⟩
    refine anyT_take (i := 0) (v := .func (.func 41) #[] #[]) rfl (by kernel_rfl) (by kernel_rfl) (fun _ _ _ h => h) (Or.inl ⟨by rfl, ?_⟩) hS0 ?_
    · intro w' hw'
      obtain ⟨⟨k1, k2, k3⟩, ⟨k4, k5, k6⟩⟩ := hw'
      go_simp
      try with_reducible rfl
    try simp only [Act.put, List.setIfInBounds_toArray, List.set_cons_zero, List.set_cons_succ]
    refine anyT_take (i := 1) (v := vv n x) rfl (by kernel_rfl) (by kernel_rfl) (fun _ _ _ h => h) (Or.inl ⟨by rfl, ?_⟩) hS0 ?_
    · intro w' hw'
      obtain ⟨⟨k1, k2, k3⟩, ⟨k4, k5, k6⟩⟩ := hw'
      go_simp
      try with_reducible rfl
    try simp only [Act.put, List.setIfInBounds_toArray, List.set_cons_zero, List.set_cons_succ]
    refine anyT_take (i := 2) (v := vv n y) rfl (by kernel_rfl) (by kernel_rfl) (fun _ _ _ h => h) (Or.inl ⟨by rfl, ?_⟩) hS0 ?_
    · intro w' hw'
      obtain ⟨⟨k1, k2, k3⟩, ⟨k4, k5, k6⟩⟩ := hw'
      go_simp
      try with_reducible rfl
    try simp only [Act.put, List.setIfInBounds_toArray, List.set_cons_zero, List.set_cons_succ]
    refine anyT_take (i := 4) (v := .func (.func 41) #[] #[]) rfl (by kernel_rfl) (by kernel_rfl) (fun _ _ _ h => h) (Or.inl ⟨by rfl, ?_⟩) hS0 ?_
    · intro w' hw'
      obtain ⟨⟨k1, k2, k3⟩, ⟨k4, k5, k6⟩⟩ := hw'
      go_simp
      try with_reducible rfl
    try simp only [Act.put, List.setIfInBounds_toArray, List.set_cons_zero, List.set_cons_succ]
    refine anyT_take (i := 5) (v := vv n x) rfl (by kernel_rfl) (by kernel_rfl) (fun _ _ _ h => h) (Or.inl ⟨by rfl, ?_⟩) hS0 ?_
    · intro w' hw'
      obtain ⟨⟨k1, k2, k3⟩, ⟨k4, k5, k6⟩⟩ := hw'
      go_simp
      try with_reducible rfl
    try simp only [Act.put, List.setIfInBounds_toArray, List.set_cons_zero, List.set_cons_succ]
    refine anyT_take (i := 6) (v := vv n y) rfl (by kernel_rfl) (by kernel_rfl) (fun _ _ _ h => h) (Or.inl ⟨by rfl, ?_⟩) hS0 ?_
    · intro w' hw'
      obtain ⟨⟨k1, k2, k3⟩, ⟨k4, k5, k6⟩⟩ := hw'
      go_simp
      try with_reducible rfl
    try simp only [Act.put, List.setIfInBounds_toArray, List.set_cons_zero, List.set_cons_succ]
    clear hS0
    refine anyT_three (i := 3) (j := 8) (m := 9) (by kernel_rfl) ?_ ?_ ?_
    ·
      refine wpOp_step rfl (fun K hK => ?_)
      replace hK := Lib.hid hK
      go_simp
      (with_reducible refine (hs.out _).mono ?_)
      rintro e w20 ⟨rfl, hb20⟩
      have X20 := X7.drew.over hb20
      have Y20 := Y7.drew.over hb20
      have Z20 := Z7.drew.over hb20
      have hbw20 : Below w.heap.size w w20 := below_call hb20 (by first | exact hbw7.drew | (refine Below.drew ?_; go_grown) | go_grown)
      have z20 := hbw20.size
      clear hb20
      refine hK.out _ _ ⟨fun _ => ⟨(X20).keep3, (Y20).keep3⟩, ?_⟩
      clear hK K
      try simp only [Act.put, List.setIfInBounds_toArray, List.set_cons_zero, List.set_cons_succ]
      refine anyT_three (i := 7) (j := 8) (m := 9) (by kernel_rfl) ?_ ?_ ?_
      ·
        refine wpOp_step rfl (fun K hK => ?_)
        replace hK := Lib.hid hK
        go_simp
        (with_reducible refine (hp.out _).mono ?_)
        rintro e w21 ⟨rfl, hb21⟩
        have X21 := X20.over hb21
        have Y21 := Y20.over hb21
        have Z21 := Z20.over hb21
        have hbw21 : Below w.heap.size w w21 := below_call hb21 (by first | exact hbw20 | (refine Below.drew ?_; go_grown) | go_grown)
        have z21 := hbw21.size
        clear hb21
        refine hK.out _ _ ⟨fun _ => ⟨(X21).keep3, (Y21).keep3⟩, ?_⟩
        clear hK K
        try simp only [Act.put, List.setIfInBounds_toArray, List.set_cons_zero, List.set_cons_succ]
        refine anyT_pair (i := 8) (j := 9) (by kernel_rfl) ?_ ?_
        ·
          refine wpOp_step rfl (fun K hK => ?_)
          replace hK := Lib.hid hK
          go_simp
          have Pn22 : HV 29 (w21.alloc (.cells zcs 29)) (w21.heap.size) 0 0 := by
            have h := HV.zero w21 29
            (try simp only [World.size_alloc] at h)
            exact h
          have dXP : ¬ w6.heap.size = w21.heap.size := by have := (X21).lt; (try simp only [World.size_alloc] at this); omega
          have dPX : ¬ w21.heap.size = w6.heap.size := fun h => dXP h.symm
          have dYP : ¬ w6.heap.size + 1 = w21.heap.size := by have := (Y21).lt; (try simp only [World.size_alloc] at this); omega
          have dPY : ¬ w21.heap.size = w6.heap.size + 1 := fun h => dYP h.symm
          have dZP : ¬ w6.heap.size + 1 + 1 = w21.heap.size := by have := (Z21).lt; (try simp only [World.size_alloc] at this); omega
          have dPZ : ¬ w21.heap.size = w6.heap.size + 1 + 1 := fun h => dZP h.symm
          refine hK.out _ _ ⟨fun _ => ⟨((X21.alloc _)).keep3, ((Y21.alloc _)).keep3⟩, ?_⟩
          clear hK K
          try simp only [Act.put, List.setIfInBounds_toArray, List.set_cons_zero, List.set_cons_succ]
          refine anyT_one (i := 9) (by kernel_rfl) ?_
          refine wpOp_step rfl (fun K hK => ?_)
          replace hK := Lib.hid hK
          go_simp
          have Qn23 : HV 29 ((w21.alloc (.cells zcs 29)).alloc (.cells zcs 29)) (w21.heap.size + 1) 0 0 := by
            have h := HV.zero (w21.alloc (.cells zcs 29)) 29
            (try simp only [World.size_alloc] at h)
            exact h
          have dXQ : ¬ w6.heap.size = w21.heap.size + 1 := by have := ((X21.alloc (.cells zcs 29))).lt; (try simp only [World.size_alloc] at this); omega
          have dQX : ¬ w21.heap.size + 1 = w6.heap.size := fun h => dXQ h.symm
          have dYQ : ¬ w6.heap.size + 1 = w21.heap.size + 1 := by have := ((Y21.alloc (.cells zcs 29))).lt; (try simp only [World.size_alloc] at this); omega
          have dQY : ¬ w21.heap.size + 1 = w6.heap.size + 1 := fun h => dYQ h.symm
          have dZQ : ¬ w6.heap.size + 1 + 1 = w21.heap.size + 1 := by have := ((Z21.alloc (.cells zcs 29))).lt; (try simp only [World.size_alloc] at this); omega
          have dQZ : ¬ w21.heap.size + 1 = w6.heap.size + 1 + 1 := fun h => dZQ h.symm
          have dPQ : ¬ w21.heap.size = w21.heap.size + 1 := by have := (Pn22).lt; (try simp only [World.size_alloc] at this); omega
          have dQP : ¬ w21.heap.size + 1 = w21.heap.size := fun h => dPQ h.symm
          refine hK.out _ _ ⟨fun _ => ⟨(((X21.alloc _).alloc _)).keep3, (((Y21.alloc _).alloc _)).keep3⟩, ?_⟩
          clear hK K
          try simp only [Act.put, List.setIfInBounds_toArray, List.set_cons_zero, List.set_cons_succ]
          have Xe := ((X21.alloc (.cells zcs 29)).alloc (.cells zcs 29))
          have Ye := ((Y21.alloc (.cells zcs 29)).alloc (.cells zcs 29))
          have Ze := ((Z21.alloc (.cells zcs 29)).alloc (.cells zcs 29))
          have Pe := (Pn22.alloc (.cells zcs 29))
          have Qe := Qn23
          have lPe := Pe.all
          have lQe := Qe.all
          refine anyT_one (i := 10) (by kernel_rfl) ?_
          refine wpOp_step rfl (fun K hK => ?_)
          replace hK := Lib.hid hK
          go_simp
          refine hK.out _ _ ⟨fun h => absurd h (by decide), ?_⟩
          clear hK K
          try simp only [Act.put]
          refine anyT_one (i := 11) (by kernel_rfl) ?_
          refine wpOp_step rfl (fun K hK => ?_)
          replace hK := Lib.hid hK
          go_simp
          refine hK.out _ _ ⟨fun h => absurd h (by decide), ?_⟩
          clear hK K
          try simp only [Act.put]
          clear lPe lQe
          have Pm : HV 29 (w21.alloc (.cells (vcs n s) 29)) (w21.heap.size) n s := by
            have h := HV.new w21 29 n s
            (try simp only [World.size_alloc, World.size_setCell] at h)
            exact h
          have Qm : HV 29 ((w21.alloc (.cells (vcs n s) 29)).alloc (.cells (vcs n p) 29)) (w21.heap.size + 1) n p := by
            have h := HV.new (w21.alloc (.cells (vcs n s) 29)) 29 n p
            (try simp only [World.size_alloc, World.size_setCell] at h)
            exact h
          refine anyT_done (by kernel_rfl) ?_ _
          go_wp2_with fail
          go_meet
          refine ⟨_, _, rfl, rfl, ?_, ?_, ?_, ?_, ?_, ?_⟩
          all_goals (first | ((repeat (first | (with_reducible exact X21) | (with_reducible exact Y21) | (with_reducible exact Z21) | (with_reducible exact Pn22) | (with_reducible exact Qn23) | (with_reducible exact Xe) | (with_reducible exact Ye) | (with_reducible exact Ze) | (with_reducible exact Pe) | (with_reducible exact Qe) | (with_reducible exact Pm) | (with_reducible exact Qm) | (with_reducible refine HV.drew ?_) | (with_reducible refine HV.far3 ?_ (by first | assumption | omega)) | (with_reducible refine HV.alloc ?_ _))); done) | skip)
          repeat' (first | (with_reducible refine Below.drew ?_) | (with_reducible refine Below.setCell ?_ ?_ _) | (with_reducible refine Below.alloc ?_ ?_ _))
          all_goals (first | exact hbw7 | exact hbw21 | (dsimp only; omega) | omega | go_size)
        ·
          refine wpOp_step rfl (fun K hK => ?_)
          replace hK := Lib.hid hK
          go_simp
          have Qn22 : HV 29 (w21.alloc (.cells zcs 29)) (w21.heap.size) 0 0 := by
            have h := HV.zero w21 29
            (try simp only [World.size_alloc] at h)
            exact h
          have dXQ : ¬ w6.heap.size = w21.heap.size := by have := (X21).lt; (try simp only [World.size_alloc] at this); omega
          have dQX : ¬ w21.heap.size = w6.heap.size := fun h => dXQ h.symm
          have dYQ : ¬ w6.heap.size + 1 = w21.heap.size := by have := (Y21).lt; (try simp only [World.size_alloc] at this); omega
          have dQY : ¬ w21.heap.size = w6.heap.size + 1 := fun h => dYQ h.symm
          have dZQ : ¬ w6.heap.size + 1 + 1 = w21.heap.size := by have := (Z21).lt; (try simp only [World.size_alloc] at this); omega
          have dQZ : ¬ w21.heap.size = w6.heap.size + 1 + 1 := fun h => dZQ h.symm
          refine hK.out _ _ ⟨fun _ => ⟨((X21.alloc _)).keep3, ((Y21.alloc _)).keep3⟩, ?_⟩
          clear hK K
          try simp only [Act.put, List.setIfInBounds_toArray, List.set_cons_zero, List.set_cons_succ]
          refine anyT_one (i := 8) (by kernel_rfl) ?_
          refine wpOp_step rfl (fun K hK => ?_)
          replace hK := Lib.hid hK
          go_simp
          have Pn23 : HV 29 ((w21.alloc (.cells zcs 29)).alloc (.cells zcs 29)) (w21.heap.size + 1) 0 0 := by
            have h := HV.zero (w21.alloc (.cells zcs 29)) 29
            (try simp only [World.size_alloc] at h)
            exact h
          have dXP : ¬ w6.heap.size = w21.heap.size + 1 := by have := ((X21.alloc (.cells zcs 29))).lt; (try simp only [World.size_alloc] at this); omega
          have dPX : ¬ w21.heap.size + 1 = w6.heap.size := fun h => dXP h.symm
          have dYP : ¬ w6.heap.size + 1 = w21.heap.size + 1 := by have := ((Y21.alloc (.cells zcs 29))).lt; (try simp only [World.size_alloc] at this); omega
          have dPY : ¬ w21.heap.size + 1 = w6.heap.size + 1 := fun h => dYP h.symm
          have dZP : ¬ w6.heap.size + 1 + 1 = w21.heap.size + 1 := by have := ((Z21.alloc (.cells zcs 29))).lt; (try simp only [World.size_alloc] at this); omega
          have dPZ : ¬ w21.heap.size + 1 = w6.heap.size + 1 + 1 := fun h => dZP h.symm
          have dQP : ¬ w21.heap.size = w21.heap.size + 1 := by have := (Qn22).lt; (try simp only [World.size_alloc] at this); omega
          have dPQ : ¬ w21.heap.size + 1 = w21.heap.size := fun h => dQP h.symm
          refine hK.out _ _ ⟨fun _ => ⟨(((X21.alloc _).alloc _)).keep3, (((Y21.alloc _).alloc _)).keep3⟩, ?_⟩
          clear hK K
          try simp only [Act.put, List.setIfInBounds_toArray, List.set_cons_zero, List.set_cons_succ]
          have Xe := ((X21.alloc (.cells zcs 29)).alloc (.cells zcs 29))
          have Ye := ((Y21.alloc (.cells zcs 29)).alloc (.cells zcs 29))
          have Ze := ((Z21.alloc (.cells zcs 29)).alloc (.cells zcs 29))
          have Qe := (Qn22.alloc (.cells zcs 29))
          have Pe := Pn23
          have lPe := Pe.all
          have lQe := Qe.all
          refine anyT_one (i := 10) (by kernel_rfl) ?_
          refine wpOp_step rfl (fun K hK => ?_)
          replace hK := Lib.hid hK
          go_simp
          refine hK.out _ _ ⟨fun h => absurd h (by decide), ?_⟩
          clear hK K
          try simp only [Act.put]
          refine anyT_one (i := 11) (by kernel_rfl) ?_
          refine wpOp_step rfl (fun K hK => ?_)
          replace hK := Lib.hid hK
          go_simp
          refine hK.out _ _ ⟨fun h => absurd h (by decide), ?_⟩
          clear hK K
          try simp only [Act.put]
          clear lPe lQe
          have Qm : HV 29 (w21.alloc (.cells (vcs n p) 29)) (w21.heap.size) n p := by
            have h := HV.new w21 29 n p
            (try simp only [World.size_alloc, World.size_setCell] at h)
            exact h
          have Pm : HV 29 ((w21.alloc (.cells (vcs n p) 29)).alloc (.cells (vcs n s) 29)) (w21.heap.size + 1) n s := by
            have h := HV.new (w21.alloc (.cells (vcs n p) 29)) 29 n s
            (try simp only [World.size_alloc, World.size_setCell] at h)
            exact h
          refine anyT_done (by kernel_rfl) ?_ _
          go_wp2_with fail
          go_meet
          refine ⟨_, _, rfl, rfl, ?_, ?_, ?_, ?_, ?_, ?_⟩
          all_goals (first | ((repeat (first | (with_reducible exact X21) | (with_reducible exact Y21) | (with_reducible exact Z21) | (with_reducible exact Qn22) | (with_reducible exact Pn23) | (with_reducible exact Xe) | (with_reducible exact Ye) | (with_reducible exact Ze) | (with_reducible exact Qe) | (with_reducible exact Pe) | (with_reducible exact Qm) | (with_reducible exact Pm) | (with_reducible refine HV.drew ?_) | (with_reducible refine HV.far3 ?_ (by first | assumption | omega)) | (with_reducible refine HV.alloc ?_ _))); done) | skip)
          repeat' (first | (with_reducible refine Below.drew ?_) | (with_reducible refine Below.setCell ?_ ?_ _) | (with_reducible refine Below.alloc ?_ ?_ _))
          all_goals (first | exact hbw7 | exact hbw21 | (dsimp only; omega) | omega | go_size)
      ·
        refine wpOp_step rfl (fun K hK => ?_)
        replace hK := Lib.hid hK
        go_simp
        have Pn21 : HV 29 (w20.alloc (.cells zcs 29)) (w20.heap.size) 0 0 := by
          have h := HV.zero w20 29
          (try simp only [World.size_alloc] at h)
          exact h
        have dXP : ¬ w6.heap.size = w20.heap.size := by have := (X20).lt; (try simp only [World.size_alloc] at this); omega
        have dPX : ¬ w20.heap.size = w6.heap.size := fun h => dXP h.symm
        have dYP : ¬ w6.heap.size + 1 = w20.heap.size := by have := (Y20).lt; (try simp only [World.size_alloc] at this); omega
        have dPY : ¬ w20.heap.size = w6.heap.size + 1 := fun h => dYP h.symm
        have dZP : ¬ w6.heap.size + 1 + 1 = w20.heap.size := by have := (Z20).lt; (try simp only [World.size_alloc] at this); omega
        have dPZ : ¬ w20.heap.size = w6.heap.size + 1 + 1 := fun h => dZP h.symm
        refine hK.out _ _ ⟨fun _ => ⟨((X20.alloc _)).keep3, ((Y20.alloc _)).keep3⟩, ?_⟩
        clear hK K
        try simp only [Act.put, List.setIfInBounds_toArray, List.set_cons_zero, List.set_cons_succ]
        refine anyT_pair (i := 7) (j := 9) (by kernel_rfl) ?_ ?_
        ·
          refine wpOp_step rfl (fun K hK => ?_)
          replace hK := Lib.hid hK
          go_simp
          (with_reducible refine (hp.out _).mono ?_)
          rintro e w22 ⟨rfl, hb22⟩
          have X22 := (X20.alloc _).over hb22
          have Y22 := (Y20.alloc _).over hb22
          have Z22 := (Z20.alloc _).over hb22
          have P22 := Pn21.over hb22
          have hbw22 : Below w.heap.size w w22 := below_call hb22 (by first | exact hbw20 | (refine Below.drew ?_; go_grown) | go_grown)
          have z22 := hbw22.size
          clear hb22
          refine hK.out _ _ ⟨fun _ => ⟨(X22).keep3, (Y22).keep3⟩, ?_⟩
          clear hK K
          try simp only [Act.put, List.setIfInBounds_toArray, List.set_cons_zero, List.set_cons_succ]
          refine anyT_one (i := 9) (by kernel_rfl) ?_
          refine wpOp_step rfl (fun K hK => ?_)
          replace hK := Lib.hid hK
          go_simp
          have Qn23 : HV 29 (w22.alloc (.cells zcs 29)) (w22.heap.size) 0 0 := by
            have h := HV.zero w22 29
            (try simp only [World.size_alloc] at h)
            exact h
          have dXQ : ¬ w6.heap.size = w22.heap.size := by have := (X22).lt; (try simp only [World.size_alloc] at this); omega
          have dQX : ¬ w22.heap.size = w6.heap.size := fun h => dXQ h.symm
          have dYQ : ¬ w6.heap.size + 1 = w22.heap.size := by have := (Y22).lt; (try simp only [World.size_alloc] at this); omega
          have dQY : ¬ w22.heap.size = w6.heap.size + 1 := fun h => dYQ h.symm
          have dZQ : ¬ w6.heap.size + 1 + 1 = w22.heap.size := by have := (Z22).lt; (try simp only [World.size_alloc] at this); omega
          have dQZ : ¬ w22.heap.size = w6.heap.size + 1 + 1 := fun h => dZQ h.symm
          have dPQ : ¬ w20.heap.size = w22.heap.size := by have := (P22).lt; (try simp only [World.size_alloc] at this); omega
          have dQP : ¬ w22.heap.size = w20.heap.size := fun h => dPQ h.symm
          refine hK.out _ _ ⟨fun _ => ⟨((X22.alloc _)).keep3, ((Y22.alloc _)).keep3⟩, ?_⟩
          clear hK K
          try simp only [Act.put, List.setIfInBounds_toArray, List.set_cons_zero, List.set_cons_succ]
          have Xe := (X22.alloc (.cells zcs 29))
          have Ye := (Y22.alloc (.cells zcs 29))
          have Ze := (Z22.alloc (.cells zcs 29))
          have Pe := (P22.alloc (.cells zcs 29))
          have Qe := Qn23
          have lPe := P22.all
          have bPe := P22.lt
          have lQe := Qe.all
          refine anyT_one (i := 10) (by kernel_rfl) ?_
          refine wpOp_step rfl (fun K hK => ?_)
          replace hK := Lib.hid hK
          go_simp
          refine hK.out _ _ ⟨fun h => absurd h (by decide), ?_⟩
          clear hK K
          try simp only [Act.put]
          refine anyT_one (i := 11) (by kernel_rfl) ?_
          refine wpOp_step rfl (fun K hK => ?_)
          replace hK := Lib.hid hK
          go_simp
          refine hK.out _ _ ⟨fun h => absurd h (by decide), ?_⟩
          clear hK K
          try simp only [Act.put]
          clear lPe lQe
          have Qm : HV 29 ((((w22.setCell ⟨w20.heap.size, 0, none⟩ (.int .i64 (n : Int))).setCell ⟨w20.heap.size, 1, none⟩ (.int .u64 ((lo s : Nat) : Int))).setCell ⟨w20.heap.size, 2, none⟩ (.int .u64 ((hi s : Nat) : Int))).alloc (.cells (vcs n p) 29)) (w22.heap.size) n p := by
            have h := HV.new (((w22.setCell ⟨w20.heap.size, 0, none⟩ (.int .i64 (n : Int))).setCell ⟨w20.heap.size, 1, none⟩ (.int .u64 ((lo s : Nat) : Int))).setCell ⟨w20.heap.size, 2, none⟩ (.int .u64 ((hi s : Nat) : Int))) 29 n p
            (try simp only [World.size_alloc, World.size_setCell] at h)
            exact h
          refine anyT_done (by kernel_rfl) ?_ _
          go_wp2_with fail
          go_meet
          refine ⟨_, _, rfl, rfl, ?_, ?_, ?_, ?_, ?_, ?_⟩
          all_goals (first | ((repeat (first | (with_reducible exact X22) | (with_reducible exact Y22) | (with_reducible exact Z22) | (with_reducible exact P22) | (with_reducible exact Qn23) | (with_reducible exact Xe) | (with_reducible exact Ye) | (with_reducible exact Ze) | (with_reducible exact Pe) | (with_reducible exact Qe) | (with_reducible exact Qm) | (with_reducible exact HV.set3 P22 n s) | (with_reducible refine HV.drew ?_) | (with_reducible refine HV.far3 ?_ (by first | assumption | omega)) | (with_reducible refine HV.alloc ?_ _))); done) | skip)
          repeat' (first | (with_reducible refine Below.drew ?_) | (with_reducible refine Below.setCell ?_ ?_ _) | (with_reducible refine Below.alloc ?_ ?_ _))
          all_goals (first | exact hbw7 | exact hbw22 | (dsimp only; omega) | omega | go_size)
        ·
          refine wpOp_step rfl (fun K hK => ?_)
          replace hK := Lib.hid hK
          go_simp
          have Qn22 : HV 29 ((w20.alloc (.cells zcs 29)).alloc (.cells zcs 29)) (w20.heap.size + 1) 0 0 := by
            have h := HV.zero (w20.alloc (.cells zcs 29)) 29
            (try simp only [World.size_alloc] at h)
            exact h
          have dXQ : ¬ w6.heap.size = w20.heap.size + 1 := by have := ((X20.alloc (.cells zcs 29))).lt; (try simp only [World.size_alloc] at this); omega
          have dQX : ¬ w20.heap.size + 1 = w6.heap.size := fun h => dXQ h.symm
          have dYQ : ¬ w6.heap.size + 1 = w20.heap.size + 1 := by have := ((Y20.alloc (.cells zcs 29))).lt; (try simp only [World.size_alloc] at this); omega
          have dQY : ¬ w20.heap.size + 1 = w6.heap.size + 1 := fun h => dYQ h.symm
          have dZQ : ¬ w6.heap.size + 1 + 1 = w20.heap.size + 1 := by have := ((Z20.alloc (.cells zcs 29))).lt; (try simp only [World.size_alloc] at this); omega
          have dQZ : ¬ w20.heap.size + 1 = w6.heap.size + 1 + 1 := fun h => dZQ h.symm
          have dPQ : ¬ w20.heap.size = w20.heap.size + 1 := by have := (Pn21).lt; (try simp only [World.size_alloc] at this); omega
          have dQP : ¬ w20.heap.size + 1 = w20.heap.size := fun h => dPQ h.symm
          refine hK.out _ _ ⟨fun _ => ⟨(((X20.alloc _).alloc _)).keep3, (((Y20.alloc _).alloc _)).keep3⟩, ?_⟩
          clear hK K
          try simp only [Act.put, List.setIfInBounds_toArray, List.set_cons_zero, List.set_cons_succ]
          refine anyT_one (i := 7) (by kernel_rfl) ?_
          refine wpOp_step rfl (fun K hK => ?_)
          replace hK := Lib.hid hK
          go_simp
          (with_reducible refine (hp.out _).mono ?_)
          rintro e w23 ⟨rfl, hb23⟩
          have X23 := ((X20.alloc _).alloc _).over hb23
          have Y23 := ((Y20.alloc _).alloc _).over hb23
          have Z23 := ((Z20.alloc _).alloc _).over hb23
          have P23 := (Pn21.alloc _).over hb23
          have Q23 := Qn22.over hb23
          have hbw23 : Below w.heap.size w w23 := below_call hb23 (by first | exact hbw20 | (refine Below.drew ?_; go_grown) | go_grown)
          have z23 := hbw23.size
          clear hb23
          refine hK.out _ _ ⟨fun _ => ⟨(X23).keep3, (Y23).keep3⟩, ?_⟩
          clear hK K
          try simp only [Act.put, List.setIfInBounds_toArray, List.set_cons_zero, List.set_cons_succ]
          have Xe := X23
          have Ye := Y23
          have Ze := Z23
          have Pe := P23
          have Qe := Q23
          have lPe := P23.all
          have bPe := P23.lt
          have lQe := Q23.all
          have bQe := Q23.lt
          refine anyT_one (i := 10) (by kernel_rfl) ?_
          refine wpOp_step rfl (fun K hK => ?_)
          replace hK := Lib.hid hK
          go_simp
          refine hK.out _ _ ⟨fun h => absurd h (by decide), ?_⟩
          clear hK K
          try simp only [Act.put]
          refine anyT_one (i := 11) (by kernel_rfl) ?_
          refine wpOp_step rfl (fun K hK => ?_)
          replace hK := Lib.hid hK
          go_simp
          refine hK.out _ _ ⟨fun h => absurd h (by decide), ?_⟩
          clear hK K
          try simp only [Act.put]
          clear lPe lQe
          refine anyT_done (by kernel_rfl) ?_ _
          go_wp2_with fail
          go_meet
          refine ⟨_, _, rfl, rfl, ?_, ?_, ?_, ?_, ?_, ?_⟩
          all_goals (first | ((repeat (first | (with_reducible exact X23) | (with_reducible exact Y23) | (with_reducible exact Z23) | (with_reducible exact P23) | (with_reducible exact Q23) | (with_reducible exact Xe) | (with_reducible exact Ye) | (with_reducible exact Ze) | (with_reducible exact Pe) | (with_reducible exact Qe) | (with_reducible exact HV.set3 P23 n s) | (with_reducible exact HV.set3 (HV.far3 Q23 (by first | assumption | omega)) n p) | (with_reducible refine HV.drew ?_) | (with_reducible refine HV.far3 ?_ (by first | assumption | omega)) | (with_reducible refine HV.alloc ?_ _))); done) | skip)
          repeat' (first | (with_reducible refine Below.drew ?_) | (with_reducible refine Below.setCell ?_ ?_ _) | (with_reducible refine Below.alloc ?_ ?_ _))
          all_goals (first | exact hbw7 | exact hbw23 | (dsimp only; omega) | omega | go_size)
      ·
        refine wpOp_step rfl (fun K hK => ?_)
        replace hK := Lib.hid hK
        go_simp
        have Qn21 : HV 29 (w20.alloc (.cells zcs 29)) (w20.heap.size) 0 0 := by
          have h := HV.zero w20 29
          (try simp only [World.size_alloc] at h)
          exact h
        have dXQ : ¬ w6.heap.size = w20.heap.size := by have := (X20).lt; (try simp only [World.size_alloc] at this); omega
        have dQX : ¬ w20.heap.size = w6.heap.size := fun h => dXQ h.symm
        have dYQ : ¬ w6.heap.size + 1 = w20.heap.size := by have := (Y20).lt; (try simp only [World.size_alloc] at this); omega
        have dQY : ¬ w20.heap.size = w6.heap.size + 1 := fun h => dYQ h.symm
        have dZQ : ¬ w6.heap.size + 1 + 1 = w20.heap.size := by have := (Z20).lt; (try simp only [World.size_alloc] at this); omega
        have dQZ : ¬ w20.heap.size = w6.heap.size + 1 + 1 := fun h => dZQ h.symm
        refine hK.out _ _ ⟨fun _ => ⟨((X20.alloc _)).keep3, ((Y20.alloc _)).keep3⟩, ?_⟩
        clear hK K
        try simp only [Act.put, List.setIfInBounds_toArray, List.set_cons_zero, List.set_cons_succ]
        refine anyT_pair (i := 7) (j := 8) (by kernel_rfl) ?_ ?_
        ·
          refine wpOp_step rfl (fun K hK => ?_)
          replace hK := Lib.hid hK
          go_simp
          (with_reducible refine (hp.out _).mono ?_)
          rintro e w22 ⟨rfl, hb22⟩
          have X22 := (X20.alloc _).over hb22
          have Y22 := (Y20.alloc _).over hb22
          have Z22 := (Z20.alloc _).over hb22
          have Q22 := Qn21.over hb22
          have hbw22 : Below w.heap.size w w22 := below_call hb22 (by first | exact hbw20 | (refine Below.drew ?_; go_grown) | go_grown)
          have z22 := hbw22.size
          clear hb22
          refine hK.out _ _ ⟨fun _ => ⟨(X22).keep3, (Y22).keep3⟩, ?_⟩
          clear hK K
          try simp only [Act.put, List.setIfInBounds_toArray, List.set_cons_zero, List.set_cons_succ]
          refine anyT_one (i := 8) (by kernel_rfl) ?_
          refine wpOp_step rfl (fun K hK => ?_)
          replace hK := Lib.hid hK
          go_simp
          have Pn23 : HV 29 (w22.alloc (.cells zcs 29)) (w22.heap.size) 0 0 := by
            have h := HV.zero w22 29
            (try simp only [World.size_alloc] at h)
            exact h
          have dXP : ¬ w6.heap.size = w22.heap.size := by have := (X22).lt; (try simp only [World.size_alloc] at this); omega
          have dPX : ¬ w22.heap.size = w6.heap.size := fun h => dXP h.symm
          have dYP : ¬ w6.heap.size + 1 = w22.heap.size := by have := (Y22).lt; (try simp only [World.size_alloc] at this); omega
          have dPY : ¬ w22.heap.size = w6.heap.size + 1 := fun h => dYP h.symm
          have dZP : ¬ w6.heap.size + 1 + 1 = w22.heap.size := by have := (Z22).lt; (try simp only [World.size_alloc] at this); omega
          have dPZ : ¬ w22.heap.size = w6.heap.size + 1 + 1 := fun h => dZP h.symm
          have dQP : ¬ w20.heap.size = w22.heap.size := by have := (Q22).lt; (try simp only [World.size_alloc] at this); omega
          have dPQ : ¬ w22.heap.size = w20.heap.size := fun h => dQP h.symm
          refine hK.out _ _ ⟨fun _ => ⟨((X22.alloc _)).keep3, ((Y22.alloc _)).keep3⟩, ?_⟩
          clear hK K
          try simp only [Act.put, List.setIfInBounds_toArray, List.set_cons_zero, List.set_cons_succ]
          have Xe := (X22.alloc (.cells zcs 29))
          have Ye := (Y22.alloc (.cells zcs 29))
          have Ze := (Z22.alloc (.cells zcs 29))
          have Qe := (Q22.alloc (.cells zcs 29))
          have Pe := Pn23
          have lPe := Pe.all
          have lQe := Q22.all
          have bQe := Q22.lt
          refine anyT_one (i := 10) (by kernel_rfl) ?_
          refine wpOp_step rfl (fun K hK => ?_)
          replace hK := Lib.hid hK
          go_simp
          refine hK.out _ _ ⟨fun h => absurd h (by decide), ?_⟩
          clear hK K
          try simp only [Act.put]
          refine anyT_one (i := 11) (by kernel_rfl) ?_
          refine wpOp_step rfl (fun K hK => ?_)
          replace hK := Lib.hid hK
          go_simp
          refine hK.out _ _ ⟨fun h => absurd h (by decide), ?_⟩
          clear hK K
          try simp only [Act.put]
          clear lPe lQe
          have Pm : HV 29 ((((w22.setCell ⟨w20.heap.size, 0, none⟩ (.int .i64 (n : Int))).setCell ⟨w20.heap.size, 1, none⟩ (.int .u64 ((lo p : Nat) : Int))).setCell ⟨w20.heap.size, 2, none⟩ (.int .u64 ((hi p : Nat) : Int))).alloc (.cells (vcs n s) 29)) (w22.heap.size) n s := by
            have h := HV.new (((w22.setCell ⟨w20.heap.size, 0, none⟩ (.int .i64 (n : Int))).setCell ⟨w20.heap.size, 1, none⟩ (.int .u64 ((lo p : Nat) : Int))).setCell ⟨w20.heap.size, 2, none⟩ (.int .u64 ((hi p : Nat) : Int))) 29 n s
            (try simp only [World.size_alloc, World.size_setCell] at h)
            exact h
          refine anyT_done (by kernel_rfl) ?_ _
          go_wp2_with fail
          go_meet
          refine ⟨_, _, rfl, rfl, ?_, ?_, ?_, ?_, ?_, ?_⟩
          all_goals (first | ((repeat (first | (with_reducible exact X22) | (with_reducible exact Y22) | (with_reducible exact Z22) | (with_reducible exact Q22) | (with_reducible exact Pn23) | (with_reducible exact Xe) | (with_reducible exact Ye) | (with_reducible exact Ze) | (with_reducible exact Qe) | (with_reducible exact Pe) | (with_reducible exact Pm) | (with_reducible exact HV.set3 Q22 n p) | (with_reducible refine HV.drew ?_) | (with_reducible refine HV.far3 ?_ (by first | assumption | omega)) | (with_reducible refine HV.alloc ?_ _))); done) | skip)
          repeat' (first | (with_reducible refine Below.drew ?_) | (with_reducible refine Below.setCell ?_ ?_ _) | (with_reducible refine Below.alloc ?_ ?_ _))
          all_goals (first | exact hbw7 | exact hbw22 | (dsimp only; omega) | omega | go_size)
        ·
          refine wpOp_step rfl (fun K hK => ?_)
          replace hK := Lib.hid hK
          go_simp
          have Pn22 : HV 29 ((w20.alloc (.cells zcs 29)).alloc (.cells zcs 29)) (w20.heap.size + 1) 0 0 := by
            have h := HV.zero (w20.alloc (.cells zcs 29)) 29
            (try simp only [World.size_alloc] at h)
            exact h
          have dXP : ¬ w6.heap.size = w20.heap.size + 1 := by have := ((X20.alloc (.cells zcs 29))).lt; (try simp only [World.size_alloc] at this); omega
          have dPX : ¬ w20.heap.size + 1 = w6.heap.size := fun h => dXP h.symm
          have dYP : ¬ w6.heap.size + 1 = w20.heap.size + 1 := by have := ((Y20.alloc (.cells zcs 29))).lt; (try simp only [World.size_alloc] at this); omega
          have dPY : ¬ w20.heap.size + 1 = w6.heap.size + 1 := fun h => dYP h.symm
          have dZP : ¬ w6.heap.size + 1 + 1 = w20.heap.size + 1 := by have := ((Z20.alloc (.cells zcs 29))).lt; (try simp only [World.size_alloc] at this); omega
          have dPZ : ¬ w20.heap.size + 1 = w6.heap.size + 1 + 1 := fun h => dZP h.symm
          have dQP : ¬ w20.heap.size = w20.heap.size + 1 := by have := (Qn21).lt; (try simp only [World.size_alloc] at this); omega
          have dPQ : ¬ w20.heap.size + 1 = w20.heap.size := fun h => dQP h.symm
          refine hK.out _ _ ⟨fun _ => ⟨(((X20.alloc _).alloc _)).keep3, (((Y20.alloc _).alloc _)).keep3⟩, ?_⟩
          clear hK K
          try simp only [Act.put, List.setIfInBounds_toArray, List.set_cons_zero, List.set_cons_succ]
          refine anyT_one (i := 7) (by kernel_rfl) ?_
          refine wpOp_step rfl (fun K hK => ?_)
          replace hK := Lib.hid hK
          go_simp
          (with_reducible refine (hp.out _).mono ?_)
          rintro e w23 ⟨rfl, hb23⟩
          have X23 := ((X20.alloc _).alloc _).over hb23
          have Y23 := ((Y20.alloc _).alloc _).over hb23
          have Z23 := ((Z20.alloc _).alloc _).over hb23
          have Q23 := (Qn21.alloc _).over hb23
          have P23 := Pn22.over hb23
          have hbw23 : Below w.heap.size w w23 := below_call hb23 (by first | exact hbw20 | (refine Below.drew ?_; go_grown) | go_grown)
          have z23 := hbw23.size
          clear hb23
          refine hK.out _ _ ⟨fun _ => ⟨(X23).keep3, (Y23).keep3⟩, ?_⟩
          clear hK K
          try simp only [Act.put, List.setIfInBounds_toArray, List.set_cons_zero, List.set_cons_succ]
          have Xe := X23
          have Ye := Y23
          have Ze := Z23
          have Qe := Q23
          have Pe := P23
          have lPe := P23.all
          have bPe := P23.lt
          have lQe := Q23.all
          have bQe := Q23.lt
          refine anyT_one (i := 10) (by kernel_rfl) ?_
          refine wpOp_step rfl (fun K hK => ?_)
          replace hK := Lib.hid hK
          go_simp
          refine hK.out _ _ ⟨fun h => absurd h (by decide), ?_⟩
          clear hK K
          try simp only [Act.put]
          refine anyT_one (i := 11) (by kernel_rfl) ?_
          refine wpOp_step rfl (fun K hK => ?_)
          replace hK := Lib.hid hK
          go_simp
          refine hK.out _ _ ⟨fun h => absurd h (by decide), ?_⟩
          clear hK K
          try simp only [Act.put]
          clear lPe lQe
          refine anyT_done (by kernel_rfl) ?_ _
          go_wp2_with fail
          go_meet
          refine ⟨_, _, rfl, rfl, ?_, ?_, ?_, ?_, ?_, ?_⟩
          all_goals (first | ((repeat (first | (with_reducible exact X23) | (with_reducible exact Y23) | (with_reducible exact Z23) | (with_reducible exact Q23) | (with_reducible exact P23) | (with_reducible exact Xe) | (with_reducible exact Ye) | (with_reducible exact Ze) | (with_reducible exact Qe) | (with_reducible exact Pe) | (with_reducible exact HV.set3 P23 n s) | (with_reducible exact HV.set3 (HV.far3 Q23 (by first | assumption | omega)) n p) | (with_reducible refine HV.drew ?_) | (with_reducible refine HV.far3 ?_ (by first | assumption | omega)) | (with_reducible refine HV.alloc ?_ _))); done) | skip)
          repeat' (first | (with_reducible refine Below.drew ?_) | (with_reducible refine Below.setCell ?_ ?_ _) | (with_reducible refine Below.alloc ?_ ?_ _))
          all_goals (first | exact hbw7 | exact hbw23 | (dsimp only; omega) | omega | go_size)
    ·
      refine wpOp_step rfl (fun K hK => ?_)
      replace hK := Lib.hid hK
      go_simp
      have Pn20 : HV 29 ((((w6.alloc (.cells (vcs n x) 29)).alloc (.cells (vcs n y) 29)).alloc (.cells (vcs n z) 29)).alloc (.cells zcs 29)) (w6.heap.size + 1 + 1 + 1) 0 0 := by
        have h := HV.zero (((w6.alloc (.cells (vcs n x) 29)).alloc (.cells (vcs n y) 29)).alloc (.cells (vcs n z) 29)) 29
        (try simp only [World.size_alloc] at h)
        exact h
      have dXP : ¬ w6.heap.size = w6.heap.size + 1 + 1 + 1 := by have := (X7).lt; (try simp only [World.size_alloc] at this); omega
      have dPX : ¬ w6.heap.size + 1 + 1 + 1 = w6.heap.size := fun h => dXP h.symm
      have dYP : ¬ w6.heap.size + 1 = w6.heap.size + 1 + 1 + 1 := by have := (Y7).lt; (try simp only [World.size_alloc] at this); omega
      have dPY : ¬ w6.heap.size + 1 + 1 + 1 = w6.heap.size + 1 := fun h => dYP h.symm
      have dZP : ¬ w6.heap.size + 1 + 1 = w6.heap.size + 1 + 1 + 1 := by have := (Z7).lt; (try simp only [World.size_alloc] at this); omega
      have dPZ : ¬ w6.heap.size + 1 + 1 + 1 = w6.heap.size + 1 + 1 := fun h => dZP h.symm
      refine hK.out _ _ ⟨fun _ => ⟨((X7.alloc _).drew).keep3, ((Y7.alloc _).drew).keep3⟩, ?_⟩
      clear hK K
      try simp only [Act.put, List.setIfInBounds_toArray, List.set_cons_zero, List.set_cons_succ]
      refine anyT_pair (i := 3) (j := 9) (by kernel_rfl) ?_ ?_
      ·
        refine wpOp_step rfl (fun K hK => ?_)
        replace hK := Lib.hid hK
        go_simp
        (with_reducible refine (hs.out _).mono ?_)
        rintro e w21 ⟨rfl, hb21⟩
        have X21 := (X7.alloc _).drew.over hb21
        have Y21 := (Y7.alloc _).drew.over hb21
        have Z21 := (Z7.alloc _).drew.over hb21
        have P21 := Pn20.drew.over hb21
        have hbw21 : Below w.heap.size w w21 := below_call hb21 (by first | exact hbw7.drew | (refine Below.drew ?_; go_grown) | go_grown)
        have z21 := hbw21.size
        clear hb21
        refine hK.out _ _ ⟨fun _ => ⟨(X21).keep3, (Y21).keep3⟩, ?_⟩
        clear hK K
        try simp only [Act.put, List.setIfInBounds_toArray, List.set_cons_zero, List.set_cons_succ]
        refine anyT_pair (i := 7) (j := 9) (by kernel_rfl) ?_ ?_
        ·
          refine wpOp_step rfl (fun K hK => ?_)
          replace hK := Lib.hid hK
          go_simp
          (with_reducible refine (hp.out _).mono ?_)
          rintro e w22 ⟨rfl, hb22⟩
          have X22 := X21.over hb22
          have Y22 := Y21.over hb22
          have Z22 := Z21.over hb22
          have P22 := P21.over hb22
          have hbw22 : Below w.heap.size w w22 := below_call hb22 (by first | exact hbw21 | (refine Below.drew ?_; go_grown) | go_grown)
          have z22 := hbw22.size
          clear hb22
          refine hK.out _ _ ⟨fun _ => ⟨(X22).keep3, (Y22).keep3⟩, ?_⟩
          clear hK K
          try simp only [Act.put, List.setIfInBounds_toArray, List.set_cons_zero, List.set_cons_succ]
          refine anyT_one (i := 9) (by kernel_rfl) ?_
          refine wpOp_step rfl (fun K hK => ?_)
          replace hK := Lib.hid hK
          go_simp
          have Qn23 : HV 29 (w22.alloc (.cells zcs 29)) (w22.heap.size) 0 0 := by
            have h := HV.zero w22 29
            (try simp only [World.size_alloc] at h)
            exact h
          have dXQ : ¬ w6.heap.size = w22.heap.size := by have := (X22).lt; (try simp only [World.size_alloc] at this); omega
          have dQX : ¬ w22.heap.size = w6.heap.size := fun h => dXQ h.symm
          have dYQ : ¬ w6.heap.size + 1 = w22.heap.size := by have := (Y22).lt; (try simp only [World.size_alloc] at this); omega
          have dQY : ¬ w22.heap.size = w6.heap.size + 1 := fun h => dYQ h.symm
          have dZQ : ¬ w6.heap.size + 1 + 1 = w22.heap.size := by have := (Z22).lt; (try simp only [World.size_alloc] at this); omega
          have dQZ : ¬ w22.heap.size = w6.heap.size + 1 + 1 := fun h => dZQ h.symm
          have dPQ : ¬ w6.heap.size + 1 + 1 + 1 = w22.heap.size := by have := (P22).lt; (try simp only [World.size_alloc] at this); omega
          have dQP : ¬ w22.heap.size = w6.heap.size + 1 + 1 + 1 := fun h => dPQ h.symm
          refine hK.out _ _ ⟨fun _ => ⟨((X22.alloc _)).keep3, ((Y22.alloc _)).keep3⟩, ?_⟩
          clear hK K
          try simp only [Act.put, List.setIfInBounds_toArray, List.set_cons_zero, List.set_cons_succ]
          have Xe := (X22.alloc (.cells zcs 29))
          have Ye := (Y22.alloc (.cells zcs 29))
          have Ze := (Z22.alloc (.cells zcs 29))
          have Pe := (P22.alloc (.cells zcs 29))
          have Qe := Qn23
          have lPe := P22.all
          have bPe := P22.lt
          have lQe := Qe.all
          refine anyT_one (i := 10) (by kernel_rfl) ?_
          refine wpOp_step rfl (fun K hK => ?_)
          replace hK := Lib.hid hK
          go_simp
          refine hK.out _ _ ⟨fun h => absurd h (by decide), ?_⟩
          clear hK K
          try simp only [Act.put]
          refine anyT_one (i := 11) (by kernel_rfl) ?_
          refine wpOp_step rfl (fun K hK => ?_)
          replace hK := Lib.hid hK
          go_simp
          refine hK.out _ _ ⟨fun h => absurd h (by decide), ?_⟩
          clear hK K
          try simp only [Act.put]
          clear lPe lQe
          have Qm : HV 29 ((((w22.setCell ⟨w6.heap.size + 1 + 1 + 1, 0, none⟩ (.int .i64 (n : Int))).setCell ⟨w6.heap.size + 1 + 1 + 1, 1, none⟩ (.int .u64 ((lo s : Nat) : Int))).setCell ⟨w6.heap.size + 1 + 1 + 1, 2, none⟩ (.int .u64 ((hi s : Nat) : Int))).alloc (.cells (vcs n p) 29)) (w22.heap.size) n p := by
            have h := HV.new (((w22.setCell ⟨w6.heap.size + 1 + 1 + 1, 0, none⟩ (.int .i64 (n : Int))).setCell ⟨w6.heap.size + 1 + 1 + 1, 1, none⟩ (.int .u64 ((lo s : Nat) : Int))).setCell ⟨w6.heap.size + 1 + 1 + 1, 2, none⟩ (.int .u64 ((hi s : Nat) : Int))) 29 n p
            (try simp only [World.size_alloc, World.size_setCell] at h)
            exact h
          refine anyT_done (by kernel_rfl) ?_ _
          go_wp2_with fail
          go_meet
          refine ⟨_, _, rfl, rfl, ?_, ?_, ?_, ?_, ?_, ?_⟩
          all_goals (first | ((repeat (first | (with_reducible exact X22) | (with_reducible exact Y22) | (with_reducible exact Z22) | (with_reducible exact P22) | (with_reducible exact Qn23) | (with_reducible exact Xe) | (with_reducible exact Ye) | (with_reducible exact Ze) | (with_reducible exact Pe) | (with_reducible exact Qe) | (with_reducible exact Qm) | (with_reducible exact HV.set3 P22 n s) | (with_reducible refine HV.drew ?_) | (with_reducible refine HV.far3 ?_ (by first | assumption | omega)) | (with_reducible refine HV.alloc ?_ _))); done) | skip)
          repeat' (first | (with_reducible refine Below.drew ?_) | (with_reducible refine Below.setCell ?_ ?_ _) | (with_reducible refine Below.alloc ?_ ?_ _))
          all_goals (first | exact hbw7 | exact hbw22 | (dsimp only; omega) | omega | go_size)
        ·
          refine wpOp_step rfl (fun K hK => ?_)
          replace hK := Lib.hid hK
          go_simp
          have Qn22 : HV 29 (w21.alloc (.cells zcs 29)) (w21.heap.size) 0 0 := by
            have h := HV.zero w21 29
            (try simp only [World.size_alloc] at h)
            exact h
          have dXQ : ¬ w6.heap.size = w21.heap.size := by have := (X21).lt; (try simp only [World.size_alloc] at this); omega
          have dQX : ¬ w21.heap.size = w6.heap.size := fun h => dXQ h.symm
          have dYQ : ¬ w6.heap.size + 1 = w21.heap.size := by have := (Y21).lt; (try simp only [World.size_alloc] at this); omega
          have dQY : ¬ w21.heap.size = w6.heap.size + 1 := fun h => dYQ h.symm
          have dZQ : ¬ w6.heap.size + 1 + 1 = w21.heap.size := by have := (Z21).lt; (try simp only [World.size_alloc] at this); omega
          have dQZ : ¬ w21.heap.size = w6.heap.size + 1 + 1 := fun h => dZQ h.symm
          have dPQ : ¬ w6.heap.size + 1 + 1 + 1 = w21.heap.size := by have := (P21).lt; (try simp only [World.size_alloc] at this); omega
          have dQP : ¬ w21.heap.size = w6.heap.size + 1 + 1 + 1 := fun h => dPQ h.symm
          refine hK.out _ _ ⟨fun _ => ⟨((X21.alloc _)).keep3, ((Y21.alloc _)).keep3⟩, ?_⟩
          clear hK K
          try simp only [Act.put, List.setIfInBounds_toArray, List.set_cons_zero, List.set_cons_succ]
          refine anyT_one (i := 7) (by kernel_rfl) ?_
          refine wpOp_step rfl (fun K hK => ?_)
          replace hK := Lib.hid hK
          go_simp
          (with_reducible refine (hp.out _).mono ?_)
          rintro e w23 ⟨rfl, hb23⟩
          have X23 := (X21.alloc _).over hb23
          have Y23 := (Y21.alloc _).over hb23
          have Z23 := (Z21.alloc _).over hb23
          have P23 := (P21.alloc _).over hb23
          have Q23 := Qn22.over hb23
          have hbw23 : Below w.heap.size w w23 := below_call hb23 (by first | exact hbw21 | (refine Below.drew ?_; go_grown) | go_grown)
          have z23 := hbw23.size
          clear hb23
          refine hK.out _ _ ⟨fun _ => ⟨(X23).keep3, (Y23).keep3⟩, ?_⟩
          clear hK K
          try simp only [Act.put, List.setIfInBounds_toArray, List.set_cons_zero, List.set_cons_succ]
          have Xe := X23
          have Ye := Y23
          have Ze := Z23
          have Pe := P23
          have Qe := Q23
          have lPe := P23.all
          have bPe := P23.lt
          have lQe := Q23.all
          have bQe := Q23.lt
          refine anyT_one (i := 10) (by kernel_rfl) ?_
          refine wpOp_step rfl (fun K hK => ?_)
          replace hK := Lib.hid hK
          go_simp
          refine hK.out _ _ ⟨fun h => absurd h (by decide), ?_⟩
          clear hK K
          try simp only [Act.put]
          refine anyT_one (i := 11) (by kernel_rfl) ?_
          refine wpOp_step rfl (fun K hK => ?_)
          replace hK := Lib.hid hK
          go_simp
          refine hK.out _ _ ⟨fun h => absurd h (by decide), ?_⟩
          clear hK K
          try simp only [Act.put]
          clear lPe lQe
          refine anyT_done (by kernel_rfl) ?_ _
          go_wp2_with fail
          go_meet
          refine ⟨_, _, rfl, rfl, ?_, ?_, ?_, ?_, ?_, ?_⟩
          all_goals (first | ((repeat (first | (with_reducible exact X23) | (with_reducible exact Y23) | (with_reducible exact Z23) | (with_reducible exact P23) | (with_reducible exact Q23) | (with_reducible exact Xe) | (with_reducible exact Ye) | (with_reducible exact Ze) | (with_reducible exact Pe) | (with_reducible exact Qe) | (with_reducible exact HV.set3 P23 n s) | (with_reducible exact HV.set3 (HV.far3 Q23 (by first | assumption | omega)) n p) | (with_reducible refine HV.drew ?_) | (with_reducible refine HV.far3 ?_ (by first | assumption | omega)) | (with_reducible refine HV.alloc ?_ _))); done) | skip)
          repeat' (first | (with_reducible refine Below.drew ?_) | (with_reducible refine Below.setCell ?_ ?_ _) | (with_reducible refine Below.alloc ?_ ?_ _))
          all_goals (first | exact hbw7 | exact hbw23 | (dsimp only; omega) | omega | go_size)
      ·
        refine wpOp_step rfl (fun K hK => ?_)
        replace hK := Lib.hid hK
        go_simp
        have Qn21 : HV 29 (((((w6.alloc (.cells (vcs n x) 29)).alloc (.cells (vcs n y) 29)).alloc (.cells (vcs n z) 29)).alloc (.cells zcs 29)).alloc (.cells zcs 29)) (w6.heap.size + 1 + 1 + 1 + 1) 0 0 := by
          have h := HV.zero ((((w6.alloc (.cells (vcs n x) 29)).alloc (.cells (vcs n y) 29)).alloc (.cells (vcs n z) 29)).alloc (.cells zcs 29)) 29
          (try simp only [World.size_alloc] at h)
          exact h
        have dXQ : ¬ w6.heap.size = w6.heap.size + 1 + 1 + 1 + 1 := by have := ((X7.alloc (.cells zcs 29))).lt; (try simp only [World.size_alloc] at this); omega
        have dQX : ¬ w6.heap.size + 1 + 1 + 1 + 1 = w6.heap.size := fun h => dXQ h.symm
        have dYQ : ¬ w6.heap.size + 1 = w6.heap.size + 1 + 1 + 1 + 1 := by have := ((Y7.alloc (.cells zcs 29))).lt; (try simp only [World.size_alloc] at this); omega
        have dQY : ¬ w6.heap.size + 1 + 1 + 1 + 1 = w6.heap.size + 1 := fun h => dYQ h.symm
        have dZQ : ¬ w6.heap.size + 1 + 1 = w6.heap.size + 1 + 1 + 1 + 1 := by have := ((Z7.alloc (.cells zcs 29))).lt; (try simp only [World.size_alloc] at this); omega
        have dQZ : ¬ w6.heap.size + 1 + 1 + 1 + 1 = w6.heap.size + 1 + 1 := fun h => dZQ h.symm
        have dPQ : ¬ w6.heap.size + 1 + 1 + 1 = w6.heap.size + 1 + 1 + 1 + 1 := by have := (Pn20).lt; (try simp only [World.size_alloc] at this); omega
        have dQP : ¬ w6.heap.size + 1 + 1 + 1 + 1 = w6.heap.size + 1 + 1 + 1 := fun h => dPQ h.symm
        refine hK.out _ _ ⟨fun _ => ⟨(((X7.alloc _).alloc _).drew).keep3, (((Y7.alloc _).alloc _).drew).keep3⟩, ?_⟩
        clear hK K
        try simp only [Act.put, List.setIfInBounds_toArray, List.set_cons_zero, List.set_cons_succ]
        refine anyT_one (i := 3) (by kernel_rfl) ?_
        refine wpOp_step rfl (fun K hK => ?_)
        replace hK := Lib.hid hK
        go_simp
        (with_reducible refine (hs.out _).mono ?_)
        rintro e w22 ⟨rfl, hb22⟩
        have X22 := ((X7.alloc _).alloc _).drew.over hb22
        have Y22 := ((Y7.alloc _).alloc _).drew.over hb22
        have Z22 := ((Z7.alloc _).alloc _).drew.over hb22
        have P22 := (Pn20.alloc _).drew.over hb22
        have Q22 := Qn21.drew.over hb22
        have hbw22 : Below w.heap.size w w22 := below_call hb22 (by first | exact hbw7.drew | (refine Below.drew ?_; go_grown) | go_grown)
        have z22 := hbw22.size
        clear hb22
        refine hK.out _ _ ⟨fun _ => ⟨(X22).keep3, (Y22).keep3⟩, ?_⟩
        clear hK K
        try simp only [Act.put, List.setIfInBounds_toArray, List.set_cons_zero, List.set_cons_succ]
        refine anyT_one (i := 7) (by kernel_rfl) ?_
        refine wpOp_step rfl (fun K hK => ?_)
        replace hK := Lib.hid hK
        go_simp
        (with_reducible refine (hp.out _).mono ?_)
        rintro e w23 ⟨rfl, hb23⟩
        have X23 := X22.over hb23
        have Y23 := Y22.over hb23
        have Z23 := Z22.over hb23
        have P23 := P22.over hb23
        have Q23 := Q22.over hb23
        have hbw23 : Below w.heap.size w w23 := below_call hb23 (by first | exact hbw22 | (refine Below.drew ?_; go_grown) | go_grown)
        have z23 := hbw23.size
        clear hb23
        refine hK.out _ _ ⟨fun _ => ⟨(X23).keep3, (Y23).keep3⟩, ?_⟩
        clear hK K
        try simp only [Act.put, List.setIfInBounds_toArray, List.set_cons_zero, List.set_cons_succ]
        have Xe := X23
        have Ye := Y23
        have Ze := Z23
        have Pe := P23
        have Qe := Q23
        have lPe := P23.all
        have bPe := P23.lt
        have lQe := Q23.all
        have bQe := Q23.lt
        refine anyT_one (i := 10) (by kernel_rfl) ?_
        refine wpOp_step rfl (fun K hK => ?_)
        replace hK := Lib.hid hK
        go_simp
        refine hK.out _ _ ⟨fun h => absurd h (by decide), ?_⟩
        clear hK K
        try simp only [Act.put]
        refine anyT_one (i := 11) (by kernel_rfl) ?_
        refine wpOp_step rfl (fun K hK => ?_)
        replace hK := Lib.hid hK
        go_simp
        refine hK.out _ _ ⟨fun h => absurd h (by decide), ?_⟩
        clear hK K
        try simp only [Act.put]
        clear lPe lQe
        refine anyT_done (by kernel_rfl) ?_ _
        go_wp2_with fail
        go_meet
        refine ⟨_, _, rfl, rfl, ?_, ?_, ?_, ?_, ?_, ?_⟩
        all_goals (first | ((repeat (first | (with_reducible exact X23) | (with_reducible exact Y23) | (with_reducible exact Z23) | (with_reducible exact P23) | (with_reducible exact Q23) | (with_reducible exact Xe) | (with_reducible exact Ye) | (with_reducible exact Ze) | (with_reducible exact Pe) | (with_reducible exact Qe) | (with_reducible exact HV.set3 P23 n s) | (with_reducible exact HV.set3 (HV.far3 Q23 (by first | assumption | omega)) n p) | (with_reducible refine HV.drew ?_) | (with_reducible refine HV.far3 ?_ (by first | assumption | omega)) | (with_reducible refine HV.alloc ?_ _))); done) | skip)
        repeat' (first | (with_reducible refine Below.drew ?_) | (with_reducible refine Below.setCell ?_ ?_ _) | (with_reducible refine Below.alloc ?_ ?_ _))
        all_goals (first | exact hbw7 | exact hbw23 | (dsimp only; omega) | omega | go_size)
    ·
      refine wpOp_step rfl (fun K hK => ?_)
      replace hK := Lib.hid hK
      go_simp
      have Qn20 : HV 29 ((((w6.alloc (.cells (vcs n x) 29)).alloc (.cells (vcs n y) 29)).alloc (.cells (vcs n z) 29)).alloc (.cells zcs 29)) (w6.heap.size + 1 + 1 + 1) 0 0 := by
        have h := HV.zero (((w6.alloc (.cells (vcs n x) 29)).alloc (.cells (vcs n y) 29)).alloc (.cells (vcs n z) 29)) 29
        (try simp only [World.size_alloc] at h)
        exact h
      have dXQ : ¬ w6.heap.size = w6.heap.size + 1 + 1 + 1 := by have := (X7).lt; (try simp only [World.size_alloc] at this); omega
      have dQX : ¬ w6.heap.size + 1 + 1 + 1 = w6.heap.size := fun h => dXQ h.symm
      have dYQ : ¬ w6.heap.size + 1 = w6.heap.size + 1 + 1 + 1 := by have := (Y7).lt; (try simp only [World.size_alloc] at this); omega
      have dQY : ¬ w6.heap.size + 1 + 1 + 1 = w6.heap.size + 1 := fun h => dYQ h.symm
      have dZQ : ¬ w6.heap.size + 1 + 1 = w6.heap.size + 1 + 1 + 1 := by have := (Z7).lt; (try simp only [World.size_alloc] at this); omega
      have dQZ : ¬ w6.heap.size + 1 + 1 + 1 = w6.heap.size + 1 + 1 := fun h => dZQ h.symm
      refine hK.out _ _ ⟨fun _ => ⟨((X7.alloc _).drew).keep3, ((Y7.alloc _).drew).keep3⟩, ?_⟩
      clear hK K
      try simp only [Act.put, List.setIfInBounds_toArray, List.set_cons_zero, List.set_cons_succ]
      refine anyT_pair (i := 3) (j := 8) (by kernel_rfl) ?_ ?_
      ·
        refine wpOp_step rfl (fun K hK => ?_)
        replace hK := Lib.hid hK
        go_simp
        (with_reducible refine (hs.out _).mono ?_)
        rintro e w21 ⟨rfl, hb21⟩
        have X21 := (X7.alloc _).drew.over hb21
        have Y21 := (Y7.alloc _).drew.over hb21
        have Z21 := (Z7.alloc _).drew.over hb21
        have Q21 := Qn20.drew.over hb21
        have hbw21 : Below w.heap.size w w21 := below_call hb21 (by first | exact hbw7.drew | (refine Below.drew ?_; go_grown) | go_grown)
        have z21 := hbw21.size
        clear hb21
        refine hK.out _ _ ⟨fun _ => ⟨(X21).keep3, (Y21).keep3⟩, ?_⟩
        clear hK K
        try simp only [Act.put, List.setIfInBounds_toArray, List.set_cons_zero, List.set_cons_succ]
        refine anyT_pair (i := 7) (j := 8) (by kernel_rfl) ?_ ?_
        ·
          refine wpOp_step rfl (fun K hK => ?_)
          replace hK := Lib.hid hK
          go_simp
          (with_reducible refine (hp.out _).mono ?_)
          rintro e w22 ⟨rfl, hb22⟩
          have X22 := X21.over hb22
          have Y22 := Y21.over hb22
          have Z22 := Z21.over hb22
          have Q22 := Q21.over hb22
          have hbw22 : Below w.heap.size w w22 := below_call hb22 (by first | exact hbw21 | (refine Below.drew ?_; go_grown) | go_grown)
          have z22 := hbw22.size
          clear hb22
          refine hK.out _ _ ⟨fun _ => ⟨(X22).keep3, (Y22).keep3⟩, ?_⟩
          clear hK K
          try simp only [Act.put, List.setIfInBounds_toArray, List.set_cons_zero, List.set_cons_succ]
          refine anyT_one (i := 8) (by kernel_rfl) ?_
          refine wpOp_step rfl (fun K hK => ?_)
          replace hK := Lib.hid hK
          go_simp
          have Pn23 : HV 29 (w22.alloc (.cells zcs 29)) (w22.heap.size) 0 0 := by
            have h := HV.zero w22 29
            (try simp only [World.size_alloc] at h)
            exact h
          have dXP : ¬ w6.heap.size = w22.heap.size := by have := (X22).lt; (try simp only [World.size_alloc] at this); omega
          have dPX : ¬ w22.heap.size = w6.heap.size := fun h => dXP h.symm
          have dYP : ¬ w6.heap.size + 1 = w22.heap.size := by have := (Y22).lt; (try simp only [World.size_alloc] at this); omega
          have dPY : ¬ w22.heap.size = w6.heap.size + 1 := fun h => dYP h.symm
          have dZP : ¬ w6.heap.size + 1 + 1 = w22.heap.size := by have := (Z22).lt; (try simp only [World.size_alloc] at this); omega
          have dPZ : ¬ w22.heap.size = w6.heap.size + 1 + 1 := fun h => dZP h.symm
          have dQP : ¬ w6.heap.size + 1 + 1 + 1 = w22.heap.size := by have := (Q22).lt; (try simp only [World.size_alloc] at this); omega
          have dPQ : ¬ w22.heap.size = w6.heap.size + 1 + 1 + 1 := fun h => dQP h.symm
          refine hK.out _ _ ⟨fun _ => ⟨((X22.alloc _)).keep3, ((Y22.alloc _)).keep3⟩, ?_⟩
          clear hK K
          try simp only [Act.put, List.setIfInBounds_toArray, List.set_cons_zero, List.set_cons_succ]
          have Xe := (X22.alloc (.cells zcs 29))
          have Ye := (Y22.alloc (.cells zcs 29))
          have Ze := (Z22.alloc (.cells zcs 29))
          have Qe := (Q22.alloc (.cells zcs 29))
          have Pe := Pn23
          have lPe := Pe.all
          have lQe := Q22.all
          have bQe := Q22.lt
          refine anyT_one (i := 10) (by kernel_rfl) ?_
          refine wpOp_step rfl (fun K hK => ?_)
          replace hK := Lib.hid hK
          go_simp
          refine hK.out _ _ ⟨fun h => absurd h (by decide), ?_⟩
          clear hK K
          try simp only [Act.put]
          refine anyT_one (i := 11) (by kernel_rfl) ?_
          refine wpOp_step rfl (fun K hK => ?_)
          replace hK := Lib.hid hK
          go_simp
          refine hK.out _ _ ⟨fun h => absurd h (by decide), ?_⟩
          clear hK K
          try simp only [Act.put]
          clear lPe lQe
          have Pm : HV 29 ((((w22.setCell ⟨w6.heap.size + 1 + 1 + 1, 0, none⟩ (.int .i64 (n : Int))).setCell ⟨w6.heap.size + 1 + 1 + 1, 1, none⟩ (.int .u64 ((lo p : Nat) : Int))).setCell ⟨w6.heap.size + 1 + 1 + 1, 2, none⟩ (.int .u64 ((hi p : Nat) : Int))).alloc (.cells (vcs n s) 29)) (w22.heap.size) n s := by
            have h := HV.new (((w22.setCell ⟨w6.heap.size + 1 + 1 + 1, 0, none⟩ (.int .i64 (n : Int))).setCell ⟨w6.heap.size + 1 + 1 + 1, 1, none⟩ (.int .u64 ((lo p : Nat) : Int))).setCell ⟨w6.heap.size + 1 + 1 + 1, 2, none⟩ (.int .u64 ((hi p : Nat) : Int))) 29 n s
            (try simp only [World.size_alloc, World.size_setCell] at h)
            exact h
          refine anyT_done (by kernel_rfl) ?_ _
          go_wp2_with fail
          go_meet
          refine ⟨_, _, rfl, rfl, ?_, ?_, ?_, ?_, ?_, ?_⟩
          all_goals (first | ((repeat (first | (with_reducible exact X22) | (with_reducible exact Y22) | (with_reducible exact Z22) | (with_reducible exact Q22) | (with_reducible exact Pn23) | (with_reducible exact Xe) | (with_reducible exact Ye) | (with_reducible exact Ze) | (with_reducible exact Qe) | (with_reducible exact Pe) | (with_reducible exact Pm) | (with_reducible exact HV.set3 Q22 n p) | (with_reducible refine HV.drew ?_) | (with_reducible refine HV.far3 ?_ (by first | assumption | omega)) | (with_reducible refine HV.alloc ?_ _))); done) | skip)
          repeat' (first | (with_reducible refine Below.drew ?_) | (with_reducible refine Below.setCell ?_ ?_ _) | (with_reducible refine Below.alloc ?_ ?_ _))
          all_goals (first | exact hbw7 | exact hbw22 | (dsimp only; omega) | omega | go_size)
        ·
          refine wpOp_step rfl (fun K hK => ?_)
          replace hK := Lib.hid hK
          go_simp
          have Pn22 : HV 29 (w21.alloc (.cells zcs 29)) (w21.heap.size) 0 0 := by
            have h := HV.zero w21 29
            (try simp only [World.size_alloc] at h)
            exact h
          have dXP : ¬ w6.heap.size = w21.heap.size := by have := (X21).lt; (try simp only [World.size_alloc] at this); omega
          have dPX : ¬ w21.heap.size = w6.heap.size := fun h => dXP h.symm
          have dYP : ¬ w6.heap.size + 1 = w21.heap.size := by have := (Y21).lt; (try simp only [World.size_alloc] at this); omega
          have dPY : ¬ w21.heap.size = w6.heap.size + 1 := fun h => dYP h.symm
          have dZP : ¬ w6.heap.size + 1 + 1 = w21.heap.size := by have := (Z21).lt; (try simp only [World.size_alloc] at this); omega
          have dPZ : ¬ w21.heap.size = w6.heap.size + 1 + 1 := fun h => dZP h.symm
          have dQP : ¬ w6.heap.size + 1 + 1 + 1 = w21.heap.size := by have := (Q21).lt; (try simp only [World.size_alloc] at this); omega
          have dPQ : ¬ w21.heap.size = w6.heap.size + 1 + 1 + 1 := fun h => dQP h.symm
          refine hK.out _ _ ⟨fun _ => ⟨((X21.alloc _)).keep3, ((Y21.alloc _)).keep3⟩, ?_⟩
          clear hK K
          try simp only [Act.put, List.setIfInBounds_toArray, List.set_cons_zero, List.set_cons_succ]
          refine anyT_one (i := 7) (by kernel_rfl) ?_
          refine wpOp_step rfl (fun K hK => ?_)
          replace hK := Lib.hid hK
          go_simp
          (with_reducible refine (hp.out _).mono ?_)
          rintro e w23 ⟨rfl, hb23⟩
          have X23 := (X21.alloc _).over hb23
          have Y23 := (Y21.alloc _).over hb23
          have Z23 := (Z21.alloc _).over hb23
          have Q23 := (Q21.alloc _).over hb23
          have P23 := Pn22.over hb23
          have hbw23 : Below w.heap.size w w23 := below_call hb23 (by first | exact hbw21 | (refine Below.drew ?_; go_grown) | go_grown)
          have z23 := hbw23.size
          clear hb23
          refine hK.out _ _ ⟨fun _ => ⟨(X23).keep3, (Y23).keep3⟩, ?_⟩
          clear hK K
          try simp only [Act.put, List.setIfInBounds_toArray, List.set_cons_zero, List.set_cons_succ]
          have Xe := X23
          have Ye := Y23
          have Ze := Z23
          have Qe := Q23
          have Pe := P23
          have lPe := P23.all
          have bPe := P23.lt
          have lQe := Q23.all
          have bQe := Q23.lt
          refine anyT_one (i := 10) (by kernel_rfl) ?_
          refine wpOp_step rfl (fun K hK => ?_)
          replace hK := Lib.hid hK
          go_simp
          refine hK.out _ _ ⟨fun h => absurd h (by decide), ?_⟩
          clear hK K
          try simp only [Act.put]
          refine anyT_one (i := 11) (by kernel_rfl) ?_
          refine wpOp_step rfl (fun K hK => ?_)
          replace hK := Lib.hid hK
          go_simp
          refine hK.out _ _ ⟨fun h => absurd h (by decide), ?_⟩
          clear hK K
          try simp only [Act.put]
          clear lPe lQe
          refine anyT_done (by kernel_rfl) ?_ _
          go_wp2_with fail
          go_meet
          refine ⟨_, _, rfl, rfl, ?_, ?_, ?_, ?_, ?_, ?_⟩
          all_goals (first | ((repeat (first | (with_reducible exact X23) | (with_reducible exact Y23) | (with_reducible exact Z23) | (with_reducible exact Q23) | (with_reducible exact P23) | (with_reducible exact Xe) | (with_reducible exact Ye) | (with_reducible exact Ze) | (with_reducible exact Qe) | (with_reducible exact Pe) | (with_reducible exact HV.set3 P23 n s) | (with_reducible exact HV.set3 (HV.far3 Q23 (by first | assumption | omega)) n p) | (with_reducible refine HV.drew ?_) | (with_reducible refine HV.far3 ?_ (by first | assumption | omega)) | (with_reducible refine HV.alloc ?_ _))); done) | skip)
          repeat' (first | (with_reducible refine Below.drew ?_) | (with_reducible refine Below.setCell ?_ ?_ _) | (with_reducible refine Below.alloc ?_ ?_ _))
          all_goals (first | exact hbw7 | exact hbw23 | (dsimp only; omega) | omega | go_size)
      ·
        refine wpOp_step rfl (fun K hK => ?_)
        replace hK := Lib.hid hK
        go_simp
        have Pn21 : HV 29 (((((w6.alloc (.cells (vcs n x) 29)).alloc (.cells (vcs n y) 29)).alloc (.cells (vcs n z) 29)).alloc (.cells zcs 29)).alloc (.cells zcs 29)) (w6.heap.size + 1 + 1 + 1 + 1) 0 0 := by
          have h := HV.zero ((((w6.alloc (.cells (vcs n x) 29)).alloc (.cells (vcs n y) 29)).alloc (.cells (vcs n z) 29)).alloc (.cells zcs 29)) 29
          (try simp only [World.size_alloc] at h)
          exact h
        have dXP : ¬ w6.heap.size = w6.heap.size + 1 + 1 + 1 + 1 := by have := ((X7.alloc (.cells zcs 29))).lt; (try simp only [World.size_alloc] at this); omega
        have dPX : ¬ w6.heap.size + 1 + 1 + 1 + 1 = w6.heap.size := fun h => dXP h.symm
        have dYP : ¬ w6.heap.size + 1 = w6.heap.size + 1 + 1 + 1 + 1 := by have := ((Y7.alloc (.cells zcs 29))).lt; (try simp only [World.size_alloc] at this); omega
        have dPY : ¬ w6.heap.size + 1 + 1 + 1 + 1 = w6.heap.size + 1 := fun h => dYP h.symm
        have dZP : ¬ w6.heap.size + 1 + 1 = w6.heap.size + 1 + 1 + 1 + 1 := by have := ((Z7.alloc (.cells zcs 29))).lt; (try simp only [World.size_alloc] at this); omega
        have dPZ : ¬ w6.heap.size + 1 + 1 + 1 + 1 = w6.heap.size + 1 + 1 := fun h => dZP h.symm
        have dQP : ¬ w6.heap.size + 1 + 1 + 1 = w6.heap.size + 1 + 1 + 1 + 1 := by have := (Qn20).lt; (try simp only [World.size_alloc] at this); omega
        have dPQ : ¬ w6.heap.size + 1 + 1 + 1 + 1 = w6.heap.size + 1 + 1 + 1 := fun h => dQP h.symm
        refine hK.out _ _ ⟨fun _ => ⟨(((X7.alloc _).alloc _).drew).keep3, (((Y7.alloc _).alloc _).drew).keep3⟩, ?_⟩
        clear hK K
        try simp only [Act.put, List.setIfInBounds_toArray, List.set_cons_zero, List.set_cons_succ]
        refine anyT_one (i := 3) (by kernel_rfl) ?_
        refine wpOp_step rfl (fun K hK => ?_)
        replace hK := Lib.hid hK
        go_simp
        (with_reducible refine (hs.out _).mono ?_)
        rintro e w22 ⟨rfl, hb22⟩
        have X22 := ((X7.alloc _).alloc _).drew.over hb22
        have Y22 := ((Y7.alloc _).alloc _).drew.over hb22
        have Z22 := ((Z7.alloc _).alloc _).drew.over hb22
        have Q22 := (Qn20.alloc _).drew.over hb22
        have P22 := Pn21.drew.over hb22
        have hbw22 : Below w.heap.size w w22 := below_call hb22 (by first | exact hbw7.drew | (refine Below.drew ?_; go_grown) | go_grown)
        have z22 := hbw22.size
        clear hb22
        refine hK.out _ _ ⟨fun _ => ⟨(X22).keep3, (Y22).keep3⟩, ?_⟩
        clear hK K
        try simp only [Act.put, List.setIfInBounds_toArray, List.set_cons_zero, List.set_cons_succ]
        refine anyT_one (i := 7) (by kernel_rfl) ?_
        refine wpOp_step rfl (fun K hK => ?_)
        replace hK := Lib.hid hK
        go_simp
        (with_reducible refine (hp.out _).mono ?_)
        rintro e w23 ⟨rfl, hb23⟩
        have X23 := X22.over hb23
        have Y23 := Y22.over hb23
        have Z23 := Z22.over hb23
        have Q23 := Q22.over hb23
        have P23 := P22.over hb23
        have hbw23 : Below w.heap.size w w23 := below_call hb23 (by first | exact hbw22 | (refine Below.drew ?_; go_grown) | go_grown)
        have z23 := hbw23.size
        clear hb23
        refine hK.out _ _ ⟨fun _ => ⟨(X23).keep3, (Y23).keep3⟩, ?_⟩
        clear hK K
        try simp only [Act.put, List.setIfInBounds_toArray, List.set_cons_zero, List.set_cons_succ]
        have Xe := X23
        have Ye := Y23
        have Ze := Z23
        have Qe := Q23
        have Pe := P23
        have lPe := P23.all
        have bPe := P23.lt
        have lQe := Q23.all
        have bQe := Q23.lt
        refine anyT_one (i := 10) (by kernel_rfl) ?_
        refine wpOp_step rfl (fun K hK => ?_)
        replace hK := Lib.hid hK
        go_simp
        refine hK.out _ _ ⟨fun h => absurd h (by decide), ?_⟩
        clear hK K
        try simp only [Act.put]
        refine anyT_one (i := 11) (by kernel_rfl) ?_
        refine wpOp_step rfl (fun K hK => ?_)
        replace hK := Lib.hid hK
        go_simp
        refine hK.out _ _ ⟨fun h => absurd h (by decide), ?_⟩
        clear hK K
        try simp only [Act.put]
        clear lPe lQe
        refine anyT_done (by kernel_rfl) ?_ _
        go_wp2_with fail
        go_meet
        refine ⟨_, _, rfl, rfl, ?_, ?_, ?_, ?_, ?_, ?_⟩
        all_goals (first | ((repeat (first | (with_reducible exact X23) | (with_reducible exact Y23) | (with_reducible exact Z23) | (with_reducible exact Q23) | (with_reducible exact P23) | (with_reducible exact Xe) | (with_reducible exact Ye) | (with_reducible exact Ze) | (with_reducible exact Qe) | (with_reducible exact Pe) | (with_reducible exact HV.set3 P23 n s) | (with_reducible exact HV.set3 (HV.far3 Q23 (by first | assumption | omega)) n p) | (with_reducible refine HV.drew ?_) | (with_reducible refine HV.far3 ?_ (by first | assumption | omega)) | (with_reducible refine HV.alloc ?_ _))); done) | skip)
        repeat' (first | (with_reducible refine Below.drew ?_) | (with_reducible refine Below.setCell ?_ ?_ _) | (with_reducible refine Below.alloc ?_ ?_ _))
        all_goals (first | exact hbw7 | exact hbw23 | (dsimp only; omega) | omega | go_size)
  case rest =>
    obtain ⟨bp, bq, rfl, rfl, X8, Y8, Z8, P8, Q8, hbw8⟩ := hcut
    clear X7 Y7 Z7 hbw7 hbw6
    go_wp2_with fail
    have tok9 : True := trivial
    have tok10 : True := trivial
    have tok11 : True := trivial
    have tok12 : True := trivial
    have tok13 : True := trivial
    have tok14 : True := trivial
    go_region_held3 (fun w' => (w'.cell? ⟨w6.heap.size, 0, none⟩ = some (.int .i64 (n : Int)) ∧ w'.cell? ⟨w6.heap.size, 1, none⟩ = some (.int .u64 ((lo x : Nat) : Int)) ∧ w'.cell? ⟨w6.heap.size, 2, none⟩ = some (.int .u64 ((hi x : Nat) : Int))) ∧ (w'.cell? ⟨w6.heap.size + 1, 0, none⟩ = some (.int .i64 (n : Int)) ∧ w'.cell? ⟨w6.heap.size + 1, 1, none⟩ = some (.int .u64 ((lo y : Nat) : Int)) ∧ w'.cell? ⟨w6.heap.size + 1, 2, none⟩ = some (.int .u64 ((hi y : Nat) : Int))) ∧ (w'.cell? ⟨bp, 0, none⟩ = some (.int .i64 (n : Int)) ∧ w'.cell? ⟨bp, 1, none⟩ = some (.int .u64 ((lo s : Nat) : Int)) ∧ w'.cell? ⟨bp, 2, none⟩ = some (.int .u64 ((hi s : Nat) : Int))) ∧ (w'.cell? ⟨bq, 0, none⟩ = some (.int .i64 (n : Int)) ∧ w'.cell? ⟨bq, 1, none⟩ = some (.int .u64 ((lo p : Nat) : Int)) ∧ w'.cell? ⟨bq, 2, none⟩ = some (.int .u64 ((hi p : Nat) : Int))))
      (first | (with_reducible exact ⟨X8.drew.keep3, Y8.drew.keep3, P8.drew.keep3, Q8.drew.keep3⟩) | (with_reducible exact ⟨X9.keep3, Y9.keep3, P9.keep3, Q9.keep3⟩) | (with_reducible exact ⟨X10.keep3, Y10.keep3, P10.keep3, Q10.keep3⟩) | (with_reducible exact ⟨X11.keep3, Y11.keep3, P11.keep3, Q11.keep3⟩) | (with_reducible exact ⟨X12.keep3, Y12.keep3, P12.keep3, Q12.keep3⟩) | (with_reducible exact ⟨X13.keep3, Y13.keep3, P13.keep3, Q13.keep3⟩) | (with_reducible exact ⟨X14.keep3, Y14.keep3, P14.keep3, Q14.keep3⟩))
      (first
        | (have _t := tok9; go_at_call 41; (with_reducible refine (hA2.out _).mono ?_); clear _t tok9; rintro e w9 ⟨rfl, hb9⟩; have X9 := X8.drew.over hb9; have Y9 := Y8.drew.over hb9; have Z9 := Z8.drew.over hb9; have P9 := P8.drew.over hb9; have Q9 := Q8.drew.over hb9; have hbw9 : Below w.heap.size w w9 := below_call hb9 hbw8.drew; clear hb9 X8 Y8 Z8 P8 Q8)
        | (have _t := tok10; go_at_call 24; (with_reducible refine (hEq.out _ _).mono ?_); clear _t tok10; rintro e w10 ⟨rfl, hb10⟩; have X10 := X9.over hb10; have Y10 := Y9.over hb10; have Z10 := Z9.over hb10; have P10 := P9.over hb10; have Q10 := Q9.over hb10; have hbw10 : Below w.heap.size w w10 := below_call hb10 hbw9; clear hb10 X9 Y9 Z9 P9 Q9)
        | (have _t := tok11; go_at_call 41; (with_reducible refine (hM2.out _).mono ?_); clear _t tok11; rintro e w11 ⟨rfl, hb11⟩; have X11 := X10.over hb11; have Y11 := Y10.over hb11; have Z11 := Z10.over hb11; have P11 := P10.over hb11; have Q11 := Q10.over hb11; have hbw11 : Below w.heap.size w w11 := below_call hb11 hbw10; clear hb11 X10 Y10 Z10 P10 Q10)
        | (have _t := tok12; go_at_call 24; (with_reducible refine (hEq.out _ _).mono ?_); clear _t tok12; rintro e w12 ⟨rfl, hb12⟩; have X12 := X11.over hb12; have Y12 := Y11.over hb12; have Z12 := Z11.over hb12; have P12 := P11.over hb12; have Q12 := Q11.over hb12; have hbw12 : Below w.heap.size w w12 := below_call hb12 hbw11; clear hb12 X11 Y11 Z11 P11 Q11)
        | (have _t := tok13; go_at_call 41; (with_reducible refine (hD2.out _).mono ?_); clear _t tok13; rintro e w13 ⟨rfl, hb13⟩; have X13 := X12.over hb13; have Y13 := Y12.over hb13; have Z13 := Z12.over hb13; have P13 := P12.over hb13; have Q13 := Q12.over hb13; have hbw13 : Below w.heap.size w w13 := below_call hb13 hbw12; clear hb13 X12 Y12 Z12 P12 Q12)
        | (have _t := tok14; go_at_call 24; (with_reducible refine (hEq.out _ _).mono ?_); clear _t tok14; rintro e w14 ⟨rfl, hb14⟩; have X14 := X13.over hb14; have Y14 := Y13.over hb14; have Z14 := Z13.over hb14; have P14 := P13.over hb14; have Q14 := Q13.over hb14; have hbw14 : Below w.heap.size w w14 := below_call hb14 hbw13; clear hb14 X13 Y13 Z13 P13 Q13))
    clear hbw8 hbw9 hbw10 hbw11 hbw12 hbw13
    have y14 := Y14.all
    have s14 := hbw14.size
    go_wp2_with fail
    (with_reducible refine (hN.out _).mono ?_)
    rintro e w15 ⟨rfl, hb15⟩
    have X15 := (X14.over hb15).alloc (.cells (vcs n ng) 29)
    have Y15 := (Y14.over hb15).alloc (.cells (vcs n ng) 29)
    have Z15 := (Z14.over hb15).alloc (.cells (vcs n ng) 29)
    have P15 := (P14.over hb15).alloc (.cells (vcs n ng) 29)
    have N15 := HV.new w15 29 n ng
    have hbw15 : Below w.heap.size w w15 := below_call hb15 hbw14
    have s15 := hbw15.size
    have hbn15 : Below w.heap.size w (w15.alloc (.cells (vcs n ng) 29)) := by go_grown
    clear hb15 y14 X14 Y14 Z14 P14 Q14 hbw14
    go_wp2_with fail
    have tok16 : True := trivial
    have tok17 : True := trivial
    have tok18 : True := trivial
    have tok19 : True := trivial
    have tok20 : True := trivial
    have tok21 : True := trivial
    have tok22 : True := trivial
    have tok23 : True := trivial
    have tok24 : True := trivial
    have tok25 : True := trivial
    have tok26 : True := trivial
    have tok27 : True := trivial
    go_region_held3 (fun w' => (w'.cell? ⟨w6.heap.size, 0, none⟩ = some (.int .i64 (n : Int)) ∧ w'.cell? ⟨w6.heap.size, 1, none⟩ = some (.int .u64 ((lo x : Nat) : Int)) ∧ w'.cell? ⟨w6.heap.size, 2, none⟩ = some (.int .u64 ((hi x : Nat) : Int))) ∧ (w'.cell? ⟨w6.heap.size + 1, 0, none⟩ = some (.int .i64 (n : Int)) ∧ w'.cell? ⟨w6.heap.size + 1, 1, none⟩ = some (.int .u64 ((lo y : Nat) : Int)) ∧ w'.cell? ⟨w6.heap.size + 1, 2, none⟩ = some (.int .u64 ((hi y : Nat) : Int))) ∧ (w'.cell? ⟨w6.heap.size + 1 + 1, 0, none⟩ = some (.int .i64 (n : Int)) ∧ w'.cell? ⟨w6.heap.size + 1 + 1, 1, none⟩ = some (.int .u64 ((lo z : Nat) : Int)) ∧ w'.cell? ⟨w6.heap.size + 1 + 1, 2, none⟩ = some (.int .u64 ((hi z : Nat) : Int))) ∧ (w'.cell? ⟨bp, 0, none⟩ = some (.int .i64 (n : Int)) ∧ w'.cell? ⟨bp, 1, none⟩ = some (.int .u64 ((lo s : Nat) : Int)) ∧ w'.cell? ⟨bp, 2, none⟩ = some (.int .u64 ((hi s : Nat) : Int))) ∧ (w'.cell? ⟨w15.heap.size, 0, none⟩ = some (.int .i64 (n : Int)) ∧ w'.cell? ⟨w15.heap.size, 1, none⟩ = some (.int .u64 ((lo ng : Nat) : Int)) ∧ w'.cell? ⟨w15.heap.size, 2, none⟩ = some (.int .u64 ((hi ng : Nat) : Int))))
      (first | (with_reducible exact ⟨X15.drew.keep3, Y15.drew.keep3, Z15.drew.keep3, P15.drew.keep3, N15.drew.keep3⟩) | (with_reducible exact ⟨X16.keep3, Y16.keep3, Z16.keep3, P16.keep3, N16.keep3⟩) | (with_reducible exact ⟨X17.keep3, Y17.keep3, Z17.keep3, P17.keep3, N17.keep3⟩) | (with_reducible exact ⟨X18.keep3, Y18.keep3, Z18.keep3, P18.keep3, N18.keep3⟩) | (with_reducible exact ⟨X19.keep3, Y19.keep3, Z19.keep3, P19.keep3, N19.keep3⟩) | (with_reducible exact ⟨X20.keep3, Y20.keep3, Z20.keep3, P20.keep3, N20.keep3⟩) | (with_reducible exact ⟨X21.keep3, Y21.keep3, Z21.keep3, P21.keep3, N21.keep3⟩) | (with_reducible exact ⟨X22.keep3, Y22.keep3, Z22.keep3, P22.keep3, N22.keep3⟩) | (with_reducible exact ⟨X23.keep3, Y23.keep3, Z23.keep3, P23.keep3, N23.keep3⟩) | (with_reducible exact ⟨X24.keep3, Y24.keep3, Z24.keep3, P24.keep3, N24.keep3⟩) | (with_reducible exact ⟨X25.keep3, Y25.keep3, Z25.keep3, P25.keep3, N25.keep3⟩) | (with_reducible exact ⟨X26.keep3, Y26.keep3, Z26.keep3, P26.keep3, N26.keep3⟩) | (with_reducible exact ⟨X27.keep3, Y27.keep3, Z27.keep3, P27.keep3, N27.keep3⟩))
      (first
        | (have _t := tok16; go_at_call 41; (with_reducible refine (hG1.out _).mono ?_); clear _t tok16; rintro e w16 ⟨rfl, hb16⟩; have X16 := X15.drew.over hb16; have Y16 := Y15.drew.over hb16; have Z16 := Z15.drew.over hb16; have P16 := P15.drew.over hb16; have N16 := N15.drew.over hb16; have hbw16 : Below w.heap.size w w16 := below_call hb16 hbn15.drew; clear hb16 X15 Y15 Z15 P15 N15)
        | (have _t := tok17; go_at_call 41; (with_reducible refine (hG2.out _).mono ?_); clear _t tok17; rintro e w17 ⟨rfl, hb17⟩; have X17 := X16.over hb17; have Y17 := Y16.over hb17; have Z17 := Z16.over hb17; have P17 := P16.over hb17; have N17 := N16.over hb17; have hbw17 : Below w.heap.size w w17 := below_call hb17 hbw16; clear hb17 X16 Y16 Z16 P16 N16)
        | (have _t := tok18; go_at_call 24; (with_reducible refine (hEq.out _ _).mono ?_); clear _t tok18; rintro e w18 ⟨rfl, hb18⟩; have X18 := X17.over hb18; have Y18 := Y17.over hb18; have Z18 := Z17.over hb18; have P18 := P17.over hb18; have N18 := N17.over hb18; have hbw18 : Below w.heap.size w w18 := below_call hb18 hbw17; clear hb18 X17 Y17 Z17 P17 N17)
        | (have _t := tok19; go_at_call 41; (with_reducible refine (hT1.out _).mono ?_); clear _t tok19; rintro e w19 ⟨rfl, hb19⟩; have X19 := X18.over hb19; have Y19 := Y18.over hb19; have Z19 := Z18.over hb19; have P19 := P18.over hb19; have N19 := N18.over hb19; have hbw19 : Below w.heap.size w w19 := below_call hb19 hbw18; clear hb19 X18 Y18 Z18 P18 N18)
        | (have _t := tok20; go_at_call 41; (with_reducible refine (hT2.out _).mono ?_); clear _t tok20; rintro e w20 ⟨rfl, hb20⟩; have X20 := X19.over hb20; have Y20 := Y19.over hb20; have Z20 := Z19.over hb20; have P20 := P19.over hb20; have N20 := N19.over hb20; have hbw20 : Below w.heap.size w w20 := below_call hb20 hbw19; clear hb20 X19 Y19 Z19 P19 N19)
        | (have _t := tok21; go_at_call 41; (with_reducible refine (hT3.out _).mono ?_); clear _t tok21; rintro e w21 ⟨rfl, hb21⟩; have X21 := X20.over hb21; have Y21 := Y20.over hb21; have Z21 := Z20.over hb21; have P21 := P20.over hb21; have N21 := N20.over hb21; have hbw21 : Below w.heap.size w w21 := below_call hb21 hbw20; clear hb21 X20 Y20 Z20 P20 N20)
        | (have _t := tok22; go_at_call 24; (with_reducible refine (hEq.out _ _).mono ?_); clear _t tok22; rintro e w22 ⟨rfl, hb22⟩; have X22 := X21.over hb22; have Y22 := Y21.over hb22; have Z22 := Z21.over hb22; have P22 := P21.over hb22; have N22 := N21.over hb22; have hbw22 : Below w.heap.size w w22 := below_call hb22 hbw21; clear hb22 X21 Y21 Z21 P21 N21)
        | (have _t := tok23; go_at_call 41; (with_reducible refine (hU1.out _).mono ?_); clear _t tok23; rintro e w23 ⟨rfl, hb23⟩; have X23 := X22.over hb23; have Y23 := Y22.over hb23; have Z23 := Z22.over hb23; have P23 := P22.over hb23; have N23 := N22.over hb23; have hbw23 : Below w.heap.size w w23 := below_call hb23 hbw22; clear hb23 X22 Y22 Z22 P22 N22)
        | (have _t := tok24; go_at_call 41; (with_reducible refine (hU2.out _).mono ?_); clear _t tok24; rintro e w24 ⟨rfl, hb24⟩; have X24 := X23.over hb24; have Y24 := Y23.over hb24; have Z24 := Z23.over hb24; have P24 := P23.over hb24; have N24 := N23.over hb24; have hbw24 : Below w.heap.size w w24 := below_call hb24 hbw23; clear hb24 X23 Y23 Z23 P23 N23)
        | (have _t := tok25; go_at_call 41; (with_reducible refine (hU3.out _).mono ?_); clear _t tok25; rintro e w25 ⟨rfl, hb25⟩; have X25 := X24.over hb25; have Y25 := Y24.over hb25; have Z25 := Z24.over hb25; have P25 := P24.over hb25; have N25 := N24.over hb25; have hbw25 : Below w.heap.size w w25 := below_call hb25 hbw24; clear hb25 X24 Y24 Z24 P24 N24)
        | (have _t := tok26; go_at_call 41; (with_reducible refine (hU4.out _).mono ?_); clear _t tok26; rintro e w26 ⟨rfl, hb26⟩; have X26 := X25.over hb26; have Y26 := Y25.over hb26; have Z26 := Z25.over hb26; have P26 := P25.over hb26; have N26 := N25.over hb26; have hbw26 : Below w.heap.size w w26 := below_call hb26 hbw25; clear hb26 X25 Y25 Z25 P25 N25)
        | (have _t := tok27; go_at_call 24; (with_reducible refine (hEq.out _ _).mono ?_); clear _t tok27; rintro e w27 ⟨rfl, hb27⟩; have X27 := X26.over hb27; have Y27 := Y26.over hb27; have Z27 := Z26.over hb27; have P27 := P26.over hb27; have N27 := N26.over hb27; have hbw27 : Below w.heap.size w w27 := below_call hb27 hbw26; clear hb27 X26 Y26 Z26 P26 N26))
    go_wp2_with fail
    go_ret
    exact ⟨rfl, hbw27⟩
end Go.Proofs.Ytknbnpbmgbnlfaa
