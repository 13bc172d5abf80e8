/-
  The walks of bv's Un for tests of all bits, of Put, and of the closure of BvOrders.
-/
import Derived.Test.YtmgkidfikikjpaaWv
import Derived.Test.YtmgkidfikikjpaaWp
import Derived.Test.YtmgkidfikikjpaaWo
import Derived.Test.YtmgkidfikikjpaaRt
import Derived.Deep.RegionHeld3
import Derived.Deep.DeepCutAuto
namespace Go.Proofs.Ytmgkidfikikjpaa
open Go.RowKit
set_option maxRecDepth 100000 in
set_option maxHeartbeats 2000000 in
theorem Put_w (n x l m y o1 h0 h1 f0 f1 kp r : Nat) (w : World)
    (hC : ∀ w, Calls Try.prog 47 #[vv n x, .int .i64 (l : Int), .int .i64 (m : Int)] w (RV w (.bool true)))
    (hO : ∀ w, Calls Try.prog 51 #[.int .i64 (m : Int)] w (RV w (vv m o1)))
    (hR1 : ∀ w, Calls Try.prog 48 #[vv m o1, .int .i64 (n : Int)] w (RV w (vv n h0)))
    (hU1 : ∀ w, Calls Try.prog 50 #[vv n h0, .int .i64 (l : Int)] w (RV w (vv n h1)))
    (hR2 : ∀ w, Calls Try.prog 48 #[vv m y, .int .i64 (n : Int)] w (RV w (vv n f0)))
    (hU2 : ∀ w, Calls Try.prog 50 #[vv n f0, .int .i64 (l : Int)] w (RV w (vv n f1)))
    (hK : ∀ w, Calls Try.prog 52 #[vv n x, vv n h1, .func (.func 53) #[] #[]] w (RV w (vv n kp)))
    (hL : ∀ w, Calls Try.prog 27 #[.int .i64 8, vv n kp, vv n f1] w (RV w (vv n r))) :
    Calls Try.prog 14 #[vv n x, .int .i64 (l : Int), vv m y] w (RV w (.tuple #[vv n r, .int .i64 0])) := by
  replace hC := Lib.hid hC
  replace hO := Lib.hid hO
  replace hR1 := Lib.hid hR1
  replace hU1 := Lib.hid hU1
  replace hR2 := Lib.hid hR2
  replace hU2 := Lib.hid hU2
  replace hK := Lib.hid hK
  replace hL := Lib.hid hL
  have A0 : HV 28 (((w.alloc (.cells (vcs n x) 28)).alloc (.cells (vcs m y) 28)).alloc (.cells zcs 28)) w.heap.size n x := ((HV.new w 28 n x).alloc _).alloc _
  have B0 : HV 28 (((w.alloc (.cells (vcs n x) 28)).alloc (.cells (vcs m y) 28)).alloc (.cells zcs 28)) (w.heap.size + 1) m y := by
    have h := (HV.new (w.alloc (.cells (vcs n x) 28)) 28 m y).alloc (.cells zcs 28)
    rw [World.size_alloc] at h
    exact h
  have R0 : HV 28 (((w.alloc (.cells (vcs n x) 28)).alloc (.cells (vcs m y) 28)).alloc (.cells zcs 28)) (w.heap.size + 1 + 1) 0 0 := by
    have h := HV.zero ((w.alloc (.cells (vcs n x) 28)).alloc (.cells (vcs m y) 28)) 28
    rw [World.size_alloc, World.size_alloc] at h
    exact h
  have hbw0 : Below w.heap.size w (((w.alloc (.cells (vcs n x) 28)).alloc (.cells (vcs m y) 28)).alloc (.cells zcs 28)) := by go_grown
  go_enter Try.func14, Try.ntmps14
  go_wp2_with fail
  (with_reducible refine (hC.out _).mono ?_)
  rintro e w1 ⟨rfl, hb1⟩
  have A1 := A0.over hb1
  have B1 := B0.over hb1
  have R1 := R0.over hb1
  have hbw1 : Below w.heap.size w w1 := below_call hb1 hbw0
  have s1 := hbw1.size
  clear hb1 A0 B0 R0 hbw0
  go_wp2_with fail
  go_cut [8] (fun sv wz => ∃ bp : Nat, sv = .pointer (some ⟨bp, 0, none⟩) ∧ HV 28 wz w.heap.size n x ∧ HV 28 wz (w.heap.size + 1) m y ∧ HV 28 wz (w.heap.size + 1 + 1) 0 0 ∧ HV 28 wz bp n h1 ∧ Below w.heap.size w wz)
  case first =>
    refine region_anyT (n := 9) (S := fun w' => (w'.cell? ⟨w.heap.size, 0, none⟩ = some (.int .i64 (n : Int)) ∧ w'.cell? ⟨w.heap.size, 1, none⟩ = some (.int .u64 ((lo x : Nat) : Int)) ∧ w'.cell? ⟨w.heap.size, 2, none⟩ = some (.int .u64 ((hi x : Nat) : Int))) ∧ (w'.cell? ⟨w.heap.size + 1, 0, none⟩ = some (.int .i64 (m : Int)) ∧ w'.cell? ⟨w.heap.size + 1, 1, none⟩ = some (.int .u64 ((lo y : Nat) : Int)) ∧ w'.cell? ⟨w.heap.size + 1, 2, none⟩ = some (.int .u64 ((hi y : Nat) : Int)))) (by kernel_rfl) ?_
    have hS0 : (fun w' : World => (w'.cell? ⟨w.heap.size, 0, none⟩ = some (.int .i64 (n : Int)) ∧ w'.cell? ⟨w.heap.size, 1, none⟩ = some (.int .u64 ((lo x : Nat) : Int)) ∧ w'.cell? ⟨w.heap.size, 2, none⟩ = some (.int .u64 ((hi x : Nat) : Int))) ∧ (w'.cell? ⟨w.heap.size + 1, 0, none⟩ = some (.int .i64 (m : Int)) ∧ w'.cell? ⟨w.heap.size + 1, 1, none⟩ = some (.int .u64 ((lo y : Nat) : Int)) ∧ w'.cell? ⟨w.heap.size + 1, 2, none⟩ = some (.int .u64 ((hi y : Nat) : Int)))) w1.drew := ⟨A1.drew.keep3, B1.drew.keep3⟩
    refine anyT_take (i := 0) (v := .pointer (some ⟨w.heap.size + 1, 0, none⟩)) rfl (by kernel_rfl) (by kernel_rfl) (fun _ _ _ h => h) (Or.inl ⟨by rfl, ?_⟩) hS0 ?_
    · intro w' hw'
      obtain ⟨⟨k1, k2, k3⟩, ⟨k4, k5, k6⟩⟩ := hw'
      go_simp
      try with_reducible rfl
    try simp only [Act.put, List.setIfInBounds_toArray, List.set_cons_zero, List.set_cons_succ]
    refine anyT_take (i := 1) (v := .int .i64 (m : Int)) rfl (by kernel_rfl) (by kernel_rfl) (fun _ _ _ h => h) (Or.inl ⟨by rfl, ?_⟩) hS0 ?_
    · intro w' hw'
      obtain ⟨⟨k1, k2, k3⟩, ⟨k4, k5, k6⟩⟩ := hw'
      go_simp
      try with_reducible rfl
    try simp only [Act.put, List.setIfInBounds_toArray, List.set_cons_zero, List.set_cons_succ]
    refine anyT_take (i := 3) (v := .pointer (some ⟨w.heap.size, 0, none⟩)) rfl (by kernel_rfl) (by kernel_rfl) (fun _ _ _ h => h) (Or.inl ⟨by rfl, ?_⟩) hS0 ?_
    · intro w' hw'
      obtain ⟨⟨k1, k2, k3⟩, ⟨k4, k5, k6⟩⟩ := hw'
      go_simp
      try with_reducible rfl
    try simp only [Act.put, List.setIfInBounds_toArray, List.set_cons_zero, List.set_cons_succ]
    refine anyT_take (i := 4) (v := .int .i64 (n : Int)) rfl (by kernel_rfl) (by kernel_rfl) (fun _ _ _ h => h) (Or.inl ⟨by rfl, ?_⟩) hS0 ?_
    · intro w' hw'
      obtain ⟨⟨k1, k2, k3⟩, ⟨k4, k5, k6⟩⟩ := hw'
      go_simp
      try with_reducible rfl
    try simp only [Act.put, List.setIfInBounds_toArray, List.set_cons_zero, List.set_cons_succ]
    refine anyT_take (i := 6) (v := .int .i64 (l : Int)) rfl (by kernel_rfl) (by kernel_rfl) (fun _ _ _ h => h) (Or.inl ⟨by rfl, ?_⟩) hS0 ?_
    · intro w' hw'
      obtain ⟨⟨k1, k2, k3⟩, ⟨k4, k5, k6⟩⟩ := hw'
      go_simp
      try with_reducible rfl
    try simp only [Act.put, List.setIfInBounds_toArray, List.set_cons_zero, List.set_cons_succ]
    clear hS0
    refine anyT_pair (i := 2) (j := 8) (by kernel_rfl) ?_ ?_
    ·
      refine wpOp_step rfl (fun K hK => ?_)
      replace hK := Lib.hid hK
      go_simp
      (with_reducible refine (hO.out _).mono ?_)
      rintro e w20 ⟨rfl, hb20⟩
      have A20 := A1.drew.over hb20
      have B20 := B1.drew.over hb20
      have R20 := R1.drew.over hb20
      have hbw20 : Below w.heap.size w w20 := below_call hb20 (by first | exact hbw1.drew | (refine Below.drew ?_; go_grown) | go_grown)
      have z20 := hbw20.size
      clear hb20
      refine hK.out _ _ ⟨fun _ => ⟨(A20).keep3, (B20).keep3⟩, ?_⟩
      clear hK K
      try simp only [Act.put, List.setIfInBounds_toArray, List.set_cons_zero, List.set_cons_succ]
      refine anyT_pair (i := 5) (j := 8) (by kernel_rfl) ?_ ?_
      ·
        refine wpOp_step rfl (fun K hK => ?_)
        replace hK := Lib.hid hK
        go_simp
        (with_reducible refine (hR1.out _).mono ?_)
        rintro e w21 ⟨rfl, hb21⟩
        have A21 := A20.over hb21
        have B21 := B20.over hb21
        have R21 := R20.over hb21
        have hbw21 : Below w.heap.size w w21 := below_call hb21 (by first | exact hbw20 | (refine Below.drew ?_; go_grown) | go_grown)
        have z21 := hbw21.size
        clear hb21
        refine hK.out _ _ ⟨fun _ => ⟨(A21).keep3, (B21).keep3⟩, ?_⟩
        clear hK K
        try simp only [Act.put, List.setIfInBounds_toArray, List.set_cons_zero, List.set_cons_succ]
        refine anyT_pair (i := 7) (j := 8) (by kernel_rfl) ?_ ?_
        ·
          refine wpOp_step rfl (fun K hK => ?_)
          replace hK := Lib.hid hK
          go_simp
          (with_reducible refine (hU1.out _).mono ?_)
          rintro e w22 ⟨rfl, hb22⟩
          have A22 := A21.over hb22
          have B22 := B21.over hb22
          have R22 := R21.over hb22
          have hbw22 : Below w.heap.size w w22 := below_call hb22 (by first | exact hbw21 | (refine Below.drew ?_; go_grown) | go_grown)
          have z22 := hbw22.size
          clear hb22
          refine hK.out _ _ ⟨fun _ => ⟨(A22).keep3, (B22).keep3⟩, ?_⟩
          clear hK K
          try simp only [Act.put, List.setIfInBounds_toArray, List.set_cons_zero, List.set_cons_succ]
          refine anyT_one (i := 8) (by kernel_rfl) ?_
          refine wpOp_step rfl (fun K hK => ?_)
          replace hK := Lib.hid hK
          go_simp
          have Pn23 : HV 28 (w22.alloc (.cells zcs 28)) (w22.heap.size) 0 0 := by
            have h := HV.zero w22 28
            (try simp only [World.size_alloc] at h)
            exact h
          have dAP : ¬ w.heap.size = w22.heap.size := by have := (A22).lt; (try simp only [World.size_alloc] at this); omega
          have dPA : ¬ w22.heap.size = w.heap.size := fun h => dAP h.symm
          have dBP : ¬ w.heap.size + 1 = w22.heap.size := by have := (B22).lt; (try simp only [World.size_alloc] at this); omega
          have dPB : ¬ w22.heap.size = w.heap.size + 1 := fun h => dBP h.symm
          have dRP : ¬ w.heap.size + 1 + 1 = w22.heap.size := by have := (R22).lt; (try simp only [World.size_alloc] at this); omega
          have dPR : ¬ w22.heap.size = w.heap.size + 1 + 1 := fun h => dRP h.symm
          refine hK.out _ _ ⟨fun _ => ⟨((A22.alloc _)).keep3, ((B22.alloc _)).keep3⟩, ?_⟩
          clear hK K
          try simp only [Act.put, List.setIfInBounds_toArray, List.set_cons_zero, List.set_cons_succ]
          have Ae := (A22.alloc (.cells zcs 28))
          have Be := (B22.alloc (.cells zcs 28))
          have Re := (R22.alloc (.cells zcs 28))
          have Pe := Pn23
          have lPe := Pe.all
          refine anyT_one (i := 9) (by kernel_rfl) ?_
          refine wpOp_step rfl (fun K hK => ?_)
          replace hK := Lib.hid hK
          go_simp
          refine hK.out _ _ ⟨fun h => absurd h (by decide), ?_⟩
          clear hK K
          try simp only [Act.put]
          clear lPe
          have Pm : HV 28 (w22.alloc (.cells (vcs n h1) 28)) (w22.heap.size) n h1 := by
            have h := HV.new w22 28 n h1
            (try simp only [World.size_alloc] at h)
            exact h
          refine anyT_done (by kernel_rfl) ?_ _
          go_wp2_with fail
          go_meet
          refine ⟨_, rfl, ?_, ?_, ?_, ?_, ?_⟩
          all_goals (first | ((repeat (first | (with_reducible exact A22) | (with_reducible exact B22) | (with_reducible exact R22) | (with_reducible exact Pn23) | (with_reducible exact Ae) | (with_reducible exact Be) | (with_reducible exact Re) | (with_reducible exact Pe) | (with_reducible exact Pm) | (with_reducible refine HV.drew ?_) | (with_reducible refine HV.far3 ?_ (by first | assumption | omega)) | (with_reducible refine HV.alloc ?_ _))); done) | skip)
          repeat' (first | (with_reducible refine Below.drew ?_) | (with_reducible refine Below.setCell ?_ ?_ _) | (with_reducible refine Below.alloc ?_ ?_ _))
          all_goals (first | exact hbw1 | exact hbw22 | (dsimp only; omega) | omega | go_size)
        ·
          refine wpOp_step rfl (fun K hK => ?_)
          replace hK := Lib.hid hK
          go_simp
          have Pn22 : HV 28 (w21.alloc (.cells zcs 28)) (w21.heap.size) 0 0 := by
            have h := HV.zero w21 28
            (try simp only [World.size_alloc] at h)
            exact h
          have dAP : ¬ w.heap.size = w21.heap.size := by have := (A21).lt; (try simp only [World.size_alloc] at this); omega
          have dPA : ¬ w21.heap.size = w.heap.size := fun h => dAP h.symm
          have dBP : ¬ w.heap.size + 1 = w21.heap.size := by have := (B21).lt; (try simp only [World.size_alloc] at this); omega
          have dPB : ¬ w21.heap.size = w.heap.size + 1 := fun h => dBP h.symm
          have dRP : ¬ w.heap.size + 1 + 1 = w21.heap.size := by have := (R21).lt; (try simp only [World.size_alloc] at this); omega
          have dPR : ¬ w21.heap.size = w.heap.size + 1 + 1 := fun h => dRP h.symm
          refine hK.out _ _ ⟨fun _ => ⟨((A21.alloc _)).keep3, ((B21.alloc _)).keep3⟩, ?_⟩
          clear hK K
          try simp only [Act.put, List.setIfInBounds_toArray, List.set_cons_zero, List.set_cons_succ]
          refine anyT_one (i := 7) (by kernel_rfl) ?_
          refine wpOp_step rfl (fun K hK => ?_)
          replace hK := Lib.hid hK
          go_simp
          (with_reducible refine (hU1.out _).mono ?_)
          rintro e w23 ⟨rfl, hb23⟩
          have A23 := (A21.alloc _).over hb23
          have B23 := (B21.alloc _).over hb23
          have R23 := (R21.alloc _).over hb23
          have P23 := Pn22.over hb23
          have hbw23 : Below w.heap.size w w23 := below_call hb23 (by first | exact hbw21 | (refine Below.drew ?_; go_grown) | go_grown)
          have z23 := hbw23.size
          clear hb23
          refine hK.out _ _ ⟨fun _ => ⟨(A23).keep3, (B23).keep3⟩, ?_⟩
          clear hK K
          try simp only [Act.put, List.setIfInBounds_toArray, List.set_cons_zero, List.set_cons_succ]
          have Ae := A23
          have Be := B23
          have Re := R23
          have Pe := P23
          have lPe := Pe.all
          refine anyT_one (i := 9) (by kernel_rfl) ?_
          refine wpOp_step rfl (fun K hK => ?_)
          replace hK := Lib.hid hK
          go_simp
          refine hK.out _ _ ⟨fun h => absurd h (by decide), ?_⟩
          clear hK K
          try simp only [Act.put]
          clear lPe
          refine anyT_done (by kernel_rfl) ?_ _
          go_wp2_with fail
          go_meet
          refine ⟨_, rfl, ?_, ?_, ?_, ?_, ?_⟩
          all_goals (first | ((repeat (first | (with_reducible exact A23) | (with_reducible exact B23) | (with_reducible exact R23) | (with_reducible exact P23) | (with_reducible exact Ae) | (with_reducible exact Be) | (with_reducible exact Re) | (with_reducible exact Pe) | (with_reducible exact HV.set3 Pe n h1) | (with_reducible refine HV.drew ?_) | (with_reducible refine HV.far3 ?_ (by first | assumption | omega)) | (with_reducible refine HV.alloc ?_ _))); done) | skip)
          repeat' (first | (with_reducible refine Below.drew ?_) | (with_reducible refine Below.setCell ?_ ?_ _) | (with_reducible refine Below.alloc ?_ ?_ _))
          all_goals (first | exact hbw1 | exact hbw23 | (dsimp only; omega) | omega | go_size)
      ·
        refine wpOp_step rfl (fun K hK => ?_)
        replace hK := Lib.hid hK
        go_simp
        have Pn21 : HV 28 (w20.alloc (.cells zcs 28)) (w20.heap.size) 0 0 := by
          have h := HV.zero w20 28
          (try simp only [World.size_alloc] at h)
          exact h
        have dAP : ¬ w.heap.size = w20.heap.size := by have := (A20).lt; (try simp only [World.size_alloc] at this); omega
        have dPA : ¬ w20.heap.size = w.heap.size := fun h => dAP h.symm
        have dBP : ¬ w.heap.size + 1 = w20.heap.size := by have := (B20).lt; (try simp only [World.size_alloc] at this); omega
        have dPB : ¬ w20.heap.size = w.heap.size + 1 := fun h => dBP h.symm
        have dRP : ¬ w.heap.size + 1 + 1 = w20.heap.size := by have := (R20).lt; (try simp only [World.size_alloc] at this); omega
        have dPR : ¬ w20.heap.size = w.heap.size + 1 + 1 := fun h => dRP h.symm
        refine hK.out _ _ ⟨fun _ => ⟨((A20.alloc _)).keep3, ((B20.alloc _)).keep3⟩, ?_⟩
        clear hK K
        try simp only [Act.put, List.setIfInBounds_toArray, List.set_cons_zero, List.set_cons_succ]
        refine anyT_one (i := 5) (by kernel_rfl) ?_
        refine wpOp_step rfl (fun K hK => ?_)
        replace hK := Lib.hid hK
        go_simp
        (with_reducible refine (hR1.out _).mono ?_)
        rintro e w22 ⟨rfl, hb22⟩
        have A22 := (A20.alloc _).over hb22
        have B22 := (B20.alloc _).over hb22
        have R22 := (R20.alloc _).over hb22
        have P22 := Pn21.over hb22
        have hbw22 : Below w.heap.size w w22 := below_call hb22 (by first | exact hbw20 | (refine Below.drew ?_; go_grown) | go_grown)
        have z22 := hbw22.size
        clear hb22
        refine hK.out _ _ ⟨fun _ => ⟨(A22).keep3, (B22).keep3⟩, ?_⟩
        clear hK K
        try simp only [Act.put, List.setIfInBounds_toArray, List.set_cons_zero, List.set_cons_succ]
        refine anyT_one (i := 7) (by kernel_rfl) ?_
        refine wpOp_step rfl (fun K hK => ?_)
        replace hK := Lib.hid hK
        go_simp
        (with_reducible refine (hU1.out _).mono ?_)
        rintro e w23 ⟨rfl, hb23⟩
        have A23 := A22.over hb23
        have B23 := B22.over hb23
        have R23 := R22.over hb23
        have P23 := P22.over hb23
        have hbw23 : Below w.heap.size w w23 := below_call hb23 (by first | exact hbw22 | (refine Below.drew ?_; go_grown) | go_grown)
        have z23 := hbw23.size
        clear hb23
        refine hK.out _ _ ⟨fun _ => ⟨(A23).keep3, (B23).keep3⟩, ?_⟩
        clear hK K
        try simp only [Act.put, List.setIfInBounds_toArray, List.set_cons_zero, List.set_cons_succ]
        have Ae := A23
        have Be := B23
        have Re := R23
        have Pe := P23
        have lPe := Pe.all
        refine anyT_one (i := 9) (by kernel_rfl) ?_
        refine wpOp_step rfl (fun K hK => ?_)
        replace hK := Lib.hid hK
        go_simp
        refine hK.out _ _ ⟨fun h => absurd h (by decide), ?_⟩
        clear hK K
        try simp only [Act.put]
        clear lPe
        refine anyT_done (by kernel_rfl) ?_ _
        go_wp2_with fail
        go_meet
        refine ⟨_, rfl, ?_, ?_, ?_, ?_, ?_⟩
        all_goals (first | ((repeat (first | (with_reducible exact A23) | (with_reducible exact B23) | (with_reducible exact R23) | (with_reducible exact P23) | (with_reducible exact Ae) | (with_reducible exact Be) | (with_reducible exact Re) | (with_reducible exact Pe) | (with_reducible exact HV.set3 Pe n h1) | (with_reducible refine HV.drew ?_) | (with_reducible refine HV.far3 ?_ (by first | assumption | omega)) | (with_reducible refine HV.alloc ?_ _))); done) | skip)
        repeat' (first | (with_reducible refine Below.drew ?_) | (with_reducible refine Below.setCell ?_ ?_ _) | (with_reducible refine Below.alloc ?_ ?_ _))
        all_goals (first | exact hbw1 | exact hbw23 | (dsimp only; omega) | omega | go_size)
    ·
      refine wpOp_step rfl (fun K hK => ?_)
      replace hK := Lib.hid hK
      go_simp
      have Pn20 : HV 28 (w1.alloc (.cells zcs 28)) (w1.heap.size) 0 0 := by
        have h := HV.zero w1 28
        (try simp only [World.size_alloc] at h)
        exact h
      have dAP : ¬ w.heap.size = w1.heap.size := by have := (A1).lt; (try simp only [World.size_alloc] at this); omega
      have dPA : ¬ w1.heap.size = w.heap.size := fun h => dAP h.symm
      have dBP : ¬ w.heap.size + 1 = w1.heap.size := by have := (B1).lt; (try simp only [World.size_alloc] at this); omega
      have dPB : ¬ w1.heap.size = w.heap.size + 1 := fun h => dBP h.symm
      have dRP : ¬ w.heap.size + 1 + 1 = w1.heap.size := by have := (R1).lt; (try simp only [World.size_alloc] at this); omega
      have dPR : ¬ w1.heap.size = w.heap.size + 1 + 1 := fun h => dRP h.symm
      refine hK.out _ _ ⟨fun _ => ⟨((A1.alloc _).drew).keep3, ((B1.alloc _).drew).keep3⟩, ?_⟩
      clear hK K
      try simp only [Act.put, List.setIfInBounds_toArray, List.set_cons_zero, List.set_cons_succ]
      refine anyT_one (i := 2) (by kernel_rfl) ?_
      refine wpOp_step rfl (fun K hK => ?_)
      replace hK := Lib.hid hK
      go_simp
      (with_reducible refine (hO.out _).mono ?_)
      rintro e w21 ⟨rfl, hb21⟩
      have A21 := (A1.alloc _).drew.over hb21
      have B21 := (B1.alloc _).drew.over hb21
      have R21 := (R1.alloc _).drew.over hb21
      have P21 := Pn20.drew.over hb21
      have hbw21 : Below w.heap.size w w21 := below_call hb21 (by first | exact hbw1.drew | (refine Below.drew ?_; go_grown) | go_grown)
      have z21 := hbw21.size
      clear hb21
      refine hK.out _ _ ⟨fun _ => ⟨(A21).keep3, (B21).keep3⟩, ?_⟩
      clear hK K
      try simp only [Act.put, List.setIfInBounds_toArray, List.set_cons_zero, List.set_cons_succ]
      refine anyT_one (i := 5) (by kernel_rfl) ?_
      refine wpOp_step rfl (fun K hK => ?_)
      replace hK := Lib.hid hK
      go_simp
      (with_reducible refine (hR1.out _).mono ?_)
      rintro e w22 ⟨rfl, hb22⟩
      have A22 := A21.over hb22
      have B22 := B21.over hb22
      have R22 := R21.over hb22
      have P22 := P21.over hb22
      have hbw22 : Below w.heap.size w w22 := below_call hb22 (by first | exact hbw21 | (refine Below.drew ?_; go_grown) | go_grown)
      have z22 := hbw22.size
      clear hb22
      refine hK.out _ _ ⟨fun _ => ⟨(A22).keep3, (B22).keep3⟩, ?_⟩
      clear hK K
      try simp only [Act.put, List.setIfInBounds_toArray, List.set_cons_zero, List.set_cons_succ]
      refine anyT_one (i := 7) (by kernel_rfl) ?_
      refine wpOp_step rfl (fun K hK => ?_)
      replace hK := Lib.hid hK
      go_simp
      (with_reducible refine (hU1.out _).mono ?_)
      rintro e w23 ⟨rfl, hb23⟩
      have A23 := A22.over hb23
      have B23 := B22.over hb23
      have R23 := R22.over hb23
      have P23 := P22.over hb23
      have hbw23 : Below w.heap.size w w23 := below_call hb23 (by first | exact hbw22 | (refine Below.drew ?_; go_grown) | go_grown)
      have z23 := hbw23.size
      clear hb23
      refine hK.out _ _ ⟨fun _ => ⟨(A23).keep3, (B23).keep3⟩, ?_⟩
      clear hK K
      try simp only [Act.put, List.setIfInBounds_toArray, List.set_cons_zero, List.set_cons_succ]
      have Ae := A23
      have Be := B23
      have Re := R23
      have Pe := P23
      have lPe := Pe.all
      refine anyT_one (i := 9) (by kernel_rfl) ?_
      refine wpOp_step rfl (fun K hK => ?_)
      replace hK := Lib.hid hK
      go_simp
      refine hK.out _ _ ⟨fun h => absurd h (by decide), ?_⟩
      clear hK K
      try simp only [Act.put]
      clear lPe
      refine anyT_done (by kernel_rfl) ?_ _
      go_wp2_with fail
      go_meet
      refine ⟨_, rfl, ?_, ?_, ?_, ?_, ?_⟩
      all_goals (first | ((repeat (first | (with_reducible exact A23) | (with_reducible exact B23) | (with_reducible exact R23) | (with_reducible exact P23) | (with_reducible exact Ae) | (with_reducible exact Be) | (with_reducible exact Re) | (with_reducible exact Pe) | (with_reducible exact HV.set3 Pe n h1) | (with_reducible refine HV.drew ?_) | (with_reducible refine HV.far3 ?_ (by first | assumption | omega)) | (with_reducible refine HV.alloc ?_ _))); done) | skip)
      repeat' (first | (with_reducible refine Below.drew ?_) | (with_reducible refine Below.setCell ?_ ?_ _) | (with_reducible refine Below.alloc ?_ ?_ _))
      all_goals (first | exact hbw1 | exact hbw23 | (dsimp only; omega) | omega | go_size)
  case rest =>
    obtain ⟨bp, rfl, A2, B2, R2, P2, hbw2⟩ := hcut
    clear A1 B1 R1 hbw1 hO hR1 hU1
    have a2 := A2.all
    have b2 := B2.all
    go_wp2_with fail
    (with_reducible refine (hR2.out _).mono ?_)
    rintro e w3 ⟨rfl, hb3⟩
    have A3 := A2.over hb3
    have R3 := R2.over hb3
    have P3 := P2.over hb3
    have hbw3 : Below w.heap.size w w3 := below_call hb3 hbw2
    clear hb3 a2 b2 A2 B2 R2 P2 hbw2
    go_wp2_with fail
    (with_reducible refine (hU2.out _).mono ?_)
    rintro e w4 ⟨rfl, hb4⟩
    have A4 := A3.over hb4
    have R4 := R3.over hb4
    have P4 := P3.over hb4
    have hbw4 : Below w.heap.size w w4 := below_call hb4 hbw3
    have a4 := A4.all
    have p4 := P4.all
    have l4 := A4.lt
    have m4 := P4.lt
    have s4 := hbw4.size
    clear hb4 A3 R3 P3 hbw3
    go_wp2_with fail
    (with_reducible refine (hK.out _).mono ?_)
    rintro e w5 ⟨rfl, hb5⟩
    have F5 : HV 28 w5 w4.heap.size n f1 := (HV.new w4 28 n f1).over hb5
    have R5 := (R4.alloc _).over hb5
    have hbw5 : Below w.heap.size w w5 := below_call hb5 (by go_grown)
    have f5 := F5.all
    have lf5 := F5.lt
    have s5 := hbw5.size
    clear hb5 a4 p4 l4 m4 A4 R4 P4 hbw4
    go_wp2_with fail
    (with_reducible refine (hL.out _).mono ?_)
    rintro e w6 ⟨rfl, hb6⟩
    have R6 := (R5.alloc _).over hb6
    have hbw6 : Below w.heap.size w w6 := below_call hb6 (by go_grown)
    have r6 := R6.all
    clear hb6 f5 lf5
    go_wp2_with fail
    refine bodyPost_ret (v := .tuple #[vv n r, .int .i64 0]) (by simp [results, Try.results14, go_sem, r6]) rfl ⟨rfl, ?_⟩
    repeat' (first | (with_reducible refine Below.drew ?_) | (with_reducible refine Below.setCell ?_ ?_ _))
    all_goals (first | exact hbw6 | (show w.heap.size ≤ _ + 1; omega))
end Go.Proofs.Ytmgkidfikikjpaa
