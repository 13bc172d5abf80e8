/-
  The walk of the statement BvMakes, more than five words.
-/
import Derived.Test.YteahmicbgimomaaYf
import Derived.Test.YteahmicbgimomaaRs
import Derived.Deep.DeepCutAuto
namespace Go.Proofs.Yteahmicbgimomaa
open Go.RowKit
attribute [local go_sem ↓] Go.wp_at_zero Go.wp_at_succ
set_option maxRecDepth 1000000 in
set_option maxHeartbeats 4000000 in
theorem Makes_b (m c n0 n c2 n1 n2 n3 x3 b off : Nat) (wi e1 e2 e3 : Int) (B : Option Addr) (g : Nat → Nat) (f h1 h2 : Nat → Bool) (w : World)
    (hn1 : n1 ≤ 128) (hn2 : n2 ≤ 128) (hm : 5 < m) (hmc : m ≤ c) (hA : RW w (some ⟨b, off, none⟩) 5 g) (hB : RB w B n f)
    (hS : ∀ w, Calls Try.prog 14 #[.slice B n0 c2] w fun e w' => e = .returned (.slice B n c2) ∧ w' = w)
    (hN : ∀ w, RW w (some ⟨b, off, none⟩) 5 g → Calls Try.prog 15 #[.int .i64 wi, .slice (some ⟨b, off, none⟩) 5 c] w (RV w (.tuple #[vv n1 (valB h1 n1), .int .i64 e1])))
    (hRN : ∀ w, RW w (some ⟨b, off, none⟩) 5 g → Calls Try.prog 16 #[.int .i64 wi, .slice (some ⟨b, off, none⟩) 5 c] w (LB w n1 h1 e1))
    (hO : ∀ w, RB w B n f → Calls Try.prog 18 #[.slice B n c2] w (RV w (.tuple #[vv n2 (valB h2 n2), .int .i64 e2])))
    (hRO : ∀ w, RB w B n f → Calls Try.prog 19 #[.slice B n c2] w (LB w n2 h2 e2))
    (hN3 : ∀ w D, RU w D (wN n2) (wordN (valB h2 n2)) → Calls Try.prog 15 #[.int .i64 (n2 : Int), .slice D (wN n2) (wN n2)] w (RV w (.tuple #[vv n3 x3, .int .i64 e3])))
    (hq : (n2 = 0 ∧ e3 = 2) ∨ (0 < n2 ∧ e3 = 0 ∧ n3 = n2 ∧ x3 = valB h2 n2)) :
    Calls Try.prog 3 #[.int .i64 wi, .slice (some ⟨b, off, none⟩) m c, .slice B n0 c2] w (RV w (.bool true)) := by
  have cI1 := fun w c1 A1 (h : RB w A1 n1 h1) => Is_ok n1 c1 A1 h1 w hn1 h
  have cI2 := fun w c1 A1 (h : RB w A1 n2 h2) => Is_ok n2 c1 A1 h2 w hn2 h
  have cQ1 := fun w c1 j A1 (h : RB w A1 n1 h1) => refNum_c n1 c1 j A1 h1 w hn1 h
  have cQ2 := fun w c1 j A1 (h : RB w A1 n2 h2) => refNum_c n2 c1 j A1 h2 w hn2 h
  have cE : ∀ w, n3 = n2 → x3 = valB h2 n2 → Calls Try.prog 24 #[vv n3 x3, vv n2 (valB h2 n2)] w (RV w (.bool true)) := fun w a b => by
    have h := Equal_v n3 x3 n2 (valB h2 n2) w
    rw [show eqB n3 x3 n2 (valB h2 n2) = true by rw [a, b]; unfold eqB; simp] at h
    exact h
  generalize valB h1 n1 = x1 at *
  generalize valB h2 n2 = x2 at *
  have cM1 := fun w j => Num_c n1 x1 j w
  have cM2 := fun w j => Num_c n2 x2 j w
  have cW := Lib.hid (fun w => Width_v n2 x2 w)
  have cX := Lib.hid (fun w => Words_v n2 x2 w hn2)
  replace hA := Lib.hid hA
  replace hB := Lib.hid hB
  replace hS := Lib.hid hS
  replace hN := Lib.hid hN
  replace hRN := Lib.hid hRN
  replace hO := Lib.hid hO
  replace hRO := Lib.hid hRO
  replace hN3 := Lib.hid hN3
  replace hq := Lib.hid hq
  replace cI1 := Lib.hid cI1
  replace cI2 := Lib.hid cI2
  replace cQ1 := Lib.hid cQ1
  replace cQ2 := Lib.hid cQ2
  replace cM1 := Lib.hid cM1
  replace cM2 := Lib.hid cM2
  replace cE := Lib.hid cE
  have d1 : (e1 != e1) = false := by simp
  have d2 : (e2 != e2) = false := by simp
  go_enter Try.func3, Try.ntmps3
  go_wp2_with fail
  (with_reducible refine (awake_t _).mono ?_)
  rintro e w1 ⟨rfl, hbw1⟩
  go_wp2_with fail
  (with_reducible refine (hS.out _).mono ?_)
  rintro e w0 ⟨rfl, rfl⟩
  go_wp2_with fail
  (with_reducible refine (hN.out _ (hA.out.keep hbw1)).mono ?_)
  rintro e w2 ⟨rfl, hb2⟩
  have hbw2 : Below w.heap.size w w2 := below_call hb2 hbw1
  have s2 := hbw2.size
  clear hb2 hbw1
  go_wp2_with fail
  (with_reducible refine (hRN.out _ (hA.out.keep (by go_grown))).mono ?_)
  rintro e w3 ⟨A1, c1, rfl, R1, hb3⟩
  have hbw3 : Below w.heap.size w w3 := below_call hb3 (by go_grown)
  have V1 := (HV.new w2 29 n1 x1).over hb3
  have v1 := V1.all
  clear hb3 hbw2
  go_wp2_with fail
  (with_reducible refine (cI1.out _ _ _ R1).mono ?_)
  rintro e w4 ⟨rfl, hb4⟩
  have hbw4 : Below w.heap.size w w4 := below_call hb4 hbw3
  have V1' := V1.over hb4
  have R1' := R1.keep hb4
  clear hb4 hbw3 V1 v1 R1
  go_wp2_with fail
  (with_reducible refine (hO.out _ (hB.out.keep hbw4)).mono ?_)
  rintro e w5 ⟨rfl, hb5⟩
  have hbw5 : Below w.heap.size w w5 := below_call hb5 hbw4
  have V1 := V1'.over hb5
  have R1 := R1'.keep hb5
  have s5 := hbw5.size
  clear hb5 hbw4 V1' R1'
  go_wp2_with fail
  (with_reducible refine (hRO.out _ (hB.out.keep (by go_grown))).mono ?_)
  rintro e w6 ⟨A2, c3, rfl, R2, hb6⟩
  have hbw6 : Below w.heap.size w w6 := below_call hb6 (by go_grown)
  have V2 := (HV.new w5 29 n2 x2).over hb6
  have V1' := (V1.alloc _).over hb6
  have R1' := R1.keep (below_call hb6 ((Below.refl _ w5).alloc (Nat.le_refl _) _))
  have v2 := V2.all
  clear hb6 hbw5 V1 R1
  go_wp2_with fail
  (with_reducible refine (cI2.out _ _ _ R2).mono ?_)
  rintro e w7 ⟨rfl, hb7⟩
  have hbw7 : Below w.heap.size w w7 := below_call hb7 hbw6
  have V1 := V1'.over hb7
  have R1 := R1'.keep hb7
  have V2' := V2.over hb7
  have R2' := R2.keep hb7
  have s7 := hbw7.size
  clear hb7 hbw6 V1' R1' V2 v2 R2
  go_wp2_with fail
  have hball : Below w7.heap.size w7 (w7.alloc (.cells #[.int .i64 (-1), .int .i64 0, .int .i64 1, .int .i64 7, .int .i64 1000, .int .i64 4611686018427387904] 3)) := (Below.refl _ w7).alloc (Nat.le_refl _) _
  go_loopw [67] (fun i wr => ∃ k : Nat, k ≤ 6 ∧ i = .int .i64 (k : Int) ∧ HV 29 wr w2.heap.size n1 x1 ∧ HV 29 wr w5.heap.size n2 x2 ∧ (∀ j, j < 6 → wr.cell? ⟨w7.heap.size, j, none⟩ = some (.int .i64 (cst j))) ∧ RB wr A1 n1 h1 ∧ RB wr A2 n2 h2 ∧ Below w.heap.size w wr) (fun i _ => 6 - (intOf i).toNat)
  case atStart =>
    refine ⟨0, by omega, rfl, V1.alloc _, V2'.alloc _, fun j hj => ?_, R1.keep hball, R2'.keep hball, by go_grown⟩
    rw [cell_of_row _ _ j _ _ _ (heap_alloc_new w7 _)]
    match j, hj with
    | 0, _ => rfl
    | 1, _ => rfl
    | 2, _ => rfl
    | 3, _ => rfl
    | 4, _ => rfl
    | 5, _ => rfl
  case round =>
    clear V1 V2' R1 R2' hbw7 hball
    obtain ⟨k, hk, rfl, V1, V2, C, R1, R2, hbw⟩ := hrel
    by_cases hlt : k < 6
    · have ck := C k hlt
      have lk : (k : Int) < 6 := by omega
      have cM1k := fun w => cM1.out w k
      have cM2k := fun w => cM2.out w k
      have cQ1k := fun w c1 A1 h => cQ1.out w c1 k A1 h
      have cQ2k := fun w c1 A1 h => cQ2.out w c1 k A1 h
      generalize cst k = mo at ck cM1k cM2k cQ1k cQ2k
      generalize ((min x1 (cstN k) : Nat) : Int) = y1 at cM1k cQ1k
      generalize ((min x2 (cstN k) : Nat) : Int) = y2 at cM2k cQ2k
      have q1 : (y1 != y1) = false := by simp
      have q2 : (y2 != y2) = false := by simp
      replace C := Lib.hid C
      replace cM1k := Lib.hid cM1k
      replace cM2k := Lib.hid cM2k
      replace cQ1k := Lib.hid cQ1k
      replace cQ2k := Lib.hid cQ2k
      have v1 := V1.all
      go_wp2_with fail
      (with_reducible refine (cM1k.out _).mono ?_)
      rintro e w8 ⟨rfl, hb8⟩
      have V1' := V1.over hb8
      have V2' := V2.over hb8
      have R1' := R1.keep hb8
      have R2' := R2.keep hb8
      have C' : ∀ j, j < 6 → w8.cell? ⟨w7.heap.size, j, none⟩ = some (.int .i64 (cst j)) := fun j hj => cellB (C.out j hj) hb8
      have hbw8 : Below w.heap.size w w8 := below_call hb8 hbw
      clear hb8 hbw V1 V2 v1 R1 R2 C ck
      replace C' := Lib.hid C'
      go_wp2_with fail
      (with_reducible refine (cQ1k.out _ _ _ R1').mono ?_)
      rintro e w0 ⟨rfl, rfl⟩
      have v2 := V2'.all
      go_wp2_with fail
      (with_reducible refine (cM2k.out _).mono ?_)
      rintro e w9 ⟨rfl, hb9⟩
      have V1 := V1'.over hb9
      have V2 := V2'.over hb9
      have R1 := R1'.keep hb9
      have R2 := R2'.keep hb9
      have C : ∀ j, j < 6 → w9.cell? ⟨w7.heap.size, j, none⟩ = some (.int .i64 (cst j)) := fun j hj => cellB (C'.out j hj) hb9
      have hbw9 : Below w.heap.size w w9 := below_call hb9 hbw8
      clear hb9 hbw8 V1' V2' v2 R1' R2' C'
      replace C := Lib.hid C
      go_wp2_with fail
      (with_reducible refine (cQ2k.out _ _ _ R2).mono ?_)
      rintro e w0 ⟨rfl, rfl⟩
      go_wp2_with fail
      go_roundw
      case rel => exact ⟨k + 1, by omega, by go_num, V1, V2, C.out, R1, R2, hbw9⟩
      case measure => simp [intOf]; omega
    · obtain rfl : k = 6 := by omega
      clear C R1 R2 V1 d1 d2 hlt hk
      go_wp2_with fail
      have V2d : HV 29 wr.drew w5.heap.size n2 x2 := V2
      have hbd : Below w.heap.size w wr.drew := hbw.drew
      clear V2 hbw
      go_cut [8, 15] (fun ev sv wz => ev = .int .i64 e3 ∧ ∃ b3 : Nat, sv = .pointer (some ⟨b3, 0, none⟩) ∧ HV 29 wz w5.heap.size n2 x2 ∧ HV 29 wz b3 n3 x3 ∧ Below w.heap.size w wz)
      case first =>
        refine region_anyT (n := 10) (S := fun w' => w'.cell? ⟨w5.heap.size, 0, none⟩ = some (.int .i64 (n2 : Int)) ∧ w'.cell? ⟨w5.heap.size, 1, none⟩ = some (.int .u64 ((lo x2 : Nat) : Int)) ∧ w'.cell? ⟨w5.heap.size, 2, none⟩ = some (.int .u64 ((hi x2 : Nat) : Int))) (by kernel_rfl) ?_
        have hS0 : (fun w' : World => w'.cell? ⟨w5.heap.size, 0, none⟩ = some (.int .i64 (n2 : Int)) ∧ w'.cell? ⟨w5.heap.size, 1, none⟩ = some (.int .u64 ((lo x2 : Nat) : Int)) ∧ w'.cell? ⟨w5.heap.size, 2, none⟩ = some (.int .u64 ((hi x2 : Nat) : Int))) wr.drew := V2d.keep3
        refine anyT_take (i := 0) (v := vv n2 x2) rfl (by kernel_rfl) (by kernel_rfl) (fun _ _ _ h => h) (Or.inl ⟨by rfl, ?_⟩) hS0 ?_
        · intro w' hw'
          obtain ⟨k1, k2, k3⟩ := hw'
          go_simp
          try with_reducible rfl
        try simp only [Act.put, List.getElem_toArray, List.getElem_cons_zero, List.setIfInBounds_toArray, List.set_cons_zero, List.set_cons_succ]
        refine anyT_take (i := 2) (v := vv n2 x2) rfl (by kernel_rfl) (by kernel_rfl) (fun _ _ _ h => h) (Or.inl ⟨by rfl, ?_⟩) hS0 ?_
        · intro w' hw'
          obtain ⟨k1, k2, k3⟩ := hw'
          go_simp
          try with_reducible rfl
        try simp only [Act.put, List.getElem_toArray, List.getElem_cons_zero, List.getElem_cons_succ, List.setIfInBounds_toArray, List.set_cons_zero, List.set_cons_succ]
        clear hS0
        refine anyT_pair (i := 1) (j := 8) (by kernel_rfl) ?_ ?_
        ·
          refine wpOp_step rfl (fun K hK => ?_)
          replace hK := Lib.hid hK
          go_simp
          (with_reducible refine (cW.out _).mono ?_)
          rintro e wa1 ⟨rfl, hba⟩
          have V1 := V2d.over hba
          have hbw1 : Below w.heap.size w wa1 := below_call hba hbd
          clear hba
          refine hK.out _ _ ⟨fun _ => V1.keep3, ?_⟩
          clear hK K
          try simp only [Act.put, List.getElem_toArray, List.getElem_cons_zero, List.getElem_cons_succ, List.setIfInBounds_toArray, List.set_cons_zero, List.set_cons_succ]
          refine anyT_pair (i := 3) (j := 8) (by kernel_rfl) ?_ ?_
          ·
            refine wpOp_step rfl (fun K hK => ?_)
            replace hK := Lib.hid hK
            go_simp
            (with_reducible refine (cX.out _).mono ?_)
            rintro e wa2 ⟨gb, rfl, Rb, hba⟩
            replace Rb := Lib.hid (RU_words Rb)
            have V2 := V1.over hba
            have hbw2 : Below w.heap.size w wa2 := below_call hba hbw1
            clear hba
            refine hK.out _ _ ⟨fun _ => V2.keep3, ?_⟩
            clear hK K
            try simp only [Act.put, List.getElem_toArray, List.getElem_cons_zero, List.getElem_cons_succ, List.setIfInBounds_toArray, List.set_cons_zero, List.set_cons_succ]
            refine anyT_pair (i := 4) (j := 8) (by kernel_rfl) ?_ ?_
            ·
              refine wpOp_step rfl (fun K hK => ?_)
              replace hK := Lib.hid hK
              go_simp
              (refine (hN3.out _ _ (Rb.out.keep (by first | exact Below.refl _ _ | exact (Below.refl _ _).alloc (Nat.le_refl _) _))).mono ?_)
              rintro e wa3 ⟨rfl, hba⟩
              clear Rb
              have V3 := V2.over hba
              have hbw3 : Below w.heap.size w wa3 := below_call hba hbw2
              clear hba
              refine hK.out _ _ ⟨fun _ => V3.keep3, ?_⟩
              clear hK K
              try simp only [Act.put, List.getElem_toArray, List.getElem_cons_zero, List.getElem_cons_succ, List.setIfInBounds_toArray, List.set_cons_zero, List.set_cons_succ]
              refine anyT_take (i := 5) (v := (.tuple #[vv n3 x3, .int .i64 e3])) rfl (by kernel_rfl) (by kernel_rfl) (fun _ _ _ h => h) (Or.inl ⟨by rfl, ?_⟩) V3.keep3 ?_
              · intro w' hw'
                obtain ⟨k1, k2, k3⟩ := hw'
                go_simp
                try with_reducible rfl
              try simp only [Act.put, List.getElem_toArray, List.getElem_cons_zero, List.getElem_cons_succ, List.setIfInBounds_toArray, List.set_cons_zero, List.set_cons_succ]
              refine anyT_take (i := 6) (v := (vv n3 x3)) rfl (by kernel_rfl) (by kernel_rfl) (fun _ _ _ h => h) (Or.inl ⟨by rfl, ?_⟩) V3.keep3 ?_
              · intro w' hw'
                obtain ⟨k1, k2, k3⟩ := hw'
                go_simp
                try with_reducible rfl
              try simp only [Act.put, List.getElem_toArray, List.getElem_cons_zero, List.getElem_cons_succ, List.setIfInBounds_toArray, List.set_cons_zero, List.set_cons_succ]
              refine anyT_take (i := 7) (v := (.int .i64 e3)) rfl (by kernel_rfl) (by kernel_rfl) (fun _ _ _ h => h) (Or.inl ⟨by rfl, ?_⟩) V3.keep3 ?_
              · intro w' hw'
                obtain ⟨k1, k2, k3⟩ := hw'
                go_simp
                try with_reducible rfl
              try simp only [Act.put, List.getElem_toArray, List.getElem_cons_zero, List.getElem_cons_succ, List.setIfInBounds_toArray, List.set_cons_zero, List.set_cons_succ]
              refine anyT_one (i := 8) (by kernel_rfl) ?_
              refine wpOp_step rfl (fun K hK => ?_)
              replace hK := Lib.hid hK
              go_simp
              have Z4 : HV 29 (wa3.alloc (.cells zcs 29)) wa3.heap.size 0 0 := HV.zero wa3 29
              have sz4 : w.heap.size ≤ wa3.heap.size := hbw3.size
              have ne4 : w5.heap.size ≠ wa3.heap.size := Nat.ne_of_lt V3.lt
              have U4 := V3.alloc (.cells zcs 29)
              have hbw4 := hbw3.alloc hbw3.size (.cells zcs 29)
              refine hK.out _ _ ⟨fun _ => U4.keep3, ?_⟩
              clear hK K
              try simp only [Act.put, List.getElem_toArray, List.getElem_cons_zero, List.getElem_cons_succ, List.setIfInBounds_toArray, List.set_cons_zero, List.set_cons_succ]
              refine anyT_one (i := 9) (by kernel_rfl) ?_
              refine wpOp_step rfl (fun K hK => ?_)
              replace hK := Lib.hid hK
              go_simp
              refine hK.out _ _ ⟨fun _ => (V3.alloc _).keep3, ?_⟩
              clear hK K
              try simp only [Act.put, List.getElem_toArray, List.getElem_cons_zero, List.getElem_cons_succ, List.setIfInBounds_toArray, List.set_cons_zero, List.set_cons_succ]
              refine anyT_one (i := 10) (by kernel_rfl) ?_
              refine wpOp_step rfl (fun K hK => ?_)
              replace hK := Lib.hid hK
              go_simp
              refine hK.out _ _ ⟨fun h => absurd h (by decide), ?_⟩
              clear hK K
              try simp only [Act.put]
              refine anyT_done (by kernel_rfl) ?_ _
              go_wp2_with fail
              go_meet
              refine ⟨rfl, _, rfl, V3.alloc _, HV.new wa3 29 n3 x3, hbw3.alloc hbw3.size _⟩
            ·
              refine wpOp_step rfl (fun K hK => ?_)
              replace hK := Lib.hid hK
              go_simp
              have Z5 : HV 29 (wa2.alloc (.cells zcs 29)) wa2.heap.size 0 0 := HV.zero wa2 29
              have sz5 : w.heap.size ≤ wa2.heap.size := hbw2.size
              have ne5 : w5.heap.size ≠ wa2.heap.size := Nat.ne_of_lt V2.lt
              have U5 := V2.alloc (.cells zcs 29)
              have hbw5 := hbw2.alloc hbw2.size (.cells zcs 29)
              refine hK.out _ _ ⟨fun _ => U5.keep3, ?_⟩
              clear hK K
              try simp only [Act.put, List.getElem_toArray, List.getElem_cons_zero, List.getElem_cons_succ, List.setIfInBounds_toArray, List.set_cons_zero, List.set_cons_succ]
              refine anyT_one (i := 4) (by kernel_rfl) ?_
              refine wpOp_step rfl (fun K hK => ?_)
              replace hK := Lib.hid hK
              go_simp
              (refine (hN3.out _ _ (Rb.out.keep (by first | exact Below.refl _ _ | exact (Below.refl _ _).alloc (Nat.le_refl _) _))).mono ?_)
              rintro e wa6 ⟨rfl, hba⟩
              clear Rb
              have V6 := U5.over hba
              have Z6 := Z5.over hba
              have hbw6 : Below w.heap.size w wa6 := below_call hba hbw5
              clear hba
              refine hK.out _ _ ⟨fun _ => V6.keep3, ?_⟩
              clear hK K
              try simp only [Act.put, List.getElem_toArray, List.getElem_cons_zero, List.getElem_cons_succ, List.setIfInBounds_toArray, List.set_cons_zero, List.set_cons_succ]
              refine anyT_take (i := 5) (v := (.tuple #[vv n3 x3, .int .i64 e3])) rfl (by kernel_rfl) (by kernel_rfl) (fun _ _ _ h => h) (Or.inl ⟨by rfl, ?_⟩) V6.keep3 ?_
              · intro w' hw'
                obtain ⟨k1, k2, k3⟩ := hw'
                go_simp
                try with_reducible rfl
              try simp only [Act.put, List.getElem_toArray, List.getElem_cons_zero, List.getElem_cons_succ, List.setIfInBounds_toArray, List.set_cons_zero, List.set_cons_succ]
              refine anyT_take (i := 6) (v := (vv n3 x3)) rfl (by kernel_rfl) (by kernel_rfl) (fun _ _ _ h => h) (Or.inl ⟨by rfl, ?_⟩) V6.keep3 ?_
              · intro w' hw'
                obtain ⟨k1, k2, k3⟩ := hw'
                go_simp
                try with_reducible rfl
              try simp only [Act.put, List.getElem_toArray, List.getElem_cons_zero, List.getElem_cons_succ, List.setIfInBounds_toArray, List.set_cons_zero, List.set_cons_succ]
              refine anyT_take (i := 7) (v := (.int .i64 e3)) rfl (by kernel_rfl) (by kernel_rfl) (fun _ _ _ h => h) (Or.inl ⟨by rfl, ?_⟩) V6.keep3 ?_
              · intro w' hw'
                obtain ⟨k1, k2, k3⟩ := hw'
                go_simp
                try with_reducible rfl
              try simp only [Act.put, List.getElem_toArray, List.getElem_cons_zero, List.getElem_cons_succ, List.setIfInBounds_toArray, List.set_cons_zero, List.set_cons_succ]
              have zz := Z6.all
              have zl := Z6.lt
              refine anyT_one (i := 9) (by kernel_rfl) ?_
              refine wpOp_step rfl (fun K hK => ?_)
              replace hK := Lib.hid hK
              go_simp
              refine hK.out _ _ ⟨fun _ => (V6.far3 ne5).keep3, ?_⟩
              clear hK K
              try simp only [Act.put, List.getElem_toArray, List.getElem_cons_zero, List.getElem_cons_succ, List.setIfInBounds_toArray, List.set_cons_zero, List.set_cons_succ]
              refine anyT_one (i := 10) (by kernel_rfl) ?_
              refine wpOp_step rfl (fun K hK => ?_)
              replace hK := Lib.hid hK
              go_simp
              refine hK.out _ _ ⟨fun h => absurd h (by decide), ?_⟩
              clear hK K
              try simp only [Act.put]
              refine anyT_done (by kernel_rfl) ?_ _
              go_wp2_with fail
              go_meet
              refine ⟨rfl, _, rfl, V6.far3 ne5, Z6.set3 n3 x3, ?_⟩
              repeat' (first | (with_reducible refine Below.drew ?_) | (with_reducible refine Below.setCell ?_ ?_ _) | (with_reducible refine Below.alloc ?_ ?_ _))
              all_goals (first | exact hbw6 | (dsimp only; omega) | omega)
          ·
            refine wpOp_step rfl (fun K hK => ?_)
            replace hK := Lib.hid hK
            go_simp
            have Z7 : HV 29 (wa1.alloc (.cells zcs 29)) wa1.heap.size 0 0 := HV.zero wa1 29
            have sz7 : w.heap.size ≤ wa1.heap.size := hbw1.size
            have ne7 : w5.heap.size ≠ wa1.heap.size := Nat.ne_of_lt V1.lt
            have U7 := V1.alloc (.cells zcs 29)
            have hbw7 := hbw1.alloc hbw1.size (.cells zcs 29)
            refine hK.out _ _ ⟨fun _ => U7.keep3, ?_⟩
            clear hK K
            try simp only [Act.put, List.getElem_toArray, List.getElem_cons_zero, List.getElem_cons_succ, List.setIfInBounds_toArray, List.set_cons_zero, List.set_cons_succ]
            refine anyT_one (i := 3) (by kernel_rfl) ?_
            refine wpOp_step rfl (fun K hK => ?_)
            replace hK := Lib.hid hK
            go_simp
            (with_reducible refine (cX.out _).mono ?_)
            rintro e wa8 ⟨gb, rfl, Rb, hba⟩
            replace Rb := Lib.hid (RU_words Rb)
            have V8 := U7.over hba
            have Z8 := Z7.over hba
            have hbw8 : Below w.heap.size w wa8 := below_call hba hbw7
            clear hba
            refine hK.out _ _ ⟨fun _ => V8.keep3, ?_⟩
            clear hK K
            try simp only [Act.put, List.getElem_toArray, List.getElem_cons_zero, List.getElem_cons_succ, List.setIfInBounds_toArray, List.set_cons_zero, List.set_cons_succ]
            refine anyT_one (i := 4) (by kernel_rfl) ?_
            refine wpOp_step rfl (fun K hK => ?_)
            replace hK := Lib.hid hK
            go_simp
            (refine (hN3.out _ _ (Rb.out.keep (by first | exact Below.refl _ _ | exact (Below.refl _ _).alloc (Nat.le_refl _) _))).mono ?_)
            rintro e wa9 ⟨rfl, hba⟩
            clear Rb
            have V9 := V8.over hba
            have Z9 := Z8.over hba
            have hbw9 : Below w.heap.size w wa9 := below_call hba hbw8
            clear hba
            refine hK.out _ _ ⟨fun _ => V9.keep3, ?_⟩
            clear hK K
            try simp only [Act.put, List.getElem_toArray, List.getElem_cons_zero, List.getElem_cons_succ, List.setIfInBounds_toArray, List.set_cons_zero, List.set_cons_succ]
            refine anyT_take (i := 5) (v := (.tuple #[vv n3 x3, .int .i64 e3])) rfl (by kernel_rfl) (by kernel_rfl) (fun _ _ _ h => h) (Or.inl ⟨by rfl, ?_⟩) V9.keep3 ?_
            · intro w' hw'
              obtain ⟨k1, k2, k3⟩ := hw'
              go_simp
              try with_reducible rfl
            try simp only [Act.put, List.getElem_toArray, List.getElem_cons_zero, List.getElem_cons_succ, List.setIfInBounds_toArray, List.set_cons_zero, List.set_cons_succ]
            refine anyT_take (i := 6) (v := (vv n3 x3)) rfl (by kernel_rfl) (by kernel_rfl) (fun _ _ _ h => h) (Or.inl ⟨by rfl, ?_⟩) V9.keep3 ?_
            · intro w' hw'
              obtain ⟨k1, k2, k3⟩ := hw'
              go_simp
              try with_reducible rfl
            try simp only [Act.put, List.getElem_toArray, List.getElem_cons_zero, List.getElem_cons_succ, List.setIfInBounds_toArray, List.set_cons_zero, List.set_cons_succ]
            refine anyT_take (i := 7) (v := (.int .i64 e3)) rfl (by kernel_rfl) (by kernel_rfl) (fun _ _ _ h => h) (Or.inl ⟨by rfl, ?_⟩) V9.keep3 ?_
            · intro w' hw'
              obtain ⟨k1, k2, k3⟩ := hw'
              go_simp
              try with_reducible rfl
            try simp only [Act.put, List.getElem_toArray, List.getElem_cons_zero, List.getElem_cons_succ, List.setIfInBounds_toArray, List.set_cons_zero, List.set_cons_succ]
            have zz := Z9.all
            have zl := Z9.lt
            refine anyT_one (i := 9) (by kernel_rfl) ?_
            refine wpOp_step rfl (fun K hK => ?_)
            replace hK := Lib.hid hK
            go_simp
            refine hK.out _ _ ⟨fun _ => (V9.far3 ne7).keep3, ?_⟩
            clear hK K
            try simp only [Act.put, List.getElem_toArray, List.getElem_cons_zero, List.getElem_cons_succ, List.setIfInBounds_toArray, List.set_cons_zero, List.set_cons_succ]
            refine anyT_one (i := 10) (by kernel_rfl) ?_
            refine wpOp_step rfl (fun K hK => ?_)
            replace hK := Lib.hid hK
            go_simp
            refine hK.out _ _ ⟨fun h => absurd h (by decide), ?_⟩
            clear hK K
            try simp only [Act.put]
            refine anyT_done (by kernel_rfl) ?_ _
            go_wp2_with fail
            go_meet
            refine ⟨rfl, _, rfl, V9.far3 ne7, Z9.set3 n3 x3, ?_⟩
            repeat' (first | (with_reducible refine Below.drew ?_) | (with_reducible refine Below.setCell ?_ ?_ _) | (with_reducible refine Below.alloc ?_ ?_ _))
            all_goals (first | exact hbw9 | (dsimp only; omega) | omega)
        ·
          refine wpOp_step rfl (fun K hK => ?_)
          replace hK := Lib.hid hK
          go_simp
          have Z10 : HV 29 (wr.drew.alloc (.cells zcs 29)) wr.heap.size 0 0 := HV.zero wr.drew 29
          have sz10 : w.heap.size ≤ wr.heap.size := hbd.size
          have ne10 : w5.heap.size ≠ wr.heap.size := Nat.ne_of_lt V2d.lt
          have U10 := V2d.alloc (.cells zcs 29)
          have hbw10 := hbd.alloc hbd.size (.cells zcs 29)
          refine hK.out _ _ ⟨fun _ => U10.keep3, ?_⟩
          clear hK K
          try simp only [Act.put, List.getElem_toArray, List.getElem_cons_zero, List.getElem_cons_succ, List.setIfInBounds_toArray, List.set_cons_zero, List.set_cons_succ]
          refine anyT_one (i := 1) (by kernel_rfl) ?_
          refine wpOp_step rfl (fun K hK => ?_)
          replace hK := Lib.hid hK
          go_simp
          (with_reducible refine (cW.out _).mono ?_)
          rintro e wa11 ⟨rfl, hba⟩
          have V11 := U10.over hba
          have Z11 := Z10.over hba
          have hbw11 : Below w.heap.size w wa11 := below_call hba hbw10
          clear hba
          refine hK.out _ _ ⟨fun _ => V11.keep3, ?_⟩
          clear hK K
          try simp only [Act.put, List.getElem_toArray, List.getElem_cons_zero, List.getElem_cons_succ, List.setIfInBounds_toArray, List.set_cons_zero, List.set_cons_succ]
          refine anyT_one (i := 3) (by kernel_rfl) ?_
          refine wpOp_step rfl (fun K hK => ?_)
          replace hK := Lib.hid hK
          go_simp
          (with_reducible refine (cX.out _).mono ?_)
          rintro e wa12 ⟨gb, rfl, Rb, hba⟩
          replace Rb := Lib.hid (RU_words Rb)
          have V12 := V11.over hba
          have Z12 := Z11.over hba
          have hbw12 : Below w.heap.size w wa12 := below_call hba hbw11
          clear hba
          refine hK.out _ _ ⟨fun _ => V12.keep3, ?_⟩
          clear hK K
          try simp only [Act.put, List.getElem_toArray, List.getElem_cons_zero, List.getElem_cons_succ, List.setIfInBounds_toArray, List.set_cons_zero, List.set_cons_succ]
          refine anyT_one (i := 4) (by kernel_rfl) ?_
          refine wpOp_step rfl (fun K hK => ?_)
          replace hK := Lib.hid hK
          go_simp
          (refine (hN3.out _ _ (Rb.out.keep (by first | exact Below.refl _ _ | exact (Below.refl _ _).alloc (Nat.le_refl _) _))).mono ?_)
          rintro e wa13 ⟨rfl, hba⟩
          clear Rb
          have V13 := V12.over hba
          have Z13 := Z12.over hba
          have hbw13 : Below w.heap.size w wa13 := below_call hba hbw12
          clear hba
          refine hK.out _ _ ⟨fun _ => V13.keep3, ?_⟩
          clear hK K
          try simp only [Act.put, List.getElem_toArray, List.getElem_cons_zero, List.getElem_cons_succ, List.setIfInBounds_toArray, List.set_cons_zero, List.set_cons_succ]
          refine anyT_take (i := 5) (v := (.tuple #[vv n3 x3, .int .i64 e3])) rfl (by kernel_rfl) (by kernel_rfl) (fun _ _ _ h => h) (Or.inl ⟨by rfl, ?_⟩) V13.keep3 ?_
          · intro w' hw'
            obtain ⟨k1, k2, k3⟩ := hw'
            go_simp
            try with_reducible rfl
          try simp only [Act.put, List.getElem_toArray, List.getElem_cons_zero, List.getElem_cons_succ, List.setIfInBounds_toArray, List.set_cons_zero, List.set_cons_succ]
          refine anyT_take (i := 6) (v := (vv n3 x3)) rfl (by kernel_rfl) (by kernel_rfl) (fun _ _ _ h => h) (Or.inl ⟨by rfl, ?_⟩) V13.keep3 ?_
          · intro w' hw'
            obtain ⟨k1, k2, k3⟩ := hw'
            go_simp
            try with_reducible rfl
          try simp only [Act.put, List.getElem_toArray, List.getElem_cons_zero, List.getElem_cons_succ, List.setIfInBounds_toArray, List.set_cons_zero, List.set_cons_succ]
          refine anyT_take (i := 7) (v := (.int .i64 e3)) rfl (by kernel_rfl) (by kernel_rfl) (fun _ _ _ h => h) (Or.inl ⟨by rfl, ?_⟩) V13.keep3 ?_
          · intro w' hw'
            obtain ⟨k1, k2, k3⟩ := hw'
            go_simp
            try with_reducible rfl
          try simp only [Act.put, List.getElem_toArray, List.getElem_cons_zero, List.getElem_cons_succ, List.setIfInBounds_toArray, List.set_cons_zero, List.set_cons_succ]
          have zz := Z13.all
          have zl := Z13.lt
          refine anyT_one (i := 9) (by kernel_rfl) ?_
          refine wpOp_step rfl (fun K hK => ?_)
          replace hK := Lib.hid hK
          go_simp
          refine hK.out _ _ ⟨fun _ => (V13.far3 ne10).keep3, ?_⟩
          clear hK K
          try simp only [Act.put, List.getElem_toArray, List.getElem_cons_zero, List.getElem_cons_succ, List.setIfInBounds_toArray, List.set_cons_zero, List.set_cons_succ]
          refine anyT_one (i := 10) (by kernel_rfl) ?_
          refine wpOp_step rfl (fun K hK => ?_)
          replace hK := Lib.hid hK
          go_simp
          refine hK.out _ _ ⟨fun h => absurd h (by decide), ?_⟩
          clear hK K
          try simp only [Act.put]
          refine anyT_done (by kernel_rfl) ?_ _
          go_wp2_with fail
          go_meet
          refine ⟨rfl, _, rfl, V13.far3 ne10, Z13.set3 n3 x3, ?_⟩
          repeat' (first | (with_reducible refine Below.drew ?_) | (with_reducible refine Below.setCell ?_ ?_ _) | (with_reducible refine Below.alloc ?_ ?_ _))
          all_goals (first | exact hbw13 | (dsimp only; omega) | omega)
      case rest =>
      clear V2d hbd
      obtain ⟨rfl, b3, rfl, V2e, V3, hbe⟩ := hcut
      have v2 := V2e.all
      have v3 := V3.all
      rcases hq.out with ⟨h0, rfl⟩ | ⟨h0, rfl, h3, h4⟩
      · have z0 : ((n2 : Int) == 0) = true := by simp; omega
        clear h0
        go_wp2_with fail
        (with_reducible refine (cW.out _).mono ?_)
        rintro e wf ⟨rfl, hbf⟩
        have hbwf : Below w.heap.size w wf := below_call hbf hbe
        go_wp2_with fail
        go_ret
        exact ⟨rfl, hbwf⟩
      · have cE' := Lib.hid (fun w => cE.out w h3 h4)
        clear h3 h4 cE
        have z0 : ((n2 : Int) == 0) = false := by simp; omega
        go_wp2_with fail
        (with_reducible refine (cW.out _).mono ?_)
        rintro e wf ⟨rfl, hbf⟩
        have hbwf : Below w.heap.size w wf := below_call hbf hbe
        have V2f := (V2e.over hbf).all
        have V3f := (V3.over hbf).all
        clear v2 v3 hbf hbe V2e V3
        go_wp2_with fail
        (with_reducible refine (cE'.out _).mono ?_)
        rintro e wg ⟨rfl, hbg⟩
        have hbwg : Below w.heap.size w wg := below_call hbg hbwf
        go_wp2_with fail
        go_ret
        exact ⟨rfl, hbwg⟩
end Go.Proofs.Yteahmicbgimomaa
