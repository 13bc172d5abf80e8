/-
  CnfHolds walked.
-/
import Derived.Test.YtgnmehkklmklnaaDoorNd
import Derived.Test.YtgnmehkklmklnaaDoorKq
import Derived.Test.YtgnmehkklmklnaaDoorKr
import Derived.Test.YtgnmehkklmklnaaDoorKx
namespace Go.Proofs.YtgnmehkklmklnaaDoor
open Go.RowKit Go.Lib
theorem good_add {V : Nat} {cs : List (List Int)} {c : List Int} (hp : c.Pairwise Lq) (ho : opB c = false) (ha : c.any (fgn V) = false) (hn : cs.length < 200000) (hc : c.length ≤ 1000) : addF V cs c = (0, cs ++ [c]) := by
  unfold addF
  rw [ha, ho, canon_of_sorted hp, if_neg (by decide), if_neg (by omega), if_neg (by decide)]
theorem holB_append (m : List Bool) (a b : List (List Int)) : holB m (a ++ b) = (holB m a && holB m b) := by unfold holB; rw [List.all_append]
theorem take_get (cs : List (List Int)) (i : Nat) (h : i < cs.length) : cs.take (i + 1) = cs.take i ++ [cs[i]] := List.take_succ_eq_append_getElem h
theorem CF.low {base B : Nat} {w w' : World} {p V : Nat} {cs : List (List Int)} {vl ve : Value} (h : CF base w p V cs vl ve) (hB : ∀ b, FP p vl ve b → b < B) (hz : B ≤ w.heap.size) (k : Below B w w') : CF base w' p V cs vl ve :=
  h.keep (F := fun b => B ≤ b) ⟨k.os, k.tape, k.output, k.size, fun b hb hn => k.block b (by omega)⟩ fun b hb hf => by have := hB b hb; omega
set_option maxRecDepth 100000 in
set_option maxHeartbeats 8000000 in
theorem holds_t (x : Int) (V : Nat) (hxV : max 0 (min x 60) = (V : Int)) (A1 A2 Am : Option Addr) (L1 L2 : List (List Int)) (c1 c2 cm : Nat) (m : List Bool) (w : World) (hT : LT w) (hR1 : RLL w A1 L1) (hR2 : RLL w A2 L2) (hRm : RBo w Am m) (hn1 : L1.length ≤ 9223372036854775807) (hn2 : L2.length ≤ 9223372036854775807) :
    Calls Tryd.prog 6 #[.int .i64 x, .agg #[.slice A1 L1.length c1, .slice A2 L2.length c2], .slice Am m.length cm] w (RV w (.bool true)) := by
  have hV60 : V ≤ 60 := by omega
  have hAw := fun W (hb : Below w.heap.size w W) => awake_t W (hT.on hb)
  have hM1 := fun W (hb : Below w.heap.size w W) => Make_t x V hxV A1 L1 c1 W (hR1.over hb) hn1
  have hM2 := fun W (hb : Below w.heap.size w W) => Make_t x V hxV A2 L2 c2 W (hR2.over hb) hn2
  obtain ⟨n1, hn1e⟩ : ∃ n1, L1.length = n1 := ⟨_, rfl⟩
  obtain ⟨n2, hn2e⟩ : ∃ n2, L2.length = n2 := ⟨_, rfl⟩
  obtain ⟨nm, hnme⟩ : ∃ nm, m.length = nm := ⟨_, rfl⟩
  simp only [hn1e] at hM1
  simp only [hn2e] at hM2
  rw [hn1e, hn2e, hnme]
  replace hAw := Lib.hid hAw
  replace hM1 := Lib.hid hM1
  replace hM2 := Lib.hid hM2
  replace hV60 := Lib.hid hV60
  replace hRm := Lib.hid hRm
  replace hnme := Lib.hid hnme
  replace hxV := Lib.hid hxV
  clear hn1 hn2 hn1e hn2e hR1 hR2
  go_enter Tryd.func6, Tryd.ntmps6
  have hbw0 : Below w.heap.size w (w.alloc (.cells #[.slice A1 n1 c1, .slice A2 n2 c2] 46)) := (Below.refl _ w).alloc (Nat.le_refl _) _
  have hin : (w.alloc (.cells #[.slice A1 n1 c1, .slice A2 n2 c2] 46)).heap[w.heap.size]? = some (.cells #[.slice A1 n1 c1, .slice A2 n2 c2] 46 (0, 0)) := heap_alloc_new w _
  replace hin := Lib.hid hin
  go_wp2_with fail
  (with_reducible refine (hAw.out _ hbw0).mono ?_)
  rintro e w1 ⟨rfl, hb1⟩
  have i1 := (hb1.block w.heap.size (by simp)).trans hin.out
  have hbw1 : Below w.heap.size w w1 := below_call hb1 hbw0 hbw0.size
  have e10 : w1.cell? ⟨w.heap.size, 0, none⟩ = some (.slice A1 n1 c1) := by rw [Lib.cell_of_heap i1]; rfl
  have li1 := lt_of_get i1
  replace i1 := Lib.hid i1
  clear hAw hb1 hbw0 hin
  go_wp2_with fail
  (with_reducible refine (hM1.out _ hbw1).mono ?_)
  rintro e w2 ⟨pa, csa, vla, vea, Aa, ca, vsa, rfl, ha, hla, hga, hna, hLa, hb2⟩
  obtain ⟨na, hnae⟩ : ∃ na, csa.length = na := ⟨_, rfl⟩
  rw [hnae]
  have i2 := (hb2.block w.heap.size li1).trans i1.out
  have hbw2 : Below w.heap.size w w2 := below_call hb2 hbw1 hbw1.size
  have hb3 : Below w.heap.size w (w2.alloc (.cells #[.int .i64 (V : Int), .slice Aa na ca] 27)) := hbw2.alloc hbw2.size _
  have ha3 := ha.over ((Below.refl _ w2).alloc (Nat.le_refl _) (.cells #[.int .i64 (V : Int), .slice Aa na ca] 27))
  have hpaz := ha.lt
  have i3 := (Lib.alloc_old w2 (.cells #[.int .i64 (V : Int), .slice Aa na ca] 27) w.heap.size (lt_of_get i2)).trans i2
  have v3 := heap_alloc_new w2 (.cells #[.int .i64 (V : Int), .slice Aa na ca] 27)
  have e20 : (w2.alloc (.cells #[.int .i64 (V : Int), .slice Aa na ca] 27)).cell? ⟨w.heap.size, 1, none⟩ = some (.slice A2 n2 c2) := by rw [Lib.cell_of_heap i3]; rfl
  have li2 := lt_of_get i2
  replace ha3 := Lib.hid ha3
  replace v3 := Lib.hid v3
  replace hga := Lib.hid hga
  replace hnae := Lib.hid hnae
  replace hla := Lib.hid hla
  have e21 : w2.cell? ⟨w.heap.size, 1, none⟩ = some (.slice A2 n2 c2) := by rw [Lib.cell_of_heap i2]; rfl
  clear e10 li1 i1 hM1 hb2 hbw1 hna hLa ha i3 hbw2 i2
  go_wp2_with fail
  (with_reducible refine (hM2.out _ hb3).mono ?_)
  rintro e w4 ⟨pb, csb, vlb, veb, Ab, cb, vsb, rfl, hb, hlb, hgb, hnb, hLb, hb4⟩
  obtain ⟨nb, hnbe⟩ : ∃ nb, csb.length = nb := ⟨_, rfl⟩
  rw [hnbe]
  have ha4 := ha3.out.over hb4
  have v4 := (hb4.block w2.heap.size (by simp)).trans v3.out
  have hbw4 : Below w.heap.size w w4 := below_call hb4 hb3 hb3.size
  have hal := (Below.refl w4.heap.size w4).alloc (Nat.le_refl _) (.cells #[.int .i64 (V : Int), .slice Ab nb cb] 27)
  have ha5 := ha4.over hal
  have hb5 := hb.over hal
  have v5 := (Lib.alloc_old w4 (.cells #[.int .i64 (V : Int), .slice Ab nb cb] 27) w2.heap.size (lt_of_get v4)).trans v4
  have u5 := heap_alloc_new w4 (.cells #[.int .i64 (V : Int), .slice Ab nb cb] 27)
  have hbw5 : Below w.heap.size w (w4.alloc (.cells #[.int .i64 (V : Int), .slice Ab nb cb] 27)) := hbw4.alloc hbw4.size _
  have hCl := Lib.hid (Clone_t ha5)
  replace ha5 := Lib.hid ha5
  replace hb5 := Lib.hid hb5
  replace v5 := Lib.hid v5
  replace u5 := Lib.hid u5
  replace hgb := Lib.hid hgb
  replace hnbe := Lib.hid hnbe
  replace hlb := Lib.hid hlb
  clear hM2 ha3 v3 ha4 v4 hb4 hb3 hb hnb hLb hal hbw4 e20 e21
  go_wp2_with fail
  (with_reducible refine hCl.out.mono ?_)
  rintro e w6 ⟨q, vlq, veq, rfl, hq, hb6⟩
  obtain ⟨W5, hW5⟩ : ∃ W5, w4.alloc (.cells #[.int .i64 (V : Int), .slice Ab nb cb] 27) = W5 := ⟨_, rfl⟩
  obtain ⟨B8, hB8⟩ : ∃ B8, w2.heap.size = B8 := ⟨_, rfl⟩
  obtain ⟨B11, hB11⟩ : ∃ B11, w4.heap.size = B11 := ⟨_, rfl⟩
  rw [hW5] at ha5 hb5 v5 u5 hbw5 hq hb6
  rw [hB8] at v5 ⊢
  rw [hB11] at u5 ⊢
  clear hW5 hB8 hB11 hCl
  have hbF := fun b hb => (hb5.out.fp b hb).2
  have haF := fun b hb => (ha5.out.fp b hb).2
  have hbL := fun (W : World) (hbl : Below W5.heap.size W5 W) => hb5.out.low hbF (Nat.le_refl _) hbl
  have haL := fun (W : World) (hbl : Below W5.heap.size W5 W) => ha5.out.low haF (Nat.le_refl _) hbl
  have hLen6 := Len_t (hbL w6 hb6)
  rw [hnbe.out] at hLen6
  replace hLen6 := Lib.hid hLen6
  replace hq := Lib.hid hq
  replace hbL := Lib.hid hbL
  replace haL := Lib.hid haL
  clear hbF haF
  go_wp2_with fail
  (with_reducible refine hLen6.out.mono ?_)
  rintro e w7 ⟨rfl, rfl⟩
  go_wp2_with fail
  have hnb2 : nb ≤ 200 := by rw [← hnbe.out]; exact hlb.out
  go_loopw [43] (fun i wr => ∃ (k : Nat) (vl ve : Value), k ≤ nb ∧ i = .int .i64 (k : Int) ∧ CF W5.heap.size wr q V (csa ++ csb.take k) vl ve ∧ Below W5.heap.size W5 wr) (fun i _ => nb - (intOf i).toNat)
  case atStart => exact ⟨0, vlq, veq, Nat.zero_le _, rfl, by simpa using hq.out, hb6⟩
  case round =>
    obtain ⟨k, vl, ve, hk, rfl, hq7, hb7⟩ := hrel
    clear hLen6 hq hb6
    by_cases hlt : k < nb
    · have hkl : k < csb.length := by rw [hnbe.out]; exact hlt
      have hCc := Clause_t (hbL.out wr hb7) k hkl
      have hg := hgb.out _ (List.getElem_mem hkl)
      have hdc := (hb5.out.hc _ (List.getElem_mem hkl))
      have htk := take_get csb k hkl
      obtain ⟨cl, hcl⟩ : ∃ cl, csb[k] = cl := ⟨_, rfl⟩
      rw [hcl] at hCc hg hdc htk
      have hadd := good_add (cs := csa ++ csb.take k) hg.1 hg.2.1 hg.2.2 (by rw [List.length_append, List.length_take]; have := hla.out; have := hlb.out; omega) hdc
      rw [List.append_assoc, ← htk] at hadd
      replace hCc := Lib.hid hCc
      replace hq7 := Lib.hid hq7
      replace hadd := Lib.hid hadd
      replace hdc := Lib.hid hdc
      clear hkl hg htk hcl
      have hz7 := hb7.size
      go_wp2_with fail
      (with_reducible refine hCc.out.mono ?_)
      rintro e w8 ⟨v8, rfl, ho8, hb8⟩
      obtain ⟨A8, c8, rfl, hR8⟩ := own_RL ho8
      have hA8 := Add_t (hq7.out.over hb8) A8 c8 cl hR8 (by have := hdc.out; omega)
      rw [hadd.out] at hA8
      have hq8 := hq7.out.over hb8
      have hbw8 : Below W5.heap.size W5 w8 := below_call hb8 hb7 hz7
      obtain ⟨nc, hnc⟩ : ∃ nc, cl.length = nc := ⟨_, rfl⟩
      rw [hnc] at hA8 ⊢
      replace hA8 := Lib.hid hA8
      replace hq8 := Lib.hid hq8
      clear hCc hq7 ho8 hb8 hR8 hnc hb7
      go_wp2_with fail
      (with_reducible refine hA8.out.mono ?_)
      rintro e w9 ⟨rfl, vl9, ve9, hq9, k9, f9⟩
      have hb9 := hq8.out.below k9
      have hbw9 : Below W5.heap.size W5 w9 := hbw8.trans hb9
      replace hq9 := Lib.hid hq9
      clear hA8 hq8 k9 f9 hb9 hbw8
      go_wp2_with fail
      go_roundw
      case rel => exact ⟨k + 1, vl9, ve9, by omega, by go_num, hq9.out, hbw9⟩
      case measure => simp [intOf]; omega
    · obtain rfl : k = nb := by omega
      have htk : csb.take k = csb := by rw [← hnbe.out, List.take_length]
      rw [htk] at hq7
      have hbw7 : Below w.heap.size w wr := hbw5.trans (hb7.mono hbw5.size)
      have hH1 := fun (W : World) (hb : Below wr.heap.size wr W) => Holds_t (hq7.over hb) m Am cm (hRm.out.over (hbw7.trans (hb.mono hbw7.size)))
      have hH2 := fun (W : World) (hb : Below wr.heap.size wr W) => Holds_t (haL.out W (hb7.trans (hb.mono hb7.size))) m Am cm (hRm.out.over (hbw7.trans (hb.mono hbw7.size)))
      have hH3 := fun (W : World) (hb : Below wr.heap.size wr W) => Holds_t (hbL.out W (hb7.trans (hb.mono hb7.size))) m Am cm (hRm.out.over (hbw7.trans (hb.mono hbw7.size)))
      have hLn := fun (W : World) (hb : Below wr.heap.size wr W) => Len_t (hq7.over hb)
      have hS : ∀ W : World, Below wr.heap.size wr W → W.cell? ⟨B8, 1, none⟩ = some (.slice Aa na ca) ∧ W.cell? ⟨B11, 1, none⟩ = some (.slice Ab k cb) := fun W hb => by
        have hbb : Below W5.heap.size W5 W := hb7.trans (hb.mono hb7.size)
        constructor
        · rw [Lib.cell_of_heap ((hbb.block B8 (lt_of_get v5.out)).trans v5.out)]; rfl
        · rw [Lib.cell_of_heap ((hbb.block B11 (lt_of_get u5.out)).trans u5.out)]; rfl
      have hN3 := fun (W : World) => New_t 3 3 (by decide) W
      rw [holB_append] at hH1
      obtain ⟨ha1, hae⟩ : ∃ b, holB m csa = b := ⟨_, rfl⟩
      obtain ⟨hb1, hbe⟩ : ∃ b, holB m csb = b := ⟨_, rfl⟩
      simp only [hnme.out, hae, hbe] at hH1 hH2 hH3
      have hlen : (csa ++ csb).length = na + k := by rw [List.length_append, hnae.out, hnbe.out]
      simp only [hlen] at hLn
      have hnn : na + k ≤ 400 := by have := hla.out; rw [hnae.out] at this; omega
      have hwnk := Lib.hid (show IntKind.i64.wrap ((na : Int) + (k : Int)) = (na : Int) + (k : Int) from IntWalk.i64_in (n := (na : Int) + (k : Int)) (by omega))
      have hbx0 : Below wr.heap.size wr wr.drew := (Below.refl _ wr).drew
      have hS0 := hS _ hbx0
      replace hH1 := Lib.hid hH1
      replace hH2 := Lib.hid hH2
      replace hH3 := Lib.hid hH3
      replace hLn := Lib.hid hLn
      replace hN3 := Lib.hid hN3
      replace hS := Lib.hid hS
      clear hlen hae hbe htk hq7
      go_wp2_with fail
      refine region_anyT (n := 28) (S := fun w' => w'.cell? ⟨B8, 1, none⟩ = some (.slice Aa na ca) ∧ w'.cell? ⟨B11, 1, none⟩ = some (.slice Ab k cb)) (by kernel_rfl) ?_
      cases ha1 with
      | true =>
        refine anyT_take (i := 0) (v := pv q) rfl (by kernel_rfl) (by kernel_rfl) (fun _ _ _ h => h) (Or.inl ⟨by rfl, ?_⟩) hS0 ?_
        · intro w' hw'
          obtain ⟨k1, k2⟩ := hw'
          go_simp
          try with_reducible rfl
        try simp only [Act.put, List.getElem_toArray, List.getElem_cons_zero, List.getElem_cons_succ, List.setIfInBounds_toArray, List.set_cons_zero, List.set_cons_succ]
        refine anyT_take (i := 1) (v := .slice Am nm cm) rfl (by kernel_rfl) (by kernel_rfl) (fun _ _ _ h => h) (Or.inl ⟨by rfl, ?_⟩) hS0 ?_
        · intro w' hw'
          obtain ⟨k1, k2⟩ := hw'
          go_simp
          try with_reducible rfl
        try simp only [Act.put, List.getElem_toArray, List.getElem_cons_zero, List.getElem_cons_succ, List.setIfInBounds_toArray, List.set_cons_zero, List.set_cons_succ]
        refine anyT_take (i := 3) (v := pv pa) rfl (by kernel_rfl) (by kernel_rfl) (fun _ _ _ h => h) (Or.inl ⟨by rfl, ?_⟩) hS0 ?_
        · intro w' hw'
          obtain ⟨k1, k2⟩ := hw'
          go_simp
          try with_reducible rfl
        try simp only [Act.put, List.getElem_toArray, List.getElem_cons_zero, List.getElem_cons_succ, List.setIfInBounds_toArray, List.set_cons_zero, List.set_cons_succ]
        refine anyT_take (i := 4) (v := .slice Am nm cm) rfl (by kernel_rfl) (by kernel_rfl) (fun _ _ _ h => h) (Or.inl ⟨by rfl, ?_⟩) hS0 ?_
        · intro w' hw'
          obtain ⟨k1, k2⟩ := hw'
          go_simp
          try with_reducible rfl
        try simp only [Act.put, List.getElem_toArray, List.getElem_cons_zero, List.getElem_cons_succ, List.setIfInBounds_toArray, List.set_cons_zero, List.set_cons_succ]
        refine anyT_one (i := 2) (by kernel_rfl) ?_
        refine wpOp_step rfl (fun K hK => ?_)
        replace hK := Lib.hid hK
        go_simp
        (with_reducible refine (hH1.out _ hbx0).mono ?_)
        rintro e x1 ⟨rfl, hx1⟩
        have hbx1 := below_call hx1 hbx0 hbx0.size
        clear hx1
        refine hK.out _ _ ⟨fun _ => hS.out _ hbx1, ?_⟩
        clear hK K
        try simp only [Act.put]
        refine anyT_one (i := 5) (by kernel_rfl) ?_
        refine wpOp_step rfl (fun K hK => ?_)
        replace hK := Lib.hid hK
        go_simp
        (with_reducible refine (hH2.out _ hbx1).mono ?_)
        rintro e x2 ⟨rfl, hx2⟩
        have hbx2 := below_call hx2 hbx1 hbx1.size
        have hS2 := hS.out _ hbx2
        clear hx2
        refine hK.out _ _ ⟨fun _ => hS2, ?_⟩
        clear hK K
        try simp only [Act.put]
        refine anyT_one (i := 6) (by kernel_rfl) ?_
        refine wpOp_step rfl (fun K hK => ?_)
        replace hK := Lib.hid hK
        go_simp
        refine hK.out _ _ ⟨fun _ => hS2, ?_⟩
        clear hK K
        try simp only [Act.put]
        refine anyT_take (i := 7) (v := pv pb) rfl (by kernel_rfl) (by kernel_rfl) (fun _ _ _ h => h) (Or.inl ⟨by rfl, ?_⟩) hS2 ?_
        · intro w' hw'
          obtain ⟨k1, k2⟩ := hw'
          go_simp
          try with_reducible rfl
        try simp only [Act.put, List.getElem_toArray, List.getElem_cons_zero, List.getElem_cons_succ, List.setIfInBounds_toArray, List.set_cons_zero, List.set_cons_succ]
        refine anyT_take (i := 8) (v := .slice Am nm cm) rfl (by kernel_rfl) (by kernel_rfl) (fun _ _ _ h => h) (Or.inl ⟨by rfl, ?_⟩) hS2 ?_
        · intro w' hw'
          obtain ⟨k1, k2⟩ := hw'
          go_simp
          try with_reducible rfl
        try simp only [Act.put, List.getElem_toArray, List.getElem_cons_zero, List.getElem_cons_succ, List.setIfInBounds_toArray, List.set_cons_zero, List.set_cons_succ]
        refine anyT_one (i := 9) (by kernel_rfl) ?_
        refine wpOp_step rfl (fun K hK => ?_)
        replace hK := Lib.hid hK
        go_simp
        (with_reducible refine (hH3.out _ hbx2).mono ?_)
        rintro e x3 ⟨rfl, hx3⟩
        have hbx3 := below_call hx3 hbx2 hbx2.size
        have hS3 := hS.out _ hbx3
        clear hx3
        refine hK.out _ _ ⟨fun _ => hS3, ?_⟩
        clear hK K
        try simp only [Act.put]
        refine anyT_one (i := 10) (by kernel_rfl) ?_
        refine wpOp_step rfl (fun K hK => ?_)
        replace hK := Lib.hid hK
        go_simp
        refine hK.out _ _ ⟨fun _ => hS3, ?_⟩
        clear hK K
        try simp only [Act.put]
        refine anyT_one (i := 11) (by kernel_rfl) ?_
        refine wpOp_step rfl (fun K hK => ?_)
        replace hK := Lib.hid hK
        go_simp
        refine hK.out _ _ ⟨fun _ => hS3, ?_⟩
        clear hK K
        try simp only [Act.put]
        refine anyT_one (i := 12) (by kernel_rfl) ?_
        refine wpOp_step rfl (fun K hK => ?_)
        replace hK := Lib.hid hK
        go_simp
        refine hK.out _ _ ⟨fun _ => hS3, ?_⟩
        clear hK K
        try simp only [Act.put]
        refine anyT_one (i := 13) (by kernel_rfl) ?_
        refine wpOp_step rfl (fun K hK => ?_)
        replace hK := Lib.hid hK
        go_simp
        (with_reducible refine (hN3.out _).mono ?_)
        rintro e x6 ⟨rfl, hnf, hx6⟩
        have hbx6 := below_call hx6 hbx3 hbx3.size
        have hS6 := hS.out _ hbx6
        have hH4 := Holds_t hnf [] none 0 (fun h => absurd h (by decide))
        change Calls _ _ #[_, .slice none 0 0] _ (RV _ (.bool true)) at hH4
        replace hH4 := Lib.hid hH4
        clear hx6 hnf
        refine hK.out _ _ ⟨fun _ => hS6, ?_⟩
        clear hK K
        try simp only [Act.put]
        refine anyT_one (i := 14) (by kernel_rfl) ?_
        refine wpOp_step rfl (fun K hK => ?_)
        replace hK := Lib.hid hK
        go_simp
        (with_reducible refine (hH4.out).mono ?_)
        rintro e x7 ⟨rfl, hx7⟩
        have hbx7 := below_call hx7 hbx6 hbx6.size
        have hS7 := hS.out _ hbx7
        clear hx7 hH4
        refine hK.out _ _ ⟨fun _ => hS7, ?_⟩
        clear hK K
        try simp only [Act.put]
        refine anyT_one (i := 15) (by kernel_rfl) ?_
        refine wpOp_step rfl (fun K hK => ?_)
        replace hK := Lib.hid hK
        go_simp
        refine hK.out _ _ ⟨fun _ => hS7, ?_⟩
        clear hK K
        try simp only [Act.put]
        refine anyT_one (i := 16) (by kernel_rfl) ?_
        refine wpOp_step rfl (fun K hK => ?_)
        replace hK := Lib.hid hK
        go_simp
        refine hK.out _ _ ⟨fun _ => hS7, ?_⟩
        clear hK K
        try simp only [Act.put]
        refine anyT_take (i := 17) (v := pv q) rfl (by kernel_rfl) (by kernel_rfl) (fun _ _ _ h => h) (Or.inl ⟨by rfl, ?_⟩) hS7 ?_
        · intro w' hw'
          obtain ⟨k1, k2⟩ := hw'
          go_simp
          try with_reducible rfl
        try simp only [Act.put, List.getElem_toArray, List.getElem_cons_zero, List.getElem_cons_succ, List.setIfInBounds_toArray, List.set_cons_zero, List.set_cons_succ]
        refine anyT_take (i := 19) (v := .pointer (some ⟨B8, 1, none⟩)) rfl (by kernel_rfl) (by kernel_rfl) (fun _ _ _ h => h) (Or.inl ⟨by rfl, ?_⟩) hS7 ?_
        · intro w' hw'
          obtain ⟨k1, k2⟩ := hw'
          go_simp
          try with_reducible rfl
        try simp only [Act.put, List.getElem_toArray, List.getElem_cons_zero, List.getElem_cons_succ, List.setIfInBounds_toArray, List.set_cons_zero, List.set_cons_succ]
        refine anyT_take (i := 20) (v := .slice Aa na ca) rfl (by kernel_rfl) (by kernel_rfl) (fun _ _ _ h => h) (Or.inl ⟨by rfl, ?_⟩) hS7 ?_
        · intro w' hw'
          obtain ⟨k1, k2⟩ := hw'
          go_simp
          try with_reducible rfl
        try simp only [Act.put, List.getElem_toArray, List.getElem_cons_zero, List.getElem_cons_succ, List.setIfInBounds_toArray, List.set_cons_zero, List.set_cons_succ]
        refine anyT_take (i := 21) (v := .int .i64 (na : Int)) rfl (by kernel_rfl) (by kernel_rfl) (fun _ _ _ h => h) (Or.inl ⟨by rfl, ?_⟩) hS7 ?_
        · intro w' hw'
          obtain ⟨k1, k2⟩ := hw'
          go_simp
          try with_reducible rfl
        try simp only [Act.put, List.getElem_toArray, List.getElem_cons_zero, List.getElem_cons_succ, List.setIfInBounds_toArray, List.set_cons_zero, List.set_cons_succ]
        refine anyT_take (i := 22) (v := .pointer (some ⟨B11, 1, none⟩)) rfl (by kernel_rfl) (by kernel_rfl) (fun _ _ _ h => h) (Or.inl ⟨by rfl, ?_⟩) hS7 ?_
        · intro w' hw'
          obtain ⟨k1, k2⟩ := hw'
          go_simp
          try with_reducible rfl
        try simp only [Act.put, List.getElem_toArray, List.getElem_cons_zero, List.getElem_cons_succ, List.setIfInBounds_toArray, List.set_cons_zero, List.set_cons_succ]
        refine anyT_take (i := 23) (v := .slice Ab k cb) rfl (by kernel_rfl) (by kernel_rfl) (fun _ _ _ h => h) (Or.inl ⟨by rfl, ?_⟩) hS7 ?_
        · intro w' hw'
          obtain ⟨k1, k2⟩ := hw'
          go_simp
          try with_reducible rfl
        try simp only [Act.put, List.getElem_toArray, List.getElem_cons_zero, List.getElem_cons_succ, List.setIfInBounds_toArray, List.set_cons_zero, List.set_cons_succ]
        refine anyT_take (i := 24) (v := .int .i64 (k : Int)) rfl (by kernel_rfl) (by kernel_rfl) (fun _ _ _ h => h) (Or.inl ⟨by rfl, ?_⟩) hS7 ?_
        · intro w' hw'
          obtain ⟨k1, k2⟩ := hw'
          go_simp
          try with_reducible rfl
        try simp only [Act.put, List.getElem_toArray, List.getElem_cons_zero, List.getElem_cons_succ, List.setIfInBounds_toArray, List.set_cons_zero, List.set_cons_succ]
        refine anyT_take (i := 25) (v := .int .i64 ((na : Int) + (k : Int))) rfl (by kernel_rfl) (by kernel_rfl) (fun _ _ _ h => h) (Or.inl ⟨by rfl, ?_⟩) hS7 ?_
        · intro w' hw'
          obtain ⟨k1, k2⟩ := hw'
          go_simp
          try with_reducible rfl
          try exact hwnk.out
        try simp only [Act.put, List.getElem_toArray, List.getElem_cons_zero, List.getElem_cons_succ, List.setIfInBounds_toArray, List.set_cons_zero, List.set_cons_succ]
        refine anyT_one (i := 18) (by kernel_rfl) ?_
        refine wpOp_step rfl (fun K hK => ?_)
        replace hK := Lib.hid hK
        go_simp
        (with_reducible refine ((hLn.out _ hbx7)).mono ?_)
        rintro e x8 ⟨rfl, rfl⟩
        refine hK.out _ _ ⟨fun _ => hS7, ?_⟩
        clear hK K
        try simp only [Act.put]
        refine anyT_one (i := 26) (by kernel_rfl) ?_
        refine wpOp_step rfl (fun K hK => ?_)
        replace hK := Lib.hid hK
        go_simp
        refine hK.out _ _ ⟨fun _ => hS7, ?_⟩
        clear hK K
        try simp only [Act.put]
        refine anyT_one (i := 27) (by kernel_rfl) ?_
        refine wpOp_step rfl (fun K hK => ?_)
        replace hK := Lib.hid hK
        go_simp
        refine hK.out _ _ ⟨fun _ => hS7, ?_⟩
        clear hK K
        try simp only [Act.put]
        refine anyT_one (i := 28) (by kernel_rfl) ?_
        refine wpOp_step rfl (fun K hK => ?_)
        replace hK := Lib.hid hK
        go_simp
        refine hK.out _ _ ⟨fun h => absurd h (by decide), ?_⟩
        clear hK K
        refine anyT_done (by kernel_rfl) ?_ _
        go_wp2_with fail
        go_ret
        exact ⟨rfl, hbw7.trans (hbx7.mono hbw7.size)⟩
      | false =>
        refine anyT_take (i := 0) (v := pv q) rfl (by kernel_rfl) (by kernel_rfl) (fun _ _ _ h => h) (Or.inl ⟨by rfl, ?_⟩) hS0 ?_
        · intro w' hw'
          obtain ⟨k1, k2⟩ := hw'
          go_simp
          try with_reducible rfl
        try simp only [Act.put, List.getElem_toArray, List.getElem_cons_zero, List.getElem_cons_succ, List.setIfInBounds_toArray, List.set_cons_zero, List.set_cons_succ]
        refine anyT_take (i := 1) (v := .slice Am nm cm) rfl (by kernel_rfl) (by kernel_rfl) (fun _ _ _ h => h) (Or.inl ⟨by rfl, ?_⟩) hS0 ?_
        · intro w' hw'
          obtain ⟨k1, k2⟩ := hw'
          go_simp
          try with_reducible rfl
        try simp only [Act.put, List.getElem_toArray, List.getElem_cons_zero, List.getElem_cons_succ, List.setIfInBounds_toArray, List.set_cons_zero, List.set_cons_succ]
        refine anyT_take (i := 3) (v := pv pa) rfl (by kernel_rfl) (by kernel_rfl) (fun _ _ _ h => h) (Or.inl ⟨by rfl, ?_⟩) hS0 ?_
        · intro w' hw'
          obtain ⟨k1, k2⟩ := hw'
          go_simp
          try with_reducible rfl
        try simp only [Act.put, List.getElem_toArray, List.getElem_cons_zero, List.getElem_cons_succ, List.setIfInBounds_toArray, List.set_cons_zero, List.set_cons_succ]
        refine anyT_take (i := 4) (v := .slice Am nm cm) rfl (by kernel_rfl) (by kernel_rfl) (fun _ _ _ h => h) (Or.inl ⟨by rfl, ?_⟩) hS0 ?_
        · intro w' hw'
          obtain ⟨k1, k2⟩ := hw'
          go_simp
          try with_reducible rfl
        try simp only [Act.put, List.getElem_toArray, List.getElem_cons_zero, List.getElem_cons_succ, List.setIfInBounds_toArray, List.set_cons_zero, List.set_cons_succ]
        refine anyT_one (i := 2) (by kernel_rfl) ?_
        refine wpOp_step rfl (fun K hK => ?_)
        replace hK := Lib.hid hK
        go_simp
        (with_reducible refine (hH1.out _ hbx0).mono ?_)
        rintro e x1 ⟨rfl, hx1⟩
        have hbx1 := below_call hx1 hbx0 hbx0.size
        clear hx1
        refine hK.out _ _ ⟨fun _ => hS.out _ hbx1, ?_⟩
        clear hK K
        try simp only [Act.put]
        refine anyT_one (i := 5) (by kernel_rfl) ?_
        refine wpOp_step rfl (fun K hK => ?_)
        replace hK := Lib.hid hK
        go_simp
        (with_reducible refine (hH2.out _ hbx1).mono ?_)
        rintro e x2 ⟨rfl, hx2⟩
        have hbx2 := below_call hx2 hbx1 hbx1.size
        have hS2 := hS.out _ hbx2
        clear hx2
        refine hK.out _ _ ⟨fun _ => hS2, ?_⟩
        clear hK K
        try simp only [Act.put]
        refine anyT_one (i := 6) (by kernel_rfl) ?_
        refine wpOp_step rfl (fun K hK => ?_)
        replace hK := Lib.hid hK
        go_simp
        refine hK.out _ _ ⟨fun _ => hS2, ?_⟩
        clear hK K
        try simp only [Act.put]
        refine anyT_take (i := 7) (v := undef) rfl (by kernel_rfl) (by kernel_rfl) (fun _ _ _ h => h) (Or.inr ⟨by kernel_rfl, rfl⟩) hS2 ?_
        try simp only [Act.put, List.getElem_toArray, List.getElem_cons_zero, List.getElem_cons_succ, List.setIfInBounds_toArray, List.set_cons_zero, List.set_cons_succ]
        refine anyT_take (i := 8) (v := undef) rfl (by kernel_rfl) (by kernel_rfl) (fun _ _ _ h => h) (Or.inr ⟨by kernel_rfl, rfl⟩) hS2 ?_
        try simp only [Act.put, List.getElem_toArray, List.getElem_cons_zero, List.getElem_cons_succ, List.setIfInBounds_toArray, List.set_cons_zero, List.set_cons_succ]
        refine anyT_take (i := 9) (v := undef) rfl (by kernel_rfl) (by kernel_rfl) (fun _ _ _ h => h) (Or.inr ⟨by kernel_rfl, rfl⟩) hS2 ?_
        try simp only [Act.put, List.getElem_toArray, List.getElem_cons_zero, List.getElem_cons_succ, List.setIfInBounds_toArray, List.set_cons_zero, List.set_cons_succ]
        refine anyT_one (i := 10) (by kernel_rfl) ?_
        refine wpOp_step rfl (fun K hK => ?_)
        replace hK := Lib.hid hK
        go_simp
        refine hK.out _ _ ⟨fun _ => hS2, ?_⟩
        clear hK K
        try simp only [Act.put]
        refine anyT_one (i := 11) (by kernel_rfl) ?_
        refine wpOp_step rfl (fun K hK => ?_)
        replace hK := Lib.hid hK
        go_simp
        refine hK.out _ _ ⟨fun _ => hS2, ?_⟩
        clear hK K
        try simp only [Act.put]
        refine anyT_one (i := 12) (by kernel_rfl) ?_
        refine wpOp_step rfl (fun K hK => ?_)
        replace hK := Lib.hid hK
        go_simp
        refine hK.out _ _ ⟨fun _ => hS2, ?_⟩
        clear hK K
        try simp only [Act.put]
        refine anyT_one (i := 13) (by kernel_rfl) ?_
        refine wpOp_step rfl (fun K hK => ?_)
        replace hK := Lib.hid hK
        go_simp
        (with_reducible refine (hN3.out _).mono ?_)
        rintro e x6 ⟨rfl, hnf, hx6⟩
        have hbx6 := below_call hx6 hbx2 hbx2.size
        have hS6 := hS.out _ hbx6
        have hH4 := Holds_t hnf [] none 0 (fun h => absurd h (by decide))
        change Calls _ _ #[_, .slice none 0 0] _ (RV _ (.bool true)) at hH4
        replace hH4 := Lib.hid hH4
        clear hx6 hnf
        refine hK.out _ _ ⟨fun _ => hS6, ?_⟩
        clear hK K
        try simp only [Act.put]
        refine anyT_one (i := 14) (by kernel_rfl) ?_
        refine wpOp_step rfl (fun K hK => ?_)
        replace hK := Lib.hid hK
        go_simp
        (with_reducible refine (hH4.out).mono ?_)
        rintro e x7 ⟨rfl, hx7⟩
        have hbx7 := below_call hx7 hbx6 hbx6.size
        have hS7 := hS.out _ hbx7
        clear hx7 hH4
        refine hK.out _ _ ⟨fun _ => hS7, ?_⟩
        clear hK K
        try simp only [Act.put]
        refine anyT_one (i := 15) (by kernel_rfl) ?_
        refine wpOp_step rfl (fun K hK => ?_)
        replace hK := Lib.hid hK
        go_simp
        refine hK.out _ _ ⟨fun _ => hS7, ?_⟩
        clear hK K
        try simp only [Act.put]
        refine anyT_one (i := 16) (by kernel_rfl) ?_
        refine wpOp_step rfl (fun K hK => ?_)
        replace hK := Lib.hid hK
        go_simp
        refine hK.out _ _ ⟨fun _ => hS7, ?_⟩
        clear hK K
        try simp only [Act.put]
        refine anyT_take (i := 17) (v := pv q) rfl (by kernel_rfl) (by kernel_rfl) (fun _ _ _ h => h) (Or.inl ⟨by rfl, ?_⟩) hS7 ?_
        · intro w' hw'
          obtain ⟨k1, k2⟩ := hw'
          go_simp
          try with_reducible rfl
        try simp only [Act.put, List.getElem_toArray, List.getElem_cons_zero, List.getElem_cons_succ, List.setIfInBounds_toArray, List.set_cons_zero, List.set_cons_succ]
        refine anyT_take (i := 19) (v := .pointer (some ⟨B8, 1, none⟩)) rfl (by kernel_rfl) (by kernel_rfl) (fun _ _ _ h => h) (Or.inl ⟨by rfl, ?_⟩) hS7 ?_
        · intro w' hw'
          obtain ⟨k1, k2⟩ := hw'
          go_simp
          try with_reducible rfl
        try simp only [Act.put, List.getElem_toArray, List.getElem_cons_zero, List.getElem_cons_succ, List.setIfInBounds_toArray, List.set_cons_zero, List.set_cons_succ]
        refine anyT_take (i := 20) (v := .slice Aa na ca) rfl (by kernel_rfl) (by kernel_rfl) (fun _ _ _ h => h) (Or.inl ⟨by rfl, ?_⟩) hS7 ?_
        · intro w' hw'
          obtain ⟨k1, k2⟩ := hw'
          go_simp
          try with_reducible rfl
        try simp only [Act.put, List.getElem_toArray, List.getElem_cons_zero, List.getElem_cons_succ, List.setIfInBounds_toArray, List.set_cons_zero, List.set_cons_succ]
        refine anyT_take (i := 21) (v := .int .i64 (na : Int)) rfl (by kernel_rfl) (by kernel_rfl) (fun _ _ _ h => h) (Or.inl ⟨by rfl, ?_⟩) hS7 ?_
        · intro w' hw'
          obtain ⟨k1, k2⟩ := hw'
          go_simp
          try with_reducible rfl
        try simp only [Act.put, List.getElem_toArray, List.getElem_cons_zero, List.getElem_cons_succ, List.setIfInBounds_toArray, List.set_cons_zero, List.set_cons_succ]
        refine anyT_take (i := 22) (v := .pointer (some ⟨B11, 1, none⟩)) rfl (by kernel_rfl) (by kernel_rfl) (fun _ _ _ h => h) (Or.inl ⟨by rfl, ?_⟩) hS7 ?_
        · intro w' hw'
          obtain ⟨k1, k2⟩ := hw'
          go_simp
          try with_reducible rfl
        try simp only [Act.put, List.getElem_toArray, List.getElem_cons_zero, List.getElem_cons_succ, List.setIfInBounds_toArray, List.set_cons_zero, List.set_cons_succ]
        refine anyT_take (i := 23) (v := .slice Ab k cb) rfl (by kernel_rfl) (by kernel_rfl) (fun _ _ _ h => h) (Or.inl ⟨by rfl, ?_⟩) hS7 ?_
        · intro w' hw'
          obtain ⟨k1, k2⟩ := hw'
          go_simp
          try with_reducible rfl
        try simp only [Act.put, List.getElem_toArray, List.getElem_cons_zero, List.getElem_cons_succ, List.setIfInBounds_toArray, List.set_cons_zero, List.set_cons_succ]
        refine anyT_take (i := 24) (v := .int .i64 (k : Int)) rfl (by kernel_rfl) (by kernel_rfl) (fun _ _ _ h => h) (Or.inl ⟨by rfl, ?_⟩) hS7 ?_
        · intro w' hw'
          obtain ⟨k1, k2⟩ := hw'
          go_simp
          try with_reducible rfl
        try simp only [Act.put, List.getElem_toArray, List.getElem_cons_zero, List.getElem_cons_succ, List.setIfInBounds_toArray, List.set_cons_zero, List.set_cons_succ]
        refine anyT_take (i := 25) (v := .int .i64 ((na : Int) + (k : Int))) rfl (by kernel_rfl) (by kernel_rfl) (fun _ _ _ h => h) (Or.inl ⟨by rfl, ?_⟩) hS7 ?_
        · intro w' hw'
          obtain ⟨k1, k2⟩ := hw'
          go_simp
          try with_reducible rfl
          try exact hwnk.out
        try simp only [Act.put, List.getElem_toArray, List.getElem_cons_zero, List.getElem_cons_succ, List.setIfInBounds_toArray, List.set_cons_zero, List.set_cons_succ]
        refine anyT_one (i := 18) (by kernel_rfl) ?_
        refine wpOp_step rfl (fun K hK => ?_)
        replace hK := Lib.hid hK
        go_simp
        (with_reducible refine ((hLn.out _ hbx7)).mono ?_)
        rintro e x8 ⟨rfl, rfl⟩
        refine hK.out _ _ ⟨fun _ => hS7, ?_⟩
        clear hK K
        try simp only [Act.put]
        refine anyT_one (i := 26) (by kernel_rfl) ?_
        refine wpOp_step rfl (fun K hK => ?_)
        replace hK := Lib.hid hK
        go_simp
        refine hK.out _ _ ⟨fun _ => hS7, ?_⟩
        clear hK K
        try simp only [Act.put]
        refine anyT_one (i := 27) (by kernel_rfl) ?_
        refine wpOp_step rfl (fun K hK => ?_)
        replace hK := Lib.hid hK
        go_simp
        refine hK.out _ _ ⟨fun _ => hS7, ?_⟩
        clear hK K
        try simp only [Act.put]
        refine anyT_one (i := 28) (by kernel_rfl) ?_
        refine wpOp_step rfl (fun K hK => ?_)
        replace hK := Lib.hid hK
        go_simp
        refine hK.out _ _ ⟨fun h => absurd h (by decide), ?_⟩
        clear hK K
        refine anyT_done (by kernel_rfl) ?_ _
        go_wp2_with fail
        go_ret
        exact ⟨rfl, hbw7.trans (hbx7.mono hbw7.size)⟩
theorem holds_all (A1 A2 Am : Option Addr) (L1 L2 : List (List Int)) (c1 c2 cm : Nat) (m : List Bool) (x : Int) (w : World) (hT : LT w) (hR1 : RLL w A1 L1) (hR2 : RLL w A2 L2) (hRm : RBo w Am m) (hn1 : L1.length ≤ 9223372036854775807) (hn2 : L2.length ≤ 9223372036854775807) :
    Calls Tryd.prog 6 #[.int .i64 x, .agg #[.slice A1 L1.length c1, .slice A2 L2.length c2], .slice Am m.length cm] w (RV w (.bool true)) :=
  holds_t x (max 0 (min x 60)).toNat (by omega) A1 A2 Am L1 L2 c1 c2 cm m w hT hR1 hR2 hRm hn1 hn2
end Go.Proofs.YtgnmehkklmklnaaDoor
