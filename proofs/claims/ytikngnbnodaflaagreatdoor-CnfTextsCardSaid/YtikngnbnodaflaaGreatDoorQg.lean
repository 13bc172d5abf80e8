/-
  The reference's Int and Text.
-/
import Derived.Test.YtikngnbnodaflaaGreatDoorQf
import Derived.Deep.RegionHeld3
namespace Go.Proofs.YtikngnbnodaflaaGreatDoor
open Go.RowKit Go.Lib
theorem getD_j (c : List Int) (j : Nat) (h : j < c.length) : c.getD j 0 = c[j] := by rw [List.getD_eq_getElem?_getD, List.getElem?_eq_getElem h]; rfl
theorem below_on {w a b : World} (h : Below a.heap.size a b) (k : Below w.heap.size w a) : Below w.heap.size w b := below_call h k k.size
theorem rInt_t (x : Int) (hx : -1000000000 ≤ x ∧ x ≤ 1000000000) (w : World) : Calls Tryz.prog 22 #[.int .i64 x] w (RV w (.string ⟨(itoa x).toArray⟩)) := by
  by_cases hn : x < 0
  · obtain ⟨u, hu⟩ : ∃ u : Nat, x = -(u : Int) := ⟨x.natAbs, by omega⟩
    have hun : x.natAbs = u := by omega
    have e : itoa x = [45] ++ decDigits u := by unfold itoa; rw [if_pos hn, hun]; rfl
    have hD := fun w => Dec_t u (by omega) w
    have hwr : IntKind.i64.wrap (-(x : Int)) = (u : Int) := by rw [IntWalk.i64_in _ (by omega)]; omega
    have hwr2 : -x = (u : Int) := by omega
    have hl := dd_len 9 u (by omega)
    obtain ⟨T, hT⟩ : ∃ T : ByteArray, (⟨(decDigits u).toArray⟩ : ByteArray) = T := ⟨_, rfl⟩
    have hs : T.size ≤ 10 := by rw [← hT]; exact hl
    have hfin : (⟨#[45]⟩ : ByteArray) ++ T = ⟨(itoa x).toArray⟩ := by rw [e, ← hT]; exact ba_app [45] _
    rw [hT] at hD
    have q1 : 1 + T.size ≤ 9223372036854775807 := by omega
    rw [← hfin]
    replace hD := Lib.hid hD
    clear hT hfin e hl hun
    go_enter Tryz.func22, Tryz.ntmps22
    go_wp2_with fail
    (with_reducible refine (hD.out _).mono ?_)
    rintro e w1 ⟨rfl, hb1⟩
    go_wp2_with fail
    go_ret
    exact ⟨rfl, hb1⟩
  · obtain ⟨u, hu⟩ : ∃ u : Nat, x = (u : Int) := ⟨x.toNat, by omega⟩
    subst hu
    have e : itoa (u : Int) = decDigits u := by
      unfold itoa
      rw [if_neg hn]; rfl
    have hD := fun w => Dec_t u (by omega) w
    rw [← e] at hD
    obtain ⟨T, hT⟩ : ∃ T : ByteArray, (⟨(itoa (u : Int)).toArray⟩ : ByteArray) = T := ⟨_, rfl⟩
    rw [hT] at hD ⊢
    replace hD := Lib.hid hD
    clear hT e
    go_enter Tryz.func22, Tryz.ntmps22
    go_wp2_with fail
    (with_reducible refine (hD.out _).mono ?_)
    rintro e w1 ⟨rfl, hb1⟩
    go_wp2_with fail
    go_ret
    exact ⟨rfl, hb1⟩
set_option maxRecDepth 100000 in
set_option maxHeartbeats 6400000 in
theorem rText_t (F : Nat → Prop) (V : Nat) (cs : List (List Int)) (Ac : Option Addr) (cc : Nat) (vs : List Value) (w : World) (hV : V ≤ 60000) (hn : cs.length ≤ 200000) (hd : ∀ c, c ∈ cs → Dom c ∧ c.length ≤ 1000) (hL : RLLd F w Ac vs cs) :
    Calls Tryz.prog 8 #[.agg #[.int .i64 (V : Int), .slice Ac cs.length cc]] w (RV w (.string ⟨(txT V cs).toArray⟩)) := by
  have hfl := flat_le cs fun c hc => (hd c hc).2
  have hcl := cls_len cs fun c hc => (hd c hc).1
  have hhd := hdT_len V cs.length hV hn
  have hI1 := fun W => rInt_t (V : Int) (by omega) W
  have hI2 := fun W => rInt_t (cs.length : Int) (by omega) W
  have hIx := fun (x : Int) (hx : -60000 ≤ x ∧ x ≤ 60000) W => rInt_t x (by omega) W
  have hs1 := itoa_length_le (V : Int) (by omega) (by omega)
  have hs2 := itoa_length_le (cs.length : Int) (by omega) (by omega)
  obtain ⟨I1, hI1e⟩ : ∃ I1 : ByteArray, (⟨(itoa (V : Int)).toArray⟩ : ByteArray) = I1 := ⟨_, rfl⟩
  obtain ⟨I2, hI2e⟩ : ∃ I2 : ByteArray, (⟨(itoa (cs.length : Int)).toArray⟩ : ByteArray) = I2 := ⟨_, rfl⟩
  have z1 : I1.size ≤ 21 := by rw [← hI1e]; exact hs1
  have z2 : I2.size ≤ 21 := by rw [← hI2e]; exact hs2
  have hhdr : (((((⟨#[112, 32, 99, 110, 102, 32]⟩ ++ I1) ++ ⟨#[32]⟩) ++ I2) ++ ⟨#[10]⟩) : ByteArray) = ⟨(hdT V cs.length).toArray⟩ := by
    rw [← hI1e, ← hI2e]
    apply ByteArray.ext
    simp [hdT]
  rw [hI1e] at hI1
  rw [hI2e] at hI2
  have q1 : 6 + I1.size ≤ 9223372036854775807 := by omega
  have q2 : 6 + I1.size + 1 ≤ 9223372036854775807 := by omega
  have q3 : 6 + I1.size + 1 + I2.size ≤ 9223372036854775807 := by omega
  have q4 : 6 + I1.size + 1 + I2.size + 1 ≤ 9223372036854775807 := by omega
  obtain ⟨nc, hnc⟩ : ∃ nc, cs.length = nc := ⟨_, rfl⟩
  have htx : txT V cs = hdT V nc ++ cs.flatMap clT := by rw [← hnc]; rfl
  rw [htx]
  rw [hnc] at hI2 hn hhd hhdr hcl hfl
  obtain ⟨H, hH⟩ : ∃ H, hdT V nc = H := ⟨_, rfl⟩
  rw [hH] at hhd hhdr ⊢
  have hbw1 : Below w.heap.size w (w.alloc (.cells #[.int .i64 (V : Int), .slice Ac nc cc] 26)) := (Below.refl _ w).alloc (Nat.le_refl _) _
  have x1 := heap_alloc_new w (.cells #[.int .i64 (V : Int), .slice Ac nc cc] 26)
  have hLw := hL.keep (Keep.of_below hbw1)
  rw [hnc]
  obtain ⟨W1, hW1⟩ : ∃ W1, w.alloc (.cells #[.int .i64 (V : Int), .slice Ac nc cc] 26) = W1 := ⟨_, rfl⟩
  rw [hW1] at x1 hLw hbw1
  have hk0 : ∀ W, Below W1.heap.size W1 W → W.cell? ⟨w.heap.size, 0, none⟩ = some (.int .i64 (V : Int)) ∧ W.cell? ⟨w.heap.size, 1, none⟩ = some (.slice Ac nc cc) := fun W hb => by
    have x2 := (hb.block _ (lt_of_get x1)).trans x1
    exact ⟨by rw [Lib.cell_of_heap x2]; rfl, by rw [Lib.cell_of_heap x2]; rfl⟩
  have hLk : ∀ W, Below W1.heap.size W1 W → RLLd F W Ac vs cs := fun W hb => hLw.keep (Keep.of_below hb)
  have hn2 : nc ≤ 9000000000000000000 := by omega
  have hB1 : Below W1.heap.size W1 W1 := Below.refl _ _
  have hB1d : Below W1.heap.size W1 W1.drew := (Below.refl _ _).drew
  have k1 := hk0 W1 hB1
  have e6 : (⟨#[112, 32, 99, 110, 102, 32]⟩ : ByteArray).size = 6 := rfl
  have e1 : (⟨#[32]⟩ : ByteArray).size = 1 := rfl
  have e2 : (⟨#[10]⟩ : ByteArray).size = 1 := rfl
  have n1 : ¬ 9223372036854775807 < 6 + I1.size := by omega
  have n2 : ¬ 9223372036854775807 < 6 + I1.size + 1 := by omega
  have n3 : ¬ 9223372036854775807 < 6 + I1.size + 1 + I2.size := by omega
  have n4 : ¬ 9223372036854775807 < 6 + I1.size + 1 + I2.size + 1 := by omega
  replace hn := Lib.hid hn
  replace hfl := Lib.hid hfl
  replace hcl := Lib.hid hcl
  replace hhd := Lib.hid hhd
  replace hI1 := Lib.hid hI1
  replace hI2 := Lib.hid hI2
  replace hIx := Lib.hid hIx
  replace hhdr := Lib.hid hhdr
  replace hk0 := Lib.hid hk0
  replace hLk := Lib.hid hLk
  replace hnc := Lib.hid hnc
  replace hW1 := Lib.hid hW1
  replace hbw1 := Lib.hid hbw1
  replace hd := Lib.hid hd
  clear hI1e hI2e hs1 hs2 htx hL hLw x1 hH
  go_enter Tryz.func8, Tryz.ntmps8
  go_wp2_with fail
  rw [hW1.out]
  go_region_held3 (fun w' => w'.cell? ⟨w.heap.size, 0, none⟩ = some (.int .i64 (V : Int)) ∧ w'.cell? ⟨w.heap.size, 1, none⟩ = some (.slice Ac nc cc))
    (first | (with_reducible exact k1) | (with_reducible exact k2) | (with_reducible exact k3) | (exact hk0.out _ (by assumption)) | (exact hk0.out _ (Below.drew (by assumption))))
    ((go_at_call 22; first | ((with_reducible refine (hI1.out _).mono ?_); rintro e w5 ⟨rfl, hb5⟩; have hB5 : Below W1.heap.size W1 w5 := below_on hb5 (by first | assumption | exact Below.drew (by assumption)); have k2 := hk0.out _ hB5; clear hb5) | ((with_reducible refine (hI2.out _).mono ?_); rintro e w5 ⟨rfl, hb5⟩; have hB5 : Below W1.heap.size W1 w5 := below_on hb5 (by first | assumption | exact Below.drew (by assumption)); have k2 := hk0.out _ hB5; clear hb5)))
  all_goals
    rw [hhdr.out]
    clear k1 hB1 hB1d
    replace hB5 := Lib.hid hB5
    clear k2
    go_wp2_with fail
    go_loopw [3, 4] (fun sv iv wr => ∃ k : Nat, k ≤ nc ∧ iv = .int .i64 (k : Int) ∧ sv = .string ⟨(H ++ (cs.take k).flatMap clT).toArray⟩ ∧ Below W1.heap.size W1 wr) (fun _ iv _ => nc - (intOf iv).toNat)
    case atStart => exact ⟨0, Nat.zero_le _, rfl, by simp, hB5.out⟩
    case round =>
      obtain ⟨k, hk, rfl, rfl, hbw⟩ := hrel
      clear hB5
      have k1 := hk0.out wr hbw
      by_cases hlt : k < nc
      · have hlc : k < cs.length := by rw [hnc.out]; exact hlt
        have hpre := take_flat_le clT cs (k + 1)
        rw [take_flat clT cs k hlc, getD_get cs k hlc, List.length_append] at hpre
        have hnext := take_flat clT cs k hlc
        rw [getD_get cs k hlc] at hnext
        have hDl := (hd.out _ (List.getElem_mem hlc))
        rw [getD_get cs k hlc] at hDl
        obtain ⟨l, hl⟩ : ∃ l, cs.getD k [] = l := ⟨_, rfl⟩
        rw [hl] at hpre hnext hDl
        obtain ⟨P, hP⟩ : ∃ P, H ++ (cs.take k).flatMap clT = P := ⟨_, rfl⟩
        have hPl : P.length + (clT l).length ≤ 10000000000 := by
          rw [← hP, List.length_append]
          have := hhd.out; have := hcl.out; have := hfl.out; have := hn.out
          omega
        have hnx : H ++ (cs.take (k + 1)).flatMap clT = P ++ clT l := by rw [hnext, ← hP, List.append_assoc]
        have hat : ∀ W, Below W1.heap.size W1 W → ∃ b off A' c', Ac = some ⟨b, off, none⟩ ∧ W.cell? ⟨b, off + k, none⟩ = some (.slice A' l.length c') ∧ RL W A' l := fun W hb => hl ▸ (hLk.out W hb).at k hlc
        obtain ⟨m, hm⟩ : ∃ m, l.length = m := ⟨_, rfl⟩
        have hm1 : m ≤ 1000 := by rw [← hm]; exact hDl.2
        rw [hP]
        replace hPl := Lib.hid hPl
        replace hnx := Lib.hid hnx
        replace hDl := Lib.hid hDl
        replace hat := Lib.hid hat
        replace hm := Lib.hid hm
        clear hpre hnext hl hP hlc
        go_wp2_with fail
        go_loopw [3, 5] (fun sv iv wr => ∃ j : Nat, j ≤ m ∧ iv = .int .i64 (j : Int) ∧ sv = .string ⟨(P ++ (l.take j).flatMap litT).toArray⟩ ∧ Below W1.heap.size W1 wr) (fun _ iv _ => m - (intOf iv).toNat)
        case atStart => exact ⟨0, Nat.zero_le _, rfl, by simp, hbw⟩
        case round =>
          obtain ⟨j, hj, rfl, rfl, hbj⟩ := hrel
          clear hbw k1
          have k2 := hk0.out wr hbj
          obtain ⟨b, off, A', c', rfl, hv, hR⟩ := hat.out wr hbj
          rw [hm.out] at hv
          by_cases hjm : j < m
          · have hjl : j < l.length := by rw [hm.out]; exact hjm
            obtain ⟨b2, off2, rfl, hb2, hc2⟩ := hR (by omega)
            have c0 := hc2 j hjl
            have hX := hIx.out (l.getD j 0) (hDl.out.1 _ (getD_mem l j hjl)).2
            have hlf := take_flat litT l j hjl
            rw [← getD_j l j hjl] at hlf
            have hll := take_flat_le litT l (j + 1)
            rw [hlf, List.length_append] at hll
            obtain ⟨x, hx⟩ : ∃ x, l.getD j 0 = x := ⟨_, rfl⟩
            rw [hx] at c0 hX hlf hll
            obtain ⟨Q, hQ⟩ : ∃ Q, P ++ (l.take j).flatMap litT = Q := ⟨_, rfl⟩
            have hQl : Q.length + (itoa x).length + 1 ≤ 10000000000 := by
              have := hPl.out
              rw [← hQ, List.length_append]
              simp only [clT, litT, List.length_append, List.length_cons, List.length_nil] at this hll ⊢
              omega
            have hQn : P ++ (l.take (j + 1)).flatMap litT = Q ++ litT x := by rw [hlf, ← hQ, List.append_assoc]
            rw [hQ]
            obtain ⟨QB, hQB⟩ : ∃ QB : ByteArray, (⟨Q.toArray⟩ : ByteArray) = QB := ⟨_, rfl⟩
            obtain ⟨XB, hXB⟩ : ∃ XB : ByteArray, (⟨(itoa x).toArray⟩ : ByteArray) = XB := ⟨_, rfl⟩
            have s1 : QB.size = Q.length := by rw [← hQB]; rfl
            have s2 : XB.size = (itoa x).length := by rw [← hXB]; rfl
            have r1 : QB.size + XB.size ≤ 9223372036854775807 := by omega
            have r2 : QB.size + XB.size + 1 ≤ 9223372036854775807 := by omega
            have hfin : (QB ++ XB) ++ (⟨#[32]⟩ : ByteArray) = ⟨(Q ++ litT x).toArray⟩ := by
              rw [← hQB, ← hXB]
              apply ByteArray.ext
              simp [litT]
            rw [hQB]
            rw [hXB] at hX
            replace hX := Lib.hid hX
            replace hfin := Lib.hid hfin
            replace hQn := Lib.hid hQn
            clear hQB hXB hQ hQl hlf hll hx hc2 hR s1 s2
            go_wp2_with fail
            (with_reducible refine (hX.out _).mono ?_)
            rintro e w7 ⟨rfl, hb7⟩
            have hB7 := below_on hb7 hbj
            clear hb7
            go_wp2_with fail
            go_roundw
            case rel => exact ⟨j + 1, by omega, by go_num, by rw [hfin.out, hQn.out], hB7⟩
            case measure => simp [intOf]; omega
          · obtain rfl : j = m := by omega
            have hlt2 : l.take j = l := by rw [← hm.out]; exact List.take_length
            rw [hlt2]
            obtain ⟨QB, hQB⟩ : ∃ QB : ByteArray, (⟨(P ++ l.flatMap litT).toArray⟩ : ByteArray) = QB := ⟨_, rfl⟩
            have s1 : QB.size + 2 ≤ 9223372036854775807 := by
              have := hPl.out
              rw [← hQB]
              show (P ++ l.flatMap litT).length + 2 ≤ _
              simp only [clT, List.length_append, List.length_cons, List.length_nil] at this ⊢
              omega
            have hfin : QB ++ (⟨#[48, 10]⟩ : ByteArray) = ⟨(P ++ clT l).toArray⟩ := by
              rw [← hQB]
              apply ByteArray.ext
              simp [clT]
            rw [hQB]
            replace hfin := Lib.hid hfin
            clear hQB hR hlt2
            go_wp2_with fail
            go_roundw
            case rel => exact ⟨k + 1, by omega, by go_num, by rw [hfin.out, hnx.out], hbj⟩
            case measure => simp [intOf]; omega
      · obtain rfl : k = nc := by omega
        have hfull : cs.take k = cs := by rw [← hnc.out]; exact List.take_length
        rw [hfull]
        go_wp2_with fail
        go_ret
        exact ⟨rfl, hbw1.out.trans (hbw.mono hbw1.out.size)⟩
end Go.Proofs.YtikngnbnodaflaaGreatDoor
