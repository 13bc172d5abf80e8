/-
  The reference's Holds; the statements' ints and Is.
-/
import Derived.Test.YtgnmehkklmklnaaDoorNd
import Derived.Test.YtgnmehkklmklnaaDoorKq
namespace Go.Proofs.YtgnmehkklmklnaaDoor
open Go.RowKit Go.Lib
set_option maxRecDepth 100000 in
set_option maxHeartbeats 1600000 in
theorem ints_t (A B : Option Addr) (c1 c2 : Nat) (l : List Int) (w : World) (hA : RL w A l) (hB : RL w B l) (hl : l.length ≤ 1000000) : Calls Tryd.prog 21 #[.slice A l.length c1, .slice B l.length c2] w (RV w (.bool true)) := by
  obtain ⟨n, hn⟩ : ∃ n, l.length = n := ⟨_, rfl⟩
  rw [hn] at hl ⊢
  replace hn := Lib.hid hn
  replace hA := Lib.hid hA
  replace hB := Lib.hid hB
  go_enter Tryd.func21, Tryd.ntmps21
  go_wp2_with fail
  go_loopw [13] (fun i wr => ∃ k : Nat, k ≤ n ∧ i = .int .i64 (k : Int) ∧ ∃ q, wr = w.drewN q) (fun i _ => n - (intOf i).toNat)
  case atStart => exact ⟨0, Nat.zero_le _, rfl, 0, rfl⟩
  case round =>
    obtain ⟨k, hk, rfl, q, rfl⟩ := hrel
    by_cases hlt : k < n
    · have hkl : k < l.length := by rw [hn.out]; exact hlt
      obtain ⟨b, off, rfl, hb, hc⟩ := hA.out (by omega)
      obtain ⟨b2, off2, rfl, hb2, hc2⟩ := hB.out (by omega)
      have c0 := hc k hkl
      have d0 := hc2 k hkl
      obtain ⟨x, hx⟩ : ∃ x, l.getD k 0 = x := ⟨_, rfl⟩
      rw [hx] at c0 d0
      clear hc hc2 hx hkl
      go_wp2_with fail
      go_quiet (fail)
      go_wp2_with fail
      go_roundw
      case rel => exact ⟨k + 1, by omega, by go_num, _, rfl⟩
      case measure => simp [intOf]; omega
    · obtain rfl : k = n := by omega
      go_wp2_with fail
      go_ret
      exact ⟨rfl, bdn w _⟩
theorem RLLd.at {F : Nat → Prop} {w : World} {A : Option Addr} {vs : List Value} {cs : List (List Int)} (h : RLLd F w A vs cs) (i : Nat) (hi : i < cs.length) :
    ∃ b off A' c', A = some ⟨b, off, none⟩ ∧ w.cell? ⟨b, off + i, none⟩ = some (.slice A' (cs.getD i []).length c') ∧ RL w A' (cs.getD i []) := by
  obtain ⟨h1, h2, h3⟩ := h
  obtain ⟨b, off, e, hb, _, hc⟩ := h2 (by omega)
  obtain ⟨A', c', hv, hR⟩ := h3 i hi
  exact ⟨b, off, A', c', e, hc i _ hv, hR.rl⟩
set_option maxRecDepth 100000 in
set_option maxHeartbeats 3200000 in
theorem Is_t {base : Nat} {w : World} {p V : Nat} {cs : List (List Int)} {vl ve : Value} (h : CF base w p V cs vl ve) (Ac : Option Addr) (cc : Nat) (vs : List Value) (hL : RLLd (FP p vl ve) w Ac vs cs) :
    Calls Tryd.prog 9 #[pv p, .agg #[.int .i64 (V : Int), .slice Ac cs.length cc]] w (RV w (.bool true)) := by
  have hbw1 : Below w.heap.size w (w.alloc (.cells #[.int .i64 (V : Int), .slice Ac cs.length cc] 27)) := (Below.refl _ w).alloc (Nat.le_refl _) _
  have hq : ∀ (q : Nat), Below w.heap.size w ((w.alloc (.cells #[.int .i64 (V : Int), .slice Ac cs.length cc] 27)).drewN q) := fun q => ⟨hbw1.os, hbw1.tape, hbw1.output, hbw1.size, hbw1.block⟩
  have hVq : ∀ q, Calls Tryd.prog 17 #[pv p] ((w.alloc (.cells #[.int .i64 (V : Int), .slice Ac cs.length cc] 27)).drewN q) (fun e w' => e = Ending.returned (.int .i64 (V : Int)) ∧ w' = ((w.alloc (.cells #[.int .i64 (V : Int), .slice Ac cs.length cc] 27)).drewN q)) := fun q => (Vars_t (h.over (hq q))).mono fun e w' ⟨he, hw⟩ => ⟨he, hw.symm⟩
  have hLq : ∀ q, Calls Tryd.prog 15 #[pv p] ((w.alloc (.cells #[.int .i64 (V : Int), .slice Ac cs.length cc] 27)).drewN q) (fun e w' => e = Ending.returned (.int .i64 (cs.length : Int)) ∧ w' = ((w.alloc (.cells #[.int .i64 (V : Int), .slice Ac cs.length cc] 27)).drewN q)) := fun q => (Len_t (h.over (hq q))).mono fun e w' ⟨he, hw⟩ => ⟨he, hw.symm⟩
  have hC1 : ∀ q, Calls Tryd.prog 16 #[pv p, .int .i64 (-1)] ((w.alloc (.cells #[.int .i64 (V : Int), .slice Ac cs.length cc] 27)).drewN q) (fun e w' => e = Ending.returned (.slice none 0 0) ∧ w' = ((w.alloc (.cells #[.int .i64 (V : Int), .slice Ac cs.length cc] 27)).drewN q)) := fun q => (Clause_neg (h.over (hq q)) (-1) (by decide)).mono fun e w' ⟨he, hw⟩ => ⟨he, hw.symm⟩
  have hC2 : ∀ q, Calls Tryd.prog 16 #[pv p, .int .i64 (cs.length : Int)] ((w.alloc (.cells #[.int .i64 (V : Int), .slice Ac cs.length cc] 27)).drewN q) (fun e w' => e = Ending.returned (.slice none 0 0) ∧ w' = ((w.alloc (.cells #[.int .i64 (V : Int), .slice Ac cs.length cc] 27)).drewN q)) := fun q => (Clause_over (h.over (hq q)) cs.length (Nat.le_refl _)).mono fun e w' ⟨he, hw⟩ => ⟨he, hw.symm⟩
  have x1 := heap_alloc_new w (.cells #[.int .i64 (V : Int), .slice Ac cs.length cc] 27)
  have hCl := fun (W : World) (hb : Below w.heap.size w W) (i : Nat) (hi : i < cs.length) => (show Calls Tryd.prog 16 #[pv p, .int .i64 (i : Int)] W (OV W.heap.size W (cs.getD i [])) from getD_get cs i hi ▸ Clause_t (h.over hb) i hi)
  have hc := h.hc
  have hn := h.hn
  obtain ⟨nc, hnc⟩ : ∃ nc, cs.length = nc := ⟨_, rfl⟩
  rw [hnc] at hbw1 hq x1 hn ⊢
  simp only [hnc] at hVq hLq hC1 hC2
  obtain ⟨W1, hW1⟩ : ∃ W1, w.alloc (.cells #[.int .i64 (V : Int), .slice Ac nc cc] 27) = W1 := ⟨_, rfl⟩
  have c0 : (w.alloc (.cells #[.int .i64 (V : Int), .slice Ac nc cc] 27)).cell? ⟨w.heap.size, 0, none⟩ = some (.int .i64 (V : Int)) := by rw [Lib.cell_of_heap x1]; rfl
  have c1 : (w.alloc (.cells #[.int .i64 (V : Int), .slice Ac nc cc] 27)).cell? ⟨w.heap.size, 1, none⟩ = some (.slice Ac nc cc) := by rw [Lib.cell_of_heap x1]; rfl
  replace c0 := Lib.hid c0
  replace c1 := Lib.hid c1
  replace hVq := Lib.hid hVq
  replace hLq := Lib.hid hLq
  replace hC1 := Lib.hid hC1
  replace hC2 := Lib.hid hC2
  replace hCl := Lib.hid hCl
  replace hL := Lib.hid hL
  replace hc := Lib.hid hc
  replace hn := Lib.hid hn
  replace hW1 := Lib.hid hW1
  replace hnc := Lib.hid hnc
  replace x1 := Lib.hid x1
  clear h
  go_enter Tryd.func9, Tryd.ntmps9
  go_wp2_with fail
  rw [hW1.out] at c0 c1 hVq hLq hC1 hC2 hq hbw1 ⊢
  replace c0 := c0.out
  replace c1 := c1.out
  go_quiet ((first | (go_at_call 17; (with_reducible refine (hVq.out _).mono ?_); exact (fun e w1 ⟨he, hw1⟩ => ⟨he, _, hw1⟩)) | (go_at_call 15; (with_reducible refine (hLq.out _).mono ?_); exact (fun e w1 ⟨he, hw1⟩ => ⟨he, _, hw1⟩)) | (go_at_call 16; (with_reducible first | refine (hC1.out _).mono ?_ | refine (hC2.out _).mono ?_); exact (fun e w1 ⟨he, hw1⟩ => ⟨he, _, hw1⟩))))
  go_wp2_with fail
  have hn2 : nc ≤ 9000000000000000000 := by have := hn.out; omega
  go_loopw [37] (fun i wr => ∃ k : Nat, k ≤ nc ∧ i = .int .i64 (k : Int) ∧ Below w.heap.size w wr) (fun i _ => nc - (intOf i).toNat)
  case atStart => exact ⟨0, Nat.zero_le _, rfl, hq _⟩
  case round =>
    obtain ⟨k, hk, rfl, hbw⟩ := hrel
    clear c0 c1 hq
    by_cases hlt : k < nc
    · have hkl : k < cs.length := by rw [hnc.out]; exact hlt
      obtain ⟨b, off, A', c', rfl, hv, hR⟩ := (hL.out.keep (Keep.of_below hbw)).at k hkl
      have hK := hCl.out wr hbw k hkl
      have hl1 : (cs.getD k []).length ≤ 1000 := by rw [← getD_get cs k hkl]; exact hc.out _ (List.getElem_mem hkl)
      obtain ⟨l, hl⟩ : ∃ l, cs.getD k [] = l := ⟨_, rfl⟩
      rw [hl] at hv hR hK hl1
      have hI := fun (B : Option Addr) (c2 : Nat) (W : World) (hb : Below wr.heap.size wr W) (hB : RL W B l) => ints_t B A' c2 c' l W hB (hR.over hb) (by omega)
      obtain ⟨m, hm⟩ : ∃ m, l.length = m := ⟨_, rfl⟩
      simp only [hm] at hI
      rw [hm] at hv
      replace hK := Lib.hid hK
      replace hI := Lib.hid hI
      clear hR hl1 hl hkl
      have hzb := hbw.size
      go_wp2_with fail
      (with_reducible refine hK.out.mono ?_)
      rintro e w5 ⟨v5, rfl, ho5, hb5⟩
      obtain ⟨A5, c5, rfl, hR5⟩ := own_RL ho5
      have hI5 := Lib.hid (hI.out A5 c5 w5 hb5 hR5)
      rw [hm]
      have hbw5 : Below w.heap.size w w5 := below_call hb5 hbw hzb
      clear hK hI ho5 hR5 hb5 hbw hm
      go_wp2_with fail
      (with_reducible refine hI5.out.mono ?_)
      rintro e w6 ⟨rfl, hb6⟩
      have hbw6 : Below w.heap.size w w6 := below_call hb6 hbw5 hbw5.size
      clear hI5 hb6 hbw5
      go_wp2_with fail
      go_roundw
      case rel => exact ⟨k + 1, by omega, by go_num, hbw6⟩
      case measure => simp [intOf]; omega
    · obtain rfl : k = nc := by omega
      go_wp2_with fail
      go_ret
      exact ⟨rfl, hbw⟩
set_option maxRecDepth 100000 in
set_option maxHeartbeats 6400000 in
/-- The reference's Holds. -/
theorem rHolds_t (F : Nat → Prop) (V : Nat) (cs : List (List Int)) (Ac : Option Addr) (cc : Nat) (vs : List Value) (m : List Bool) (Am : Option Addr) (cm : Nat) (w : World) (hn : cs.length ≤ 200000) (hd : ∀ c, c ∈ cs → Dom c ∧ c.length ≤ 1000) (hL : RLLd F w Ac vs cs) (hRm : RBo w Am m) :
    Calls Tryd.prog 11 #[.agg #[.int .i64 (V : Int), .slice Ac cs.length cc], .slice Am m.length cm] w (RV w (.bool (holB m cs))) := by
  have hT := fun k hk => take_all m cs k hk
  have hAll := fun k => all_take m cs k
  obtain ⟨R, hR0⟩ : ∃ R, holB m cs = R := ⟨_, rfl⟩
  obtain ⟨nc, hnc⟩ : ∃ nc, cs.length = nc := ⟨_, rfl⟩
  have hfull : holB m (cs.take nc) = R := by rw [← hnc, List.take_length, hR0]
  rw [hR0] at hAll ⊢
  obtain ⟨nm, hnm⟩ : ∃ nm, m.length = nm := ⟨_, rfl⟩
  rw [hnc] at hn ⊢
  rw [hnm]
  have hbw1 : Below w.heap.size w (w.alloc (.cells #[.int .i64 (V : Int), .slice Ac nc cc] 27)) := (Below.refl _ w).alloc (Nat.le_refl _) _
  have x1 := heap_alloc_new w (.cells #[.int .i64 (V : Int), .slice Ac nc cc] 27)
  have hLw := hL.keep (Keep.of_below hbw1)
  have hRw := hRm.over hbw1
  obtain ⟨W1, hW1⟩ : ∃ W1, w.alloc (.cells #[.int .i64 (V : Int), .slice Ac nc cc] 27) = W1 := ⟨_, rfl⟩
  rw [hW1] at x1 hLw hRw hbw1
  have c1 : W1.cell? ⟨w.heap.size, 1, none⟩ = some (.slice Ac nc cc) := by rw [Lib.cell_of_heap x1]; rfl
  have hn2 : nc ≤ 9000000000000000000 := by omega
  replace hT := Lib.hid hT
  replace hAll := Lib.hid hAll
  replace hfull := Lib.hid hfull
  replace hnc := Lib.hid hnc
  replace hnm := Lib.hid hnm
  replace hLw := Lib.hid hLw
  replace hRw := Lib.hid hRw
  replace hd := Lib.hid hd
  replace hW1 := Lib.hid hW1
  replace c1 := Lib.hid c1
  clear hR0 hL hRm hn x1
  go_enter Tryd.func11, Tryd.ntmps11
  go_wp2_with fail
  rw [hW1.out]
  replace c1 := c1.out
  go_loopw [5] (fun i wr => ∃ k : Nat, k ≤ nc ∧ i = .int .i64 (k : Int) ∧ holB m (cs.take k) = true ∧ wr = W1) (fun i _ => nc - (intOf i).toNat)
  case atStart => exact ⟨0, Nat.zero_le _, rfl, by simp [holB], rfl⟩
  case round =>
    obtain ⟨i, hi, rfl, hall, hwr⟩ := hrel
    have hwr := hwr.symm
    subst hwr
    by_cases hlt : i < nc
    · have hil : i < cs.length := by rw [hnc.out]; exact hlt
      obtain ⟨b, off, A', c', rfl, hv, hR⟩ := hLw.out.at i hil
      have hTi := hT.out i hil
      rw [hall, Bool.true_and, getD_get cs i hil] at hTi
      have hdl := hd.out _ (List.getElem_mem hil)
      rw [getD_get cs i hil] at hdl
      obtain ⟨l, hl⟩ : ∃ l, cs.getD i [] = l := ⟨_, rfl⟩
      rw [hl] at hv hR hTi hdl
      obtain ⟨nl, hnl⟩ : ∃ nl, l.length = nl := ⟨_, rfl⟩
      rw [hnl] at hv
      have hnl2 : nl ≤ 1000 := by rw [← hnl]; exact hdl.2
      replace hTi := Lib.hid hTi
      replace hR := Lib.hid hR
      replace hdl := Lib.hid hdl
      replace hnl := Lib.hid hnl
      replace hall := Lib.hid hall
      clear hl hil
      go_wp2_with fail
      go_loopw [6, 7] (fun sv kv wr2 => ∃ k : Nat, k ≤ nl ∧ kv = .int .i64 (k : Int) ∧ sv = .bool ((l.take k).any (litB m)) ∧ wr2 = W1) (fun _ kv _ => nl - (intOf kv).toNat)
      case atStart => exact ⟨0, Nat.zero_le _, rfl, by simp, rfl⟩
      case round =>
        obtain ⟨k, hk, rfl, rfl, hwr2⟩ := hrel
        have hwr2 := hwr2.symm
        subst hwr2
        by_cases hkl : k < nl
        · have hkl2 : k < l.length := by rw [hnl.out]; exact hkl
          obtain ⟨b3, off3, rfl, hb3, hc3⟩ := hR.out (by omega)
          have cx := hc3 k hkl2
          have hxd := hdl.out.1 _ (getD_mem l k hkl2)
          have hany : (l.take (k + 1)).any (litB m) = ((l.take k).any (litB m) || litB m (l.getD k 0)) := by
            rw [take_snoc l k hkl2, List.any_append]; simp
          obtain ⟨x, hx⟩ : ∃ x, l.getD k 0 = x := ⟨_, rfl⟩
          rw [hx] at cx hxd hany
          have habs := abs_t x hxd.2 W1
          obtain ⟨y, hy⟩ : ∃ y : Nat, max x (-x) = (y : Int) + 1 := ⟨((max x (-x)) - 1).toNat, by omega⟩
          have hy2 : (max x (-x)).toNat - 1 = y := by omega
          have hy3 : y ≤ 60000 := by omega
          have hlit : litB m x = (m.getD y false == decide (0 < x)) := by unfold litB; rw [hy2]
          rw [hy] at habs
          have hy4 : (y : Int) + 1 - 1 = (y : Int) := by omega
          obtain ⟨S, hS⟩ : ∃ S, decide (0 < x) = S := ⟨_, rfl⟩
          rw [hS] at hlit
          obtain ⟨s, hs⟩ : ∃ s, (l.take k).any (litB m) = s := ⟨_, rfl⟩
          rw [hs] at hany ⊢
          replace habs := Lib.hid habs
          replace hany := Lib.hid hany
          replace hlit := Lib.hid hlit
          clear hc3 hx hxd hy hy2 hs hkl2
          by_cases hym : y < nm
          · have d1 : decide ((y : Int) + 1 ≤ (nm : Int)) = true := by rw [decide_eq_true_iff]; omega
            obtain ⟨b4, off4, rfl, hb4, hc4⟩ := hRw.out (by rw [hnm.out]; omega)
            have c4 := hc4 y (by rw [hnm.out]; exact hym)
            obtain ⟨z, hz⟩ : ∃ z, m.getD y false = z := ⟨_, rfl⟩
            rw [hz] at c4
            have hlz : litB m x = (z == S) := by rw [hlit.out, hz]
            replace hlz := Lib.hid hlz
            clear hc4 hz
            cases s with
            | true =>
              have hn9 : (l.take (k + 1)).any (litB m) = true := by rw [hany.out]; rfl
              replace hn9 := Lib.hid hn9
              go_wp2_with fail
              (with_reducible refine habs.out.mono ?_)
              rintro e w8 ⟨rfl, hw8⟩
              have hw8 := hw8.symm
              subst hw8
              go_wp2_with fail
              go_roundw
              case rel => exact ⟨k + 1, by omega, by go_num, by rw [hn9.out], trivial⟩
              case measure => simp [intOf]; omega
            | false =>
              have hn9 : (l.take (k + 1)).any (litB m) = (z == S) := by rw [hany.out, hlz.out] <;> rfl
              replace hn9 := Lib.hid hn9
              go_wp2_with fail
              (with_reducible refine habs.out.mono ?_)
              rintro e w8 ⟨rfl, hw8⟩
              have hw8 := hw8.symm
              subst hw8
              go_wp2_with fail
              go_roundw
              case rel => exact ⟨k + 1, by omega, by go_num, (by rw [hn9.out] <;> first | rfl | (simp [← hS])), trivial⟩
              case measure => simp [intOf]; omega
          · have d1 : decide ((y : Int) + 1 ≤ (nm : Int)) = false := by rw [decide_eq_false_iff_not]; omega
            have hz : m.getD y false = false := by rw [List.getD_eq_getElem?_getD, List.getElem?_eq_none (by rw [hnm.out]; omega)]; rfl
            have hlz : litB m x = (false == S) := by rw [hlit.out, hz]
            replace hlz := Lib.hid hlz
            clear hz
            cases s with
            | true =>
              have hn9 : (l.take (k + 1)).any (litB m) = true := by rw [hany.out]; rfl
              replace hn9 := Lib.hid hn9
              go_wp2_with fail
              (with_reducible refine habs.out.mono ?_)
              rintro e w8 ⟨rfl, hw8⟩
              have hw8 := hw8.symm
              subst hw8
              go_wp2_with fail
              go_roundw
              case rel => exact ⟨k + 1, by omega, by go_num, by rw [hn9.out], trivial⟩
              case measure => simp [intOf]; omega
            | false =>
              have hn9 : (l.take (k + 1)).any (litB m) = (false == S) := by rw [hany.out, hlz.out] <;> rfl
              replace hn9 := Lib.hid hn9
              go_wp2_with fail
              (with_reducible refine habs.out.mono ?_)
              rintro e w8 ⟨rfl, hw8⟩
              have hw8 := hw8.symm
              subst hw8
              go_wp2_with fail
              go_roundw
              case rel => exact ⟨k + 1, by omega, by go_num, (by rw [hn9.out] <;> first | rfl | (simp [← hS])), trivial⟩
              case measure => simp [intOf]; omega
        · obtain rfl : k = nl := by omega
          have hk9 : l.take k = l := by rw [← hnl.out, List.take_length]
          rw [hk9]
          obtain ⟨s, hs⟩ : ∃ s, l.any (litB m) = s := ⟨_, rfl⟩
          rw [hs]
          have hTs := hTi.out
          rw [hs] at hTs
          replace hTs := Lib.hid hTs
          clear hk9 hs
          cases s with
          | false =>
            have hRf : R = false := by
              cases hR1 : R with
              | false => rfl
              | true => have := hAll.out (i + 1) hR1; rw [hTs.out] at this; cases this
            replace hRf := Lib.hid hRf
            go_wp2_with fail
            go_ret
            exact ⟨by rw [hRf.out]; rfl, hbw1⟩
          | true =>
            go_wp2_with fail
            go_roundw
            case rel => exact ⟨i + 1, by omega, by go_num, hTs.out, trivial⟩
            case measure => simp [intOf]; omega
    · obtain rfl : i = nc := by omega
      have hRt : R = true := by rw [← hfull.out, hall]
      replace hRt := Lib.hid hRt
      clear hall
      go_wp2_with fail
      go_ret
      exact ⟨by rw [hRt.out]; rfl, hbw1⟩
end Go.Proofs.YtgnmehkklmklnaaDoor
