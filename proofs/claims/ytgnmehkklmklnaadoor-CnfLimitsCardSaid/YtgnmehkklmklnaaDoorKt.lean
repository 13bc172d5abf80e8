/-
  CnfLimits walked.
-/
import Derived.Test.YtgnmehkklmklnaaDoorKs
import Derived.Test.YtgnmehkklmklnaaDoorKp
import Derived.Deep.OwnRows
namespace Go.Proofs.YtgnmehkklmklnaaDoor
open Go.RowKit Go.Lib
/-- The statement's long slice of ones. -/
def ones (n : Nat) : List Int := List.replicate n 1
theorem ones_canon : canon (ones 1000) = [1] := canon_lit (fun x => by rw [ones, List.mem_replicate, List.mem_singleton]; exact ⟨fun h => h.2, fun h => ⟨by decide, h⟩⟩) (List.pairwise_singleton _ _)
theorem ones_any (n : Nat) : (ones n).any (fgn 1) = false := by
  rw [List.any_eq_false]
  intro x hx
  obtain rfl : x = 1 := (List.mem_replicate.1 hx).2
  decide
theorem ones_opB (n : Nat) : opB (ones n) = false := by
  rw [← Bool.not_eq_true, opB_iff]
  rintro ⟨x, h1, h2⟩
  obtain rfl : x = 1 := (List.mem_replicate.1 h1).2
  have := (List.mem_replicate.1 h2).2
  omega
theorem ones_len (n : Nat) : (ones n).length = n := List.length_replicate ..
theorem ones_add1 : addF 1 [] (ones 1001) = (19, []) := by
  unfold addF
  rw [ones_any, ones_len]
  rfl
theorem ones_add2 : addF 1 [] (ones 1000) = (0, [[1]]) := by
  unfold addF
  rw [ones_any, ones_len, ones_opB, ones_canon]
  rfl
theorem row_ones {w : World} {g : Nat} (h : w.rowIs g 3 1001 (fun _ => .int .i64 1)) (s n : Nat) (hn : s + n ≤ 1001) : RL w (some ⟨g, s, none⟩) (ones n) := fun _ =>
  ⟨g, s, rfl, World.rowIs.lt h, fun j hj => by
    rw [ones_len] at hj
    rw [World.rowIs.cell h (by omega)]
    simp [ones, List.getD, hj]⟩
theorem CF.low {base B : Nat} {w w' : World} {p V : Nat} {cs : List (List Int)} {vl ve : Value} (h : CF base w p V cs vl ve) (hB : ∀ b, FP p vl ve b → b < B) (hz : B ≤ w.heap.size) (k : Below B w w') : CF base w' p V cs vl ve :=
  h.keep (F := fun b => B ≤ b) ⟨k.os, k.tape, k.output, k.size, fun b hb hn => k.block b (by omega)⟩ fun b hb hf => by have := hB b hb; omega
theorem FP_nil {p b B : Nat} (h : FP p (.slice none 0 0) (.slice none 0 0) b) (hp : p < B) : b < B := by
  rcases h with e | e | e
  · omega
  · cases e
  · cases e
theorem one_add {U : Nat} (h1 : 1 ≤ U) (h2 : U ≤ 60000) : addF U [] [-(U : Int)] = (0, [[-(U : Int)]]) := by
  have hc : canon [-(U : Int)] = [-(U : Int)] := canon_of_sorted (List.pairwise_singleton _ _)
  have ha : ([-(U : Int)]).any (fgn U) = false := by simp [fgn]; omega
  have ho : opB [-(U : Int)] = false := by simp [opB]; omega
  unfold addF
  rw [ha, ho, hc]
  rfl
theorem two_add {U : Nat} (cs : List (List Int)) : addF U cs [(U : Int) + 1] = (3, cs) := by
  have ha : ([(U : Int) + 1]).any (fgn U) = true := by simp [fgn]; omega
  unfold addF
  rw [ha]
  rfl
theorem zero_add {U : Nat} (cs : List (List Int)) : addF U cs [0] = (3, cs) := by
  have ha : ([0] : List Int).any (fgn U) = true := by simp [fgn]
  unfold addF
  rw [ha]
  rfl
set_option maxRecDepth 100000 in
set_option maxHeartbeats 3200000 in
theorem limits_t (A : Option Addr) (m c : Nat) (x : Int) (hx : -9223372036854775808 ≤ x ∧ x ≤ 9223372036854775807) (w : World) (hT : LT w) : Calls Tryd.prog 4 #[.slice A m c, .int .i64 x] w (RV w (.bool true)) := by
  have hA := Lib.hid (awake_t w hT)
  obtain ⟨N, hN0⟩ : ∃ N : Nat, 1001 = N := ⟨_, rfl⟩
  obtain ⟨M, hM0⟩ : ∃ M : Nat, 1000 = M := ⟨_, rfl⟩
  obtain ⟨C, hC⟩ : ∃ C, madeCells #[.int .i64 0] 1001 = C := ⟨_, rfl⟩
  have hmk : ∀ w, (Instr.makeSlice 39 (.int .i64 1001) (.int .i64 1001)).run Tryd.prog w = .ok (.slice (some ⟨w.heap.size, 0, none⟩) N N) (w.alloc (.cells C 3)) := fun w => by
    rw [← hN0, ← hC]
    exact run_make_row' 39 3 (.int .i64 0) 8 Tryd.underlying39 info_int rfl .i64 .i64 1001 (by decide) (by decide) w
  have hR0 := Lib.hid (fun w => hC ▸ World.rowIs_made w (.int .i64 0) 1001 3)
  have n1 : decide ((N : Int) < 1) = false := by rw [← hN0]; rfl
  have n2 : ¬ N = 1 := by omega
  have n3 : N - 1 = M := by omega
  have n4 : (N : Int) - 1 = (M : Int) := by omega
  have n5 : 1 ≤ N := by omega
  obtain ⟨V, hV⟩ : ∃ V : Nat, min (max x 0) 60000 = (V : Int) := ⟨(min (max x 0) 60000).toNat, by omega⟩
  have hV2 : max 0 (min x 60000) = (V : Int) := by omega
  have hN := Lib.hid (fun w => New_t x V hV w)
  have hN1 := Lib.hid (fun w => New_t 1 1 (by decide) w)
  replace hV := Lib.hid hV
  replace hx := Lib.hid hx
  go_enter Tryd.func4, Tryd.ntmps4
  go_wp2_with fail
  (with_reducible refine hA.out.mono ?_)
  rintro e w1 ⟨rfl, hb1⟩
  clear hA
  go_wp2_with fail
  (with_reducible refine (hN.out _).mono ?_)
  rintro e w2 ⟨rfl, h2, hb2⟩
  have hbw2 : Below w.heap.size w w2 := below_call hb2 hb1 hb1.size
  clear hN
  have hVs := Lib.hid (Vars_t h2)
  replace h2 := Lib.hid h2
  go_wp2_with fail
  (with_reducible refine hVs.out.mono ?_)
  rintro e w3 ⟨rfl, rfl⟩
  go_wp2_with fail
  replace hR0 := hR0.out w2
  rw [hN0] at hR0
  have z2 := hbw2.size
  have hcB : ∀ b, FP w1.heap.size (.slice none 0 0) (.slice none 0 0) b → b < w2.heap.size := fun b hb => FP_nil hb h2.out.lt
  have hwa : Below w2.heap.size w2 (w2.alloc (.cells C 3)) := (Below.refl _ w2).alloc (Nat.le_refl _) _
  have hsa : w2.heap.size < (w2.alloc (.cells C 3)).heap.size := by simp
  have hw1z := Lib.hid hb1.size
  clear hVs hb1 hb2 hmk
  obtain ⟨W0, hW0⟩ : ∃ W0, w2.alloc (.cells C 3) = W0 := ⟨_, rfl⟩
  rw [hW0] at hR0 hwa hsa ⊢
  clear hW0 hC
  replace hcB := Lib.hid hcB
  have n6 : N ≤ 2000 := by omega
  replace hN0 := Lib.hid hN0
  replace hM0 := Lib.hid hM0
  go_loopw [24] (fun i wr => ∃ k : Nat, k ≤ N ∧ i = .int .i64 (k : Int) ∧ wr.rowIs w2.heap.size 3 N (fun j => .int .i64 (if j < k then 1 else 0)) ∧ Below w2.heap.size w2 wr ∧ w2.heap.size < wr.heap.size) (fun i _ => N - (intOf i).toNat)
  case atStart => exact ⟨0, Nat.zero_le _, rfl, World.rowIs.congr hR0 fun j hj => by simp, hwa, hsa⟩
  case round =>
    obtain ⟨k, hk, rfl, hR, hbw, hlt2⟩ := hrel
    clear hR0 hwa hsa
    by_cases hlt : k < N
    · have fz := World.rowIs.frozen hR
      have cz := World.rowIs.cell hR hlt
      have hR1 := World.rowIs.set hR k (.int .i64 1)
      replace hR1 := Lib.hid hR1
      clear hR
      go_wp2_with fail
      go_roundw
      case rel => exact ⟨k + 1, by omega, by go_num, World.rowIs.congr hR1.out fun j hj => by
        by_cases e : j = k
        · subst e; simp
        · rw [if_neg e]
          by_cases e2 : j < k
          · rw [if_pos e2, if_pos (by omega)]
          · rw [if_neg e2, if_neg (by omega)], hbw.setCell (Nat.le_refl _) _, by rw [World.size_setCell]; exact hlt2⟩
      case measure => simp [intOf]; omega
    · obtain rfl : k = N := by omega
      have hones : wr.rowIs w2.heap.size 3 1001 (fun _ => .int .i64 1) := by
        rw [hN0.out]
        exact World.rowIs.congr hR fun j hj => by rw [if_pos hj]
      have h3 := h2.out.low (hcB.out) (Nat.le_refl _) hbw
      have hbw3 : Below w.heap.size w wr := hbw2.trans (hbw.mono z2)
      replace hones := Lib.hid hones
      replace h3 := Lib.hid h3
      clear hR h2 hbw2
      go_wp2_with fail
      (with_reducible refine (hN1.out _).mono ?_)
      rintro e w4 ⟨rfl, hd4, hb4⟩
      have hz4 := hb4.size
      have h4 := h3.out.over hb4
      have hbw4 : Below w.heap.size w w4 := below_call hb4 hbw3 hbw3.size
      have hones4 : w4.rowIs w2.heap.size 3 1001 (fun _ => .int .i64 1) := World.rowIs.of_block hones.out (hb4.block _ hlt2)
      have hA1 := Add_t hd4 (some ⟨w2.heap.size, 0, none⟩) k (ones 1001) (row_ones hones4 0 1001 (by decide)) (by rw [ones_len]; decide)
      rw [ones_add1, ones_len, hN0.out] at hA1
      replace hA1 := Lib.hid hA1
      replace hd4 := Lib.hid hd4
      replace h4 := Lib.hid h4
      replace hones4 := Lib.hid hones4
      clear h3 hones hb4 hN1
      go_wp2_with fail
      (with_reducible refine hA1.out.mono ?_)
      rintro e w5 ⟨rfl, vl5, ve5, hd5, k5, f5⟩
      have hb5 := hd4.out.below k5
      have hcB3 : ∀ b, FP w1.heap.size (.slice none 0 0) (.slice none 0 0) b → b < wr.heap.size := fun b hb => Nat.lt_trans (hcB.out b hb) hlt2
      have h5 := h4.out.low hcB3 hz4 hb5
      have hones5 : w5.rowIs w2.heap.size 3 1001 (fun _ => .int .i64 1) := World.rowIs.of_block hones4.out (hb5.block _ hlt2)
      have hz5 : wr.heap.size ≤ w5.heap.size := Nat.le_trans hz4 hb5.size
      have hbw5 : Below w.heap.size w w5 := hbw4.trans (hb5.mono hbw3.size)
      have hA2 := Add_t hd5 (some ⟨w2.heap.size, 1, none⟩) M (ones 1000) (row_ones hones5 1 1000 (by decide)) (by rw [ones_len]; decide)
      rw [ones_add2, ones_len, hM0.out] at hA2
      replace hA2 := Lib.hid hA2
      replace hd5 := Lib.hid hd5
      replace h5 := Lib.hid h5
      replace hcB3 := Lib.hid hcB3
      have hwz := Lib.hid hbw3.size
      clear hA1 hd4 h4 hones4 k5 f5 hb5 hones5 hbw4 hz4 hbw3 hcB
      go_wp2_with fail
      (with_reducible refine hA2.out.mono ?_)
      rintro e w6 ⟨rfl, vl6, ve6, hd6, k6, f6⟩
      have hb6 := hd5.out.below k6
      have h6 := h5.out.low hcB3.out hz5 hb6
      have hz6 : wr.heap.size ≤ w6.heap.size := Nat.le_trans hz5 hb6.size
      have hbw6 : Below w.heap.size w w6 := hbw5.trans (hb6.mono hwz.out)
      have hL6 := Lib.hid (Len_t hd6)
      have hC6 := Clause_t hd6 0 (by decide)
      change Calls _ _ #[pv wr.heap.size, .int .i64 0] _ (OV w6.heap.size w6 [1]) at hC6
      replace hC6 := Lib.hid hC6
      replace h6 := Lib.hid h6
      replace hd6 := Lib.hid hd6
      clear hA2 hd5 h5 k6 f6 hb6 hbw5 hz5
      go_wp2_with fail
      (with_reducible refine hL6.out.mono ?_)
      rintro e w7 ⟨rfl, rfl⟩
      go_wp2_with fail
      (with_reducible refine hC6.out.mono ?_)
      rintro e w8 ⟨v8, rfl, ho8, hb8⟩
      change w8.ownsRow _ _ 1 v8 1 _ at ho8
      obtain ⟨A8, c8, rfl⟩ := own_len ho8
      have h8 := h6.out.over hb8
      have hbw8 : Below w.heap.size w w8 := below_call hb8 hbw6 hbw6.size
      clear ho8 hb8 hbw6 hC6 hL6 hd6 hcB3 hz6
      have hpz := Lib.hid (show w.heap.size ≤ w1.heap.size from Nat.le_trans (Nat.le_refl _) hw1z.out)
      by_cases hx6 : 60000 ≤ x
      · have hV60 : V = 60000 := by have := hV.out; omega
        have hVf := Lib.hid (Var_full h8 hV60)
        have dx : decide ((60000 : Int) ≤ x) = true := by rw [decide_eq_true_iff]; exact hx6
        replace h8 := Lib.hid h8
        clear hV60
        replace hx6 := Lib.hid hx6
        go_wp2_with fail
        (with_reducible refine hVf.out.mono ?_)
        rintro e w9 ⟨rfl, rfl⟩
        go_wp2_with fail
        go_ret
        exact ⟨rfl, hbw8⟩
      · have hV60 : V < 60000 := by have := hV.out; omega
        obtain ⟨U, hU⟩ : ∃ U, V + 1 = U := ⟨_, rfl⟩
        have hU1 : 1 ≤ U := by omega
        have hU2 : U ≤ 60000 := by omega
        have hVf := Var_t h8 hV60
        rw [hU] at hVf
        have dx : decide ((60000 : Int) ≤ x) = false := by rw [decide_eq_false_iff_not]; exact hx6
        have hUx : max 0 x + 1 = (U : Int) := by have := hV.out; omega
        have hUn : IntKind.i64.wrap (-(U : Int)) = -(U : Int) := IntWalk.i64_in (n := -(U : Int)) (by omega)
        replace hVf := Lib.hid hVf
        replace h8 := Lib.hid h8
        replace hx6 := Lib.hid hx6
        replace hU := Lib.hid hU
        replace hV60 := Lib.hid hV60
        replace hU1 := Lib.hid hU1
        replace hU2 := Lib.hid hU2
        replace dx := Lib.hid dx
        replace hUx := Lib.hid hUx
        replace hUn := Lib.hid hUn
        go_wp2_with fail
        (with_reducible refine hVf.out.mono ?_)
        rintro e w9 ⟨rfl, vl9, ve9, h9, k9, f9⟩
        have hb9 := h8.out.below k9
        have hbw9 : Below w.heap.size w w9 := hbw8.trans (hb9.mono hpz.out)
        have hV9 := Lib.hid (Vars_t h9)
        replace h9 := Lib.hid h9
        clear hVf h8 k9 f9 hb9 hbw8
        replace hUx := hUx.out
        go_wp2_with fail
        · exfalso
          have := hx6.out
          omega
        (with_reducible refine hV9.out.mono ?_)
        rintro e w10 ⟨rfl, rfl⟩
        replace hUn := hUn.out
        go_wp2_with fail
        replace hU1 := hU1.out
        have hU1h := Lib.hid hU1
        clear hU1
        have hq11 := h9.out.over ((Below.refl _ w9).alloc (Nat.le_refl _) (.cells #[.int .i64 (-(U : Int))] 3))
        have hA11 := Add_t hq11 (some ⟨w9.heap.size, 0, none⟩) 1 [-(U : Int)] (RL_new w9 [-(U : Int)] _ rfl) (by rw [List.length_singleton]; decide)
        rw [one_add hU1h.out hU2.out] at hA11
        change Calls _ _ #[pv w1.heap.size, .slice (some ⟨w9.heap.size, 0, none⟩) 1 1] _ _ at hA11
        have hbq11 : Below w.heap.size w (w9.alloc (.cells #[.int .i64 (-(U : Int))] 3)) := hbw9.alloc hbw9.size _
        replace hA11 := Lib.hid hA11
        replace hq11 := Lib.hid hq11
        (with_reducible refine hA11.out.mono ?_)
        rintro e w11 ⟨rfl, vl11, ve11, h11, k11, f11⟩
        have hb11 := hq11.out.below k11
        have hbw11 : Below w.heap.size w w11 := hbq11.trans (hb11.mono hpz.out)
        replace h11 := Lib.hid h11
        clear hA11 hq11 k11 f11 hb11 hbq11
        go_wp2_with fail
        have hq12 := h11.out.over ((Below.refl _ w11).alloc (Nat.le_refl _) (.cells #[.int .i64 ((U : Int) + 1)] 3))
        have hA12 := Add_t hq12 (some ⟨w11.heap.size, 0, none⟩) 1 [(U : Int) + 1] (RL_new w11 [(U : Int) + 1] _ rfl) (by rw [List.length_singleton]; decide)
        rw [two_add] at hA12
        change Calls _ _ #[pv w1.heap.size, .slice (some ⟨w11.heap.size, 0, none⟩) 1 1] _ _ at hA12
        have hbq12 : Below w.heap.size w (w11.alloc (.cells #[.int .i64 ((U : Int) + 1)] 3)) := hbw11.alloc hbw11.size _
        replace hA12 := Lib.hid hA12
        replace hq12 := Lib.hid hq12
        (with_reducible refine hA12.out.mono ?_)
        rintro e w12 ⟨rfl, vl12, ve12, h12, k12, f12⟩
        have hb12 := hq12.out.below k12
        have hbw12 : Below w.heap.size w w12 := hbq12.trans (hb12.mono hpz.out)
        replace h12 := Lib.hid h12
        clear hA12 hq12 k12 f12 hb12 hbq12
        go_wp2_with fail
        have hq13 := h12.out.over ((Below.refl _ w12).alloc (Nat.le_refl _) (.cells #[.int .i64 (0)] 3))
        have hA13 := Add_t hq13 (some ⟨w12.heap.size, 0, none⟩) 1 [0] (RL_new w12 [0] _ rfl) (by rw [List.length_singleton]; decide)
        rw [zero_add] at hA13
        change Calls _ _ #[pv w1.heap.size, .slice (some ⟨w12.heap.size, 0, none⟩) 1 1] _ _ at hA13
        have hbq13 : Below w.heap.size w (w12.alloc (.cells #[.int .i64 (0)] 3)) := hbw12.alloc hbw12.size _
        replace hA13 := Lib.hid hA13
        replace hq13 := Lib.hid hq13
        (with_reducible refine hA13.out.mono ?_)
        rintro e w13 ⟨rfl, vl13, ve13, h13, k13, f13⟩
        have hb13 := hq13.out.below k13
        have hbw13 : Below w.heap.size w w13 := hbq13.trans (hb13.mono hpz.out)
        replace h13 := Lib.hid h13
        clear hA13 hq13 k13 f13 hb13 hbq13
        have hL13 := Lib.hid (Len_t h13.out)
        go_wp2_with fail
        (with_reducible refine hL13.out.mono ?_)
        rintro e w14 ⟨rfl, rfl⟩
        go_wp2_with fail
        go_ret
        exact ⟨rfl, hbw13⟩
end Go.Proofs.YtgnmehkklmklnaaDoor
