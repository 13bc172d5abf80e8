/-
  The reference's Holds; the statements' ints and Is.
-/
import Derived.Test.YtikngnbnodaflaaGreatDoorNd
import Derived.Test.YtikngnbnodaflaaGreatDoorKq
namespace Go.Proofs.YtikngnbnodaflaaGreatDoor
open Go.RowKit Go.Lib
set_option maxRecDepth 100000 in
set_option maxHeartbeats 1600000 in
theorem ints_t (A B : Option Addr) (c1 c2 : Nat) (l : List Int) (w : World) (hA : RL w A l) (hB : RL w B l) (hl : l.length ≤ 1000000) : Calls Tryz.prog 24 #[.slice A l.length c1, .slice B l.length c2] w (RV w (.bool true)) := by
  obtain ⟨n, hn⟩ : ∃ n, l.length = n := ⟨_, rfl⟩
  rw [hn] at hl ⊢
  replace hn := Lib.hid hn
  replace hA := Lib.hid hA
  replace hB := Lib.hid hB
  go_enter Tryz.func24, Tryz.ntmps24
  go_wp2_with fail
  go_loopw [13] (fun i wr => ∃ k : Nat, k ≤ n ∧ i = .int .i64 (k : Int) ∧ ∃ q, wr = w.drewN q) (fun i _ => n - (intOf i).toNat)
  case atStart => exact ⟨0, Nat.zero_le _, rfl, 0, rfl⟩
  case round =>
    obtain ⟨k, hk, rfl, q, rfl⟩ := hrel
    by_cases hlt : k < n
    · have hkl : k < l.length := by rw [hn.out]; exact hlt
      obtain ⟨b, off, rfl, hb, hc⟩ := hA.out (by omega)
      obtain ⟨b2, off2, rfl, hb2, hc2⟩ := hB.out (by omega)
      have c0 := hc k hkl
      have d0 := hc2 k hkl
      obtain ⟨x, hx⟩ : ∃ x, l.getD k 0 = x := ⟨_, rfl⟩
      rw [hx] at c0 d0
      clear hc hc2 hx hkl
      go_wp2_with fail
      go_quiet (fail)
      go_wp2_with fail
      go_roundw
      case rel => exact ⟨k + 1, by omega, by go_num, _, rfl⟩
      case measure => simp [intOf]; omega
    · obtain rfl : k = n := by omega
      go_wp2_with fail
      go_ret
      exact ⟨rfl, bdn w _⟩
theorem RLLd.at {F : Nat → Prop} {w : World} {A : Option Addr} {vs : List Value} {cs : List (List Int)} (h : RLLd F w A vs cs) (i : Nat) (hi : i < cs.length) :
    ∃ b off A' c', A = some ⟨b, off, none⟩ ∧ w.cell? ⟨b, off + i, none⟩ = some (.slice A' (cs.getD i []).length c') ∧ RL w A' (cs.getD i []) := by
  obtain ⟨h1, h2, h3⟩ := h
  obtain ⟨b, off, e, hb, _, hc⟩ := h2 (by omega)
  obtain ⟨A', c', hv, hR⟩ := h3 i hi
  exact ⟨b, off, A', c', e, hc i _ hv, hR.rl⟩
set_option maxRecDepth 100000 in
set_option maxHeartbeats 3200000 in
theorem Is_t {base : Nat} {w : World} {p V : Nat} {cs : List (List Int)} {vl ve : Value} (h : CF base w p V cs vl ve) (Ac : Option Addr) (cc : Nat) (vs : List Value) (hL : RLLd (FP p vl ve) w Ac vs cs) :
    Calls Tryz.prog 9 #[pv p, .agg #[.int .i64 (V : Int), .slice Ac cs.length cc]] w (RV w (.bool true)) := by
  have hbw1 : Below w.heap.size w (w.alloc (.cells #[.int .i64 (V : Int), .slice Ac cs.length cc] 26)) := (Below.refl _ w).alloc (Nat.le_refl _) _
  have hq : ∀ (q : Nat), Below w.heap.size w ((w.alloc (.cells #[.int .i64 (V : Int), .slice Ac cs.length cc] 26)).drewN q) := fun q => ⟨hbw1.os, hbw1.tape, hbw1.output, hbw1.size, hbw1.block⟩
  have hVq : ∀ q, Calls Tryz.prog 16 #[pv p] ((w.alloc (.cells #[.int .i64 (V : Int), .slice Ac cs.length cc] 26)).drewN q) (fun e w' => e = Ending.returned (.int .i64 (V : Int)) ∧ w' = ((w.alloc (.cells #[.int .i64 (V : Int), .slice Ac cs.length cc] 26)).drewN q)) := fun q => (Vars_t (h.over (hq q))).mono fun e w' ⟨he, hw⟩ => ⟨he, hw.symm⟩
  have hLq : ∀ q, Calls Tryz.prog 12 #[pv p] ((w.alloc (.cells #[.int .i64 (V : Int), .slice Ac cs.length cc] 26)).drewN q) (fun e w' => e = Ending.returned (.int .i64 (cs.length : Int)) ∧ w' = ((w.alloc (.cells #[.int .i64 (V : Int), .slice Ac cs.length cc] 26)).drewN q)) := fun q => (Len_t (h.over (hq q))).mono fun e w' ⟨he, hw⟩ => ⟨he, hw.symm⟩
  have hC1 : ∀ q, Calls Tryz.prog 23 #[pv p, .int .i64 (-1)] ((w.alloc (.cells #[.int .i64 (V : Int), .slice Ac cs.length cc] 26)).drewN q) (fun e w' => e = Ending.returned (.slice none 0 0) ∧ w' = ((w.alloc (.cells #[.int .i64 (V : Int), .slice Ac cs.length cc] 26)).drewN q)) := fun q => (Clause_neg (h.over (hq q)) (-1) (by decide)).mono fun e w' ⟨he, hw⟩ => ⟨he, hw.symm⟩
  have hC2 : ∀ q, Calls Tryz.prog 23 #[pv p, .int .i64 (cs.length : Int)] ((w.alloc (.cells #[.int .i64 (V : Int), .slice Ac cs.length cc] 26)).drewN q) (fun e w' => e = Ending.returned (.slice none 0 0) ∧ w' = ((w.alloc (.cells #[.int .i64 (V : Int), .slice Ac cs.length cc] 26)).drewN q)) := fun q => (Clause_over (h.over (hq q)) cs.length (Nat.le_refl _)).mono fun e w' ⟨he, hw⟩ => ⟨he, hw.symm⟩
  have x1 := heap_alloc_new w (.cells #[.int .i64 (V : Int), .slice Ac cs.length cc] 26)
  have hCl := fun (W : World) (hb : Below w.heap.size w W) (i : Nat) (hi : i < cs.length) => (show Calls Tryz.prog 23 #[pv p, .int .i64 (i : Int)] W (OV W.heap.size W (cs.getD i [])) from getD_get cs i hi ▸ Clause_t (h.over hb) i hi)
  have hc := h.hc
  have hn := h.hn
  obtain ⟨nc, hnc⟩ : ∃ nc, cs.length = nc := ⟨_, rfl⟩
  rw [hnc] at hbw1 hq x1 hn ⊢
  simp only [hnc] at hVq hLq hC1 hC2
  obtain ⟨W1, hW1⟩ : ∃ W1, w.alloc (.cells #[.int .i64 (V : Int), .slice Ac nc cc] 26) = W1 := ⟨_, rfl⟩
  have c0 : (w.alloc (.cells #[.int .i64 (V : Int), .slice Ac nc cc] 26)).cell? ⟨w.heap.size, 0, none⟩ = some (.int .i64 (V : Int)) := by rw [Lib.cell_of_heap x1]; rfl
  have c1 : (w.alloc (.cells #[.int .i64 (V : Int), .slice Ac nc cc] 26)).cell? ⟨w.heap.size, 1, none⟩ = some (.slice Ac nc cc) := by rw [Lib.cell_of_heap x1]; rfl
  replace c0 := Lib.hid c0
  replace c1 := Lib.hid c1
  replace hVq := Lib.hid hVq
  replace hLq := Lib.hid hLq
  replace hC1 := Lib.hid hC1
  replace hC2 := Lib.hid hC2
  replace hCl := Lib.hid hCl
  replace hL := Lib.hid hL
  replace hc := Lib.hid hc
  replace hn := Lib.hid hn
  replace hW1 := Lib.hid hW1
  replace hnc := Lib.hid hnc
  replace x1 := Lib.hid x1
  clear h
  go_enter Tryz.func9, Tryz.ntmps9
  go_wp2_with fail
  rw [hW1.out] at c0 c1 hVq hLq hC1 hC2 hq hbw1 ⊢
  replace c0 := c0.out
  replace c1 := c1.out
  go_quiet ((first | (go_at_call 16; (with_reducible refine (hVq.out _).mono ?_); exact (fun e w1 ⟨he, hw1⟩ => ⟨he, _, hw1⟩)) | (go_at_call 12; (with_reducible refine (hLq.out _).mono ?_); exact (fun e w1 ⟨he, hw1⟩ => ⟨he, _, hw1⟩)) | (go_at_call 23; (with_reducible first | refine (hC1.out _).mono ?_ | refine (hC2.out _).mono ?_); exact (fun e w1 ⟨he, hw1⟩ => ⟨he, _, hw1⟩))))
  go_wp2_with fail
  have hn2 : nc ≤ 9000000000000000000 := by have := hn.out; omega
  go_loopw [37] (fun i wr => ∃ k : Nat, k ≤ nc ∧ i = .int .i64 (k : Int) ∧ Below w.heap.size w wr) (fun i _ => nc - (intOf i).toNat)
  case atStart => exact ⟨0, Nat.zero_le _, rfl, hq _⟩
  case round =>
    obtain ⟨k, hk, rfl, hbw⟩ := hrel
    clear c0 c1 hq
    by_cases hlt : k < nc
    · have hkl : k < cs.length := by rw [hnc.out]; exact hlt
      obtain ⟨b, off, A', c', rfl, hv, hR⟩ := (hL.out.keep (Keep.of_below hbw)).at k hkl
      have hK := hCl.out wr hbw k hkl
      have hl1 : (cs.getD k []).length ≤ 1000 := by rw [← getD_get cs k hkl]; exact hc.out _ (List.getElem_mem hkl)
      obtain ⟨l, hl⟩ : ∃ l, cs.getD k [] = l := ⟨_, rfl⟩
      rw [hl] at hv hR hK hl1
      have hI := fun (B : Option Addr) (c2 : Nat) (W : World) (hb : Below wr.heap.size wr W) (hB : RL W B l) => ints_t B A' c2 c' l W hB (hR.over hb) (by omega)
      obtain ⟨m, hm⟩ : ∃ m, l.length = m := ⟨_, rfl⟩
      simp only [hm] at hI
      rw [hm] at hv
      replace hK := Lib.hid hK
      replace hI := Lib.hid hI
      clear hR hl1 hl hkl
      have hzb := hbw.size
      go_wp2_with fail
      (with_reducible refine hK.out.mono ?_)
      rintro e w5 ⟨v5, rfl, ho5, hb5⟩
      obtain ⟨A5, c5, rfl, hR5⟩ := own_RL ho5
      have hI5 := Lib.hid (hI.out A5 c5 w5 hb5 hR5)
      rw [hm]
      have hbw5 : Below w.heap.size w w5 := below_call hb5 hbw hzb
      clear hK hI ho5 hR5 hb5 hbw hm
      go_wp2_with fail
      (with_reducible refine hI5.out.mono ?_)
      rintro e w6 ⟨rfl, hb6⟩
      have hbw6 : Below w.heap.size w w6 := below_call hb6 hbw5 hbw5.size
      clear hI5 hb6 hbw5
      go_wp2_with fail
      go_roundw
      case rel => exact ⟨k + 1, by omega, by go_num, hbw6⟩
      case measure => simp [intOf]; omega
    · obtain rfl : k = nc := by omega
      go_wp2_with fail
      go_ret
      exact ⟨rfl, hbw⟩
end Go.Proofs.YtikngnbnodaflaaGreatDoor
