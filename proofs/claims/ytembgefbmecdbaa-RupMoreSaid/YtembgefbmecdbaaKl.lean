/-
  Add's ways that add no clause.
-/
import Derived.Test.YtembgefbmecdbaaKj
namespace Go.Proofs.Ytembgefbmecdbaa
open Go.RowKit Go.Lib Go.Sort
section
variable {base : Nat} {w : World} {p V : Nat} {cs : List (List Int)} {vl ve : Value}
set_option maxRecDepth 100000 in
set_option maxHeartbeats 3200000 in
theorem Add_foreign (h : CF base w p V cs vl ve) (A : Option Addr) (c : Nat) (l : List Int) (hA : RL w A l) (hl : l.length ≤ 1000000000) (hany : l.any (fgn V) = true) :
    Calls Try.prog 8 #[pv p, .slice A l.length c] w (CW base p V (addF V cs l).2 vl ve w (.int .i64 (addF V cs l).1)) := by
  have hres : addF V cs l = (3, cs) := by unfold addF; rw [if_pos hany]
  rw [hres]
  have hn := h.hn
  have hV := h.hV
  have hVt := Vars_t h
  obtain ⟨Ae, ce, hve⟩ := own_len h.ends
  have hF := contF_t l c A V w.heap.size (w.alloc (.cells #[.int .i64 (V : Int)] 3)) hV (by omega) (hA.over ((Below.refl _ w).alloc (Nat.le_refl _) _)) (by simp) (by simp)
  have hlen : l.length = l.length := rfl
  rw [hany] at hF
  obtain ⟨n, hnl⟩ : ∃ n, l.length = n := ⟨_, rfl⟩
  rw [hnl] at hF hlen hl ⊢
  replace hVt := Lib.hid hVt
  replace hF := Lib.hid hF
  go_enter Try.func8, Try.ntmps8
  go_wp2_with fail
  (with_reducible refine hVt.out.mono ?_)
  rintro e w1 ⟨rfl, rfl⟩
  go_wp2_with fail
  (with_reducible refine hF.out.mono ?_)
  rintro e w2 ⟨rfl, hb2⟩
  have hbw2 : Below w.heap.size w w2 := below_call hb2 (by go_grown) (by simp)
  have z2 := hbw2.size
  clear hb2
  go_wp2_with fail
  go_ret
  exact ⟨rfl, vl, ve, h.over hbw2, Keep.of_below hbw2, fun b hb => Or.inl hb⟩
set_option maxRecDepth 100000 in
set_option maxHeartbeats 3200000 in
theorem Add_limit (h : CF base w p V cs vl ve) (A : Option Addr) (c : Nat) (l : List Int) (hA : RL w A l) (hl : l.length ≤ 1000000000) (hany : l.any (fgn V) = false) (hlim : 200000 ≤ cs.length ∨ 1000 < l.length) :
    Calls Try.prog 8 #[pv p, .slice A l.length c] w (CW base p V (addF V cs l).2 vl ve w (.int .i64 (addF V cs l).1)) := by
  have hres : addF V cs l = (19, cs) := by unfold addF; rw [if_neg (by rw [hany]; decide), if_pos hlim]
  rw [hres]
  have hn := h.hn
  have hV := h.hV
  have hVt := Vars_t h
  obtain ⟨Ae, ce, hve⟩ := own_len h.ends
  have hF := contF_t l c A V w.heap.size (w.alloc (.cells #[.int .i64 (V : Int)] 3)) hV (by omega) (hA.over ((Below.refl _ w).alloc (Nat.le_refl _) _)) (by simp) (by simp)
  have hlen := hlim
  rw [hany] at hF
  obtain ⟨n, hnl⟩ : ∃ n, l.length = n := ⟨_, rfl⟩
  rw [hnl] at hF hlen hl ⊢
  replace hVt := Lib.hid hVt
  replace hF := Lib.hid hF
  go_enter Try.func8, Try.ntmps8
  go_wp2_with fail
  (with_reducible refine hVt.out.mono ?_)
  rintro e w1 ⟨rfl, rfl⟩
  go_wp2_with fail
  (with_reducible refine hF.out.mono ?_)
  rintro e w2 ⟨rfl, hb2⟩
  have hbw2 : Below w.heap.size w w2 := below_call hb2 (by go_grown) (by simp)
  have z2 := hbw2.size
  clear hb2
  have h2 := h.over hbw2
  have c2 := h2.c2
  rw [hve] at c2
  obtain ⟨nc, hnc⟩ : ∃ nc, cs.length = nc := ⟨_, rfl⟩
  rw [hnc] at c2 hlen hn
  replace h := Lib.hid h
  replace h2 := Lib.hid h2
  by_cases hq : 200000 ≤ nc
  · have d1 : (200000 : Int) ≤ (nc : Int) := by omega
    clear hlen
    replace hn := Lib.hid hn
    replace hq := Lib.hid hq
    go_wp2_with fail
    go_ret
    exact ⟨rfl, vl, ve, h2.out, Keep.of_below hbw2, fun b hb => Or.inl hb⟩
  · have d1 : ¬ (200000 : Int) ≤ (nc : Int) := by omega
    have d2 : (1000 : Int) < (n : Int) := by omega
    clear hlen
    replace hn := Lib.hid hn
    replace hq := Lib.hid hq
    go_wp2_with fail
    go_ret
    exact ⟨rfl, vl, ve, h2.out, Keep.of_below hbw2, fun b hb => Or.inl hb⟩
set_option maxRecDepth 100000 in
set_option maxHeartbeats 3200000 in
theorem Add_opposite (h : CF base w p V cs vl ve) (A : Option Addr) (c : Nat) (l : List Int) (hA : RL w A l) (hl : l.length ≤ 1000000000) (hany : l.any (fgn V) = false) (hnc2 : cs.length < 200000) (hlen : l.length ≤ 1000) (hop : opB l = true) :
    Calls Try.prog 8 #[pv p, .slice A l.length c] w (CW base p V (addF V cs l).2 vl ve w (.int .i64 (addF V cs l).1)) := by
  have hres : addF V cs l = (0, cs) := by unfold addF; rw [if_neg (by rw [hany]; decide), if_neg (by omega), if_pos hop]
  rw [hres]
  have hn := h.hn
  have hV := h.hV
  have hVt := Vars_t h
  obtain ⟨Ae, ce, hve⟩ := own_len h.ends
  have hF := contF_t l c A V w.heap.size (w.alloc (.cells #[.int .i64 (V : Int)] 3)) hV (by omega) (hA.over ((Below.refl _ w).alloc (Nat.le_refl _) _)) (by simp) (by simp)
  rw [hany] at hF
  obtain ⟨n, hnl⟩ : ∃ n, l.length = n := ⟨_, rfl⟩
  rw [hnl] at hF hlen hl ⊢
  replace hVt := Lib.hid hVt
  replace hF := Lib.hid hF
  go_enter Try.func8, Try.ntmps8
  go_wp2_with fail
  (with_reducible refine hVt.out.mono ?_)
  rintro e w1 ⟨rfl, rfl⟩
  go_wp2_with fail
  (with_reducible refine hF.out.mono ?_)
  rintro e w2 ⟨rfl, hb2⟩
  have hbw2 : Below w.heap.size w w2 := below_call hb2 (by go_grown) (by simp)
  have z2 := hbw2.size
  clear hb2
  have h2 := h.over hbw2
  have c2 := h2.c2
  rw [hve] at c2
  obtain ⟨nc, hnc⟩ : ∃ nc, cs.length = nc := ⟨_, rfl⟩
  rw [hnc] at c2 hn hnc2
  have d1 : decide ((200000 : Int) ≤ (nc : Int)) = false := by rw [decide_eq_false_iff_not]; omega
  have d2 : decide ((1000 : Int) < (n : Int)) = false := by rw [decide_eq_false_iff_not]; omega
  have hC := Lib.hid (Clone_s A c l w2 (hA.over hbw2) (by omega))
  rw [hnl] at hC
  replace h := Lib.hid h
  replace h2 := Lib.hid h2
  replace hn := Lib.hid hn
  replace hnc2 := Lib.hid hnc2
  replace hlen := Lib.hid hlen
  have hl2 := Lib.hid hl
  clear hl
  go_wp2_with fail
  (with_reducible refine hC.out.mono ?_)
  rintro e w3 ⟨v3, rfl, own3, hb3⟩
  have hS := Lib.hid (Sort_s w2.heap.size v3 l w3 own3 (by have := hl2.out; omega) hb3.size)
  have z3 := hb3.size
  clear hC own3
  go_wp2_with fail
  (with_reducible refine hS.out.mono ?_)
  rintro e w4 ⟨rfl, own4, hb4⟩
  have z4 : w2.heap.size ≤ w4.heap.size := Nat.le_trans z3 hb4.size
  have hK := Lib.hid (Compact_s w2.heap.size v3 (srt l) w4 own4 (by rw [srt_len]; have := hl2.out; omega) z4)
  clear hS own4
  go_wp2_with fail
  (with_reducible refine hK.out.mono ?_)
  rintro e w5 ⟨v5, rfl, own5, hb5⟩
  change w5.ownsRow w2.heap.size 3 1 v5 (canon l).length (iv (canon l)) at own5
  obtain ⟨A5, c5, rfl, hR5⟩ := own_RL own5
  have hbw5 : Below w.heap.size w w5 := hbw2.trans (((hb3.trans hb4).trans hb5).mono z2)
  have hO := hasOpp_t A5 c5 (canon l) w5 hR5 (Nat.le_trans (canon_le l) (by have := hl2.out; omega)) (fun x hx => fgn_dom hV hany x ((canon_mem l x).1 hx))
  rw [opp_canon l (fgn_dom hV hany), hop] at hO
  obtain ⟨m, hm⟩ : ∃ m, (canon l).length = m := ⟨_, rfl⟩
  rw [hm] at hO own5 ⊢
  replace hO := Lib.hid hO
  replace own5 := Lib.hid own5
  have z5 := hbw5.size
  clear hK hb3 hb4 hb5
  go_wp2_with fail
  (with_reducible refine hO.out.mono ?_)
  rintro e w6 ⟨rfl, hb6⟩
  have hR6 := hR5.over hb6
  have hbw6 : Below w.heap.size w w6 := below_call hb6 hbw5 z5
  go_wp2_with fail
  go_ret
  exact ⟨rfl, vl, ve, h.out.over hbw6, Keep.of_below hbw6, fun b hb => Or.inl hb⟩
end
end Go.Proofs.Ytembgefbmecdbaa
