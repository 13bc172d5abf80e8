/-
  Add's ways that add a clause.
-/
import Derived.Test.YtembgefbmecdbaaKl
import Derived.Test.YtembgefbmecdbaaKm
namespace Go.Proofs.Ytembgefbmecdbaa
open Go.RowKit Go.Lib Go.Sort
section
variable {base : Nat} {w : World} {p V : Nat} {cs : List (List Int)} {vl ve : Value}
set_option maxRecDepth 100000 in
set_option maxHeartbeats 3200000 in
theorem Add_empty (h : CF base w p V cs vl ve) (A : Option Addr) (c : Nat) (l : List Int) (hA : RL w A l) (hl : l.length ≤ 1000000000) (hany : l.any (fgn V) = false) (hnc2 : cs.length < 200000) (hlen : l.length ≤ 1000) (hop : opB l = false) (hem : (canon l).length = 0) :
    Calls Try.prog 8 #[pv p, .slice A l.length c] w (CW base p V (addF V cs l).2 vl ve w (.int .i64 (addF V cs l).1)) := by
  have hres : addF V cs l = (0, cs ++ [canon l]) := by unfold addF; rw [if_neg (by rw [hany]; decide), if_neg (by omega), if_neg (by rw [hop]; decide)]
  rw [hres]
  obtain ⟨i0, hi, hz0, hz1, hz2⟩ := info_parts info_int
  obtain ⟨Al, Nl, cl, rfl⟩ : ∃ Al Nl cl, vl = .slice Al Nl cl := by
    obtain ⟨A, c, e⟩ := own_len h.lits
    exact ⟨A, _, c, e⟩
  have hn := h.hn
  have hV := h.hV
  have hVt := Vars_t h
  obtain ⟨Ae, ce, hve⟩ := own_len h.ends
  have hF := contF_t l c A V w.heap.size (w.alloc (.cells #[.int .i64 (V : Int)] 3)) hV (by omega) (hA.over ((Below.refl _ w).alloc (Nat.le_refl _) _)) (by simp) (by simp)
  have hdl : (canon l).length ≤ 1000 := Nat.le_trans (canon_le l) hlen
  rw [hany] at hF
  obtain ⟨n, hnl⟩ : ∃ n, l.length = n := ⟨_, rfl⟩
  rw [hnl] at hF hlen hl ⊢
  replace hVt := Lib.hid hVt
  replace hF := Lib.hid hF
  go_enter Try.func8, Try.ntmps8
  go_wp2_with fail
  (with_reducible refine hVt.out.mono ?_)
  rintro e w1 ⟨rfl, rfl⟩
  go_wp2_with fail
  (with_reducible refine hF.out.mono ?_)
  rintro e w2 ⟨rfl, hb2⟩
  have hbw2 : Below w.heap.size w w2 := below_call hb2 (by go_grown) (by simp)
  have z2 := hbw2.size
  clear hb2
  replace hdl := Lib.hid hdl
  have h2 := h.over hbw2
  have c2 := h2.c2
  rw [hve] at c2
  obtain ⟨nc, hnc⟩ : ∃ nc, cs.length = nc := ⟨_, rfl⟩
  rw [hnc] at c2 hn hnc2
  have d1 : decide ((200000 : Int) ≤ (nc : Int)) = false := by rw [decide_eq_false_iff_not]; omega
  have d2 : decide ((1000 : Int) < (n : Int)) = false := by rw [decide_eq_false_iff_not]; omega
  have hC := Lib.hid (Clone_s A c l w2 (hA.over hbw2) (by omega))
  rw [hnl] at hC
  replace h := Lib.hid h
  replace h2 := Lib.hid h2
  replace hn := Lib.hid hn
  replace hnc2 := Lib.hid hnc2
  replace hlen := Lib.hid hlen
  have hl2 := Lib.hid hl
  clear hl
  go_wp2_with fail
  (with_reducible refine hC.out.mono ?_)
  rintro e w3 ⟨v3, rfl, own3, hb3⟩
  have hS := Lib.hid (Sort_s w2.heap.size v3 l w3 own3 (by have := hl2.out; omega) hb3.size)
  have z3 := hb3.size
  clear hC own3
  go_wp2_with fail
  (with_reducible refine hS.out.mono ?_)
  rintro e w4 ⟨rfl, own4, hb4⟩
  have z4 : w2.heap.size ≤ w4.heap.size := Nat.le_trans z3 hb4.size
  have hK := Lib.hid (Compact_s w2.heap.size v3 (srt l) w4 own4 (by rw [srt_len]; have := hl2.out; omega) z4)
  clear hS own4
  go_wp2_with fail
  (with_reducible refine hK.out.mono ?_)
  rintro e w5 ⟨v5, rfl, own5, hb5⟩
  change w5.ownsRow w2.heap.size 3 1 v5 (canon l).length (iv (canon l)) at own5
  obtain ⟨A5, c5, rfl, hR5⟩ := own_RL own5
  have hbw5 : Below w.heap.size w w5 := hbw2.trans (((hb3.trans hb4).trans hb5).mono z2)
  have hO := hasOpp_t A5 c5 (canon l) w5 hR5 (Nat.le_trans (canon_le l) (by have := hl2.out; omega)) (fun x hx => fgn_dom hV hany x ((canon_mem l x).1 hx))
  rw [opp_canon l (fgn_dom hV hany), hop] at hO
  obtain ⟨m, hm⟩ : ∃ m, (canon l).length = m := ⟨_, rfl⟩
  rw [hm] at hO own5 ⊢
  replace hO := Lib.hid hO
  replace own5 := Lib.hid own5
  have z5 := hbw5.size
  clear hK hb3 hb4 hb5
  go_wp2_with fail
  (with_reducible refine hO.out.mono ?_)
  rintro e w6 ⟨rfl, hb6⟩
  have hR6 := hR5.over hb6
  have hbw6 : Below w.heap.size w w6 := below_call hb6 hbw5 z5
  have h6 := h.out.over hbw6
  have c61 := h6.c1
  have fz := h6.fz
  have lt6 := h6.lt
  have hfl := h6.fl
  obtain ⟨N, hN⟩ : ∃ N, cs.flatten.length = N := ⟨_, rfl⟩
  have hln := h6.lits
  obtain ⟨xf, hxf⟩ : ∃ xf, iv cs.flatten = xf := ⟨_, rfl⟩
  rw [hN] at hfl hln
  rw [hxf] at hln
  clear hve c2
  have hb6b : base ≤ w6.heap.size := Nat.le_trans h6.pb (Nat.le_of_lt lt6)
  have hm1 : m ≤ 1000 := by rw [← hm]; exact hdl.out
  replace h6 := Lib.hid h6
  replace hln := Lib.hid hln
  have hnw : (n : Int) = n := rfl
  clear hF hVt hO hop
  have hA0 : A5 = none → c5 = 0 := fun e => by
    subst e
    rcases own5.out.2 with ⟨e, _⟩ | ⟨g, cap, cur, e, _⟩
    · cases e; rfl
    · cases e
  obtain rfl : m = 0 := by omega
  have ha := AS.zero h6.out hbw6
  have hd0 : canon l = [] := List.length_eq_zero_iff.1 hm
  have ha' : AS base w (w6.setCell ⟨p, 1, none⟩ (.slice Al Nl cl)) p V (cs.flatten ++ canon l) cs (.slice Al Nl cl) ve (.slice Al Nl cl) := by rw [hd0, List.append_nil]; exact ha
  clear ha
  replace ha' := Lib.hid ha'
  go_wp2_with (at_builtin; refine wpList_append_zero rfl _ _ 23 rfl base 3 i0 (.int .i64 0) Try.underlying23 hi hz0 hz1 (.slice Al Nl cl) N xf rfl hln.out A5 c5 hA0 rfl ?_)
  clear c61 fz hln
  obtain ⟨lv, hlv⟩ : ∃ lv, Value.slice Al Nl cl = lv := ⟨_, rfl⟩
  obtain ⟨W, hW⟩ : ∃ W, w6.setCell ⟨p, 1, none⟩ (Value.slice Al Nl cl) = W := ⟨_, rfl⟩
  rw [hW] at ha' ⊢
  have ha2 : Hid (AS base w W p V (cs.flatten ++ canon l) cs (.slice Al Nl cl) ve lv) := hlv ▸ ha'
  clear hW ha' hlv
  have fzW := Lib.frozen_of_heap ha2.out.blk
  have cW1 : W.cell? ⟨p, 1, none⟩ = some lv := by rw [Lib.cell_of_heap ha2.out.blk]; rfl
  have cW2 : W.cell? ⟨p, 2, none⟩ = some ve := by rw [Lib.cell_of_heap ha2.out.blk]; rfl
  have ltW := lt_of_get ha2.out.blk
  have hneW : ve.ownBlock ≠ some p := Lib.ownBlock_ne ha2.out.ends ha2.out.blk (by decide)
  have hbW : base ≤ W.heap.size := Nat.le_trans ha2.out.pb (Nat.le_of_lt ltW)
  obtain ⟨A8, c8, hlv⟩ := own_len ha2.out.lits
  obtain ⟨F, hFe⟩ : ∃ F, (cs.flatten ++ canon l).length = F := ⟨_, rfl⟩
  rw [hFe] at hlv
  have hF2 := Lib.hid (show F ≤ N + 1000 by rw [← hFe, List.length_append, hN, hm]; omega)
  have hS0 : W.drew.cell? ⟨p, 1, none⟩ = some lv ∧ W.drew.cell? ⟨p, 2, none⟩ = some ve := ⟨cW1, cW2⟩
  rw [hlv] at hS0
  replace hneW := Lib.hid hneW
  refine region_anyT (n := 14) (S := fun w' => w'.cell? ⟨p, 1, none⟩ = some (.slice A8 F c8) ∧ w'.cell? ⟨p, 2, none⟩ = some ve) (by kernel_rfl) ?_
  refine anyT_take (i := 0) (v := pv p) rfl (by kernel_rfl) (by kernel_rfl) (fun _ _ _ h => h) (Or.inl ⟨by rfl, ?_⟩) hS0 ?_
  · intro w' hw'
    obtain ⟨k1, k2⟩ := hw'
    go_simp
    try with_reducible rfl
  try simp only [Act.put, List.getElem_toArray, List.getElem_cons_zero, List.setIfInBounds_toArray, List.set_cons_zero, List.set_cons_succ]
  refine anyT_take (i := 1) (v := pv p) rfl (by kernel_rfl) (by kernel_rfl) (fun _ _ _ h => h) (Or.inl ⟨by rfl, ?_⟩) hS0 ?_
  · intro w' hw'
    obtain ⟨k1, k2⟩ := hw'
    go_simp
    try with_reducible rfl
  try simp only [Act.put, List.getElem_toArray, List.getElem_cons_zero, List.getElem_cons_succ, List.setIfInBounds_toArray, List.set_cons_zero, List.set_cons_succ]
  refine anyT_take (i := 2) (v := pv p) rfl (by kernel_rfl) (by kernel_rfl) (fun _ _ _ h => h) (Or.inl ⟨by rfl, ?_⟩) hS0 ?_
  · intro w' hw'
    obtain ⟨k1, k2⟩ := hw'
    go_simp
    try with_reducible rfl
  try simp only [Act.put, List.getElem_toArray, List.getElem_cons_zero, List.getElem_cons_succ, List.setIfInBounds_toArray, List.set_cons_zero, List.set_cons_succ]
  refine anyT_take (i := 3) (v := .pointer (some ⟨p, 2, none⟩)) rfl (by kernel_rfl) (by kernel_rfl) (fun _ _ _ h => h) (Or.inl ⟨by rfl, ?_⟩) hS0 ?_
  · intro w' hw'
    obtain ⟨k1, k2⟩ := hw'
    go_simp
    try with_reducible rfl
  try simp only [Act.put, List.getElem_toArray, List.getElem_cons_zero, List.getElem_cons_succ, List.setIfInBounds_toArray, List.set_cons_zero, List.set_cons_succ]
  refine anyT_take (i := 4) (v := ve) rfl (by kernel_rfl) (by kernel_rfl) (fun _ _ _ h => h) (Or.inl ⟨by rfl, ?_⟩) hS0 ?_
  · intro w' hw'
    obtain ⟨k1, k2⟩ := hw'
    go_simp
    try with_reducible rfl
  try simp only [Act.put, List.getElem_toArray, List.getElem_cons_zero, List.getElem_cons_succ, List.setIfInBounds_toArray, List.set_cons_zero, List.set_cons_succ]
  refine anyT_take (i := 5) (v := pv p) rfl (by kernel_rfl) (by kernel_rfl) (fun _ _ _ h => h) (Or.inl ⟨by rfl, ?_⟩) hS0 ?_
  · intro w' hw'
    obtain ⟨k1, k2⟩ := hw'
    go_simp
    try with_reducible rfl
  try simp only [Act.put, List.getElem_toArray, List.getElem_cons_zero, List.getElem_cons_succ, List.setIfInBounds_toArray, List.set_cons_zero, List.set_cons_succ]
  refine anyT_take (i := 6) (v := pv p) rfl (by kernel_rfl) (by kernel_rfl) (fun _ _ _ h => h) (Or.inl ⟨by rfl, ?_⟩) hS0 ?_
  · intro w' hw'
    obtain ⟨k1, k2⟩ := hw'
    go_simp
    try with_reducible rfl
  try simp only [Act.put, List.getElem_toArray, List.getElem_cons_zero, List.getElem_cons_succ, List.setIfInBounds_toArray, List.set_cons_zero, List.set_cons_succ]
  refine anyT_take (i := 7) (v := .pointer (some ⟨p, 1, none⟩)) rfl (by kernel_rfl) (by kernel_rfl) (fun _ _ _ h => h) (Or.inl ⟨by rfl, ?_⟩) hS0 ?_
  · intro w' hw'
    obtain ⟨k1, k2⟩ := hw'
    go_simp
    try with_reducible rfl
  try simp only [Act.put, List.getElem_toArray, List.getElem_cons_zero, List.getElem_cons_succ, List.setIfInBounds_toArray, List.set_cons_zero, List.set_cons_succ]
  refine anyT_take (i := 8) (v := .slice A8 F c8) rfl (by kernel_rfl) (by kernel_rfl) (fun _ _ _ h => h) (Or.inl ⟨by rfl, ?_⟩) hS0 ?_
  · intro w' hw'
    obtain ⟨k1, k2⟩ := hw'
    go_simp
    try with_reducible rfl
  try simp only [Act.put, List.getElem_toArray, List.getElem_cons_zero, List.getElem_cons_succ, List.setIfInBounds_toArray, List.set_cons_zero, List.set_cons_succ]
  refine anyT_take (i := 9) (v := .int .i64 (F : Int)) rfl (by kernel_rfl) (by kernel_rfl) (fun _ _ _ h => h) (Or.inl ⟨by rfl, ?_⟩) hS0 ?_
  · intro w' hw'
    obtain ⟨k1, k2⟩ := hw'
    go_simp
    try with_reducible rfl
  try simp only [Act.put, List.getElem_toArray, List.getElem_cons_zero, List.getElem_cons_succ, List.setIfInBounds_toArray, List.set_cons_zero, List.set_cons_succ]
  refine anyT_one (i := 10) (by kernel_rfl) ?_
  refine wpOp_step rfl (fun K hK => ?_)
  replace hK := Lib.hid hK
  go_simp
  refine hK.out _ _ ⟨fun _ => ⟨?_, ?_⟩, ?_⟩
  · exact ((Lib.cell_of_heap ((Lib.alloc_old W _ p ltW).trans ha2.out.blk) 1).trans (show ((#[.int .i64 (V : Int), lv, ve] : Array Value)[1]? = some (.slice A8 F c8)) by rw [hlv]; rfl) : (W.alloc _).cell? ⟨p, 1, none⟩ = _)
  · exact ((Lib.cell_of_heap ((Lib.alloc_old W _ p ltW).trans ha2.out.blk) 2).trans rfl : (W.alloc _).cell? ⟨p, 2, none⟩ = _)
  clear hK K
  try simp only [Act.put]
  refine anyT_one (i := 11) (by kernel_rfl) ?_
  refine wpOp_step rfl (fun K hK => ?_)
  replace hK := Lib.hid hK
  rw [if_pos (by rfl)]
  refine wp_append_lies _ _ _ 23 (by rfl) base 3 i0 (.int .i64 0) 1 8 Try.underlying23 hi hz0 hz1 hz2 rfl (by decide) ve nc (iv (Ytembgefbmecdbaa.ends 0 cs)) (by rfl) (World.ownsRow.alloc (w := W.drew) (hnc ▸ ha2.out.ends) _) ⟨W.heap.size, 0, none⟩ 1 1 [.int .i64 (F : Int)] (by rfl) (by rfl) ?e1 ?e2 (by decide) ?e3 ?e4 ?e5 (W.heap.size + 1) (by simp) ?e6
  case e1 => exact World.news_of_block (heap_alloc_new W.drew _)
  case e2 => intro u hu; simp only [List.mem_singleton] at hu; subst hu; rfl
  case e3 => have := hnc2.out; unfold maxLen; omega
  case e4 => have := hnc2.out; omega
  case e5 => simp; omega
  intro g9 cap9 w9 own9 hgrow9 hat9 _
  have hfin := AS.fin ha2.out hV (by have := hnc2.out; omega) h.out.hc hdl.out h.out.hd (fun x hx => fgn_dom hV hany x ((canon_mem l x).1 hx)) hgrow9 hat9 (by rw [hnc, hFe]; exact own9)
  have hp9 : w9.heap[p]? = some (.cells #[.int .i64 (V : Int), lv, ve] 45 (0, 0)) := (hgrow9.block p (by simp; omega) (fun e => hneW.out e.symm)).trans ((Lib.alloc_old W.drew _ p ltW).trans ha2.out.blk)
  have fz9 := Lib.frozen_of_heap hp9
  have c91 : w9.cell? ⟨p, 1, none⟩ = some (.slice A8 F c8) := by rw [Lib.cell_of_heap hp9, ← hlv]; rfl
  have c92 : w9.cell? ⟨p, 2, none⟩ = some ve := by rw [Lib.cell_of_heap hp9]; rfl
  rw [hnc] at hfin
  replace hfin := Lib.hid hfin
  clear own9 hgrow9 hat9 hp9
  refine hK.out _ _ ⟨fun _ => ⟨c91, c92⟩, ?_⟩
  clear hK K
  try simp only [Act.put]
  refine anyT_one (i := 12) (by kernel_rfl) ?_
  refine wpOp_step rfl (fun K hK => ?_)
  replace hK := Lib.hid hK
  go_simp
  refine hK.out _ _ ⟨fun _ => ⟨c91, c92⟩, ?_⟩
  clear hK K
  try simp only [Act.put]
  refine anyT_one (i := 13) (by kernel_rfl) ?_
  refine wpOp_step rfl (fun K hK => ?_)
  replace hK := Lib.hid hK
  go_simp
  refine hK.out _ _ ⟨fun _ => ⟨c91, c92⟩, ?_⟩
  clear hK K
  try simp only [Act.put]
  refine anyT_one (i := 14) (by kernel_rfl) ?_
  refine wpOp_step rfl (fun K hK => ?_)
  replace hK := Lib.hid hK
  go_simp
  refine hK.out _ _ ⟨fun h => absurd h (by decide), ?_⟩
  clear hK K c91 c92 fz9
  refine anyT_done (by kernel_rfl) ?_ _
  go_wp2_with fail
  go_ret
  exact ⟨rfl, lv, _, hfin.out.1, hfin.out.2.1, hfin.out.2.2⟩
set_option maxRecDepth 100000 in
set_option maxHeartbeats 3200000 in
theorem Add_clause (h : CF base w p V cs vl ve) (A : Option Addr) (c : Nat) (l : List Int) (hA : RL w A l) (hl : l.length ≤ 1000000000) (hany : l.any (fgn V) = false) (hnc2 : cs.length < 200000) (hlen : l.length ≤ 1000) (hop : opB l = false) (hem : (canon l).length ≠ 0) :
    Calls Try.prog 8 #[pv p, .slice A l.length c] w (CW base p V (addF V cs l).2 vl ve w (.int .i64 (addF V cs l).1)) := by
  have hres : addF V cs l = (0, cs ++ [canon l]) := by unfold addF; rw [if_neg (by rw [hany]; decide), if_neg (by omega), if_neg (by rw [hop]; decide)]
  rw [hres]
  obtain ⟨i0, hi, hz0, hz1, hz2⟩ := info_parts info_int
  have hn := h.hn
  have hV := h.hV
  have hVt := Vars_t h
  obtain ⟨Ae, ce, hve⟩ := own_len h.ends
  have hF := contF_t l c A V w.heap.size (w.alloc (.cells #[.int .i64 (V : Int)] 3)) hV (by omega) (hA.over ((Below.refl _ w).alloc (Nat.le_refl _) _)) (by simp) (by simp)
  have hdl : (canon l).length ≤ 1000 := Nat.le_trans (canon_le l) hlen
  rw [hany] at hF
  obtain ⟨n, hnl⟩ : ∃ n, l.length = n := ⟨_, rfl⟩
  rw [hnl] at hF hlen hl ⊢
  replace hVt := Lib.hid hVt
  replace hF := Lib.hid hF
  go_enter Try.func8, Try.ntmps8
  go_wp2_with fail
  (with_reducible refine hVt.out.mono ?_)
  rintro e w1 ⟨rfl, rfl⟩
  go_wp2_with fail
  (with_reducible refine hF.out.mono ?_)
  rintro e w2 ⟨rfl, hb2⟩
  have hbw2 : Below w.heap.size w w2 := below_call hb2 (by go_grown) (by simp)
  have z2 := hbw2.size
  clear hb2
  replace hdl := Lib.hid hdl
  have h2 := h.over hbw2
  have c2 := h2.c2
  rw [hve] at c2
  obtain ⟨nc, hnc⟩ : ∃ nc, cs.length = nc := ⟨_, rfl⟩
  rw [hnc] at c2 hn hnc2
  have d1 : decide ((200000 : Int) ≤ (nc : Int)) = false := by rw [decide_eq_false_iff_not]; omega
  have d2 : decide ((1000 : Int) < (n : Int)) = false := by rw [decide_eq_false_iff_not]; omega
  have hC := Lib.hid (Clone_s A c l w2 (hA.over hbw2) (by omega))
  rw [hnl] at hC
  replace h := Lib.hid h
  replace h2 := Lib.hid h2
  replace hn := Lib.hid hn
  replace hnc2 := Lib.hid hnc2
  replace hlen := Lib.hid hlen
  have hl2 := Lib.hid hl
  clear hl
  go_wp2_with fail
  (with_reducible refine hC.out.mono ?_)
  rintro e w3 ⟨v3, rfl, own3, hb3⟩
  have hS := Lib.hid (Sort_s w2.heap.size v3 l w3 own3 (by have := hl2.out; omega) hb3.size)
  have z3 := hb3.size
  clear hC own3
  go_wp2_with fail
  (with_reducible refine hS.out.mono ?_)
  rintro e w4 ⟨rfl, own4, hb4⟩
  have z4 : w2.heap.size ≤ w4.heap.size := Nat.le_trans z3 hb4.size
  have hK := Lib.hid (Compact_s w2.heap.size v3 (srt l) w4 own4 (by rw [srt_len]; have := hl2.out; omega) z4)
  clear hS own4
  go_wp2_with fail
  (with_reducible refine hK.out.mono ?_)
  rintro e w5 ⟨v5, rfl, own5, hb5⟩
  change w5.ownsRow w2.heap.size 3 1 v5 (canon l).length (iv (canon l)) at own5
  obtain ⟨A5, c5, rfl, hR5⟩ := own_RL own5
  have hbw5 : Below w.heap.size w w5 := hbw2.trans (((hb3.trans hb4).trans hb5).mono z2)
  have hO := hasOpp_t A5 c5 (canon l) w5 hR5 (Nat.le_trans (canon_le l) (by have := hl2.out; omega)) (fun x hx => fgn_dom hV hany x ((canon_mem l x).1 hx))
  rw [opp_canon l (fgn_dom hV hany), hop] at hO
  obtain ⟨m, hm⟩ : ∃ m, (canon l).length = m := ⟨_, rfl⟩
  rw [hm] at hO own5 ⊢
  replace hO := Lib.hid hO
  replace own5 := Lib.hid own5
  have z5 := hbw5.size
  clear hK hb3 hb4 hb5
  go_wp2_with fail
  (with_reducible refine hO.out.mono ?_)
  rintro e w6 ⟨rfl, hb6⟩
  have hR6 := hR5.over hb6
  have hbw6 : Below w.heap.size w w6 := below_call hb6 hbw5 z5
  have h6 := h.out.over hbw6
  have c61 := h6.c1
  have fz := h6.fz
  have lt6 := h6.lt
  have hfl := h6.fl
  obtain ⟨N, hN⟩ : ∃ N, cs.flatten.length = N := ⟨_, rfl⟩
  have hln := h6.lits
  obtain ⟨xf, hxf⟩ : ∃ xf, iv cs.flatten = xf := ⟨_, rfl⟩
  rw [hN] at hfl hln
  rw [hxf] at hln
  clear hve c2
  have hb6b : base ≤ w6.heap.size := Nat.le_trans h6.pb (Nat.le_of_lt lt6)
  have hm1 : m ≤ 1000 := by rw [← hm]; exact hdl.out
  replace h6 := Lib.hid h6
  replace hln := Lib.hid hln
  have hnw : (n : Int) = n := rfl
  clear hF hVt hO hop
  obtain ⟨bd, od, rfl, hbd, hcd⟩ := hR6 (by omega)
  go_wp2_with (at_builtin; refine wpList_append_lies _ rfl _ _ 23 rfl base 3 i0 (.int .i64 0) 1 8 Try.underlying23 hi hz0 hz1 hz2 rfl (by decide) vl N xf rfl hln.out ⟨bd, od, none⟩ m c5 (iv (canon l)) rfl ?c0 ?c1 ?c2 (by omega) ?c3 ?c4 hb6b w6.heap.size rfl ?c6)
  case c0 => rw [iv_len, hm]; omega
  case c1 => exact iv_cells hcd
  case c2 => exact iv_one _
  case c3 => unfold maxLen; omega
  case c4 => omega
  intro g7 cap7 w7 own7 hgrow7 hat7 _
  have ha : AS base w (w7.setCell ⟨p, 1, none⟩ (.slice (some ⟨g7, 0, none⟩) (N + m) cap7)) p V (cs.flatten ++ canon l) cs vl ve (.slice (some ⟨g7, 0, none⟩) (N + m) cap7) := by
    have := AS.more (d := canon l) (g := g7) (cap := cap7) h6.out hbw6 hgrow7 hat7 (by rw [hN, hm, hxf]; exact own7)
    rw [hN, hm] at this
    exact this
  have hp7 : w7.heap[p]? = some (.cells #[.int .i64 (V : Int), vl, ve] 45 (0, 0)) := (hgrow7.block p lt6 (fun e => h6.out.nl e.symm)).trans h6.out.blk
  have fz7 := Lib.frozen_of_heap hp7
  have cp7 : w7.cell? ⟨p, 1, none⟩ = some vl := by rw [Lib.cell_of_heap hp7]; rfl
  replace ha := Lib.hid ha
  clear c61 fz own7 hgrow7 hat7 hln hcd hp7
  go_wp2_with fail
  obtain ⟨lv, hlv⟩ : ∃ lv, Value.slice (some ⟨g7, 0, none⟩) (N + m) cap7 = lv := ⟨_, rfl⟩
  rw [hlv] at ha ⊢
  obtain ⟨W, hW⟩ : ∃ W, w7.setCell ⟨p, 1, none⟩ lv = W := ⟨_, rfl⟩
  rw [hW] at ha ⊢
  have ha2 := ha
  clear hW ha hlv
  clear cp7
  have fzW := Lib.frozen_of_heap ha2.out.blk
  have cW1 : W.cell? ⟨p, 1, none⟩ = some lv := by rw [Lib.cell_of_heap ha2.out.blk]; rfl
  have cW2 : W.cell? ⟨p, 2, none⟩ = some ve := by rw [Lib.cell_of_heap ha2.out.blk]; rfl
  have ltW := lt_of_get ha2.out.blk
  have hneW : ve.ownBlock ≠ some p := Lib.ownBlock_ne ha2.out.ends ha2.out.blk (by decide)
  have hbW : base ≤ W.heap.size := Nat.le_trans ha2.out.pb (Nat.le_of_lt ltW)
  obtain ⟨A8, c8, hlv⟩ := own_len ha2.out.lits
  obtain ⟨F, hFe⟩ : ∃ F, (cs.flatten ++ canon l).length = F := ⟨_, rfl⟩
  rw [hFe] at hlv
  have hF2 := Lib.hid (show F ≤ N + 1000 by rw [← hFe, List.length_append, hN, hm]; omega)
  have hS0 : W.drew.cell? ⟨p, 1, none⟩ = some lv ∧ W.drew.cell? ⟨p, 2, none⟩ = some ve := ⟨cW1, cW2⟩
  rw [hlv] at hS0
  replace hneW := Lib.hid hneW
  refine region_anyT (n := 14) (S := fun w' => w'.cell? ⟨p, 1, none⟩ = some (.slice A8 F c8) ∧ w'.cell? ⟨p, 2, none⟩ = some ve) (by kernel_rfl) ?_
  refine anyT_take (i := 0) (v := pv p) rfl (by kernel_rfl) (by kernel_rfl) (fun _ _ _ h => h) (Or.inl ⟨by rfl, ?_⟩) hS0 ?_
  · intro w' hw'
    obtain ⟨k1, k2⟩ := hw'
    go_simp
    try with_reducible rfl
  try simp only [Act.put, List.getElem_toArray, List.getElem_cons_zero, List.setIfInBounds_toArray, List.set_cons_zero, List.set_cons_succ]
  refine anyT_take (i := 1) (v := pv p) rfl (by kernel_rfl) (by kernel_rfl) (fun _ _ _ h => h) (Or.inl ⟨by rfl, ?_⟩) hS0 ?_
  · intro w' hw'
    obtain ⟨k1, k2⟩ := hw'
    go_simp
    try with_reducible rfl
  try simp only [Act.put, List.getElem_toArray, List.getElem_cons_zero, List.getElem_cons_succ, List.setIfInBounds_toArray, List.set_cons_zero, List.set_cons_succ]
  refine anyT_take (i := 2) (v := pv p) rfl (by kernel_rfl) (by kernel_rfl) (fun _ _ _ h => h) (Or.inl ⟨by rfl, ?_⟩) hS0 ?_
  · intro w' hw'
    obtain ⟨k1, k2⟩ := hw'
    go_simp
    try with_reducible rfl
  try simp only [Act.put, List.getElem_toArray, List.getElem_cons_zero, List.getElem_cons_succ, List.setIfInBounds_toArray, List.set_cons_zero, List.set_cons_succ]
  refine anyT_take (i := 3) (v := .pointer (some ⟨p, 2, none⟩)) rfl (by kernel_rfl) (by kernel_rfl) (fun _ _ _ h => h) (Or.inl ⟨by rfl, ?_⟩) hS0 ?_
  · intro w' hw'
    obtain ⟨k1, k2⟩ := hw'
    go_simp
    try with_reducible rfl
  try simp only [Act.put, List.getElem_toArray, List.getElem_cons_zero, List.getElem_cons_succ, List.setIfInBounds_toArray, List.set_cons_zero, List.set_cons_succ]
  refine anyT_take (i := 4) (v := ve) rfl (by kernel_rfl) (by kernel_rfl) (fun _ _ _ h => h) (Or.inl ⟨by rfl, ?_⟩) hS0 ?_
  · intro w' hw'
    obtain ⟨k1, k2⟩ := hw'
    go_simp
    try with_reducible rfl
  try simp only [Act.put, List.getElem_toArray, List.getElem_cons_zero, List.getElem_cons_succ, List.setIfInBounds_toArray, List.set_cons_zero, List.set_cons_succ]
  refine anyT_take (i := 5) (v := pv p) rfl (by kernel_rfl) (by kernel_rfl) (fun _ _ _ h => h) (Or.inl ⟨by rfl, ?_⟩) hS0 ?_
  · intro w' hw'
    obtain ⟨k1, k2⟩ := hw'
    go_simp
    try with_reducible rfl
  try simp only [Act.put, List.getElem_toArray, List.getElem_cons_zero, List.getElem_cons_succ, List.setIfInBounds_toArray, List.set_cons_zero, List.set_cons_succ]
  refine anyT_take (i := 6) (v := pv p) rfl (by kernel_rfl) (by kernel_rfl) (fun _ _ _ h => h) (Or.inl ⟨by rfl, ?_⟩) hS0 ?_
  · intro w' hw'
    obtain ⟨k1, k2⟩ := hw'
    go_simp
    try with_reducible rfl
  try simp only [Act.put, List.getElem_toArray, List.getElem_cons_zero, List.getElem_cons_succ, List.setIfInBounds_toArray, List.set_cons_zero, List.set_cons_succ]
  refine anyT_take (i := 7) (v := .pointer (some ⟨p, 1, none⟩)) rfl (by kernel_rfl) (by kernel_rfl) (fun _ _ _ h => h) (Or.inl ⟨by rfl, ?_⟩) hS0 ?_
  · intro w' hw'
    obtain ⟨k1, k2⟩ := hw'
    go_simp
    try with_reducible rfl
  try simp only [Act.put, List.getElem_toArray, List.getElem_cons_zero, List.getElem_cons_succ, List.setIfInBounds_toArray, List.set_cons_zero, List.set_cons_succ]
  refine anyT_take (i := 8) (v := .slice A8 F c8) rfl (by kernel_rfl) (by kernel_rfl) (fun _ _ _ h => h) (Or.inl ⟨by rfl, ?_⟩) hS0 ?_
  · intro w' hw'
    obtain ⟨k1, k2⟩ := hw'
    go_simp
    try with_reducible rfl
  try simp only [Act.put, List.getElem_toArray, List.getElem_cons_zero, List.getElem_cons_succ, List.setIfInBounds_toArray, List.set_cons_zero, List.set_cons_succ]
  refine anyT_take (i := 9) (v := .int .i64 (F : Int)) rfl (by kernel_rfl) (by kernel_rfl) (fun _ _ _ h => h) (Or.inl ⟨by rfl, ?_⟩) hS0 ?_
  · intro w' hw'
    obtain ⟨k1, k2⟩ := hw'
    go_simp
    try with_reducible rfl
  try simp only [Act.put, List.getElem_toArray, List.getElem_cons_zero, List.getElem_cons_succ, List.setIfInBounds_toArray, List.set_cons_zero, List.set_cons_succ]
  refine anyT_one (i := 10) (by kernel_rfl) ?_
  refine wpOp_step rfl (fun K hK => ?_)
  replace hK := Lib.hid hK
  go_simp
  refine hK.out _ _ ⟨fun _ => ⟨?_, ?_⟩, ?_⟩
  · exact ((Lib.cell_of_heap ((Lib.alloc_old W _ p ltW).trans ha2.out.blk) 1).trans (show ((#[.int .i64 (V : Int), lv, ve] : Array Value)[1]? = some (.slice A8 F c8)) by rw [hlv]; rfl) : (W.alloc _).cell? ⟨p, 1, none⟩ = _)
  · exact ((Lib.cell_of_heap ((Lib.alloc_old W _ p ltW).trans ha2.out.blk) 2).trans rfl : (W.alloc _).cell? ⟨p, 2, none⟩ = _)
  clear hK K
  try simp only [Act.put]
  refine anyT_one (i := 11) (by kernel_rfl) ?_
  refine wpOp_step rfl (fun K hK => ?_)
  replace hK := Lib.hid hK
  rw [if_pos (by rfl)]
  refine wp_append_lies _ _ _ 23 (by rfl) base 3 i0 (.int .i64 0) 1 8 Try.underlying23 hi hz0 hz1 hz2 rfl (by decide) ve nc (iv (Ytembgefbmecdbaa.ends 0 cs)) (by rfl) (World.ownsRow.alloc (w := W.drew) (hnc ▸ ha2.out.ends) _) ⟨W.heap.size, 0, none⟩ 1 1 [.int .i64 (F : Int)] (by rfl) (by rfl) ?e1 ?e2 (by decide) ?e3 ?e4 ?e5 (W.heap.size + 1) (by simp) ?e6
  case e1 => exact World.news_of_block (heap_alloc_new W.drew _)
  case e2 => intro u hu; simp only [List.mem_singleton] at hu; subst hu; rfl
  case e3 => have := hnc2.out; unfold maxLen; omega
  case e4 => have := hnc2.out; omega
  case e5 => simp; omega
  intro g9 cap9 w9 own9 hgrow9 hat9 _
  have hfin := AS.fin ha2.out hV (by have := hnc2.out; omega) h.out.hc hdl.out h.out.hd (fun x hx => fgn_dom hV hany x ((canon_mem l x).1 hx)) hgrow9 hat9 (by rw [hnc, hFe]; exact own9)
  have hp9 : w9.heap[p]? = some (.cells #[.int .i64 (V : Int), lv, ve] 45 (0, 0)) := (hgrow9.block p (by simp; omega) (fun e => hneW.out e.symm)).trans ((Lib.alloc_old W.drew _ p ltW).trans ha2.out.blk)
  have fz9 := Lib.frozen_of_heap hp9
  have c91 : w9.cell? ⟨p, 1, none⟩ = some (.slice A8 F c8) := by rw [Lib.cell_of_heap hp9, ← hlv]; rfl
  have c92 : w9.cell? ⟨p, 2, none⟩ = some ve := by rw [Lib.cell_of_heap hp9]; rfl
  rw [hnc] at hfin
  replace hfin := Lib.hid hfin
  clear own9 hgrow9 hat9 hp9
  refine hK.out _ _ ⟨fun _ => ⟨c91, c92⟩, ?_⟩
  clear hK K
  try simp only [Act.put]
  refine anyT_one (i := 12) (by kernel_rfl) ?_
  refine wpOp_step rfl (fun K hK => ?_)
  replace hK := Lib.hid hK
  go_simp
  refine hK.out _ _ ⟨fun _ => ⟨c91, c92⟩, ?_⟩
  clear hK K
  try simp only [Act.put]
  refine anyT_one (i := 13) (by kernel_rfl) ?_
  refine wpOp_step rfl (fun K hK => ?_)
  replace hK := Lib.hid hK
  go_simp
  refine hK.out _ _ ⟨fun _ => ⟨c91, c92⟩, ?_⟩
  clear hK K
  try simp only [Act.put]
  refine anyT_one (i := 14) (by kernel_rfl) ?_
  refine wpOp_step rfl (fun K hK => ?_)
  replace hK := Lib.hid hK
  go_simp
  refine hK.out _ _ ⟨fun h => absurd h (by decide), ?_⟩
  clear hK K c91 c92 fz9
  refine anyT_done (by kernel_rfl) ?_ _
  go_wp2_with fail
  go_ret
  exact ⟨rfl, lv, _, hfin.out.1, hfin.out.2.1, hfin.out.2.2⟩
/-- Add. -/
theorem Add_t (h : CF base w p V cs vl ve) (A : Option Addr) (c : Nat) (l : List Int) (hA : RL w A l) (hl : l.length ≤ 1000000000) :
    Calls Try.prog 8 #[pv p, .slice A l.length c] w (CW base p V (addF V cs l).2 vl ve w (.int .i64 (addF V cs l).1)) := by
  cases hany : l.any (fgn V) with
  | true => exact Add_foreign h A c l hA hl hany
  | false =>
    by_cases hlim : 200000 ≤ cs.length ∨ 1000 < l.length
    · exact Add_limit h A c l hA hl hany hlim
    · cases hop : opB l with
      | true => exact Add_opposite h A c l hA hl hany (by omega) (by omega) hop
      | false =>
        by_cases hem : (canon l).length = 0
        · exact Add_empty h A c l hA hl hany (by omega) (by omega) hop hem
        · exact Add_clause h A c l hA hl hany (by omega) (by omega) hop hem
end
end Go.Proofs.Ytembgefbmecdbaa
