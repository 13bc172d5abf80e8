/-
  Clone.
-/
import Derived.Test.YtembgefbmecdbaaKe
import Derived.Test.YtembgefbmecdbaaRt
namespace Go.Proofs.Ytembgefbmecdbaa
open Go.RowKit Go.Lib
/-- A new formula. -/
def NC (w : World) (V : Nat) (cs : List (List Int)) (e : Ending) (w' : World) : Prop := ∃ q vl ve, e = .returned (pv q) ∧ CF w.heap.size w' q V cs vl ve ∧ Below w.heap.size w w'
section
variable {base : Nat} {w : World} {p V : Nat} {cs : List (List Int)} {vl ve : Value}
theorem clone_fin (h : CF base w p V cs vl ve) {w1 w2 : World} {v1 v2 : Value} (hb1 : Below w.heap.size w w1) (hb2 : Below w1.heap.size w1 w2) (h1 : w1.ownsRow w.heap.size 3 1 v1 cs.flatten.length (iv cs.flatten)) (h2 : w2.ownsRow w1.heap.size 3 1 v2 cs.length (iv (Ytembgefbmecdbaa.ends 0 cs))) :
    CF w.heap.size (w2.alloc (.cells #[.int .i64 (V : Int), v1, v2] 45)) w2.heap.size V cs v1 v2 :=
  { blk := heap_alloc_new w2 _, pb := Nat.le_trans hb1.size hb2.size, lits := (own_keep h1 fun b hb => hb2.block b (h1.lt b hb).2).alloc _, ends := (own_mono h2 hb1.size).alloc _,
    apart := fun b hb e => by have := (h1.lt b hb).2; have := (h2.lt b e).1; omega
    hV := h.hV, hn := h.hn, hc := h.hc, hd := h.hd }
theorem Clone_own {n : Nat} {l : List Int} {v : Value} (hl : l.length = n) (h : w.ownsRow base 3 1 v n (iv l)) (hn : n ≤ 1000000000) (W : World) (hb : Below w.heap.size w W) :
    Calls Try.prog 15 #[v] W fun e w' => ∃ v', e = .returned v' ∧ w'.ownsRow W.heap.size 3 1 v' n (iv l) ∧ Below W.heap.size W w' := by
  subst hl
  obtain ⟨A, c, rfl, hR⟩ := own_RL h
  exact Clone_s A c l W (hR.over hb) hn
set_option maxRecDepth 100000 in
set_option maxHeartbeats 3200000 in
theorem Clone_t (h : CF base w p V cs vl ve) : Calls Try.prog 7 #[pv p] w (NC w V cs) := by
  have hC1 := Clone_own rfl h.lits (by have := h.fl; omega)
  have hC2 := Clone_own (ends_len 0 cs) h.ends (by have := h.hn; omega)
  obtain ⟨Al, cl, hvl⟩ := own_len h.lits
  obtain ⟨Ae, ce, hve⟩ := own_len h.ends
  have hS : ∀ W : World, Below w.heap.size w W → W.cell? ⟨p, 0, none⟩ = some (.int .i64 (V : Int)) ∧ W.cell? ⟨p, 1, none⟩ = some vl ∧ W.cell? ⟨p, 2, none⟩ = some ve := fun W hb => ⟨(h.over hb).c0, (h.over hb).c1, (h.over hb).c2⟩
  obtain ⟨N, hN⟩ : ∃ N, cs.flatten.length = N := ⟨_, rfl⟩
  obtain ⟨nc, hnc⟩ : ∃ nc, cs.length = nc := ⟨_, rfl⟩
  rw [hN] at hC1 hvl
  rw [hnc] at hC2 hve
  replace h := Lib.hid h
  rw [hvl] at hC1 hS
  rw [hve] at hC2 hS
  have c0 := (hS w (Below.refl _ _)).1
  have hb0 : Below w.heap.size w w.drew := (Below.refl _ w).drew
  have hS0 := hS w.drew hb0
  obtain ⟨xl, hxl⟩ : ∃ xl, iv cs.flatten = xl := ⟨_, rfl⟩
  obtain ⟨xe, hxe⟩ : ∃ xe, iv (Ytembgefbmecdbaa.ends 0 cs) = xe := ⟨_, rfl⟩
  have hfinx := Lib.hid (show ∀ (w1 w2 : World) (v1 v2 : Value), Below w.heap.size w w1 → Below w1.heap.size w1 w2 → w1.ownsRow w.heap.size 3 1 v1 N xl → w2.ownsRow w1.heap.size 3 1 v2 nc xe → CF w.heap.size (w2.alloc (.cells #[.int .i64 (V : Int), v1, v2] 45)) w2.heap.size V cs v1 v2 from fun _ _ _ _ h1 h2 h3 h4 => clone_fin h.out h1 h2 (by rw [hN, hxl]; exact h3) (by rw [hnc, hxe]; exact h4))
  rw [hxl] at hC1
  rw [hxe] at hC2
  replace hC1 := Lib.hid hC1
  replace hC2 := Lib.hid hC2
  replace hS := Lib.hid hS
  clear hvl hve hN hnc hxl hxe h
  go_enter Try.func7, Try.ntmps7
  go_wp2_with fail
  refine region_anyT (n := 16) (S := fun w' => w'.cell? ⟨p, 0, none⟩ = some (.int .i64 (V : Int)) ∧ w'.cell? ⟨p, 1, none⟩ = some (.slice Al N cl) ∧ w'.cell? ⟨p, 2, none⟩ = some (.slice Ae nc ce)) (by kernel_rfl) ?_
  refine anyT_take (i := 0) (v := pv p) rfl (by kernel_rfl) (by kernel_rfl) (fun _ _ _ h => h) (Or.inl ⟨by rfl, ?_⟩) hS0 ?_
  · intro w' hw'
    obtain ⟨k1, k2, k3⟩ := hw'
    go_simp
    try with_reducible rfl
  try simp only [Act.put, List.getElem_toArray, List.getElem_cons_zero, List.setIfInBounds_toArray, List.set_cons_zero, List.set_cons_succ]
  refine anyT_take (i := 1) (v := pv p) rfl (by kernel_rfl) (by kernel_rfl) (fun _ _ _ h => h) (Or.inl ⟨by rfl, ?_⟩) hS0 ?_
  · intro w' hw'
    obtain ⟨k1, k2, k3⟩ := hw'
    go_simp
    try with_reducible rfl
  try simp only [Act.put, List.getElem_toArray, List.getElem_cons_zero, List.getElem_cons_succ, List.setIfInBounds_toArray, List.set_cons_zero, List.set_cons_succ]
  refine anyT_take (i := 2) (v := pv p) rfl (by kernel_rfl) (by kernel_rfl) (fun _ _ _ h => h) (Or.inl ⟨by rfl, ?_⟩) hS0 ?_
  · intro w' hw'
    obtain ⟨k1, k2, k3⟩ := hw'
    go_simp
    try with_reducible rfl
  try simp only [Act.put, List.getElem_toArray, List.getElem_cons_zero, List.getElem_cons_succ, List.setIfInBounds_toArray, List.set_cons_zero, List.set_cons_succ]
  refine anyT_take (i := 3) (v := .int .i64 (V : Int)) rfl (by kernel_rfl) (by kernel_rfl) (fun _ _ _ h => h) (Or.inl ⟨by rfl, ?_⟩) hS0 ?_
  · intro w' hw'
    obtain ⟨k1, k2, k3⟩ := hw'
    go_simp
    try with_reducible rfl
  try simp only [Act.put, List.getElem_toArray, List.getElem_cons_zero, List.getElem_cons_succ, List.setIfInBounds_toArray, List.set_cons_zero, List.set_cons_succ]
  refine anyT_take (i := 4) (v := pv p) rfl (by kernel_rfl) (by kernel_rfl) (fun _ _ _ h => h) (Or.inl ⟨by rfl, ?_⟩) hS0 ?_
  · intro w' hw'
    obtain ⟨k1, k2, k3⟩ := hw'
    go_simp
    try with_reducible rfl
  try simp only [Act.put, List.getElem_toArray, List.getElem_cons_zero, List.getElem_cons_succ, List.setIfInBounds_toArray, List.set_cons_zero, List.set_cons_succ]
  refine anyT_take (i := 5) (v := pv p) rfl (by kernel_rfl) (by kernel_rfl) (fun _ _ _ h => h) (Or.inl ⟨by rfl, ?_⟩) hS0 ?_
  · intro w' hw'
    obtain ⟨k1, k2, k3⟩ := hw'
    go_simp
    try with_reducible rfl
  try simp only [Act.put, List.getElem_toArray, List.getElem_cons_zero, List.getElem_cons_succ, List.setIfInBounds_toArray, List.set_cons_zero, List.set_cons_succ]
  refine anyT_take (i := 6) (v := .pointer (some ⟨p, 1, none⟩)) rfl (by kernel_rfl) (by kernel_rfl) (fun _ _ _ h => h) (Or.inl ⟨by rfl, ?_⟩) hS0 ?_
  · intro w' hw'
    obtain ⟨k1, k2, k3⟩ := hw'
    go_simp
    try with_reducible rfl
  try simp only [Act.put, List.getElem_toArray, List.getElem_cons_zero, List.getElem_cons_succ, List.setIfInBounds_toArray, List.set_cons_zero, List.set_cons_succ]
  refine anyT_take (i := 7) (v := .slice Al N cl) rfl (by kernel_rfl) (by kernel_rfl) (fun _ _ _ h => h) (Or.inl ⟨by rfl, ?_⟩) hS0 ?_
  · intro w' hw'
    obtain ⟨k1, k2, k3⟩ := hw'
    go_simp
    try with_reducible rfl
  try simp only [Act.put, List.getElem_toArray, List.getElem_cons_zero, List.getElem_cons_succ, List.setIfInBounds_toArray, List.set_cons_zero, List.set_cons_succ]
  refine anyT_take (i := 9) (v := pv p) rfl (by kernel_rfl) (by kernel_rfl) (fun _ _ _ h => h) (Or.inl ⟨by rfl, ?_⟩) hS0 ?_
  · intro w' hw'
    obtain ⟨k1, k2, k3⟩ := hw'
    go_simp
    try with_reducible rfl
  try simp only [Act.put, List.getElem_toArray, List.getElem_cons_zero, List.getElem_cons_succ, List.setIfInBounds_toArray, List.set_cons_zero, List.set_cons_succ]
  refine anyT_take (i := 10) (v := pv p) rfl (by kernel_rfl) (by kernel_rfl) (fun _ _ _ h => h) (Or.inl ⟨by rfl, ?_⟩) hS0 ?_
  · intro w' hw'
    obtain ⟨k1, k2, k3⟩ := hw'
    go_simp
    try with_reducible rfl
  try simp only [Act.put, List.getElem_toArray, List.getElem_cons_zero, List.getElem_cons_succ, List.setIfInBounds_toArray, List.set_cons_zero, List.set_cons_succ]
  refine anyT_take (i := 11) (v := .pointer (some ⟨p, 2, none⟩)) rfl (by kernel_rfl) (by kernel_rfl) (fun _ _ _ h => h) (Or.inl ⟨by rfl, ?_⟩) hS0 ?_
  · intro w' hw'
    obtain ⟨k1, k2, k3⟩ := hw'
    go_simp
    try with_reducible rfl
  try simp only [Act.put, List.getElem_toArray, List.getElem_cons_zero, List.getElem_cons_succ, List.setIfInBounds_toArray, List.set_cons_zero, List.set_cons_succ]
  refine anyT_take (i := 12) (v := .slice Ae nc ce) rfl (by kernel_rfl) (by kernel_rfl) (fun _ _ _ h => h) (Or.inl ⟨by rfl, ?_⟩) hS0 ?_
  · intro w' hw'
    obtain ⟨k1, k2, k3⟩ := hw'
    go_simp
    try with_reducible rfl
  try simp only [Act.put, List.getElem_toArray, List.getElem_cons_zero, List.getElem_cons_succ, List.setIfInBounds_toArray, List.set_cons_zero, List.set_cons_succ]
  refine anyT_one (i := 8) (by kernel_rfl) ?_
  refine wpOp_step rfl (fun K hK => ?_)
  replace hK := Lib.hid hK
  go_simp
  (with_reducible refine (hC1.out _ hb0).mono ?_)
  rintro e w1 ⟨v1, rfl, ho1, hb1⟩
  have hbw1 : Below w.heap.size w w1 := below_call hb1 hb0 (by simp)
  have S1 := hS.out _ hbw1
  refine hK.out _ _ ⟨fun _ => S1, ?_⟩
  clear hK K
  try simp only [Act.put]
  refine anyT_one (i := 13) (by kernel_rfl) ?_
  refine wpOp_step rfl (fun K hK => ?_)
  replace hK := Lib.hid hK
  go_simp
  (with_reducible refine (hC2.out _ hbw1).mono ?_)
  rintro e w2 ⟨v2, rfl, ho2, hb2⟩
  have hbw2 : Below w.heap.size w w2 := below_call hb2 hbw1 hbw1.size
  have S2 := hS.out _ hbw2
  obtain ⟨A1, c1, hv1⟩ := own_len ho1
  obtain ⟨A2, c2, hv2⟩ := own_len ho2
  subst hv1
  subst hv2
  refine hK.out _ _ ⟨fun _ => S2, ?_⟩
  clear hK K
  try simp only [Act.put]
  refine anyT_one (i := 14) (by kernel_rfl) ?_
  refine wpOp_step rfl (fun K hK => ?_)
  replace hK := Lib.hid hK
  go_simp
  refine hK.out _ _ ⟨fun _ => S2, ?_⟩
  clear hK K
  try simp only [Act.put]
  refine anyT_one (i := 15) (by kernel_rfl) ?_
  refine wpOp_step rfl (fun K hK => ?_)
  replace hK := Lib.hid hK
  go_simp
  have S3 := hS.out (w2.alloc (.cells #[.int .i64 (V : Int), .slice A1 N c1, .slice A2 nc c2] 45)) (hbw2.alloc hbw2.size _)
  refine hK.out _ _ ⟨fun _ => S3, ?_⟩
  clear hK K
  try simp only [Act.put]
  refine anyT_one (i := 16) (by kernel_rfl) ?_
  refine wpOp_step rfl (fun K hK => ?_)
  replace hK := Lib.hid hK
  go_simp
  refine hK.out _ _ ⟨fun h => absurd h (by decide), ?_⟩
  clear hK K
  refine anyT_done (by kernel_rfl) ?_ _
  go_wp2_with fail
  go_ret
  have hfin := hfinx.out _ _ _ _ hbw1 hb2 ho1 ho2
  exact ⟨_, _, _, rfl, hfin, hbw2.alloc hbw2.size _⟩
end
end Go.Proofs.Ytembgefbmecdbaa
