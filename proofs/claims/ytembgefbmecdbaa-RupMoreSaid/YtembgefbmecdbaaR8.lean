/-
  watch.
-/
import Derived.Test.YtembgefbmecdbaaR7
namespace Go.Proofs.Ytembgefbmecdbaa
open Go.RowKit Go.Lib
section
variable {B p : Nat} {k : PB} {s : PS} {W : Int → List Nat} {K : List (List Int)} {C : Nat → CAt}
set_option maxRecDepth 100000 in
set_option maxHeartbeats 3200000 in
theorem watch_t (w : World) (hp : PIx B w p k s) (hl : LM B w k s W K C) (x : Int) (h0 : -(s.V : Int) ≤ x) (h1 : x ≤ s.V) (i : Nat) (c : List Int) (hi : K[i]? = some c) (hw : (W x).length < 100000) (hB : B ≤ w.heap.size) :
    Calls Try.prog 43 #[pp p, iz x, hdr (C i)] w fun e w' => e = .returned (.tuple #[]) ∧ (∃ v, PIx B w' p k { s with hd := updF s.hd x v } ∧ LM B w' k { s with hd := updF s.hd x v } (updF W x (W x ++ [i])) K C) ∧ Below B w w' := by
  obtain ⟨i0, hii, hz0, hz1, hz2⟩ := info_parts info_row
  have hP := place_t w hp x h0 h1
  have hx := hl.li x h0 h1
  have b2 : w.cell? ⟨p, 2, none⟩ = some (sl k.wb (2 * s.V + 1)) := hp.blk.c 2
  have bl := lt_of_get hp.blk
  have c0 : w.cell? ⟨k.wb, (x + s.V).toNat, none⟩ = some (s.hd x) := (hp.wab.c _).trans (vcs_get h0 h1)
  have cl := lt_of_get hp.wab
  have cf := hp.wab.fz (x + s.V).toNat
  have hV := hp.hV
  obtain ⟨A, cc, ev⟩ := own_shape' hx
  rw [ev] at c0
  have hal : (w.drew.alloc (.cells #[hdr (C i)] 23)).ownsRow B 23 1 (.slice A (W x).length cc) (W x).length ((W x).map fun i => hdr (C i)) := by
    have := own_keep hx fun b e => (((Below.refl w.heap.size w).drew).alloc (Nat.le_refl _) (.cells #[hdr (C i)] 23)).block b (own_ltT hx b e).2
    rw [← ev]; exact this
  have hnw : ∀ j u, [hdr (C i)][j]? = some u → (w.drew.alloc (.cells #[hdr (C i)] 23)).cell? ((⟨w.heap.size, 0, none⟩ : Addr).add j) = some u := World.news_of_block (heap_alloc_new w.drew (.cells #[hdr (C i)] 23))
  have hone : ∀ u ∈ [hdr (C i)], u.oneCell' = true := by simp [Value.oneCell']
  have hsz : (w.drew.alloc (.cells #[hdr (C i)] 23)).heap.size = w.heap.size + 1 := by simp
  have hBB : B ≤ (w.drew.alloc (.cells #[hdr (C i)] 23)).heap.size := by rw [hsz]; omega
  have hfin := fun w6 g cap => watched (w6 := w6) (g := g) (cap := cap) (O := .cells #[hdr (C i)] 23) hp hl x h0 h1 i c hi hw
  have hb6 : ∀ w6, (w.drew.alloc (.cells #[hdr (C i)] 23)).grownBy w6 (.slice A (W x).length cc : Value).ownBlock → w6.heap[p]? = w.heap[p]? ∧ w6.heap[k.wb]? = w.heap[k.wb]? := by
    intro w6 hg
    rw [← ev] at hg
    have al := ((Below.refl w.heap.size w).drew).alloc (Nat.le_refl _) (.cells #[hdr (C i)] 23)
    exact ⟨(hg.block p (by omega) (fun e => hp.blk.own_ne hx (by decide) _ e.symm rfl)).trans (al.block p bl), (hg.block k.wb (by omega) (fun e => hp.wab.own_ne hx (by decide) _ e.symm rfl)).trans (al.block k.wb cl)⟩
  rw [ev] at hfin
  obtain ⟨n, hn⟩ : ∃ n : Nat, (x + s.V).toNat = n := ⟨_, rfl⟩
  have hn2 : n < 2 * s.V + 1 := by omega
  rw [hn] at hP c0 cf
  simp only [hn] at hfin
  obtain ⟨m, hm⟩ : ∃ m, 2 * s.V + 1 = m := ⟨_, rfl⟩
  rw [hm] at b2 hn2
  have hm2 : m ≤ 121 := by omega
  obtain ⟨L, hL⟩ : ∃ L, (W x).length = L := ⟨_, rfl⟩
  obtain ⟨xs, hxs⟩ : ∃ xs, ((W x).map fun i => hdr (C i)) = xs := ⟨_, rfl⟩
  rw [hL, hxs] at hal
  rw [hL] at c0 hw hb6
  simp only [hL, hxs] at hfin
  have h3 : L + 1 ≤ maxLen := by unfold maxLen; omega
  have h4 : (L + 1) * 24 ≤ 140737488355328 := by omega
  replace hP := Lib.hid hP
  replace hal := Lib.hid hal
  replace hnw := Lib.hid hnw
  replace hone := Lib.hid hone
  replace hsz := Lib.hid hsz
  replace hBB := Lib.hid hBB
  replace hfin := Lib.hid hfin
  replace hb6 := Lib.hid hb6
  replace h3 := Lib.hid h3
  replace h4 := Lib.hid h4
  replace hB := Lib.hid hB
  clear hp hl hx ev hn hm hL hxs h0 h1 hV hi
  go_enter Try.func43, Try.ntmps43
  go_wp2_with fail
  (with_reducible refine hP.out.mono ?_)
  rintro e w1 ⟨rfl, hw1⟩
  subst hw1
  go_wp2_with fail
  go_region_law (refine step_append_lies _ rfl (.tmp 21) (.tmp 23) 22 rfl B 23 i0 (.slice none 0 0) 1 24 Try.underlying22 hii hz0 hz1 hz2 rfl (by decide) _ L xs (by simp [Act.eval]) hal.out ⟨w.heap.size, 0, none⟩ 1 1 [hdr (C i)] (by simp [Act.eval]) rfl hnw.out hone.out (by decide) h3.out h4.out hBB.out (w.heap.size + 1) hsz.out ?_; intro g cap w6 ho6 hg6 hgb hlt6; have hf := hfin.out w6 g cap ho6 hg6 hgb hB.out; obtain ⟨e1, e2⟩ := hb6.out w6 hg6; have d2 : w6.cell? ⟨p, 2, none⟩ = some (sl k.wb m) := (by unfold World.cell? at b2 ⊢; simpa only [e1] using b2); have dl : p < w6.heap.size := (by have := hg6.size; simp at this; omega); have e0 : w6.cell? ⟨k.wb, n, none⟩ = some (.slice A L cc) := (by unfold World.cell? at c0 ⊢; simpa only [e2] using c0); have ef : w6.frozen? ⟨k.wb, n, none⟩ = false := (by unfold World.frozen? at cf ⊢; simpa only [e2] using cf); have el : k.wb < w6.heap.size := (by have := hg6.size; simp at this; omega); replace hf := Lib.hid hf; clear ho6 hg6 hgb e1 e2)
  all_goals (
    go_wp2_with fail
    exact bodyPost_end (v := .tuple #[]) (by simp [results, Try.results43, go_sem]) rfl ⟨rfl, ⟨_, hf.out.1, hf.out.2.1⟩, hf.out.2.2⟩)
end
end Go.Proofs.Ytembgefbmecdbaa
