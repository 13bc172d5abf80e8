/-
  deepen.
-/
import Derived.Test.YtpkmpbnedoldlaaGreatS4
namespace Go.Proofs.YtpkmpbnedoldlaaGreat
open Go.RowKit Go.Lib
section
variable {B p : Nat} {k : Bk} {s : St} (w : World)
set_option maxRecDepth 100000 in
set_option maxHeartbeats 1600000 in
theorem deepen_t (h : SIx B w p k s) (ht : s.ss.length < 2) (hB : B ≤ w.heap.size) : Calls Tryz.prog 79 #[pp p] w fun e w' => e = .returned (.tuple #[]) ∧ ∃ sv, SIx B w' p { k with sv := sv } { s with ss := s.ss ++ [(s.tr.length : Int)] } ∧ Below B w w' := by
  obtain ⟨i0, hi, hz0, hz1, hz2⟩ := info_parts info_i64
  obtain ⟨A, c, ev⟩ := own_shape' h.sso
  obtain ⟨A2, c2, ev2⟩ := own_shape' h.tro
  have b1 : w.cell? ⟨p, 1, none⟩ = some k.sv := h.blk.c 1
  have b0 : w.cell? ⟨p, 0, none⟩ = some k.tv := h.blk.c 0
  rw [ev] at b1
  rw [ev2] at b0
  have bl := lt_of_get h.blk
  have f0 := h.blk.fz 1
  have hs2 := h.sm.1
  obtain ⟨m, hm⟩ : ∃ m, s.tr.length = m := ⟨_, rfl⟩
  rw [hm] at b0 hs2
  have hal : (w.drew.alloc (.cells #[iz m] 3)).ownsRow B 3 1 (.slice A s.ss.length c) s.ss.length (s.ss.map iz) := by
    have := own_keepT h.sso fun b e => (((Below.refl w.heap.size w).drew).alloc (Nat.le_refl _) (.cells #[iz m] 3)).block b (own_ltT h.sso b e).2
    rw [← ev]; exact this
  have hnw : ∀ j u, [iz m][j]? = some u → (w.drew.alloc (.cells #[iz m] 3)).cell? ((⟨w.heap.size, 0, none⟩ : Addr).add j) = some u := World.news_of_block (heap_alloc_new w.drew (.cells #[iz m] 3))
  have hone : ∀ u ∈ [iz m], u.oneCell' = true := by simp [Value.oneCell']
  have hsz : (w.drew.alloc (.cells #[iz m] 3)).heap.size = w.heap.size + 1 := by simp
  have hfin := fun w' g cap => SIx.pushedS (w' := w') (g := g) (cap := cap) w.drew (h.over (Below.refl _ _).drew) m ht (.cells #[iz m] 3)
  have hpg := h.blk.own_ne h.sso (by decide)
  rw [ev] at hfin hpg
  have ht' := ht
  obtain ⟨n, hn⟩ : ∃ n, s.ss.length = n := ⟨_, rfl⟩
  simp only [hn] at hfin hal b1 ht' hpg
  obtain ⟨xs, hxs⟩ : ∃ xs, s.ss.map iz = xs := ⟨_, rfl⟩
  rw [hxs] at hal
  simp only [hxs] at hfin
  rw [hm]
  have hB3 : B ≤ (w.drew.alloc (.cells #[iz m] 3)).heap.size := by simp; omega
  have h3 : n + 1 ≤ maxLen := by unfold maxLen; omega
  have h4 : (n + 1) * 8 ≤ 140737488355328 := by omega
  have hh : w.drew.heap = w.heap := rfl
  replace h3 := Lib.hid h3
  replace h4 := Lib.hid h4
  replace hfin := Lib.hid hfin
  replace hal := Lib.hid hal
  replace hnw := Lib.hid hnw
  replace hone := Lib.hid hone
  replace hn := Lib.hid hn
  replace hm := Lib.hid hm
  replace hxs := Lib.hid hxs
  replace hpg := Lib.hid hpg
  replace hB3 := Lib.hid hB3
  replace hB := Lib.hid hB
  replace hsz := Lib.hid hsz
  replace hh := Lib.hid hh
  clear ht h ev ev2
  go_enter Tryz.func79, Tryz.ntmps79
  go_wp2_with fail
  go_region_law (refine step_append_lies _ rfl (.tmp 6) (.tmp 12) 35 rfl B 3 i0 (.int .i64 0) 1 8 Tryz.underlying35 hi hz0 hz1 hz2 rfl (by decide) _ n xs (by simp [Act.eval]) hal.out ⟨w.heap.size, 0, none⟩ 1 1 [iz m] (by simp [Act.eval]) rfl hnw.out hone.out (by decide) h3.out h4.out hB3.out (w.heap.size + 1) hsz.out ?_; intro g cap w6 ho6 hg6 hgb hlt6; have hf := hfin.out w6 g cap ho6 hg6 hgb hB.out; have hpw : w6.heap[p]? = w.heap[p]? := (hg6.block p (by simp; omega) (fun e => hpg.out p e.symm rfl)).trans (((Below.refl w.heap.size w).drew.alloc (Nat.le_refl _) (.cells #[iz m] 3)).block p bl); have c0 : w6.cell? ⟨p, 1, none⟩ = some (.slice A n c) := (by unfold World.cell? at b1 ⊢; simpa only [hpw] using b1); have cf : w6.frozen? ⟨p, 1, none⟩ = false := (by unfold World.frozen? at f0 ⊢; simpa only [hpw] using f0); have cl : p < w6.heap.size := (by have := hg6.size; simp at this; omega); replace hf := Lib.hid hf)
  all_goals exact bodyPost_end (v := .tuple #[]) (by simp [results, Tryz.results79, go_sem]) rfl ⟨rfl, _, hf.out.1, ((Below.refl B w).drew).trans hf.out.2⟩
end
end Go.Proofs.YtpkmpbnedoldlaaGreat
