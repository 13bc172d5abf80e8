/-
  visit of a literal that no clause watches; propagate: nothing to do; model.
-/
import Derived.Test.YtpkmpbnedoldlaaGreatS9
namespace Go.Proofs.YtpkmpbnedoldlaaGreat
open Go.RowKit Go.Lib
section
variable {B p : Nat} {k : Bk} {s : St} (w : World)
set_option maxRecDepth 100000 in
set_option maxHeartbeats 1600000 in
theorem visit_B (h : SIx B w p k s) : Calls Tryz.prog 59 #[pp p, lv 3] w fun e w' => e = .returned (.pointer none) ∧ SIx B w' p k s ∧ Below B w w' := by
  have b6 : w.cell? ⟨p, 6, none⟩ = some (sl k.wb 4) := h.blk.c 6
  have bl := lt_of_get h.blk
  have wl := lt_of_get h.wab
  have w3 : w.cell? ⟨k.wb, 3, none⟩ = some (.slice none 0 0) := h.wab.c 3
  have wf := h.wab.fz 3
  have hst : CB (w.setCell ⟨k.wb, 3, none⟩ (.slice none 0 0)) k.wb #[k.w0, .slice none 0 0, k.w2, .slice none 0 0] 106 := heap_set w k.wb 3 _ _ (.slice none 0 0) h.wab
  have s8 := h.wats hst fun x hx => Below.heap_setCell _ _ _ x hx
  have b8 := (Below.refl B w).setCell (p := ⟨k.wb, 3, none⟩) h.low.2.2.2.1 (.slice none 0 0)
  replace s8 := Lib.hid s8
  replace b8 := Lib.hid b8
  clear hst h
  go_enter Tryz.func59, Tryz.ntmps59
  go_wp2_with fail
  refine wp_loop_rounds 1 ?_
  rw [rounds_succ]
  go_wp2_with fail
  go_ret
  exact ⟨rfl, s8.out, b8.out⟩
set_option maxRecDepth 100000 in
theorem prop_0 (h : SIx B w p k s) (hh : s.hd = s.tr.length) : Calls Tryz.prog 37 #[pp p] w fun e w' => e = .returned (.pointer none) ∧ SIx B w' p k s ∧ Below B w w' := by
  obtain ⟨A, c, ev⟩ := own_shape' h.tro
  have b0 : w.cell? ⟨p, 0, none⟩ = some k.tv := h.blk.c 0
  rw [ev] at b0
  have b2 : w.cell? ⟨p, 2, none⟩ = some (iz s.hd) := h.blk.c 2
  rw [hh] at b2
  have bl := lt_of_get h.blk
  have hs2 := h.sm.1
  have s1 := h.over (Below.refl _ _).drew
  have b1 := (Below.refl B w).drew
  obtain ⟨n, hn⟩ : ∃ n, s.tr.length = n := ⟨_, rfl⟩
  rw [hn] at b0 b2 hs2
  replace s1 := Lib.hid s1
  replace b1 := Lib.hid b1
  clear h hh ev hn
  go_enter Tryz.func37, Tryz.ntmps37
  go_wp2_with fail
  refine wp_loop_rounds 1 ?_
  rw [rounds_succ]
  go_wp2_with fail
  go_region
  all_goals (
    go_wp2_with fail
    go_ret
    exact ⟨rfl, s1.out, b1.out⟩)
end
end Go.Proofs.YtpkmpbnedoldlaaGreat
