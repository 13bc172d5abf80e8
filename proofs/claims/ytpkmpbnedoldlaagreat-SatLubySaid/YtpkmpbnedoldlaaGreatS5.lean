/-
  The heap of two variables: put, sink, pop.
-/
import Derived.Test.YtpkmpbnedoldlaaGreatS4
namespace Go.Proofs.YtpkmpbnedoldlaaGreat
open Go.RowKit Go.Lib
section
variable {B p : Nat} {k : Bk} {s : St} (w : World)
abbrev po (p : Nat) : Value := .pointer (some ⟨p, 9, none⟩)
set_option maxRecDepth 100000 in
/-- put at place 0 of a heap that has one variable left. -/
theorem put_t (h : SIx B w p k s) (hn : s.hn = 1) : Calls Tryz.prog 101 #[po p, iz 0, iz 1] w fun e w' => e = .returned (.tuple #[]) ∧ SIx B w' p k { s with h0 := 1, p1 := 0 } ∧ Below B w w' := by
  have b9 : w.cell? ⟨p, 9, none⟩ = some (.slice (some ⟨k.hb, 0, none⟩) s.hn 2) := h.blk.c 9
  rw [hn] at b9
  have b10 : w.cell? ⟨p, 10, none⟩ = some (sl k.pb 2) := h.blk.c 10
  have bl := lt_of_get h.blk
  have hl := lt_of_get h.heb
  have pl := lt_of_get h.plb
  have h0 : w.cell? ⟨k.hb, 0, none⟩ = some (iz s.h0) := h.heb.c 0
  have p1 : w.cell? ⟨k.pb, 1, none⟩ = some (iz s.p1) := h.plb.c 1
  have fh := h.heb.fz 0
  have fp := h.plb.fz 1
  have hne := h.ap.2.2
  have hc1 := heap_set w k.hb 0 _ _ (iz 1) h.heb
  have s1 := h.heap 1 s.h1 hc1 fun x hx => Below.heap_setCell _ _ _ x hx
  have hc2 := heap_set _ k.pb 1 _ _ (iz 0) s1.plb
  have s2 := SIx.over (s1.plac s.p0 0 hc2 fun x hx => Below.heap_setCell _ _ _ x hx) ((Below.refl _ _).drew)
  have hb : Below B w (((w.setCell ⟨k.hb, 0, none⟩ (iz 1)).setCell ⟨k.pb, 1, none⟩ (iz 0)).drew) := (((Below.refl B w).setCell (p := ⟨k.hb, 0, none⟩) h.low.2.2.2.2.1 _).setCell (p := ⟨k.pb, 1, none⟩) h.low.2.2.2.2.2 _).drew
  obtain ⟨w1, hw1⟩ : ∃ W, (((w.setCell ⟨k.hb, 0, none⟩ (iz 1)).setCell ⟨k.pb, 1, none⟩ (iz 0)).drew) = W := ⟨_, rfl⟩
  rw [hw1] at s2 hb
  replace s2 := Lib.hid s2
  replace hb := Lib.hid hb
  replace hw1 := Lib.hid hw1
  clear h s1 hc1 hc2
  go_enter Tryz.func101, Tryz.ntmps101
  go_wp2_with fail
  go_region
  all_goals (
    rw [hw1.out]
    exact bodyPost_end (v := .tuple #[]) (by simp [results, Tryz.results101, go_sem]) rfl ⟨rfl, s2.out, hb.out⟩)
end
end Go.Proofs.YtpkmpbnedoldlaaGreat
