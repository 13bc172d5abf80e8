/-
  The heap of two variables: sink, pop.
-/
import Derived.Test.YtpkmpbnedoldlaaGreatS5
namespace Go.Proofs.YtpkmpbnedoldlaaGreat
open Go.RowKit Go.Lib
section
variable {B p : Nat} {k : Bk} {s : St} (w : World)
set_option maxRecDepth 100000 in
set_option maxHeartbeats 1600000 in
theorem sink_t (h : SIx B w p k s) (hn : s.hn = 1) (h1 : s.h0 = 1) : Calls Tryz.prog 95 #[po p, iz 0] w fun e w' => e = .returned (.tuple #[]) ∧ SIx B w' p k { s with h0 := 1, p1 := 0 } ∧ Below B w w' := by
  have b9 : w.cell? ⟨p, 9, none⟩ = some (.slice (some ⟨k.hb, 0, none⟩) s.hn 2) := h.blk.c 9
  rw [hn] at b9
  have bl := lt_of_get h.blk
  have hl := lt_of_get h.heb
  have h0 : w.cell? ⟨k.hb, 0, none⟩ = some (iz s.h0) := h.heb.c 0
  rw [h1] at h0
  have hP := Lib.hid (put_t w h hn)
  clear h hn h1
  go_enter Tryz.func95, Tryz.ntmps95
  go_wp2_with fail
  refine wp_loop_rounds 1 ?_
  rw [rounds_succ]
  go_wp2_with fail
  (with_reducible refine hP.out.mono ?_)
  rintro e w1 ⟨rfl, s1, hb1⟩
  replace s1 := Lib.hid s1
  replace hb1 := Lib.hid hb1
  clear b9 bl hl h0 hP
  go_wp2_with fail
  exact bodyPost_end (v := .tuple #[]) (by simp [results, Tryz.results95, go_sem]) rfl ⟨rfl, s1.out, hb1.out⟩
set_option maxRecDepth 100000 in
theorem pop_0 (h : SIx B w p k s) (hn : s.hn = 0) : Calls Tryz.prog 78 #[po p] w (RW w (.tuple #[iz 0, .bool false])) := by
  have b9 : w.cell? ⟨p, 9, none⟩ = some (.slice (some ⟨k.hb, 0, none⟩) s.hn 2) := h.blk.c 9
  rw [hn] at b9
  have bl := lt_of_get h.blk
  clear h hn
  go_enter Tryz.func78, Tryz.ntmps78
  go_wp2_with fail
  go_ret2
  exact ⟨rfl, rfl⟩
set_option maxRecDepth 100000 in
set_option maxHeartbeats 1600000 in
theorem pop_1 (h : SIx B w p k s) (hn : s.hn = 1) (h1 : s.h0 = 1) : Calls Tryz.prog 78 #[po p] w fun e w' => e = .returned (.tuple #[iz 1, .bool true]) ∧ SIx B w' p k { s with hn := 0, p1 := -1 } ∧ Below B w w' := by
  have b9 : w.cell? ⟨p, 9, none⟩ = some (.slice (some ⟨k.hb, 0, none⟩) s.hn 2) := h.blk.c 9
  rw [hn] at b9
  have b10 : w.cell? ⟨p, 10, none⟩ = some (sl k.pb 2) := h.blk.c 10
  have bl := lt_of_get h.blk
  have hl := lt_of_get h.heb
  have pl := lt_of_get h.plb
  have h0 : w.cell? ⟨k.hb, 0, none⟩ = some (iz s.h0) := h.heb.c 0
  rw [h1] at h0
  have p1 : w.cell? ⟨k.pb, 1, none⟩ = some (iz s.p1) := h.plb.c 1
  have f9 := h.blk.fz 9
  have fp := h.plb.fz 1
  have hne1 := h.blk.ne h.heb (by decide)
  have hne2 := h.blk.ne h.plb (by decide)
  have s1 := h.hlen 0 (by decide) (by have := heap_set w p 9 _ _ (.slice (some ⟨k.hb, 0, none⟩) 0 2) h.blk; exact this) fun x hx => Below.heap_setCell _ _ _ x hx
  have s2 := s1.plac s.p0 (-1) (heap_set _ k.pb 1 _ _ (iz (-1)) s1.plb) fun x hx => Below.heap_setCell _ _ _ x hx
  have hb : Below B w (((w.drew.setCell ⟨p, 9, none⟩ (.slice (some ⟨k.hb, 0, none⟩) 0 2)).setCell ⟨k.pb, 1, none⟩ (iz (-1)))) := (((Below.refl B w).drew.setCell (p := ⟨p, 9, none⟩) h.pB _).setCell (p := ⟨k.pb, 1, none⟩) h.low.2.2.2.2.2 _)
  replace s2 := s2.over (w' := ((w.drew.setCell ⟨p, 9, none⟩ (.slice (some ⟨k.hb, 0, none⟩) 0 2)).setCell ⟨k.pb, 1, none⟩ (iz (-1)))) ⟨rfl, rfl, rfl, Nat.le_refl _, fun _ _ => rfl⟩
  replace s2 := Lib.hid s2
  replace hb := Lib.hid hb
  clear h hn h1 s1
  go_enter Tryz.func78, Tryz.ntmps78
  go_wp2_with fail
  go_region
  all_goals (
    go_wp2_with fail
    go_ret2
    exact ⟨rfl, s2.out, hb.out⟩)
set_option maxRecDepth 100000 in
set_option maxHeartbeats 1600000 in
theorem pop_2 (h : SIx B w p k s) (hn : s.hn = 2) (h00 : s.h0 = 0) (h11 : s.h1 = 1) : Calls Tryz.prog 78 #[po p] w fun e w' => e = .returned (.tuple #[iz 0, .bool true]) ∧ SIx B w' p k { s with hn := 1, h0 := 1, p0 := -1, p1 := 0 } ∧ Below B w w' := by
  have b9 : w.cell? ⟨p, 9, none⟩ = some (.slice (some ⟨k.hb, 0, none⟩) s.hn 2) := h.blk.c 9
  rw [hn] at b9
  have b10 : w.cell? ⟨p, 10, none⟩ = some (sl k.pb 2) := h.blk.c 10
  have bl := lt_of_get h.blk
  have hl := lt_of_get h.heb
  have h0 : w.cell? ⟨k.hb, 0, none⟩ = some (iz s.h0) := h.heb.c 0
  rw [h00] at h0
  have h1 : w.cell? ⟨k.hb, 1, none⟩ = some (iz s.h1) := h.heb.c 1
  rw [h11] at h1
  have f9 := h.blk.fz 9
  have fh := h.heb.fz 0
  have hne1 := h.blk.ne h.heb (by decide)
  have s1 := h.hlen 1 (by decide) (by have := heap_set w p 9 _ _ (.slice (some ⟨k.hb, 0, none⟩) 1 2) h.blk; exact this) fun x hx => Below.heap_setCell _ _ _ x hx
  have s2 := s1.heap 1 s.h1 (heap_set _ k.hb 0 _ _ (iz 1) s1.heb) fun x hx => Below.heap_setCell _ _ _ x hx
  have hb : Below B w (((w.setCell ⟨p, 9, none⟩ (.slice (some ⟨k.hb, 0, none⟩) 1 2)).setCell ⟨k.hb, 0, none⟩ (iz 1)).drew) := (((Below.refl B w).setCell (p := ⟨p, 9, none⟩) h.pB _).setCell (p := ⟨k.hb, 0, none⟩) h.low.2.2.2.2.1 _).drew
  replace s2 := s2.over (w' := ((w.setCell ⟨p, 9, none⟩ (.slice (some ⟨k.hb, 0, none⟩) 1 2)).setCell ⟨k.hb, 0, none⟩ (iz 1)).drew) ⟨rfl, rfl, rfl, Nat.le_refl _, fun _ _ => rfl⟩
  have hS := Lib.hid (sink_t _ s2 rfl rfl)
  replace s2 := Lib.hid s2
  replace hb := Lib.hid hb
  clear h hn h00 h11 s1
  go_enter Tryz.func78, Tryz.ntmps78
  go_wp2_with fail
  go_region
  all_goals (
    go_wp2_with fail
    (with_reducible refine hS.out.mono ?_)
    rintro e w1 ⟨rfl, s3, hb1⟩
    have b10 : w1.cell? ⟨p, 10, none⟩ = some (sl k.pb 2) := s3.blk.c 10
    have bl := lt_of_get s3.blk
    have pl := lt_of_get s3.plb
    have p0 : w1.cell? ⟨k.pb, 0, none⟩ = some (iz s.p0) := s3.plb.c 0
    have fp := s3.plb.fz 0
    have hc := heap_set w1 k.pb 0 _ _ (iz (-1)) s3.plb
    have s4 := s3.plac (-1) 0 hc fun x hx => Below.heap_setCell _ _ _ x hx
    have hb2 := hb.out.trans (hb1.setCell (p := ⟨k.pb, 0, none⟩) s3.low.2.2.2.2.2 (iz (-1)))
    replace s4 := Lib.hid s4
    replace hb2 := Lib.hid hb2
    clear hS s2 hb s3 hb1 hc
    go_wp2_with fail
    go_ret2
    exact ⟨rfl, s4.out, hb2.out⟩)
end
end Go.Proofs.YtpkmpbnedoldlaaGreat
