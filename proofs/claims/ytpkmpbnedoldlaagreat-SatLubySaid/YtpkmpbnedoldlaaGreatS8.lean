/-
  assume, twice.
-/
import Derived.Test.YtpkmpbnedoldlaaGreatS6
import Derived.Test.YtpkmpbnedoldlaaGreatS7
namespace Go.Proofs.YtpkmpbnedoldlaaGreat
open Go.RowKit Go.Lib
section
variable {B p : Nat} {k : Bk} {s : St} (w : World)
theorem isT (h : SIx B w p k s) (l : Nat) (hl : l < 4) (x : Int) (hx : s.v l = x) : Calls Tryz.prog 43 #[pp p, lv l] w (RW w (.bool (x == 1))) := by rw [← hx]; exact isTru_t w h l hl
theorem isF (h : SIx B w p k s) (l : Nat) (hl : l < 4) (x : Int) (hx : s.v l = x) : Calls Tryz.prog 54 #[pp p, lv l] w (RW w (.bool (x == -1))) := by rw [← hx]; exact isFalse_t w h l hl
set_option maxRecDepth 100000 in
set_option maxHeartbeats 3200000 in
theorem assume_A (h : SIx B w p k s) (hn : s.hn = 2) (h00 : s.h0 = 0) (h11 : s.h1 = 1) (hv : s.v1 = 0) (ht : s.tr.length < 2) (hss : s.ss.length < 2) (hB : B ≤ w.heap.size) :
    Calls Tryz.prog 42 #[pp p] w fun e w' => e = .returned (.bool true) ∧ (∃ k', SIx B w' p k' { s with hn := 1, h0 := 1, p0 := -1, p1 := 0, ss := s.ss ++ [(s.tr.length : Int)], v1 := 1, v0 := -1, l0 := ((s.ss.length + 1 : Nat) : Int), r0 := false, tr := s.tr ++ [1] }) ∧ Below B w w' := by
  have hP := Lib.hid (pop_2 w h hn h00 h11)
  replace ht := Lib.hid ht
  replace hss := Lib.hid hss
  replace hv := Lib.hid hv
  have bl := lt_of_get h.blk
  clear h hn h00 h11
  go_enter Tryz.func42, Tryz.ntmps42
  go_wp2_with fail
  refine wp_loop_rounds 1 ?_
  rw [rounds_succ]
  go_wp2_with fail
  (with_reducible refine hP.out.mono ?_)
  rintro e w1 ⟨rfl, s1, hb1⟩
  have b13 : w1.cell? ⟨p, 13, none⟩ = some (sl k.sb 2) := s1.blk.c 13
  have bl1 := lt_of_get s1.blk
  have sl1 := lt_of_get s1.sab
  have c0 : w1.cell? ⟨k.sb, 0, none⟩ = some (.bool false) := s1.sab.c 0
  have hL : Calls Tryz.prog 44 #[.int .i64 0, .bool false] w1 (RW w1 (lv 1)) := litOf_t 0 (by decide) false w1
  have hT : Calls Tryz.prog 43 #[pp p, lv 1] w1 (RW w1 (.bool false)) := isT w1 s1 1 (by decide) _ hv.out
  have hF : Calls Tryz.prog 54 #[pp p, lv 1] w1 (RW w1 (.bool false)) := isF w1 s1 1 (by decide) _ hv.out
  have hB1 : B ≤ w1.heap.size := Nat.le_trans hB hb1.size
  have hD := deepen_t w1 s1 hss.out hB1
  replace s1 := Lib.hid s1
  replace hb1 := Lib.hid hb1
  replace hL := Lib.hid hL
  replace hT := Lib.hid hT
  replace hF := Lib.hid hF
  replace hD := Lib.hid hD
  replace hB1 := Lib.hid hB1
  clear hP bl
  go_wp2_with fail
  (with_reducible refine hL.out.mono ?_)
  rintro e w2 ⟨rfl, hw2⟩
  subst hw2
  clear hL b13 sl1 c0
  go_wp2_with fail
  (with_reducible refine hT.out.mono ?_)
  rintro e w2 ⟨rfl, hw2⟩
  subst hw2
  clear hT
  go_wp2_with fail
  (with_reducible refine hF.out.mono ?_)
  rintro e w2 ⟨rfl, hw2⟩
  subst hw2
  clear hF
  go_wp2_with fail
  (with_reducible refine hD.out.mono ?_)
  rintro e w2 ⟨rfl, sv, s2, hb2⟩
  have hB2 : B ≤ w2.heap.size := Nat.le_trans hB1.out hb2.size
  have hA := assign_1 w2 s2 ht.out hB2
  have bl2 := lt_of_get s2.blk
  replace hA := Lib.hid hA
  replace hb2 := Lib.hid (hb1.out.trans hb2)
  clear s1 s2 hb1 hD bl1
  go_wp2_with fail
  (with_reducible refine hA.out.mono ?_)
  rintro e w3 ⟨rfl, tv, s3, hb3⟩
  replace s3 := Lib.hid s3
  replace hb3 := Lib.hid (hb2.out.trans hb3)
  clear hA hb2 bl2
  go_wp2_with fail
  go_ret
  have s4 := s3.out
  rw [List.length_append] at s4
  exact ⟨rfl, ⟨_, s4⟩, hb3.out⟩
set_option maxRecDepth 100000 in
set_option maxHeartbeats 3200000 in
theorem assume_B (h : SIx B w p k s) (hn : s.hn = 1) (h00 : s.h0 = 1) (hv : s.v3 = -1) :
    Calls Tryz.prog 42 #[pp p] w fun e w' => e = .returned (.bool false) ∧ (∃ k', SIx B w' p k' { s with hn := 0, p1 := -1 }) ∧ Below B w w' := by
  have hP := Lib.hid (pop_1 w h hn h00)
  replace hv := Lib.hid hv
  have bl := lt_of_get h.blk
  clear h hn h00
  go_enter Tryz.func42, Tryz.ntmps42
  go_wp2_with fail
  refine wp_loop_rounds 2 ?_
  rw [rounds_succ]
  go_wp2_with fail
  (with_reducible refine hP.out.mono ?_)
  rintro e w1 ⟨rfl, s1, hb1⟩
  have b13 : w1.cell? ⟨p, 13, none⟩ = some (sl k.sb 2) := s1.blk.c 13
  have bl1 := lt_of_get s1.blk
  have sl1 := lt_of_get s1.sab
  have c0 : w1.cell? ⟨k.sb, 1, none⟩ = some (.bool false) := s1.sab.c 1
  have hL : Calls Tryz.prog 44 #[.int .i64 1, .bool false] w1 (RW w1 (lv 3)) := litOf_t 1 (by decide) false w1
  have hT : Calls Tryz.prog 43 #[pp p, lv 3] w1 (RW w1 (.bool false)) := isT w1 s1 3 (by decide) _ hv.out
  have hF : Calls Tryz.prog 54 #[pp p, lv 3] w1 (RW w1 (.bool true)) := isF w1 s1 3 (by decide) _ hv.out
  have hP0 := pop_0 w1 s1 rfl
  replace s1 := Lib.hid s1
  replace hb1 := Lib.hid hb1
  replace hL := Lib.hid hL
  replace hT := Lib.hid hT
  replace hF := Lib.hid hF
  replace hP0 := Lib.hid hP0
  clear hP bl
  go_wp2_with fail
  (with_reducible refine hL.out.mono ?_)
  rintro e w2 ⟨rfl, hw2⟩
  subst hw2
  clear hL b13 sl1 c0
  go_wp2_with fail
  (with_reducible refine hT.out.mono ?_)
  rintro e w2 ⟨rfl, hw2⟩
  subst hw2
  clear hT
  go_wp2_with fail
  (with_reducible refine hF.out.mono ?_)
  rintro e w2 ⟨rfl, hw2⟩
  subst hw2
  clear hF
  go_wp2_with fail
  rw [rounds_succ]
  go_wp2_with fail
  (with_reducible refine hP0.out.mono ?_)
  rintro e w2 ⟨rfl, hw2⟩
  subst hw2
  clear hP0
  go_wp2_with fail
  go_ret
  exact ⟨rfl, ⟨_, s1.out⟩, hb1.out⟩
end
end Go.Proofs.YtpkmpbnedoldlaaGreat
