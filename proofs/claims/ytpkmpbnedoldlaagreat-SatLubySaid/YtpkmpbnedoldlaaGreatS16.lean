/-
  newOrder for two variables.
-/
import Derived.Test.YtpkmpbnedoldlaaGreatS15
namespace Go.Proofs.YtpkmpbnedoldlaaGreat
open Go.RowKit Go.Lib
theorem CB.drew {w : World} {b : Nat} {cs : Array Value} {T : TypeId} (h : CB w b cs T) : CB w.drew b cs T := h
set_option maxRecDepth 100000 in
set_option maxHeartbeats 3200000 in
theorem newO_t (w : World) : Calls Tryz.prog 31 #[iz 2] w (NO w) := by
  have m1 := mk_i2
  go_enter Tryz.func31, Tryz.ntmps31
  go_upto_region 1 with fail
  go_cut [3] from 5 (fun v wx => ∃ g a b c, v = .pointer (some ⟨g, 0, none⟩) ∧ CB wx g #[sl a 2, sl b 2, sl c 2, iz 1048576] 55 ∧ CB wx a #[iz 0, iz 0] 3 ∧ CB wx b #[iz 0, iz 0] 3 ∧ CB wx w.heap.size #[.slice none 0 0, .slice none 0 0, .slice none 0 0, iz 0] 55 ∧ a ≠ b ∧ g ≠ w.heap.size ∧ w.heap.size < a ∧ w.heap.size < b ∧ w.heap.size < g ∧ Below w.heap.size w wx)
  case first =>
    go_region
    · go_wp2_with fail
      go_meet
      exact ⟨w.heap.size + 1 + 1 + 1 + 1, w.heap.size + 1, w.heap.size + 1 + 1, w.heap.size + 1 + 1 + 1, rfl, CB.nw (by simp), CB.al (CB.al (CB.al (CB.nw (by simp)))), CB.al (CB.al (CB.nw (by simp))), CB.al (CB.al (CB.al (CB.al (CB.nw (by simp))))), by omega, by omega, by omega, by omega, by omega, by go_grown⟩
    · go_wp2_with fail
      go_meet
      exact ⟨w.heap.size + 1 + 1 + 1, w.heap.size + 1, w.heap.size + 1 + 1, w.heap.size + 1 + 1 + 1 + 1, rfl, CB.al (CB.nw (by simp)), CB.al (CB.al (CB.al (CB.nw (by simp)))), CB.al (CB.al (CB.nw (by simp))), CB.al (CB.al (CB.al (CB.al (CB.nw (by simp))))), by omega, by omega, by omega, by omega, by omega, by go_grown⟩
    · go_wp2_with fail
      go_meet
      exact ⟨w.heap.size + 1 + 1 + 1 + 1, w.heap.size + 1, w.heap.size + 1 + 1 + 1, w.heap.size + 1 + 1, rfl, CB.nw (by simp), CB.al (CB.al (CB.al (CB.nw (by simp)))), CB.al (CB.nw (by simp)), CB.al (CB.al (CB.al (CB.al (CB.nw (by simp))))), by omega, by omega, by omega, by omega, by omega, by go_grown⟩
    · go_wp2_with fail
      go_meet
      exact ⟨w.heap.size + 1 + 1 + 1, w.heap.size + 1, w.heap.size + 1 + 1 + 1 + 1, w.heap.size + 1 + 1, rfl, CB.al (CB.nw (by simp)), CB.al (CB.al (CB.al (CB.nw (by simp)))), CB.nw (by simp), CB.al (CB.al (CB.al (CB.al (CB.nw (by simp))))), by omega, by omega, by omega, by omega, by omega, by go_grown⟩
    · go_wp2_with fail
      go_meet
      exact ⟨w.heap.size + 1 + 1, w.heap.size + 1, w.heap.size + 1 + 1 + 1, w.heap.size + 1 + 1 + 1 + 1, rfl, CB.al (CB.al (CB.nw (by simp))), CB.al (CB.al (CB.al (CB.nw (by simp)))), CB.al (CB.nw (by simp)), CB.al (CB.al (CB.al (CB.al (CB.nw (by simp))))), by omega, by omega, by omega, by omega, by omega, by go_grown⟩
    · go_wp2_with fail
      go_meet
      exact ⟨w.heap.size + 1 + 1, w.heap.size + 1, w.heap.size + 1 + 1 + 1 + 1, w.heap.size + 1 + 1 + 1, rfl, CB.al (CB.al (CB.nw (by simp))), CB.al (CB.al (CB.al (CB.nw (by simp)))), CB.nw (by simp), CB.al (CB.al (CB.al (CB.al (CB.nw (by simp))))), by omega, by omega, by omega, by omega, by omega, by go_grown⟩
    · go_wp2_with fail
      go_meet
      exact ⟨w.heap.size + 1 + 1 + 1 + 1, w.heap.size + 1 + 1, w.heap.size + 1, w.heap.size + 1 + 1 + 1, rfl, CB.nw (by simp), CB.al (CB.al (CB.nw (by simp))), CB.al (CB.al (CB.al (CB.nw (by simp)))), CB.al (CB.al (CB.al (CB.al (CB.nw (by simp))))), by omega, by omega, by omega, by omega, by omega, by go_grown⟩
    · go_wp2_with fail
      go_meet
      exact ⟨w.heap.size + 1 + 1 + 1, w.heap.size + 1 + 1, w.heap.size + 1, w.heap.size + 1 + 1 + 1 + 1, rfl, CB.al (CB.nw (by simp)), CB.al (CB.al (CB.nw (by simp))), CB.al (CB.al (CB.al (CB.nw (by simp)))), CB.al (CB.al (CB.al (CB.al (CB.nw (by simp))))), by omega, by omega, by omega, by omega, by omega, by go_grown⟩
    · go_wp2_with fail
      go_meet
      exact ⟨w.heap.size + 1 + 1 + 1 + 1, w.heap.size + 1 + 1 + 1, w.heap.size + 1, w.heap.size + 1 + 1, rfl, CB.nw (by simp), CB.al (CB.nw (by simp)), CB.al (CB.al (CB.al (CB.nw (by simp)))), CB.al (CB.al (CB.al (CB.al (CB.nw (by simp))))), by omega, by omega, by omega, by omega, by omega, by go_grown⟩
    · go_wp2_with fail
      go_meet
      exact ⟨w.heap.size + 1 + 1 + 1, w.heap.size + 1 + 1 + 1 + 1, w.heap.size + 1, w.heap.size + 1 + 1, rfl, CB.al (CB.nw (by simp)), CB.nw (by simp), CB.al (CB.al (CB.al (CB.nw (by simp)))), CB.al (CB.al (CB.al (CB.al (CB.nw (by simp))))), by omega, by omega, by omega, by omega, by omega, by go_grown⟩
    · go_wp2_with fail
      go_meet
      exact ⟨w.heap.size + 1 + 1, w.heap.size + 1 + 1 + 1, w.heap.size + 1, w.heap.size + 1 + 1 + 1 + 1, rfl, CB.al (CB.al (CB.nw (by simp))), CB.al (CB.nw (by simp)), CB.al (CB.al (CB.al (CB.nw (by simp)))), CB.al (CB.al (CB.al (CB.al (CB.nw (by simp))))), by omega, by omega, by omega, by omega, by omega, by go_grown⟩
    · go_wp2_with fail
      go_meet
      exact ⟨w.heap.size + 1 + 1, w.heap.size + 1 + 1 + 1 + 1, w.heap.size + 1, w.heap.size + 1 + 1 + 1, rfl, CB.al (CB.al (CB.nw (by simp))), CB.nw (by simp), CB.al (CB.al (CB.al (CB.nw (by simp)))), CB.al (CB.al (CB.al (CB.al (CB.nw (by simp))))), by omega, by omega, by omega, by omega, by omega, by go_grown⟩
    · go_wp2_with fail
      go_meet
      exact ⟨w.heap.size + 1 + 1 + 1 + 1, w.heap.size + 1 + 1, w.heap.size + 1 + 1 + 1, w.heap.size + 1, rfl, CB.nw (by simp), CB.al (CB.al (CB.nw (by simp))), CB.al (CB.nw (by simp)), CB.al (CB.al (CB.al (CB.al (CB.nw (by simp))))), by omega, by omega, by omega, by omega, by omega, by go_grown⟩
    · go_wp2_with fail
      go_meet
      exact ⟨w.heap.size + 1 + 1 + 1, w.heap.size + 1 + 1, w.heap.size + 1 + 1 + 1 + 1, w.heap.size + 1, rfl, CB.al (CB.nw (by simp)), CB.al (CB.al (CB.nw (by simp))), CB.nw (by simp), CB.al (CB.al (CB.al (CB.al (CB.nw (by simp))))), by omega, by omega, by omega, by omega, by omega, by go_grown⟩
    · go_wp2_with fail
      go_meet
      exact ⟨w.heap.size + 1 + 1 + 1 + 1, w.heap.size + 1 + 1 + 1, w.heap.size + 1 + 1, w.heap.size + 1, rfl, CB.nw (by simp), CB.al (CB.nw (by simp)), CB.al (CB.al (CB.nw (by simp))), CB.al (CB.al (CB.al (CB.al (CB.nw (by simp))))), by omega, by omega, by omega, by omega, by omega, by go_grown⟩
    · go_wp2_with fail
      go_meet
      exact ⟨w.heap.size + 1 + 1 + 1, w.heap.size + 1 + 1 + 1 + 1, w.heap.size + 1 + 1, w.heap.size + 1, rfl, CB.al (CB.nw (by simp)), CB.nw (by simp), CB.al (CB.al (CB.nw (by simp))), CB.al (CB.al (CB.al (CB.al (CB.nw (by simp))))), by omega, by omega, by omega, by omega, by omega, by go_grown⟩
    · go_wp2_with fail
      go_meet
      exact ⟨w.heap.size + 1 + 1, w.heap.size + 1 + 1 + 1, w.heap.size + 1 + 1 + 1 + 1, w.heap.size + 1, rfl, CB.al (CB.al (CB.nw (by simp))), CB.al (CB.nw (by simp)), CB.nw (by simp), CB.al (CB.al (CB.al (CB.al (CB.nw (by simp))))), by omega, by omega, by omega, by omega, by omega, by go_grown⟩
    · go_wp2_with fail
      go_meet
      exact ⟨w.heap.size + 1 + 1, w.heap.size + 1 + 1 + 1 + 1, w.heap.size + 1 + 1 + 1, w.heap.size + 1, rfl, CB.al (CB.al (CB.nw (by simp))), CB.nw (by simp), CB.al (CB.nw (by simp)), CB.al (CB.al (CB.al (CB.al (CB.nw (by simp))))), by omega, by omega, by omega, by omega, by omega, by go_grown⟩
    · go_wp2_with fail
      go_meet
      exact ⟨w.heap.size + 1, w.heap.size + 1 + 1, w.heap.size + 1 + 1 + 1, w.heap.size + 1 + 1 + 1 + 1, rfl, CB.al (CB.al (CB.al (CB.nw (by simp)))), CB.al (CB.al (CB.nw (by simp))), CB.al (CB.nw (by simp)), CB.al (CB.al (CB.al (CB.al (CB.nw (by simp))))), by omega, by omega, by omega, by omega, by omega, by go_grown⟩
    · go_wp2_with fail
      go_meet
      exact ⟨w.heap.size + 1, w.heap.size + 1 + 1, w.heap.size + 1 + 1 + 1 + 1, w.heap.size + 1 + 1 + 1, rfl, CB.al (CB.al (CB.al (CB.nw (by simp)))), CB.al (CB.al (CB.nw (by simp))), CB.nw (by simp), CB.al (CB.al (CB.al (CB.al (CB.nw (by simp))))), by omega, by omega, by omega, by omega, by omega, by go_grown⟩
    · go_wp2_with fail
      go_meet
      exact ⟨w.heap.size + 1, w.heap.size + 1 + 1 + 1, w.heap.size + 1 + 1, w.heap.size + 1 + 1 + 1 + 1, rfl, CB.al (CB.al (CB.al (CB.nw (by simp)))), CB.al (CB.nw (by simp)), CB.al (CB.al (CB.nw (by simp))), CB.al (CB.al (CB.al (CB.al (CB.nw (by simp))))), by omega, by omega, by omega, by omega, by omega, by go_grown⟩
    · go_wp2_with fail
      go_meet
      exact ⟨w.heap.size + 1, w.heap.size + 1 + 1 + 1 + 1, w.heap.size + 1 + 1, w.heap.size + 1 + 1 + 1, rfl, CB.al (CB.al (CB.al (CB.nw (by simp)))), CB.nw (by simp), CB.al (CB.al (CB.nw (by simp))), CB.al (CB.al (CB.al (CB.al (CB.nw (by simp))))), by omega, by omega, by omega, by omega, by omega, by go_grown⟩
    · go_wp2_with fail
      go_meet
      exact ⟨w.heap.size + 1, w.heap.size + 1 + 1 + 1, w.heap.size + 1 + 1 + 1 + 1, w.heap.size + 1 + 1, rfl, CB.al (CB.al (CB.al (CB.nw (by simp)))), CB.al (CB.nw (by simp)), CB.nw (by simp), CB.al (CB.al (CB.al (CB.al (CB.nw (by simp))))), by omega, by omega, by omega, by omega, by omega, by go_grown⟩
    · go_wp2_with fail
      go_meet
      exact ⟨w.heap.size + 1, w.heap.size + 1 + 1 + 1 + 1, w.heap.size + 1 + 1 + 1, w.heap.size + 1 + 1, rfl, CB.al (CB.al (CB.al (CB.nw (by simp)))), CB.nw (by simp), CB.al (CB.nw (by simp)), CB.al (CB.al (CB.al (CB.al (CB.nw (by simp))))), by omega, by omega, by omega, by omega, by omega, by go_grown⟩
  case rest =>
    obtain ⟨g, a, b, c, rfl, hg, ha, hb, hR, hab, hgR, h1, h2, h3, hbe⟩ := hcut
    have e0 : wc.cell? ⟨g, 0, none⟩ = some (sl a 2) := hg.c 0
    have e1 : wc.cell? ⟨g, 1, none⟩ = some (sl b 2) := hg.c 1
    have e2 : wc.cell? ⟨g, 2, none⟩ = some (sl c 2) := hg.c 2
    have e3 : wc.cell? ⟨g, 3, none⟩ = some (iz 1048576) := hg.c 3
    have gl := lt_of_get hg
    have all := lt_of_get ha
    have bl := lt_of_get hb
    have rl := lt_of_get hR
    have a0 : wc.cell? ⟨a, 0, none⟩ = some (iz 0) := ha.c 0
    have a1 : wc.cell? ⟨a, 1, none⟩ = some (iz 0) := ha.c 1
    have b0 : wc.cell? ⟨b, 0, none⟩ = some (iz 0) := hb.c 0
    have b1 : wc.cell? ⟨b, 1, none⟩ = some (iz 0) := hb.c 1
    have af0 := ha.fz 0
    have af1 := ha.fz 1
    have bf0 := hb.fz 0
    have bf1 := hb.fz 1
    have r0 : wc.cell? ⟨w.heap.size, 0, none⟩ = some (.slice none 0 0) := hR.c 0
    have r1 : wc.cell? ⟨w.heap.size, 1, none⟩ = some (.slice none 0 0) := hR.c 1
    have r2 : wc.cell? ⟨w.heap.size, 2, none⟩ = some (.slice none 0 0) := hR.c 2
    have r3 : wc.cell? ⟨w.heap.size, 3, none⟩ = some (iz 0) := hR.c 3
    have rf0 := hR.fz 0
    have rf1 := hR.fz 1
    have rf2 := hR.fz 2
    have rf3 := hR.fz 3
    have hga := hg.ne ha (by decide)
    have hgb := hg.ne hb (by decide)
    have hra := hR.ne ha (by decide)
    have hrb := hR.ne hb (by decide)
    replace hbe := Lib.hid hbe
    replace hg := Lib.hid hg
    replace ha := Lib.hid ha
    replace hb := Lib.hid hb
    replace hR := Lib.hid hR
    go_wp2_with fail
    refine wp_loop_rounds 3 ?_
    rw [rounds_succ]
    go_wp2_with fail
    go_region
    go_wp2_with fail
    rw [rounds_succ]
    go_wp2_with fail
    go_region
    go_wp2_with fail
    rw [rounds_succ]
    go_wp2_with fail
    have qa := ((((((heap_set _ a 1 _ _ (iz 1) (CB.far (heap_set _ a 0 _ _ (iz 0) ha.out) ⟨b, 0, none⟩ (iz 0) hab)))))))
    have qa2 : CB _ a #[iz 0, iz 1] 3 := CB.far (CB.far (CB.far (CB.far (CB.far qa ⟨b, 1, none⟩ (iz 1) hab) ⟨w.heap.size, 0, none⟩ (sl a 2) (Ne.symm hra)) ⟨w.heap.size, 1, none⟩ (sl b 2) (Ne.symm hra)) ⟨w.heap.size, 2, none⟩ (sl c 2) (Ne.symm hra)) ⟨w.heap.size, 3, none⟩ (iz 1048576) (Ne.symm hra)
    have qb := heap_set _ b 1 _ _ (iz 1) (CB.far (heap_set _ b 0 _ _ (iz 0) (CB.far hb.out ⟨a, 0, none⟩ (iz 0) (Ne.symm hab))) ⟨a, 1, none⟩ (iz 1) (Ne.symm hab))
    have qb2 : CB _ b #[iz 0, iz 1] 3 := CB.far (CB.far (CB.far (CB.far qb ⟨w.heap.size, 0, none⟩ (sl a 2) (Ne.symm hrb)) ⟨w.heap.size, 1, none⟩ (sl b 2) (Ne.symm hrb)) ⟨w.heap.size, 2, none⟩ (sl c 2) (Ne.symm hrb)) ⟨w.heap.size, 3, none⟩ (iz 1048576) (Ne.symm hrb)
    have qR := heap_set _ w.heap.size 3 _ _ (iz 1048576) (heap_set _ w.heap.size 2 _ _ (sl c 2) (heap_set _ w.heap.size 1 _ _ (sl b 2) (heap_set _ w.heap.size 0 _ _ (sl a 2) (CB.far (CB.far (CB.far (CB.far hR.out ⟨a, 0, none⟩ (iz 0) hra) ⟨b, 0, none⟩ (iz 0) hrb) ⟨a, 1, none⟩ (iz 1) hra) ⟨b, 1, none⟩ (iz 1) hrb))))
    have h1' : w.heap.size ≤ a := by omega
    have h2' : w.heap.size ≤ b := by omega
    have qB := ((((((((hbe.out.setCell (p := ⟨a, 0, none⟩) h1' (iz 0)).setCell (p := ⟨b, 0, none⟩) h2' (iz 0)).setCell (p := ⟨a, 1, none⟩) h1' (iz 1)).setCell (p := ⟨b, 1, none⟩) h2' (iz 1)).setCell (p := ⟨w.heap.size, 0, none⟩) (Nat.le_refl _) (sl a 2)).setCell (p := ⟨w.heap.size, 1, none⟩) (Nat.le_refl _) (sl b 2)).setCell (p := ⟨w.heap.size, 2, none⟩) (Nat.le_refl _) (sl c 2)).setCell (p := ⟨w.heap.size, 3, none⟩) (Nat.le_refl _) (iz 1048576)).drew.drew
    replace qa2 := CB.drew (CB.drew qa2)
    replace qb2 := CB.drew (CB.drew qb2)
    replace qR := CB.drew (CB.drew qR)
    obtain ⟨W, hW⟩ : ∃ W, ((((((((wc.setCell ⟨a, 0, none⟩ (iz 0)).setCell ⟨b, 0, none⟩ (iz 0)).setCell ⟨a, 1, none⟩ (iz 1)).setCell ⟨b, 1, none⟩ (iz 1)).setCell ⟨w.heap.size, 0, none⟩ (sl a 2)).setCell ⟨w.heap.size, 1, none⟩ (sl b 2)).setCell ⟨w.heap.size, 2, none⟩ (sl c 2)).setCell ⟨w.heap.size, 3, none⟩ (iz 1048576)).drew.drew = W := ⟨_, rfl⟩
    rw [hW] at qa2 qb2 qR qB ⊢
    have q0 : W.cell? ⟨w.heap.size, 0, none⟩ = some (sl a 2) := qR.c 0
    have q1 : W.cell? ⟨w.heap.size, 1, none⟩ = some (sl b 2) := qR.c 1
    have q2 : W.cell? ⟨w.heap.size, 2, none⟩ = some (sl c 2) := qR.c 2
    have q3 : W.cell? ⟨w.heap.size, 3, none⟩ = some (iz 1048576) := qR.c 3
    clear hW qR
    exact bodyPost_ret (v := .agg #[sl a 2, sl b 2, sl c 2, iz 1048576]) (by simp [results, Tryz.results31, go_sem, q0, q1, q2, q3]) rfl ⟨a, b, c, rfl, qa2, qb2, hab, h1', h2', qB⟩
end Go.Proofs.YtpkmpbnedoldlaaGreat
