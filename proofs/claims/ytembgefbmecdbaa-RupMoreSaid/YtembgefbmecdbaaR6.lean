/-
  makeTrue.
-/
import Derived.Test.YtembgefbmecdbaaR5
namespace Go.Proofs.Ytembgefbmecdbaa
open Go.RowKit Go.Lib
section
variable {B p : Nat} {k : PB} {s : PS} (w : World)
/-- The state when x is to be true: x stands on the trail if it was open. -/
def PS.mk1 (s : PS) (x : Int) : PS := if s.val x = 0 then { s with val := setT s.val x, tr := s.tr ++ [x] } else s
set_option maxRecDepth 100000 in
set_option maxHeartbeats 1600000 in
theorem makeTrue_t (h : PIx B w p k s) (x : Int) (hx0 : x ≠ 0) (h0 : -(s.V : Int) ≤ x) (h1 : x ≤ s.V) (ht : s.tr.length < 1000) (hB : B ≤ w.heap.size) : Calls Try.prog 30 #[pp p, iz x] w fun e w' => e = .returned (.bool ((s.mk1 x).val x == 1)) ∧ ∃ tv, PIx B w' p { k with tv := tv } (s.mk1 x) ∧ Below B w w' ∧ KT w w' p k.vb k.tv tv := by
  have b1 : w.cell? ⟨p, 1, none⟩ = some (sl k.vb (2 * s.V + 1)) := h.blk.c 1
  have bl := lt_of_get h.blk
  have hP := place_t w.drew (h.over (Below.refl _ _).drew) x h0 h1
  have c0 : w.cell? ⟨k.vb, (x + s.V).toNat, none⟩ = some (i8 (s.val x)) := (h.vab.c _).trans (vcs_get h0 h1)
  have cl := lt_of_get h.vab
  have hV := h.hV
  have hbd : Below B w w.drew := (Below.refl B w).drew
  have hd := h.over (Below.refl w.heap.size w).drew
  by_cases ho : s.val x = 0
  · have hA := assign_t w.drew hd x hx0 h0 h1 ht hB
    have hm1 : s.mk1 x = { s with val := setT s.val x, tr := s.tr ++ [x] } := if_pos ho
    have hv1 : setT s.val x x = 1 := by
      unfold setT
      rw [if_neg (by omega), if_pos rfl]
    rw [hm1]
    rw [ho] at c0
    obtain ⟨n, hn⟩ : ∃ n : Nat, (x + s.V).toNat = n := ⟨_, rfl⟩
    have hn2 : n < 2 * s.V + 1 := by omega
    rw [hn] at hP c0
    obtain ⟨m, hm⟩ : ∃ m, 2 * s.V + 1 = m := ⟨_, rfl⟩
    rw [hm] at b1 hn2
    have hm2 : m ≤ 121 := by omega
    have hT : ∀ w2 tv, PIx B w2 p { k with tv := tv } { s with val := setT s.val x, tr := s.tr ++ [x] } → Calls Try.prog 38 #[pp p, iz x] w2 (RV w2 (.bool true)) := fun w2 tv q => by
      have := isTru_t w2 q x h0 h1
      rw [show ({ s with val := setT s.val x, tr := s.tr ++ [x] } : PS).val x = 1 from hv1] at this
      exact this
    simp only [hv1]
    replace hP := Lib.hid hP
    replace hA := Lib.hid hA
    replace hT := Lib.hid hT
    replace hbd := Lib.hid hbd
    clear h hn hm h0 h1 hV ho hm1 hv1 hd
    go_enter Try.func30, Try.ntmps30
    go_wp2_with fail
    go_region_held3 (fun w' => w'.cell? ⟨p, 1, none⟩ = some (sl k.vb m) ∧ w'.cell? ⟨k.vb, n, none⟩ = some (i8 0)) (exact ⟨b1, c0⟩)
      (first
        | (go_at_call 46; (with_reducible refine hP.out.mono ?_); rintro e w9 ⟨rfl, hw9⟩; subst hw9))
    go_wp2_with fail
    (with_reducible refine hA.out.mono ?_)
    rintro e w2 ⟨rfl, tv, q1, q2, q5⟩
    have kt1 : KT w w2 p k.vb k.tv tv := (KT.below ((Below.refl w.heap.size w).drew)).trans q5 (Nat.le_refl _)
    have hs2 : B ≤ w2.heap.size := Nat.le_trans hB q2.size
    have hs3 : w.heap.size ≤ w2.heap.size := q2.size
    have hT2 := Lib.hid (hT.out w2 tv q1)
    replace q1 := Lib.hid q1
    replace q2 := Lib.hid (hbd.out.trans q2)
    clear hA hT hP b1 c0 bl cl
    go_wp2_with fail
    (with_reducible refine hT2.out.mono ?_)
    rintro e w3 ⟨rfl, hb3⟩
    have q3 := q1.out.over hb3
    have hb4 := q2.out.trans (hb3.mono (Nat.le_trans hB q2.out.size))
    have kt2 := Lib.hid (kt1.trans (KT.below hb3) hs3)
    replace q3 := Lib.hid q3
    replace hb4 := Lib.hid hb4
    clear hT2 hb3 q1 q2
    go_wp2_with fail
    go_ret
    exact ⟨rfl, _, q3.out, hb4.out, kt2.out⟩
  · have hm1 : s.mk1 x = s := if_neg ho
    have hT := isTru_t w.drew hd x h0 h1
    rw [hm1]
    obtain ⟨n, hn⟩ : ∃ n : Nat, (x + s.V).toNat = n := ⟨_, rfl⟩
    have hn2 : n < 2 * s.V + 1 := by omega
    rw [hn] at hP c0
    obtain ⟨m, hm⟩ : ∃ m, 2 * s.V + 1 = m := ⟨_, rfl⟩
    rw [hm] at b1 hn2
    have hm2 : m ≤ 121 := by omega
    obtain ⟨v, hv⟩ : ∃ v, s.val x = v := ⟨_, rfl⟩
    rw [hv] at c0 ho hT ⊢
    have hvo : (v == 0) = false := by simpa using ho
    replace hP := Lib.hid hP
    replace hT := Lib.hid hT
    replace hbd := Lib.hid hbd
    replace hd := Lib.hid hd
    clear h hn hm h0 h1 hV hm1 hv
    go_enter Try.func30, Try.ntmps30
    go_wp2_with fail
    go_region_held3 (fun w' => w'.cell? ⟨p, 1, none⟩ = some (sl k.vb m) ∧ w'.cell? ⟨k.vb, n, none⟩ = some (i8 v)) (exact ⟨b1, c0⟩)
      (first
        | (go_at_call 46; (with_reducible refine hP.out.mono ?_); rintro e w9 ⟨rfl, hw9⟩; subst hw9))
    go_wp2_with fail
    (with_reducible refine hT.out.mono ?_)
    rintro e w3 ⟨rfl, hb3⟩
    have q3 := hd.out.over hb3
    have hb4 := hbd.out.trans (hb3.mono hB)
    have kt2 : KT w w3 p k.vb k.tv k.tv := (KT.below ((Below.refl w.heap.size w).drew)).trans (KT.below hb3) (Nat.le_refl _)
    replace kt2 := Lib.hid kt2
    replace q3 := Lib.hid q3
    replace hb4 := Lib.hid hb4
    clear hT hb3 hd
    go_wp2_with fail
    go_ret
    exact ⟨rfl, k.tv, q3.out, hb4.out, kt2.out⟩
end
end Go.Proofs.Ytembgefbmecdbaa
