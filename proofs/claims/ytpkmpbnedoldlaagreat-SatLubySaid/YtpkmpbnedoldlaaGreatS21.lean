/-
  accept: the clause of two literals; a literal that is open.
-/
import Derived.Test.YtpkmpbnedoldlaaGreatS20
import Derived.Test.YtpkmpbnedoldlaaGreatS8
namespace Go.Proofs.YtpkmpbnedoldlaaGreat
open Go.RowKit Go.Lib
section
variable {B p : Nat} {k : Bk} {s : St} (w : World)
set_option maxRecDepth 100000 in
set_option maxHeartbeats 6400000 in
theorem accept_2 (h : SIx B w p k s) (hws : s.ws = false) (hr : s.r0 = false ∧ s.r1 = false) {cl : Nat} (hcl : CB w cl #[lv 0, lv 2] 81) (hBc : B ≤ cl) (htv : ∀ g, k.tv.ownBlock = some g → g ≠ cl) (hB : B ≤ w.heap.size) :
    Calls Tryz.prog 34 #[pp p, sl cl 2] w fun e w' => e = .returned (.tuple #[]) ∧ (∃ k', SIx B w' p k' { s with ws := true, c0 := 0, c1 := 2, o0 := 2, o2 := 0 }) ∧ Below B w w' := by
  have hA : ∀ W, Below w.heap.size w W → Calls Tryz.prog 55 #[pp p, pp W.heap.size] (W.alloc (.cells #[sl cl 2, iz 0, iz 0, .bool false] 92)).drew (fun e w' => e = .returned (.tuple #[]) ∧ (∃ k', SIx B w' p k' { s with ws := true, c0 := 0, c1 := 2, o0 := 2, o2 := 0 }) ∧ Below B w w') := by
    intro W hW
    have hw1 : Below w.heap.size w (W.alloc (.cells #[sl cl 2, iz 0, iz 0, .bool false] 92)).drew := (hW.alloc hW.size _).drew
    have hcb : CB (W.alloc (.cells #[sl cl 2, iz 0, iz 0, .bool false] 92)).drew W.heap.size #[sl cl 2, iz 0, iz 0, .bool false] 92 := heap_alloc_new W _
    have hBW : B ≤ W.heap.size := Nat.le_trans hB hW.size
    refine (attach_t _ (h.over hw1) hws hr hcb (hcl.over hw1) ⟨hBW, hBc⟩ htv (by simp; omega)).mono ?_
    rintro e w' ⟨q1, ⟨W0, W2, q2⟩, q3⟩
    exact ⟨q1, ⟨_, q2⟩, (hw1.mono hB).trans q3⟩
  replace hA := Lib.hid hA
  clear h hws hr hcl htv
  go_enter Tryz.func34, Tryz.ntmps34
  go_wp2_with fail
  go_region
  go_wp2_with fail
  (with_reducible refine (hA.out w (Below.refl _ _)).mono ?_)
  rintro e w1 ⟨rfl, hs, hb⟩
  replace hs := Lib.hid hs
  replace hb := Lib.hid hb
  clear hA
  go_wp2_with fail
  exact bodyPost_end (v := .tuple #[]) (by simp [results, Tryz.results34, go_sem]) rfl ⟨rfl, hs.out, hb.out⟩
set_option maxRecDepth 100000 in
set_option maxHeartbeats 6400000 in
theorem accept_l1 (h : SIx B w p k s) {cl : Nat} (hcl : CB w cl #[lv 1] 81) (hv : s.v1 = 0) (ht : s.tr.length < 2) (hB : B ≤ w.heap.size) :
    Calls Tryz.prog 34 #[pp p, sl cl 1] w fun e w' => e = .returned (.tuple #[]) ∧ (∃ k', SIx B w' p k' { s with v1 := 1, v0 := -1, l0 := s.ss.length, r0 := false, tr := s.tr ++ [1] }) ∧ Below B w w' := by
  have c0 : w.cell? ⟨cl, 0, none⟩ = some (lv 1) := hcl.c 0
  have cll := lt_of_get hcl
  have bl := lt_of_get h.blk
  have hT : ∀ W, Below w.heap.size w W → Calls Tryz.prog 43 #[pp p, lv 1] W (RW W (.bool false)) := fun W hW => isT W (h.over hW) 1 (by decide) _ hv
  have hF : ∀ W, Below w.heap.size w W → Calls Tryz.prog 54 #[pp p, lv 1] W (RW W (.bool false)) := fun W hW => isF W (h.over hW) 1 (by decide) _ hv
  have hA : ∀ W, Below w.heap.size w W → Calls Tryz.prog 56 #[pp p, lv 1, .pointer none] W (fun e w' => e = .returned (.tuple #[]) ∧ (∃ k', SIx B w' p k' { s with v1 := 1, v0 := -1, l0 := s.ss.length, r0 := false, tr := s.tr ++ [1] }) ∧ Below B w w') := by
    intro W hW
    refine (assign_1 W (h.over hW) ht (Nat.le_trans hB hW.size)).mono ?_
    rintro e w' ⟨q1, tv, q2, q3⟩
    exact ⟨q1, ⟨_, q2⟩, (hW.mono hB).trans q3⟩
  replace hT := Lib.hid hT
  replace hF := Lib.hid hF
  replace hA := Lib.hid hA
  clear h hv ht hB hcl
  go_enter Tryz.func34, Tryz.ntmps34
  go_wp2_with fail
  go_region_held3 (fun w' => w'.cell? ⟨cl, 0, none⟩ = some (lv 1)) (exact c0)
    (first
      | (go_at_call 54; (with_reducible refine (hF.out _ (Below.refl _ _).drew).mono ?_); rintro e w9 ⟨rfl, hw9⟩; subst hw9))
  go_wp2_with fail
  go_region_held3 (fun w' => w'.cell? ⟨cl, 0, none⟩ = some (lv 1)) (exact c0)
    (first
      | (go_at_call 43; (with_reducible refine (hT.out _ (Below.refl _ _).drew.drew).mono ?_); rintro e w9 ⟨rfl, hw9⟩; subst hw9))
  go_wp2_with fail
  go_region_with (first
    | (go_at_call 56; (with_reducible refine (hA.out _ (Below.refl _ _).drew.drew.drew).mono ?_); rintro e w7 ⟨rfl, hs, hb⟩))
  all_goals (
    go_wp2_with fail
    exact bodyPost_end (v := .tuple #[]) (by simp [results, Tryz.results34, go_sem]) rfl ⟨rfl, hs, hb⟩)
set_option maxRecDepth 100000 in
set_option maxHeartbeats 6400000 in
theorem accept_l3 (h : SIx B w p k s) {cl : Nat} (hcl : CB w cl #[lv 3] 81) (hv : s.v3 = 0) (ht : s.tr.length < 2) (hB : B ≤ w.heap.size) :
    Calls Tryz.prog 34 #[pp p, sl cl 1] w fun e w' => e = .returned (.tuple #[]) ∧ (∃ k', SIx B w' p k' { s with v3 := 1, v2 := -1, l1 := s.ss.length, r1 := false, tr := s.tr ++ [3] }) ∧ Below B w w' := by
  have c0 : w.cell? ⟨cl, 0, none⟩ = some (lv 3) := hcl.c 0
  have cll := lt_of_get hcl
  have bl := lt_of_get h.blk
  have hT : ∀ W, Below w.heap.size w W → Calls Tryz.prog 43 #[pp p, lv 3] W (RW W (.bool false)) := fun W hW => isT W (h.over hW) 3 (by decide) _ hv
  have hF : ∀ W, Below w.heap.size w W → Calls Tryz.prog 54 #[pp p, lv 3] W (RW W (.bool false)) := fun W hW => isF W (h.over hW) 3 (by decide) _ hv
  have hA : ∀ W, Below w.heap.size w W → Calls Tryz.prog 56 #[pp p, lv 3, .pointer none] W (fun e w' => e = .returned (.tuple #[]) ∧ (∃ k', SIx B w' p k' { s with v3 := 1, v2 := -1, l1 := s.ss.length, r1 := false, tr := s.tr ++ [3] }) ∧ Below B w w') := by
    intro W hW
    refine (assign_3 W (h.over hW) ht (Nat.le_trans hB hW.size)).mono ?_
    rintro e w' ⟨q1, tv, q2, q3⟩
    exact ⟨q1, ⟨_, q2⟩, (hW.mono hB).trans q3⟩
  replace hT := Lib.hid hT
  replace hF := Lib.hid hF
  replace hA := Lib.hid hA
  clear h hv ht hB hcl
  go_enter Tryz.func34, Tryz.ntmps34
  go_wp2_with fail
  go_region_held3 (fun w' => w'.cell? ⟨cl, 0, none⟩ = some (lv 3)) (exact c0)
    (first
      | (go_at_call 54; (with_reducible refine (hF.out _ (Below.refl _ _).drew).mono ?_); rintro e w9 ⟨rfl, hw9⟩; subst hw9))
  go_wp2_with fail
  go_region_held3 (fun w' => w'.cell? ⟨cl, 0, none⟩ = some (lv 3)) (exact c0)
    (first
      | (go_at_call 43; (with_reducible refine (hT.out _ (Below.refl _ _).drew.drew).mono ?_); rintro e w9 ⟨rfl, hw9⟩; subst hw9))
  go_wp2_with fail
  go_region_with (first
    | (go_at_call 56; (with_reducible refine (hA.out _ (Below.refl _ _).drew.drew.drew).mono ?_); rintro e w7 ⟨rfl, hs, hb⟩))
  all_goals (
    go_wp2_with fail
    exact bodyPost_end (v := .tuple #[]) (by simp [results, Tryz.results34, go_sem]) rfl ⟨rfl, hs, hb⟩)
end
end Go.Proofs.YtpkmpbnedoldlaaGreat
