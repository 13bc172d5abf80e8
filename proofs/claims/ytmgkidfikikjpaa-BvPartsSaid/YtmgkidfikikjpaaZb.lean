/-
  The walks of the reference's Neg and Un.
-/
import Derived.Test.YtmgkidfikikjpaaZa
import Derived.Test.YtmgkidfikikjpaaRt
namespace Go.Proofs.Ytmgkidfikikjpaa
open Go.RowKit
attribute [local go_sem ↓] Go.wp_at_zero Go.wp_at_succ
theorem RB_zero (w : World) (n : Nat) : RB (w.alloc (.cells (madeCells #[.bool false] n) 4)) (some ⟨w.heap.size, 0, none⟩) n (fun _ => false) := RB_row (World.rowIs_made w (.bool false) n 4)
theorem valB_none : ∀ n, valB (fun _ => false) n = 0
  | 0 => rfl
  | n + 1 => by rw [valB_no _ _ rfl]; exact valB_none n
theorem valB_not (f : Nat → Bool) : ∀ n, valB (fun j => !f j) n + valB f n + 1 = 2 ^ n
  | 0 => rfl
  | n + 1 => by
    have h := valB_not f n
    simp only [valB]
    rw [Nat.pow_succ]
    cases f n <;> simp <;> omega
theorem valB_one (b : Bool) : valB (fun _ => b) 1 = b.toNat := by cases b <;> rfl
theorem neg_val (f : Nat → Bool) (n : Nat) : valB (smB (fun j => !f j) (fun _ => false) true) n = (0 + 2 ^ n - valB f n) % 2 ^ n := by
  rw [plus_val, valB_none]
  have h := valB_not f n
  have hx := valB_lt f n
  congr 1
  simp
  omega
theorem not_val (f : Nat → Bool) (n : Nat) : valB (fun j => !f j) n = 2 ^ n - 1 - valB f n := by
  have h := valB_not f n
  omega
set_option maxRecDepth 100000 in
set_option maxHeartbeats 2000000 in
theorem refNeg_ok (n c : Nat) (A : Option Addr) (f : Nat → Bool) (w : World) (hn : n ≤ 140) (hA : RB w A n f) :
    Calls Try.prog 70 #[.slice A n c] w (GS w n (smB (fun j => !f j) (fun _ => false) true)) := by
  have hmk := run_make_row' 22 4 (.bool false) 1 Try.underlying22 info_bool rfl .i64 .i64 n (by omega) (by omega)
  have cN := Lib.hid (fun w (h : RB w A n f) => refNot_ok n c A f w hn h)
  have cP := Lib.hid (fun w c1 c2 A1 A2 h1 h2 (hA1 : RB w A1 n h1) (hA2 : RB w A2 n h2) => refPlus_ok n c1 n c2 A1 A2 h1 h2 true w hn (Nat.le_refl _) hA1 hA2)
  replace hA := Lib.hid hA
  go_enter Try.func70, Try.ntmps70
  go_wp2_with fail
  have hbd : Below w.heap.size w w.drew := (Below.refl _ w).drew
  refine region_anyT (n := 6) (S := fun _ => True) (by kernel_rfl) ?_
  refine anyT_take (i := 0) (v := (.slice A n c)) rfl (by kernel_rfl) (by kernel_rfl) (fun _ _ _ h => h) (Or.inl ⟨by rfl, ?_⟩) trivial ?_
  · intro w' hw'
    go_simp
    try with_reducible rfl
  try simp only [Act.put, List.getElem_toArray, List.getElem_cons_zero, List.setIfInBounds_toArray, List.set_cons_zero, List.set_cons_succ]
  refine anyT_take (i := 2) (v := (.slice A n c)) rfl (by kernel_rfl) (by kernel_rfl) (fun _ _ _ h => h) (Or.inl ⟨by rfl, ?_⟩) trivial ?_
  · intro w' hw'
    go_simp
    try with_reducible rfl
  try simp only [Act.put, List.getElem_toArray, List.getElem_cons_zero, List.getElem_cons_succ, List.setIfInBounds_toArray, List.set_cons_zero, List.set_cons_succ]
  refine anyT_take (i := 3) (v := (.int .i64 (n : Int))) rfl (by kernel_rfl) (by kernel_rfl) (fun _ _ _ h => h) (Or.inl ⟨by rfl, ?_⟩) trivial ?_
  · intro w' hw'
    go_simp
    try with_reducible rfl
  try simp only [Act.put, List.getElem_toArray, List.getElem_cons_zero, List.getElem_cons_succ, List.setIfInBounds_toArray, List.set_cons_zero, List.set_cons_succ]
  refine anyT_pair (i := 1) (j := 4) (by kernel_rfl) ?_ ?_
  ·
    refine wpOp_step rfl (fun K hK => ?_)
    replace hK := Lib.hid hK
    go_simp
    (with_reducible refine (cN.out _ (hA.out.keep hbd)).mono ?_)
    rintro e wn ⟨An, cn, rfl, Rn, hbn⟩
    have hbwn : Below w.heap.size w wn := below_call hbn hbd
    clear hbn
    refine hK.out _ _ ⟨fun _ => trivial, ?_⟩
    clear hK K
    try simp only [Act.put, List.getElem_toArray, List.getElem_cons_zero, List.getElem_cons_succ, List.setIfInBounds_toArray, List.set_cons_zero, List.set_cons_succ]
    refine anyT_one (i := 4) (by kernel_rfl) ?_
    refine wpOp_step rfl (fun K hK => ?_)
    replace hK := Lib.hid hK
    go_simp
    refine hK.out _ _ ⟨fun _ => trivial, ?_⟩
    clear hK K
    try simp only [Act.put, List.getElem_toArray, List.getElem_cons_zero, List.getElem_cons_succ, List.setIfInBounds_toArray, List.set_cons_zero, List.set_cons_succ]
    refine anyT_one (i := 5) (by kernel_rfl) ?_
    refine wpOp_step rfl (fun K hK => ?_)
    replace hK := Lib.hid hK
    go_simp
    (with_reducible refine (cP.out (wn.alloc (.cells (madeCells #[.bool false] n) 4)) _ _ _ _ _ _ (Rn.keep ((Below.refl _ wn).alloc (Nat.le_refl _) (.cells (madeCells #[.bool false] n) 4))) (RB_zero wn n)).mono ?_)
    rintro e wp ⟨Ap, cp, rfl, Rp, hbp⟩
    have hbwp : Below w.heap.size w wp := below_call hbp (hbwn.alloc hbwn.size (.cells (madeCells #[.bool false] n) 4))
    clear hbp
    refine hK.out _ _ ⟨fun _ => trivial, ?_⟩
    clear hK K
    try simp only [Act.put, List.getElem_toArray, List.getElem_cons_zero, List.getElem_cons_succ, List.setIfInBounds_toArray, List.set_cons_zero, List.set_cons_succ]
    refine anyT_one (i := 6) (by kernel_rfl) ?_
    refine wpOp_step rfl (fun K hK => ?_)
    replace hK := Lib.hid hK
    go_simp
    refine hK.out _ _ ⟨fun h => absurd h (by decide), ?_⟩
    clear hK K
    try simp only [Act.put]
    refine anyT_done (by kernel_rfl) ?_ _
    go_wp2_with fail
    go_ret
    exact ⟨_, _, rfl, Rp, hbwp⟩
  ·
    refine wpOp_step rfl (fun K hK => ?_)
    replace hK := Lib.hid hK
    go_simp
    refine hK.out _ _ ⟨fun _ => trivial, ?_⟩
    clear hK K
    try simp only [Act.put, List.getElem_toArray, List.getElem_cons_zero, List.getElem_cons_succ, List.setIfInBounds_toArray, List.set_cons_zero, List.set_cons_succ]
    refine anyT_one (i := 1) (by kernel_rfl) ?_
    refine wpOp_step rfl (fun K hK => ?_)
    replace hK := Lib.hid hK
    go_simp
    (with_reducible refine (cN.out (w.alloc (.cells (madeCells #[.bool false] n) 4)).drew (hA.out.keep ((Below.refl _ w).alloc (Nat.le_refl _) (.cells (madeCells #[.bool false] n) 4)).drew)).mono ?_)
    rintro e wn ⟨An, cn, rfl, Rn, hbn⟩
    have hbwn : Below w.heap.size w wn := below_call hbn ((Below.refl _ w).alloc (Nat.le_refl _) (.cells (madeCells #[.bool false] n) 4)).drew
    have Rz : RB wn (some ⟨w.heap.size, 0, none⟩) n (fun _ => false) := RB.keep (w := (w.alloc (.cells (madeCells #[.bool false] n) 4)).drew) (RB_zero w n) hbn
    clear hbn
    refine hK.out _ _ ⟨fun _ => trivial, ?_⟩
    clear hK K
    try simp only [Act.put, List.getElem_toArray, List.getElem_cons_zero, List.getElem_cons_succ, List.setIfInBounds_toArray, List.set_cons_zero, List.set_cons_succ]
    refine anyT_one (i := 5) (by kernel_rfl) ?_
    refine wpOp_step rfl (fun K hK => ?_)
    replace hK := Lib.hid hK
    go_simp
    (with_reducible refine (cP.out wn _ _ _ _ _ _ Rn Rz).mono ?_)
    rintro e wp ⟨Ap, cp, rfl, Rp, hbp⟩
    have hbwp : Below w.heap.size w wp := below_call hbp hbwn
    clear hbp
    refine hK.out _ _ ⟨fun _ => trivial, ?_⟩
    clear hK K
    try simp only [Act.put, List.getElem_toArray, List.getElem_cons_zero, List.getElem_cons_succ, List.setIfInBounds_toArray, List.set_cons_zero, List.set_cons_succ]
    refine anyT_one (i := 6) (by kernel_rfl) ?_
    refine wpOp_step rfl (fun K hK => ?_)
    replace hK := Lib.hid hK
    go_simp
    refine hK.out _ _ ⟨fun h => absurd h (by decide), ?_⟩
    clear hK K
    try simp only [Act.put]
    refine anyT_done (by kernel_rfl) ?_ _
    go_wp2_with fail
    go_ret
    exact ⟨_, _, rfl, Rp, hbwp⟩
/-- Is the number of set bits odd? -/
def xrB (f : Nat → Bool) : Nat → Bool
  | 0 => false
  | k + 1 => xrB f k != f k
end Go.Proofs.Ytmgkidfikikjpaa
