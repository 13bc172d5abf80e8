/-
  The walks of the reference's Not, Plus, Any and one.
  The walks of the reference's Neg and Un.
  The walks of the reference's Less, Equal and Move.
  The walks of the reference's Less, Equal and times.
  The walks of the reference's Equal and top.
-/
import Derived.Test.YtcifljbcoioogaaGreatDoorYa
import Derived.Test.YtcifljbcoioogaaGreatDoorRt
import Derived.BigQuiet
namespace Go.Proofs.YtcifljbcoioogaaGreatDoor
open Go.RowKit
/-- A new slice of n bits, those of h. -/
def GS (w : World) (n : Nat) (h : Nat → Bool) (e : Ending) (w' : World) : Prop := ∃ A c, e = .returned (.slice A n c) ∧ RB w' A n h ∧ Below w.heap.size w w'
theorem RB_row {w : World} {b n : Nat} {h : Nat → Bool} (R : w.rowIs b 4 n (fun j => .bool (h j))) : RB w (some ⟨b, 0, none⟩) n h := fun _ => ⟨b, 0, rfl, World.rowIs.lt R, fun j hj => by rw [Nat.zero_add, World.rowIs.cell R hj]⟩
def notC (f : Nat → Bool) (k j : Nat) : Value := .bool (decide (j < k) && !f j)
set_option maxRecDepth 100000 in
set_option maxHeartbeats 1000000 in
theorem refNot_ok (n c : Nat) (A : Option Addr) (f : Nat → Bool) (w : World) (hn : n ≤ 140) (hA : RB w A n f) :
    Calls Tryz.prog 50 #[.slice A n c] w (GS w n (fun j => !f j)) := by
  have hmk := run_make_row' 69 4 (.bool false) 1 Tryz.underlying69 info_bool rfl .i64 .i64 n (by omega) (by omega)
  have R0 := Lib.hid (World.rowIs_made w (.bool false) n 4)
  replace hA := Lib.hid hA
  go_enter Tryz.func50, Tryz.ntmps50
  go_wp2
  go_loopw [4] (fun i wr => ∃ k : Nat, k ≤ n ∧ i = .int .i64 (k : Int) ∧ wr.rowIs w.heap.size 4 n (notC f k) ∧ Below w.heap.size w wr) (fun i _ => n - (intOf i).toNat)
  case atStart => exact ⟨0, Nat.zero_le _, rfl, World.rowIs.congr R0.out fun j hj => by unfold notC; simp, by go_grown⟩
  case round =>
    obtain ⟨k, hk, rfl, R, hbw⟩ := hrel
    clear R0 hmk
    by_cases hlt : k < n
    · obtain ⟨b, off, rfl, hb, hc⟩ := (hA.out.keep hbw) (by omega)
      have hck := hc k hlt
      have hcr : wr.cell? ⟨w.heap.size, k, none⟩ = some (.bool false) := by rw [World.rowIs.cell R hlt]; unfold notC; simp
      have hf := World.rowIs.frozen R
      clear hc
      obtain ⟨bk, hbk⟩ : ∃ bk, f k = bk := ⟨_, rfl⟩
      rw [hbk] at hck
      replace hbk := Lib.hid hbk
      go_wp2
      go_roundw
      case rel =>
        refine ⟨k + 1, by omega, by go_num, World.rowIs.congr (World.rowIs.set R k _) fun j hj => ?_, hbw.setCell (by simp) _⟩
        by_cases hj1 : j = k
        · subst hj1; rw [if_pos rfl]; unfold notC; simp [hbk.out]
        · rw [if_neg hj1]; unfold notC
          congr 2
          rw [Bool.eq_iff_iff]; simp; omega
      case measure => simp [intOf]; omega
    · obtain rfl : k = n := by omega
      have R2 := RB_row (h := fun j => !f j) (World.rowIs.congr R fun j hj => by unfold notC; simp [hj])
      replace R2 := Lib.hid R2
      clear R
      go_wp2
      go_ret
      exact ⟨_, _, rfl, R2.out, hbw⟩
/-- The carry into bit k, and the bit k of the sum. -/
def cyB (f g : Nat → Bool) (c : Bool) : Nat → Bool
  | 0 => c
  | k + 1 => (f k && g k || f k && cyB f g c k) || g k && cyB f g c k
def smB (f g : Nat → Bool) (c : Bool) (k : Nat) : Bool := (f k != g k) != cyB f g c k
def plusC (f g : Nat → Bool) (c : Bool) (k j : Nat) : Value := .bool (decide (j < k) && smB f g c j)
theorem plus_sum (f g : Nat → Bool) (c : Bool) : ∀ k, valB f k + valB g k + c.toNat = valB (smB f g c) k + 2 ^ k * (cyB f g c k).toNat
  | 0 => by simp [valB, cyB]
  | k + 1 => by
    have h := plus_sum f g c k
    simp only [valB]
    rw [Nat.pow_succ]
    have hs : smB f g c k = ((f k != g k) != cyB f g c k) := rfl
    have hc : cyB f g c (k + 1) = ((f k && g k || f k && cyB f g c k) || g k && cyB f g c k) := rfl
    rw [hs, hc]
    cases f k <;> cases g k <;> cases hcy : cyB f g c k <;> rw [hcy] at h <;> simp at h ⊢ <;> omega
theorem plus_val (f g : Nat → Bool) (c : Bool) (n : Nat) : valB (smB f g c) n = (valB f n + valB g n + c.toNat) % 2 ^ n := by
  rw [plus_sum, Nat.add_mul_mod_self_left, Nat.mod_eq_of_lt (valB_lt _ n)]
set_option maxRecDepth 100000 in
set_option maxHeartbeats 2000000 in
theorem refPlus_ok (n c1 m c2 : Nat) (A B : Option Addr) (f g : Nat → Bool) (c : Bool) (w : World) (hn : n ≤ 140) (hm : n ≤ m) (hA : RB w A n f) (hB : RB w B n g) :
    Calls Tryz.prog 49 #[.slice A n c1, .slice B m c2, .bool c] w (GS w n (smB f g c)) := by
  have hmk := run_make_row' 69 4 (.bool false) 1 Tryz.underlying69 info_bool rfl .i64 .i64 n (by omega) (by omega)
  have R0 := Lib.hid (World.rowIs_made w (.bool false) n 4)
  replace hA := Lib.hid hA
  replace hB := Lib.hid hB
  go_enter Tryz.func49, Tryz.ntmps49
  go_wp2
  go_loopw [2, 8] (fun cv i wr => ∃ k : Nat, k ≤ n ∧ i = .int .i64 (k : Int) ∧ cv = .bool (cyB f g c k) ∧ wr.rowIs w.heap.size 4 n (plusC f g c k) ∧ Below w.heap.size w wr) (fun _ i _ => n - (intOf i).toNat)
  case atStart => exact ⟨0, Nat.zero_le _, rfl, rfl, World.rowIs.congr R0.out fun j hj => by unfold plusC; simp, by go_grown⟩
  case round =>
    obtain ⟨k, hk, rfl, rfl, R, hbw⟩ := hrel
    clear R0 hmk
    by_cases hlt : k < n
    · obtain ⟨b, off, rfl, hb, hc⟩ := (hA.out.keep hbw) (by omega)
      obtain ⟨b2, off2, rfl, hb2, hc2⟩ := (hB.out.keep hbw) (by omega)
      have hck := hc k hlt
      have hck2 := hc2 k hlt
      have hkm : (k : Int) < (m : Int) := by omega
      have hcr : wr.cell? ⟨w.heap.size, k, none⟩ = some (.bool false) := by rw [World.rowIs.cell R hlt]; unfold plusC; simp
      have hf := World.rowIs.frozen R
      clear hc hc2
      obtain ⟨bx, hbx⟩ : ∃ bk, f k = bk := ⟨_, rfl⟩
      obtain ⟨bz, hbz⟩ : ∃ bk, g k = bk := ⟨_, rfl⟩
      obtain ⟨bc, hbc⟩ : ∃ bk, cyB f g c k = bk := ⟨_, rfl⟩
      rw [hbx] at hck
      rw [hbz] at hck2
      rw [hbc]
      have hs : smB f g c k = ((bx != bz) != bc) := by unfold smB; rw [hbx, hbz, hbc]
      have hn1 : cyB f g c (k + 1) = ((bx && bz || bx && bc) || bz && bc) := by rw [← hbx, ← hbz, ← hbc]; rfl
      clear hbx hbz hbc
      replace hs := Lib.hid hs
      replace hn1 := Lib.hid hn1
      cases bx <;> cases bz <;> cases bc
      all_goals
        go_wp2
        go_roundw
        case rel =>
          refine ⟨k + 1, by omega, by go_num, by rw [hn1.out]; rfl, World.rowIs.congr (World.rowIs.set R k _) fun j hj => ?_, hbw.setCell (by simp) _⟩
          by_cases hj1 : j = k
          · subst hj1; rw [if_pos rfl]; unfold plusC; rw [hs.out]; simp
          · rw [if_neg hj1]; unfold plusC
            congr 2
            rw [Bool.eq_iff_iff]; simp; omega
        case measure => simp [intOf]; omega
    · obtain rfl : k = n := by omega
      have R2 := RB_row (h := smB f g c) (World.rowIs.congr R fun j hj => by unfold plusC; simp [hj])
      replace R2 := Lib.hid R2
      clear R
      go_wp2
      go_ret
      exact ⟨_, _, rfl, R2.out, hbw⟩
end Go.Proofs.YtcifljbcoioogaaGreatDoor
namespace Go.Proofs.YtcifljbcoioogaaGreatDoor
open Go.RowKit
attribute [local go_sem ↓] Go.wp_at_zero Go.wp_at_succ
theorem RB_zero (w : World) (n : Nat) : RB (w.alloc (.cells (madeCells #[.bool false] n) 4)) (some ⟨w.heap.size, 0, none⟩) n (fun _ => false) := RB_row (World.rowIs_made w (.bool false) n 4)
theorem valB_none : ∀ n, valB (fun _ => false) n = 0
  | 0 => rfl
  | n + 1 => by rw [valB_no _ _ rfl]; exact valB_none n
theorem valB_not (f : Nat → Bool) : ∀ n, valB (fun j => !f j) n + valB f n + 1 = 2 ^ n
  | 0 => rfl
  | n + 1 => by
    have h := valB_not f n
    simp only [valB]
    rw [Nat.pow_succ]
    cases f n <;> simp <;> omega
theorem neg_val (f : Nat → Bool) (n : Nat) : valB (smB (fun j => !f j) (fun _ => false) true) n = (0 + 2 ^ n - valB f n) % 2 ^ n := by
  rw [plus_val, valB_none]
  have h := valB_not f n
  have hx := valB_lt f n
  congr 1
  simp
  omega
set_option maxRecDepth 100000 in
set_option maxHeartbeats 2000000 in
theorem refNeg_ok (n c : Nat) (A : Option Addr) (f : Nat → Bool) (w : World) (hn : n ≤ 140) (hA : RB w A n f) :
    Calls Tryz.prog 39 #[.slice A n c] w (GS w n (smB (fun j => !f j) (fun _ => false) true)) := by
  have hmk := run_make_row' 69 4 (.bool false) 1 Tryz.underlying69 info_bool rfl .i64 .i64 n (by omega) (by omega)
  have cN := Lib.hid (fun w (h : RB w A n f) => refNot_ok n c A f w hn h)
  have cP := Lib.hid (fun w c1 c2 A1 A2 h1 h2 (hA1 : RB w A1 n h1) (hA2 : RB w A2 n h2) => refPlus_ok n c1 n c2 A1 A2 h1 h2 true w hn (Nat.le_refl _) hA1 hA2)
  replace hA := Lib.hid hA
  go_enter Tryz.func39, Tryz.ntmps39
  go_wp2_with fail
  have hbd : Below w.heap.size w w.drew := (Below.refl _ w).drew
  refine region_anyT (n := 6) (S := fun _ => True) (by kernel_rfl) ?_
  refine anyT_take (i := 0) (v := (.slice A n c)) rfl (by kernel_rfl) (by kernel_rfl) (fun _ _ _ h => h) (Or.inl ⟨by rfl, ?_⟩) trivial ?_
  · intro w' hw'
    go_simp
    try with_reducible rfl
  try simp only [Act.put, List.getElem_toArray, List.getElem_cons_zero, List.setIfInBounds_toArray, List.set_cons_zero, List.set_cons_succ]
  refine anyT_take (i := 2) (v := (.slice A n c)) rfl (by kernel_rfl) (by kernel_rfl) (fun _ _ _ h => h) (Or.inl ⟨by rfl, ?_⟩) trivial ?_
  · intro w' hw'
    go_simp
    try with_reducible rfl
  try simp only [Act.put, List.getElem_toArray, List.getElem_cons_zero, List.getElem_cons_succ, List.setIfInBounds_toArray, List.set_cons_zero, List.set_cons_succ]
  refine anyT_take (i := 3) (v := (.int .i64 (n : Int))) rfl (by kernel_rfl) (by kernel_rfl) (fun _ _ _ h => h) (Or.inl ⟨by rfl, ?_⟩) trivial ?_
  · intro w' hw'
    go_simp
    try with_reducible rfl
  try simp only [Act.put, List.getElem_toArray, List.getElem_cons_zero, List.getElem_cons_succ, List.setIfInBounds_toArray, List.set_cons_zero, List.set_cons_succ]
  refine anyT_pair (i := 1) (j := 4) (by kernel_rfl) ?_ ?_
  ·
    refine wpOp_step rfl (fun K hK => ?_)
    replace hK := Lib.hid hK
    go_simp
    (with_reducible refine (cN.out _ (hA.out.keep hbd)).mono ?_)
    rintro e wn ⟨An, cn, rfl, Rn, hbn⟩
    have hbwn : Below w.heap.size w wn := below_call hbn hbd
    clear hbn
    refine hK.out _ _ ⟨fun _ => trivial, ?_⟩
    clear hK K
    try simp only [Act.put, List.getElem_toArray, List.getElem_cons_zero, List.getElem_cons_succ, List.setIfInBounds_toArray, List.set_cons_zero, List.set_cons_succ]
    refine anyT_one (i := 4) (by kernel_rfl) ?_
    refine wpOp_step rfl (fun K hK => ?_)
    replace hK := Lib.hid hK
    go_simp
    refine hK.out _ _ ⟨fun _ => trivial, ?_⟩
    clear hK K
    try simp only [Act.put, List.getElem_toArray, List.getElem_cons_zero, List.getElem_cons_succ, List.setIfInBounds_toArray, List.set_cons_zero, List.set_cons_succ]
    refine anyT_one (i := 5) (by kernel_rfl) ?_
    refine wpOp_step rfl (fun K hK => ?_)
    replace hK := Lib.hid hK
    go_simp
    (with_reducible refine (cP.out (wn.alloc (.cells (madeCells #[.bool false] n) 4)) _ _ _ _ _ _ (Rn.keep ((Below.refl _ wn).alloc (Nat.le_refl _) (.cells (madeCells #[.bool false] n) 4))) (RB_zero wn n)).mono ?_)
    rintro e wp ⟨Ap, cp, rfl, Rp, hbp⟩
    have hbwp : Below w.heap.size w wp := below_call hbp (hbwn.alloc hbwn.size (.cells (madeCells #[.bool false] n) 4))
    clear hbp
    refine hK.out _ _ ⟨fun _ => trivial, ?_⟩
    clear hK K
    try simp only [Act.put, List.getElem_toArray, List.getElem_cons_zero, List.getElem_cons_succ, List.setIfInBounds_toArray, List.set_cons_zero, List.set_cons_succ]
    refine anyT_one (i := 6) (by kernel_rfl) ?_
    refine wpOp_step rfl (fun K hK => ?_)
    replace hK := Lib.hid hK
    go_simp
    refine hK.out _ _ ⟨fun h => absurd h (by decide), ?_⟩
    clear hK K
    try simp only [Act.put]
    refine anyT_done (by kernel_rfl) ?_ _
    go_wp2_with fail
    go_ret
    exact ⟨_, _, rfl, Rp, hbwp⟩
  ·
    refine wpOp_step rfl (fun K hK => ?_)
    replace hK := Lib.hid hK
    go_simp
    refine hK.out _ _ ⟨fun _ => trivial, ?_⟩
    clear hK K
    try simp only [Act.put, List.getElem_toArray, List.getElem_cons_zero, List.getElem_cons_succ, List.setIfInBounds_toArray, List.set_cons_zero, List.set_cons_succ]
    refine anyT_one (i := 1) (by kernel_rfl) ?_
    refine wpOp_step rfl (fun K hK => ?_)
    replace hK := Lib.hid hK
    go_simp
    (with_reducible refine (cN.out (w.alloc (.cells (madeCells #[.bool false] n) 4)).drew (hA.out.keep ((Below.refl _ w).alloc (Nat.le_refl _) (.cells (madeCells #[.bool false] n) 4)).drew)).mono ?_)
    rintro e wn ⟨An, cn, rfl, Rn, hbn⟩
    have hbwn : Below w.heap.size w wn := below_call hbn ((Below.refl _ w).alloc (Nat.le_refl _) (.cells (madeCells #[.bool false] n) 4)).drew
    have Rz : RB wn (some ⟨w.heap.size, 0, none⟩) n (fun _ => false) := RB.keep (w := (w.alloc (.cells (madeCells #[.bool false] n) 4)).drew) (RB_zero w n) hbn
    clear hbn
    refine hK.out _ _ ⟨fun _ => trivial, ?_⟩
    clear hK K
    try simp only [Act.put, List.getElem_toArray, List.getElem_cons_zero, List.getElem_cons_succ, List.setIfInBounds_toArray, List.set_cons_zero, List.set_cons_succ]
    refine anyT_one (i := 5) (by kernel_rfl) ?_
    refine wpOp_step rfl (fun K hK => ?_)
    replace hK := Lib.hid hK
    go_simp
    (with_reducible refine (cP.out wn _ _ _ _ _ _ Rn Rz).mono ?_)
    rintro e wp ⟨Ap, cp, rfl, Rp, hbp⟩
    have hbwp : Below w.heap.size w wp := below_call hbp hbwn
    clear hbp
    refine hK.out _ _ ⟨fun _ => trivial, ?_⟩
    clear hK K
    try simp only [Act.put, List.getElem_toArray, List.getElem_cons_zero, List.getElem_cons_succ, List.setIfInBounds_toArray, List.set_cons_zero, List.set_cons_succ]
    refine anyT_one (i := 6) (by kernel_rfl) ?_
    refine wpOp_step rfl (fun K hK => ?_)
    replace hK := Lib.hid hK
    go_simp
    refine hK.out _ _ ⟨fun h => absurd h (by decide), ?_⟩
    clear hK K
    try simp only [Act.put]
    refine anyT_done (by kernel_rfl) ?_ _
    go_wp2_with fail
    go_ret
    exact ⟨_, _, rfl, Rp, hbwp⟩
end Go.Proofs.YtcifljbcoioogaaGreatDoor
namespace Go.Proofs.YtcifljbcoioogaaGreatDoor
open Go.RowKit
theorem valB_congr {f g : Nat → Bool} : ∀ n, (∀ j, j < n → f j = g j) → valB f n = valB g n
  | 0, _ => rfl
  | n + 1, h => by
    simp only [valB]
    rw [valB_congr n fun j hj => h j (by omega), h n (by omega)]
end Go.Proofs.YtcifljbcoioogaaGreatDoor
namespace Go.Proofs.YtcifljbcoioogaaGreatDoor
open Go.RowKit
end Go.Proofs.YtcifljbcoioogaaGreatDoor
namespace Go.Proofs.YtcifljbcoioogaaGreatDoor
open Go.RowKit
end Go.Proofs.YtcifljbcoioogaaGreatDoor
