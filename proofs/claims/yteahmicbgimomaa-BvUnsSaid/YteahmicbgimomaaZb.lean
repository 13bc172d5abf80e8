/-
  The walks of the reference's Neg and Un.
-/
import Derived.Test.YteahmicbgimomaaZa
import Derived.Test.YteahmicbgimomaaRs
namespace Go.Proofs.Yteahmicbgimomaa
open Go.RowKit
attribute [local go_sem ↓] Go.wp_at_zero Go.wp_at_succ
theorem RB_zero (w : World) (n : Nat) : RB (w.alloc (.cells (madeCells #[.bool false] n) 4)) (some ⟨w.heap.size, 0, none⟩) n (fun _ => false) := RB_row (World.rowIs_made w (.bool false) n 4)
theorem valB_none : ∀ n, valB (fun _ => false) n = 0
  | 0 => rfl
  | n + 1 => by rw [valB_no _ _ rfl]; exact valB_none n
theorem valB_not (f : Nat → Bool) : ∀ n, valB (fun j => !f j) n + valB f n + 1 = 2 ^ n
  | 0 => rfl
  | n + 1 => by
    have h := valB_not f n
    simp only [valB]
    rw [Nat.pow_succ]
    cases f n <;> simp <;> omega
theorem valB_one (b : Bool) : valB (fun _ => b) 1 = b.toNat := by cases b <;> rfl
theorem neg_val (f : Nat → Bool) (n : Nat) : valB (smB (fun j => !f j) (fun _ => false) true) n = (0 + 2 ^ n - valB f n) % 2 ^ n := by
  rw [plus_val, valB_none]
  have h := valB_not f n
  have hx := valB_lt f n
  congr 1
  simp
  omega
theorem not_val (f : Nat → Bool) (n : Nat) : valB (fun j => !f j) n = 2 ^ n - 1 - valB f n := by
  have h := valB_not f n
  omega
set_option maxRecDepth 100000 in
set_option maxHeartbeats 2000000 in
theorem refNeg_ok (n c : Nat) (A : Option Addr) (f : Nat → Bool) (w : World) (hn : n ≤ 140) (hA : RB w A n f) :
    Calls Try.prog 68 #[.slice A n c] w (GS w n (smB (fun j => !f j) (fun _ => false) true)) := by
  have hmk := run_make_row' 23 4 (.bool false) 1 Try.underlying23 info_bool rfl .i64 .i64 n (by omega) (by omega)
  have cN := Lib.hid (fun w (h : RB w A n f) => refNot_ok n c A f w hn h)
  have cP := Lib.hid (fun w c1 c2 A1 A2 h1 h2 (hA1 : RB w A1 n h1) (hA2 : RB w A2 n h2) => refPlus_ok n c1 n c2 A1 A2 h1 h2 true w hn (Nat.le_refl _) hA1 hA2)
  replace hA := Lib.hid hA
  go_enter Try.func68, Try.ntmps68
  go_wp2_with fail
  have hbd : Below w.heap.size w w.drew := (Below.refl _ w).drew
  refine region_anyT (n := 6) (S := fun _ => True) (by kernel_rfl) ?_
  refine anyT_take (i := 0) (v := (.slice A n c)) rfl (by kernel_rfl) (by kernel_rfl) (fun _ _ _ h => h) (Or.inl ⟨by rfl, ?_⟩) trivial ?_
  · intro w' hw'
    go_simp
    try with_reducible rfl
  try simp only [Act.put, List.getElem_toArray, List.getElem_cons_zero, List.setIfInBounds_toArray, List.set_cons_zero, List.set_cons_succ]
  refine anyT_take (i := 2) (v := (.slice A n c)) rfl (by kernel_rfl) (by kernel_rfl) (fun _ _ _ h => h) (Or.inl ⟨by rfl, ?_⟩) trivial ?_
  · intro w' hw'
    go_simp
    try with_reducible rfl
  try simp only [Act.put, List.getElem_toArray, List.getElem_cons_zero, List.getElem_cons_succ, List.setIfInBounds_toArray, List.set_cons_zero, List.set_cons_succ]
  refine anyT_take (i := 3) (v := (.int .i64 (n : Int))) rfl (by kernel_rfl) (by kernel_rfl) (fun _ _ _ h => h) (Or.inl ⟨by rfl, ?_⟩) trivial ?_
  · intro w' hw'
    go_simp
    try with_reducible rfl
  try simp only [Act.put, List.getElem_toArray, List.getElem_cons_zero, List.getElem_cons_succ, List.setIfInBounds_toArray, List.set_cons_zero, List.set_cons_succ]
  refine anyT_pair (i := 1) (j := 4) (by kernel_rfl) ?_ ?_
  ·
    refine wpOp_step rfl (fun K hK => ?_)
    replace hK := Lib.hid hK
    go_simp
    (with_reducible refine (cN.out _ (hA.out.keep hbd)).mono ?_)
    rintro e wn ⟨An, cn, rfl, Rn, hbn⟩
    have hbwn : Below w.heap.size w wn := below_call hbn hbd
    clear hbn
    refine hK.out _ _ ⟨fun _ => trivial, ?_⟩
    clear hK K
    try simp only [Act.put, List.getElem_toArray, List.getElem_cons_zero, List.getElem_cons_succ, List.setIfInBounds_toArray, List.set_cons_zero, List.set_cons_succ]
    refine anyT_one (i := 4) (by kernel_rfl) ?_
    refine wpOp_step rfl (fun K hK => ?_)
    replace hK := Lib.hid hK
    go_simp
    refine hK.out _ _ ⟨fun _ => trivial, ?_⟩
    clear hK K
    try simp only [Act.put, List.getElem_toArray, List.getElem_cons_zero, List.getElem_cons_succ, List.setIfInBounds_toArray, List.set_cons_zero, List.set_cons_succ]
    refine anyT_one (i := 5) (by kernel_rfl) ?_
    refine wpOp_step rfl (fun K hK => ?_)
    replace hK := Lib.hid hK
    go_simp
    (with_reducible refine (cP.out (wn.alloc (.cells (madeCells #[.bool false] n) 4)) _ _ _ _ _ _ (Rn.keep ((Below.refl _ wn).alloc (Nat.le_refl _) (.cells (madeCells #[.bool false] n) 4))) (RB_zero wn n)).mono ?_)
    rintro e wp ⟨Ap, cp, rfl, Rp, hbp⟩
    have hbwp : Below w.heap.size w wp := below_call hbp (hbwn.alloc hbwn.size (.cells (madeCells #[.bool false] n) 4))
    clear hbp
    refine hK.out _ _ ⟨fun _ => trivial, ?_⟩
    clear hK K
    try simp only [Act.put, List.getElem_toArray, List.getElem_cons_zero, List.getElem_cons_succ, List.setIfInBounds_toArray, List.set_cons_zero, List.set_cons_succ]
    refine anyT_one (i := 6) (by kernel_rfl) ?_
    refine wpOp_step rfl (fun K hK => ?_)
    replace hK := Lib.hid hK
    go_simp
    refine hK.out _ _ ⟨fun h => absurd h (by decide), ?_⟩
    clear hK K
    try simp only [Act.put]
    refine anyT_done (by kernel_rfl) ?_ _
    go_wp2_with fail
    go_ret
    exact ⟨_, _, rfl, Rp, hbwp⟩
  ·
    refine wpOp_step rfl (fun K hK => ?_)
    replace hK := Lib.hid hK
    go_simp
    refine hK.out _ _ ⟨fun _ => trivial, ?_⟩
    clear hK K
    try simp only [Act.put, List.getElem_toArray, List.getElem_cons_zero, List.getElem_cons_succ, List.setIfInBounds_toArray, List.set_cons_zero, List.set_cons_succ]
    refine anyT_one (i := 1) (by kernel_rfl) ?_
    refine wpOp_step rfl (fun K hK => ?_)
    replace hK := Lib.hid hK
    go_simp
    (with_reducible refine (cN.out (w.alloc (.cells (madeCells #[.bool false] n) 4)).drew (hA.out.keep ((Below.refl _ w).alloc (Nat.le_refl _) (.cells (madeCells #[.bool false] n) 4)).drew)).mono ?_)
    rintro e wn ⟨An, cn, rfl, Rn, hbn⟩
    have hbwn : Below w.heap.size w wn := below_call hbn ((Below.refl _ w).alloc (Nat.le_refl _) (.cells (madeCells #[.bool false] n) 4)).drew
    have Rz : RB wn (some ⟨w.heap.size, 0, none⟩) n (fun _ => false) := RB.keep (w := (w.alloc (.cells (madeCells #[.bool false] n) 4)).drew) (RB_zero w n) hbn
    clear hbn
    refine hK.out _ _ ⟨fun _ => trivial, ?_⟩
    clear hK K
    try simp only [Act.put, List.getElem_toArray, List.getElem_cons_zero, List.getElem_cons_succ, List.setIfInBounds_toArray, List.set_cons_zero, List.set_cons_succ]
    refine anyT_one (i := 5) (by kernel_rfl) ?_
    refine wpOp_step rfl (fun K hK => ?_)
    replace hK := Lib.hid hK
    go_simp
    (with_reducible refine (cP.out wn _ _ _ _ _ _ Rn Rz).mono ?_)
    rintro e wp ⟨Ap, cp, rfl, Rp, hbp⟩
    have hbwp : Below w.heap.size w wp := below_call hbp hbwn
    clear hbp
    refine hK.out _ _ ⟨fun _ => trivial, ?_⟩
    clear hK K
    try simp only [Act.put, List.getElem_toArray, List.getElem_cons_zero, List.getElem_cons_succ, List.setIfInBounds_toArray, List.set_cons_zero, List.set_cons_succ]
    refine anyT_one (i := 6) (by kernel_rfl) ?_
    refine wpOp_step rfl (fun K hK => ?_)
    replace hK := Lib.hid hK
    go_simp
    refine hK.out _ _ ⟨fun h => absurd h (by decide), ?_⟩
    clear hK K
    try simp only [Act.put]
    refine anyT_done (by kernel_rfl) ?_ _
    go_wp2_with fail
    go_ret
    exact ⟨_, _, rfl, Rp, hbwp⟩
/-- Is the number of set bits odd? -/
def xrB (f : Nat → Bool) : Nat → Bool
  | 0 => false
  | k + 1 => xrB f k != f k
set_option maxRecDepth 100000 in
set_option maxHeartbeats 2000000 in
theorem refUn_0 (n c : Nat) (A : Option Addr) (f : Nat → Bool) (w : World) (h1 : 1 ≤ n) (hn : n ≤ 128) (hA : RB w A n f) :
    Calls Try.prog 29 #[.int .i64 0, .slice A n c] w (LB w n (fun j => !f j) 0) := by
  have cN := Lib.hid (fun w (h : RB w A n f) => refNot_ok n c A f w (by omega) h)
  have cG := Lib.hid (fun w (h : RB w A n f) => refNeg_ok n c A f w (by omega) h)
  have cY := Lib.hid (fun w c1 A1 h1 (h : RB w A1 n h1) => refAny_ok n c1 A1 h1 w (by omega) h)
  have cO := Lib.hid (fun w b => refOne_ok b w)
  have n0 : ((n : Int) == 0) = false := by simp; omega
  replace hA := Lib.hid hA
  go_enter Try.func29, Try.ntmps29
  go_wp2_with fail
  go_loop [6, 7] (fun o i => ∃ k : Nat, k ≤ n ∧ i = .int .i64 (k : Int) ∧ o = .bool (xrB f k)) (fun _ i => n - (intOf i).toNat)
  case atStart => exact ⟨0, Nat.zero_le _, rfl, rfl⟩
  case round =>
    obtain ⟨k, hk, rfl, rfl⟩ := hrel
    by_cases hlt : k < n
    · obtain ⟨b, off, rfl, hb, hc⟩ := hA.out (by omega)
      have hck := hc k hlt
      clear hc
      have hx1 : xrB f (k + 1) = (xrB f k != f k) := rfl
      generalize f k = b1 at hck hx1
      generalize xrB f k = b2 at hx1 ⊢
      replace hx1 := Lib.hid hx1
      go_wp2_with fail
      go_round
      case rel => exact ⟨k + 1, by omega, by go_num, by rw [hx1.out]; first | rfl | simp⟩
      case measure => simp [intOf]; omega
    · obtain rfl : k = n := by omega
      generalize hxr : xrB f k = xo
      replace hxr := Lib.hid hxr
      go_wp2_with fail
      (with_reducible refine (cN.out _ hA.out).mono ?_)
      rintro e wn ⟨An, cn, rfl, Rn, hbn⟩
      go_wp2_with fail
      go_ret2
      exact ⟨_, _, rfl, Rn, hbn⟩
set_option maxRecDepth 100000 in
set_option maxHeartbeats 2000000 in
theorem refUn_1 (n c : Nat) (A : Option Addr) (f : Nat → Bool) (w : World) (h1 : 1 ≤ n) (hn : n ≤ 128) (hA : RB w A n f) :
    Calls Try.prog 29 #[.int .i64 1, .slice A n c] w (LB w n (smB (fun j => !f j) (fun _ => false) true) 0) := by
  have cN := Lib.hid (fun w (h : RB w A n f) => refNot_ok n c A f w (by omega) h)
  have cG := Lib.hid (fun w (h : RB w A n f) => refNeg_ok n c A f w (by omega) h)
  have cY := Lib.hid (fun w c1 A1 h1 (h : RB w A1 n h1) => refAny_ok n c1 A1 h1 w (by omega) h)
  have cO := Lib.hid (fun w b => refOne_ok b w)
  have n0 : ((n : Int) == 0) = false := by simp; omega
  replace hA := Lib.hid hA
  go_enter Try.func29, Try.ntmps29
  go_wp2_with fail
  go_loop [6, 7] (fun o i => ∃ k : Nat, k ≤ n ∧ i = .int .i64 (k : Int) ∧ o = .bool (xrB f k)) (fun _ i => n - (intOf i).toNat)
  case atStart => exact ⟨0, Nat.zero_le _, rfl, rfl⟩
  case round =>
    obtain ⟨k, hk, rfl, rfl⟩ := hrel
    by_cases hlt : k < n
    · obtain ⟨b, off, rfl, hb, hc⟩ := hA.out (by omega)
      have hck := hc k hlt
      clear hc
      have hx1 : xrB f (k + 1) = (xrB f k != f k) := rfl
      generalize f k = b1 at hck hx1
      generalize xrB f k = b2 at hx1 ⊢
      replace hx1 := Lib.hid hx1
      go_wp2_with fail
      go_round
      case rel => exact ⟨k + 1, by omega, by go_num, by rw [hx1.out]; first | rfl | simp⟩
      case measure => simp [intOf]; omega
    · obtain rfl : k = n := by omega
      generalize hxr : xrB f k = xo
      replace hxr := Lib.hid hxr
      go_wp2_with fail
      (with_reducible refine (cG.out _ hA.out).mono ?_)
      rintro e wn ⟨An, cn, rfl, Rn, hbn⟩
      go_wp2_with fail
      go_ret2
      exact ⟨_, _, rfl, Rn, hbn⟩
set_option maxRecDepth 100000 in
set_option maxHeartbeats 2000000 in
theorem refUn_2 (n c : Nat) (A : Option Addr) (f : Nat → Bool) (w : World) (h1 : 1 ≤ n) (hn : n ≤ 128) (hA : RB w A n f) :
    Calls Try.prog 29 #[.int .i64 2, .slice A n c] w (LB w 1 (fun _ => !(!(valB (fun j => !f j) n == 0))) 0) := by
  have cN := Lib.hid (fun w (h : RB w A n f) => refNot_ok n c A f w (by omega) h)
  have cG := Lib.hid (fun w (h : RB w A n f) => refNeg_ok n c A f w (by omega) h)
  have cY := Lib.hid (fun w c1 A1 h1 (h : RB w A1 n h1) => refAny_ok n c1 A1 h1 w (by omega) h)
  have cO := Lib.hid (fun w b => refOne_ok b w)
  have n0 : ((n : Int) == 0) = false := by simp; omega
  replace hA := Lib.hid hA
  go_enter Try.func29, Try.ntmps29
  go_wp2_with fail
  go_loop [6, 7] (fun o i => ∃ k : Nat, k ≤ n ∧ i = .int .i64 (k : Int) ∧ o = .bool (xrB f k)) (fun _ i => n - (intOf i).toNat)
  case atStart => exact ⟨0, Nat.zero_le _, rfl, rfl⟩
  case round =>
    obtain ⟨k, hk, rfl, rfl⟩ := hrel
    by_cases hlt : k < n
    · obtain ⟨b, off, rfl, hb, hc⟩ := hA.out (by omega)
      have hck := hc k hlt
      clear hc
      have hx1 : xrB f (k + 1) = (xrB f k != f k) := rfl
      generalize f k = b1 at hck hx1
      generalize xrB f k = b2 at hx1 ⊢
      replace hx1 := Lib.hid hx1
      go_wp2_with fail
      go_round
      case rel => exact ⟨k + 1, by omega, by go_num, by rw [hx1.out]; first | rfl | simp⟩
      case measure => simp [intOf]; omega
    · obtain rfl : k = n := by omega
      generalize hxr : xrB f k = xo
      replace hxr := Lib.hid hxr
      go_wp2_with fail
      (with_reducible refine (cN.out _ hA.out).mono ?_)
      rintro e wn ⟨An, cn, rfl, Rn, hbn⟩
      go_wp2_with fail
      (with_reducible refine (cY.out _ _ _ _ Rn).mono ?_)
      rintro e w0 ⟨rfl, rfl⟩
      generalize hv : (valB (fun j => !f j) k == 0) = bv
      replace hv := Lib.hid hv
      go_wp2_with fail
      (with_reducible refine (cO.out _ _).mono ?_)
      rintro e wo ⟨Ao, co, rfl, Ro, hbo⟩
      go_wp2_with fail
      go_ret2
      exact ⟨_, _, rfl, (by rw [hv.out]; simpa using Ro), below_call hbo hbn⟩
set_option maxRecDepth 100000 in
set_option maxHeartbeats 2000000 in
theorem refUn_3 (n c : Nat) (A : Option Addr) (f : Nat → Bool) (w : World) (h1 : 1 ≤ n) (hn : n ≤ 128) (hA : RB w A n f) :
    Calls Try.prog 29 #[.int .i64 3, .slice A n c] w (LB w 1 (fun _ => !(valB f n == 0)) 0) := by
  have cN := Lib.hid (fun w (h : RB w A n f) => refNot_ok n c A f w (by omega) h)
  have cG := Lib.hid (fun w (h : RB w A n f) => refNeg_ok n c A f w (by omega) h)
  have cY := Lib.hid (fun w c1 A1 h1 (h : RB w A1 n h1) => refAny_ok n c1 A1 h1 w (by omega) h)
  have cO := Lib.hid (fun w b => refOne_ok b w)
  have n0 : ((n : Int) == 0) = false := by simp; omega
  replace hA := Lib.hid hA
  go_enter Try.func29, Try.ntmps29
  go_wp2_with fail
  go_loop [6, 7] (fun o i => ∃ k : Nat, k ≤ n ∧ i = .int .i64 (k : Int) ∧ o = .bool (xrB f k)) (fun _ i => n - (intOf i).toNat)
  case atStart => exact ⟨0, Nat.zero_le _, rfl, rfl⟩
  case round =>
    obtain ⟨k, hk, rfl, rfl⟩ := hrel
    by_cases hlt : k < n
    · obtain ⟨b, off, rfl, hb, hc⟩ := hA.out (by omega)
      have hck := hc k hlt
      clear hc
      have hx1 : xrB f (k + 1) = (xrB f k != f k) := rfl
      generalize f k = b1 at hck hx1
      generalize xrB f k = b2 at hx1 ⊢
      replace hx1 := Lib.hid hx1
      go_wp2_with fail
      go_round
      case rel => exact ⟨k + 1, by omega, by go_num, by rw [hx1.out]; first | rfl | simp⟩
      case measure => simp [intOf]; omega
    · obtain rfl : k = n := by omega
      generalize hxr : xrB f k = xo
      replace hxr := Lib.hid hxr
      go_wp2_with fail
      (with_reducible refine (cY.out _ _ _ _ hA.out).mono ?_)
      rintro e w0 ⟨rfl, rfl⟩
      generalize hv : (valB f k == 0) = bv
      replace hv := Lib.hid hv
      go_wp2_with fail
      (with_reducible refine (cO.out _ _).mono ?_)
      rintro e wo ⟨Ao, co, rfl, Ro, hbo⟩
      go_wp2_with fail
      go_ret2
      exact ⟨_, _, rfl, (by rw [hv.out]; simpa using Ro), hbo⟩
set_option maxRecDepth 100000 in
set_option maxHeartbeats 2000000 in
theorem refUn_4 (n c : Nat) (A : Option Addr) (f : Nat → Bool) (w : World) (h1 : 1 ≤ n) (hn : n ≤ 128) (hA : RB w A n f) :
    Calls Try.prog 29 #[.int .i64 4, .slice A n c] w (LB w 1 (fun _ => xrB f n) 0) := by
  have cN := Lib.hid (fun w (h : RB w A n f) => refNot_ok n c A f w (by omega) h)
  have cG := Lib.hid (fun w (h : RB w A n f) => refNeg_ok n c A f w (by omega) h)
  have cY := Lib.hid (fun w c1 A1 h1 (h : RB w A1 n h1) => refAny_ok n c1 A1 h1 w (by omega) h)
  have cO := Lib.hid (fun w b => refOne_ok b w)
  have n0 : ((n : Int) == 0) = false := by simp; omega
  replace hA := Lib.hid hA
  go_enter Try.func29, Try.ntmps29
  go_wp2_with fail
  go_loop [6, 7] (fun o i => ∃ k : Nat, k ≤ n ∧ i = .int .i64 (k : Int) ∧ o = .bool (xrB f k)) (fun _ i => n - (intOf i).toNat)
  case atStart => exact ⟨0, Nat.zero_le _, rfl, rfl⟩
  case round =>
    obtain ⟨k, hk, rfl, rfl⟩ := hrel
    by_cases hlt : k < n
    · obtain ⟨b, off, rfl, hb, hc⟩ := hA.out (by omega)
      have hck := hc k hlt
      clear hc
      have hx1 : xrB f (k + 1) = (xrB f k != f k) := rfl
      generalize f k = b1 at hck hx1
      generalize xrB f k = b2 at hx1 ⊢
      replace hx1 := Lib.hid hx1
      go_wp2_with fail
      go_round
      case rel => exact ⟨k + 1, by omega, by go_num, by rw [hx1.out]; first | rfl | simp⟩
      case measure => simp [intOf]; omega
    · obtain rfl : k = n := by omega
      generalize hxr : xrB f k = xo
      replace hxr := Lib.hid hxr
      go_wp2_with fail
      (with_reducible refine (cO.out _ _).mono ?_)
      rintro e wo ⟨Ao, co, rfl, Ro, hbo⟩
      go_wp2_with fail
      go_ret2
      exact ⟨_, _, rfl, by rw [hxr.out]; exact Ro, hbo⟩
set_option maxRecDepth 100000 in
set_option maxHeartbeats 2000000 in
theorem refUn_5 (n c : Nat) (A : Option Addr) (f : Nat → Bool) (w : World) (h1 : 1 ≤ n) (hn : n ≤ 128) (hA : RB w A n f) :
    Calls Try.prog 29 #[.int .i64 5, .slice A n c] w (LB w 1 (fun _ => !(!(valB f n == 0))) 0) := by
  have cN := Lib.hid (fun w (h : RB w A n f) => refNot_ok n c A f w (by omega) h)
  have cG := Lib.hid (fun w (h : RB w A n f) => refNeg_ok n c A f w (by omega) h)
  have cY := Lib.hid (fun w c1 A1 h1 (h : RB w A1 n h1) => refAny_ok n c1 A1 h1 w (by omega) h)
  have cO := Lib.hid (fun w b => refOne_ok b w)
  have n0 : ((n : Int) == 0) = false := by simp; omega
  replace hA := Lib.hid hA
  go_enter Try.func29, Try.ntmps29
  go_wp2_with fail
  go_loop [6, 7] (fun o i => ∃ k : Nat, k ≤ n ∧ i = .int .i64 (k : Int) ∧ o = .bool (xrB f k)) (fun _ i => n - (intOf i).toNat)
  case atStart => exact ⟨0, Nat.zero_le _, rfl, rfl⟩
  case round =>
    obtain ⟨k, hk, rfl, rfl⟩ := hrel
    by_cases hlt : k < n
    · obtain ⟨b, off, rfl, hb, hc⟩ := hA.out (by omega)
      have hck := hc k hlt
      clear hc
      have hx1 : xrB f (k + 1) = (xrB f k != f k) := rfl
      generalize f k = b1 at hck hx1
      generalize xrB f k = b2 at hx1 ⊢
      replace hx1 := Lib.hid hx1
      go_wp2_with fail
      go_round
      case rel => exact ⟨k + 1, by omega, by go_num, by rw [hx1.out]; first | rfl | simp⟩
      case measure => simp [intOf]; omega
    · obtain rfl : k = n := by omega
      generalize hxr : xrB f k = xo
      replace hxr := Lib.hid hxr
      go_wp2_with fail
      (with_reducible refine (cY.out _ _ _ _ hA.out).mono ?_)
      rintro e w0 ⟨rfl, rfl⟩
      generalize hv : (valB f k == 0) = bv
      replace hv := Lib.hid hv
      go_wp2_with fail
      (with_reducible refine (cO.out _ _).mono ?_)
      rintro e wo ⟨Ao, co, rfl, Ro, hbo⟩
      go_wp2_with fail
      go_ret2
      exact ⟨_, _, rfl, (by rw [hv.out]; simpa using Ro), hbo⟩
set_option maxHeartbeats 400000 in
theorem refUn_bad (op : Int) (n c : Nat) (A : Option Addr) (h : Nat → Bool) (w : World) (ho : op < 0 ∨ 5 < op) :
    Calls Try.prog 29 #[.int .i64 op, .slice A n c] w (LB w 0 h 1) := by
  rcases ho with ho | ho
  · go_enter Try.func29, Try.ntmps29
    go_wp2
    go_ret2
    exact ⟨none, 0, rfl, fun h => absurd h (by omega), Below.refl _ _⟩
  · have h1 : decide (op < 0) = false := by simp; omega
    have h2 : decide (5 < op) = true := by simp; omega
    go_enter Try.func29, Try.ntmps29
    go_wp2
    go_ret2
    exact ⟨none, 0, rfl, fun h => absurd h (by omega), Below.refl _ _⟩
set_option maxHeartbeats 400000 in
theorem refUn_none (op : Int) (c : Nat) (A : Option Addr) (h : Nat → Bool) (w : World) (h0 : 0 ≤ op) (h5 : op ≤ 5) :
    Calls Try.prog 29 #[.int .i64 op, .slice A 0 c] w (LB w 0 h 2) := by
  have h1 : decide (op < 0) = false := by simp; omega
  have h2 : decide (5 < op) = false := by simp; omega
  go_enter Try.func29, Try.ntmps29
  go_wp2
  go_ret2
  exact ⟨none, 0, rfl, fun h => absurd h (by omega), Below.refl _ _⟩
end Go.Proofs.Yteahmicbgimomaa
