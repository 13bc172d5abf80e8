/-
  The walks of the reference's Bin: signed comparison; where it refuses. And bv's Bin where it refuses.
-/
import Derived.Test.YtmgkidfikikjpaaBe
namespace Go.Proofs.Ytmgkidfikikjpaa
open Go.RowKit
/-- A slice that the call made: n bits, not frozen. -/
def OA (w : World) (g n : Nat) (f : Nat → Bool) : Prop := g < w.heap.size ∧ (∀ j, j < n → w.cell? ⟨g, j, none⟩ = some (.bool (f j))) ∧ ∀ j, w.frozen? ⟨g, j, none⟩ = false
theorem OA.rb {w : World} {g n : Nat} {f : Nat → Bool} (h : OA w g n f) : RB w (some ⟨g, 0, none⟩) n f := fun _ => ⟨g, 0, rfl, h.1, fun j hj => by rw [Nat.zero_add]; exact h.2.1 j hj⟩
theorem OA.over {w w' : World} {g n : Nat} {f : Nat → Bool} (h : OA w g n f) (hb : Below w.heap.size w w') : OA w' g n f := ⟨Nat.lt_of_lt_of_le h.1 hb.size, fun j hj => cellB (h.2.1 j hj) hb, fun j => (hb.frozen (p := ⟨g, j, none⟩) h.1).trans (h.2.2 j)⟩
theorem OA.own {w : World} {base g cap n : Nat} {f : Nat → Bool} (h : w.ownsRow base 4 1 (.slice (some ⟨g, 0, none⟩) n cap) n (bcs f n)) (hl : g < w.heap.size) : OA w g n f := ⟨hl, fun j hj => by rw [World.ownsRow.cellAt h j (by omega), bcs_get f n j hj], fun j => World.ownsRow.frozenAt h j⟩
theorem OA.set {w : World} {g n q : Nat} {f : Nat → Bool} (h : OA w g n f) (hq : n = q + 1) : OA (w.setCell ⟨g, q, none⟩ (.bool (!f q))) g n (flip f n) := by
  subst hq
  refine ⟨by simp; exact h.1, fun j hj => ?_, fun j => ?_⟩
  · unfold flip
    by_cases hj1 : j = q
    · subst hj1
      rw [if_pos (by omega), World.cell?_setCell_same' _ _ _ (by rw [h.2.1 j hj]; rfl)]
    · rw [if_neg (by omega)]
      rw [World.cell?_setCell_other w ⟨g, q, none⟩ ⟨g, j, none⟩ _ (by intro e; cases e; omega)]
      exact h.2.1 j hj
  · rw [World.frozen?_setCell]; exact h.2.2 j
theorem OA.far {w : World} {g n : Nat} {f : Nat → Bool} (h : OA w g n f) {p : Addr} (hp : p.block ≠ g) (v : Value) : OA (w.setCell p v) g n f := ⟨by simp; exact h.1, fun j hj => by rw [World.cell?_setCell_far w p _ v hp]; exact h.2.1 j hj, fun j => by rw [World.frozen?_setCell]; exact h.2.2 j⟩
set_option maxRecDepth 1000000 in
set_option maxHeartbeats 2000000 in
theorem refBin_17 (n c1 c2 x y : Nat) (A B : Option Addr) (w : World) (h1 : 1 ≤ n) (hn : n ≤ 128) (hA : RB w A n (tb x)) (hB : RB w B n (tb y)) (hx : x < 2 ^ n) (hy : y < 2 ^ n) :
    Calls Try.prog 10 #[.int .i64 17, .slice A n c1, .slice B n c2] w (LN w 1 (sltN n x y).toNat 0) := by
  have hmk := run_make_row' 22 4 (.bool false) 1 Try.underlying22 info_bool rfl .i64 .i64 n (by omega) (by omega)
  have cM := fun w (h : RB w B n (tb y)) => refNum_nat n c2 n (by omega) B (tb y) w (by omega) h
  rw [valB_tbl y n hy] at cM
  replace cM := Lib.hid cM
  have n1 : ((n : Int) != (n : Int)) = false := by simp
  have n0 : ((n : Int) == 0) = false := by simp; omega
  obtain ⟨i0, hi, hz0, hz1, hz2⟩ := info_parts info_bool
  have sl := flip_less (tb x) (tb y) n h1
  rw [valB_tbl x n hx, valB_tbl y n hy] at sl
  have cP := fun w A1 A2 (h : RB w A1 n (flip (tb x) n)) (h2 : RB w A2 n (flip (tb y) n)) c1 c2 => refLess_ok n c1 c2 A1 A2 _ _ w (by omega) h h2
  rw [sl] at cP
  replace cP := Lib.hid cP
  clear sl
  have cO := Lib.hid (fun w b => (refOne_ok b w).mono fun e w' g => g.num (x := b.toNat) (by cases b <;> rfl))
  replace hA := Lib.hid hA
  replace hB := Lib.hid hB
  generalize sltN n x y = bb at *
  go_enter Try.func10, Try.ntmps10
  go_wp2_with fail
  (with_reducible refine (cM.out _ (hB.out.keep (by go_grown))).mono ?_)
  rintro e w0 ⟨rfl, rfl⟩
  obtain ⟨W, hW⟩ : ∃ W, w.alloc (.cells (madeCells #[.bool false] n) 4) = W := ⟨_, rfl⟩
  have hbw0 : Below w.heap.size w W := by rw [← hW]; go_grown
  rw [hW]
  clear hmk
  replace hW := Lib.hid hW
  obtain ⟨q, hq⟩ : ∃ q, n = q + 1 := ⟨n - 1, by omega⟩
  obtain ⟨ba, oba, rfl, hlba, hcba⟩ := (hA.out.keep hbw0) (by omega)
  obtain ⟨bb2, obb2, rfl, hlbb2, hcbb2⟩ := (hB.out.keep hbw0) (by omega)
  replace hcba := Lib.hid hcba
  replace hcbb2 := Lib.hid hcbb2
  generalize min y n = mm at *
  clear n1 n0
  have sub : (n : Int) - 1 = (q : Int) := by omega
  have hqn : (q : Int) < (n : Int) := by omega
  have hql := Lib.hid (show q < n by omega)
  replace hq := Lib.hid hq
  go_wp2_with (at_builtin; refine wpList_append_lies _ rfl _ _ 22 rfl W.heap.size 4 i0 (.bool false) 1 1 Try.underlying22 hi hz0 hz1 hz2 rfl (by decide) _ _ _ rfl (World.ownsRow_made (base := W.heap.size) W #[] 0 (Nat.le_refl _) (by decide) (by simp)) ⟨ba, oba, none⟩ n _ (bcs (tb x) n) rfl ?c10 ?c11 ?c12 (by omega) ?c13 ?c14 ?c15 (W.heap.size + 1) (by simp) ?c16)
  case c10 => rw [bcs_len, Nat.mul_one]
  case c11 => exact bcs_cells hcba.out (by go_grown)
  case c12 => exact bcs_one (tb x) n
  case c13 => unfold maxLen; omega
  case c14 => omega
  case c15 => rw [World.size_alloc]; omega
  case c16 =>
    intro g1 cap1 w1 hown1 hgrow hat hlt1
    have hb1 : Below W.heap.size W w1 := ((Below.refl _ W).alloc (Nat.le_refl _) _).grown hgrow (by simp) (fun j e => by cases e; exact Nat.le_refl _)
    have hbw1 : Below w.heap.size w w1 := below_call hb1 hbw0
    try simp only [Nat.zero_add, List.nil_append] at hown1
    have OX1 := Lib.hid (OA.own hown1 hlt1)
    have hgw : w.heap.size ≤ g1 := Nat.le_trans hbw0.size (hown1.lt _ rfl).1
    replace hcbb2 := Lib.hid (fun j hj => cellB (hcbb2.out j hj) hb1)
    clear hown1 hgrow hat hb1
    go_wp2_with (at_builtin; refine wpList_append_lies _ rfl _ _ 22 rfl w1.heap.size 4 i0 (.bool false) 1 1 Try.underlying22 hi hz0 hz1 hz2 rfl (by decide) _ _ _ rfl (World.ownsRow_made (base := w1.heap.size) w1 #[] 0 (Nat.le_refl _) (by decide) (by simp)) ⟨bb2, obb2, none⟩ n _ (bcs (tb y) n) rfl ?c20 ?c21 ?c22 (by omega) ?c23 ?c24 ?c25 (w1.heap.size + 1) (by simp) ?c26)
    case c20 => rw [bcs_len, Nat.mul_one]
    case c21 => exact bcs_cells hcbb2.out (by go_grown)
    case c22 => exact bcs_one (tb y) n
    case c23 => unfold maxLen; omega
    case c24 => omega
    case c25 => rw [World.size_alloc]; omega
    case c26 =>
      intro g2 cap2 w2 hown2 hgrow2 hat2 hlt2
      have hb2 : Below w1.heap.size w1 w2 := ((Below.refl _ w1).alloc (Nat.le_refl _) _).grown hgrow2 (by simp) (fun j e => by cases e; exact Nat.le_refl _)
      have hge2 : w1.heap.size ≤ g2 := (hown2.lt _ rfl).1
      have hbw2 : Below w.heap.size w w2 := below_call hb2 hbw1
      try simp only [Nat.zero_add, List.nil_append] at hown2
      have OY2 := OA.own hown2 hlt2
      have OX2 := OX1.out.over hb2
      have gne : g1 ≠ g2 := by omega
      clear hown2 hgrow2 hat2 hb2
      have hgw2 : w.heap.size ≤ g2 := Nat.le_trans hbw1.size hge2
      have cx := OX2.2.1 q hql.out
      have cy := OY2.2.1 q hql.out
      have fx := OX2.2.2
      have fy := OY2.2.2
      have OX5 := Lib.hid ((OX2.set hq.out).far (p := ⟨g2, q, none⟩) (fun e => gne e.symm) (.bool (!tb y q))).rb
      have OY5 := Lib.hid (OA.set (OY2.far (p := ⟨g1, q, none⟩) gne (.bool (!tb x q))) hq.out).rb
      have gne2 : ¬ g2 = g1 := fun e => gne e.symm
      clear OX2 OY2 OX1
      go_wp2_with fail
      (with_reducible refine (cP.out _ _ _ OX5.out OY5.out _ _).mono ?_)
      rintro e w5 ⟨rfl, hb5⟩
      have hbw5 : Below w.heap.size w w5 := below_call hb5 ((hbw2.setCell (by show w.heap.size ≤ g1; omega) _).setCell (by show w.heap.size ≤ g2; omega) _)
      clear hb5 OX5 OY5 cx cy fx fy
      go_wp2_with fail
      (with_reducible refine (cO.out _ _).mono ?_)
      rintro e w6 ⟨A6, d6, rfl, R6, hb6⟩
      have hbw6 : Below w.heap.size w w6 := below_call hb6 hbw5
      clear hb6 hbw5
      go_wp2_with fail
      go_ret2
      exact ⟨_, _, rfl, R6, hbw6⟩
set_option maxRecDepth 1000000 in
set_option maxHeartbeats 2000000 in
theorem refBin_18 (n c1 c2 x y : Nat) (A B : Option Addr) (w : World) (h1 : 1 ≤ n) (hn : n ≤ 128) (hA : RB w A n (tb x)) (hB : RB w B n (tb y)) (hx : x < 2 ^ n) (hy : y < 2 ^ n) :
    Calls Try.prog 10 #[.int .i64 18, .slice A n c1, .slice B n c2] w (LN w 1 (!sltN n y x).toNat 0) := by
  have hmk := run_make_row' 22 4 (.bool false) 1 Try.underlying22 info_bool rfl .i64 .i64 n (by omega) (by omega)
  have cM := fun w (h : RB w B n (tb y)) => refNum_nat n c2 n (by omega) B (tb y) w (by omega) h
  rw [valB_tbl y n hy] at cM
  replace cM := Lib.hid cM
  have n1 : ((n : Int) != (n : Int)) = false := by simp
  have n0 : ((n : Int) == 0) = false := by simp; omega
  obtain ⟨i0, hi, hz0, hz1, hz2⟩ := info_parts info_bool
  have sl := flip_less (tb y) (tb x) n h1
  rw [valB_tbl y n hy, valB_tbl x n hx] at sl
  have cP := fun w A1 A2 (h : RB w A1 n (flip (tb y) n)) (h2 : RB w A2 n (flip (tb x) n)) c1 c2 => refLess_ok n c1 c2 A1 A2 _ _ w (by omega) h h2
  rw [sl] at cP
  replace cP := Lib.hid cP
  clear sl
  have cO := Lib.hid (fun w b => (refOne_ok b w).mono fun e w' g => g.num (x := b.toNat) (by cases b <;> rfl))
  replace hA := Lib.hid hA
  replace hB := Lib.hid hB
  generalize sltN n y x = bb at *
  go_enter Try.func10, Try.ntmps10
  go_wp2_with fail
  (with_reducible refine (cM.out _ (hB.out.keep (by go_grown))).mono ?_)
  rintro e w0 ⟨rfl, rfl⟩
  obtain ⟨W, hW⟩ : ∃ W, w.alloc (.cells (madeCells #[.bool false] n) 4) = W := ⟨_, rfl⟩
  have hbw0 : Below w.heap.size w W := by rw [← hW]; go_grown
  rw [hW]
  clear hmk
  replace hW := Lib.hid hW
  obtain ⟨q, hq⟩ : ∃ q, n = q + 1 := ⟨n - 1, by omega⟩
  obtain ⟨ba, oba, rfl, hlba, hcba⟩ := (hA.out.keep hbw0) (by omega)
  obtain ⟨bb2, obb2, rfl, hlbb2, hcbb2⟩ := (hB.out.keep hbw0) (by omega)
  replace hcba := Lib.hid hcba
  replace hcbb2 := Lib.hid hcbb2
  generalize min y n = mm at *
  clear n1 n0
  have sub : (n : Int) - 1 = (q : Int) := by omega
  have hqn : (q : Int) < (n : Int) := by omega
  have hql := Lib.hid (show q < n by omega)
  replace hq := Lib.hid hq
  go_wp2_with (at_builtin; refine wpList_append_lies _ rfl _ _ 22 rfl W.heap.size 4 i0 (.bool false) 1 1 Try.underlying22 hi hz0 hz1 hz2 rfl (by decide) _ _ _ rfl (World.ownsRow_made (base := W.heap.size) W #[] 0 (Nat.le_refl _) (by decide) (by simp)) ⟨ba, oba, none⟩ n _ (bcs (tb x) n) rfl ?c10 ?c11 ?c12 (by omega) ?c13 ?c14 ?c15 (W.heap.size + 1) (by simp) ?c16)
  case c10 => rw [bcs_len, Nat.mul_one]
  case c11 => exact bcs_cells hcba.out (by go_grown)
  case c12 => exact bcs_one (tb x) n
  case c13 => unfold maxLen; omega
  case c14 => omega
  case c15 => rw [World.size_alloc]; omega
  case c16 =>
    intro g1 cap1 w1 hown1 hgrow hat hlt1
    have hb1 : Below W.heap.size W w1 := ((Below.refl _ W).alloc (Nat.le_refl _) _).grown hgrow (by simp) (fun j e => by cases e; exact Nat.le_refl _)
    have hbw1 : Below w.heap.size w w1 := below_call hb1 hbw0
    try simp only [Nat.zero_add, List.nil_append] at hown1
    have OX1 := Lib.hid (OA.own hown1 hlt1)
    have hgw : w.heap.size ≤ g1 := Nat.le_trans hbw0.size (hown1.lt _ rfl).1
    replace hcbb2 := Lib.hid (fun j hj => cellB (hcbb2.out j hj) hb1)
    clear hown1 hgrow hat hb1
    go_wp2_with (at_builtin; refine wpList_append_lies _ rfl _ _ 22 rfl w1.heap.size 4 i0 (.bool false) 1 1 Try.underlying22 hi hz0 hz1 hz2 rfl (by decide) _ _ _ rfl (World.ownsRow_made (base := w1.heap.size) w1 #[] 0 (Nat.le_refl _) (by decide) (by simp)) ⟨bb2, obb2, none⟩ n _ (bcs (tb y) n) rfl ?c20 ?c21 ?c22 (by omega) ?c23 ?c24 ?c25 (w1.heap.size + 1) (by simp) ?c26)
    case c20 => rw [bcs_len, Nat.mul_one]
    case c21 => exact bcs_cells hcbb2.out (by go_grown)
    case c22 => exact bcs_one (tb y) n
    case c23 => unfold maxLen; omega
    case c24 => omega
    case c25 => rw [World.size_alloc]; omega
    case c26 =>
      intro g2 cap2 w2 hown2 hgrow2 hat2 hlt2
      have hb2 : Below w1.heap.size w1 w2 := ((Below.refl _ w1).alloc (Nat.le_refl _) _).grown hgrow2 (by simp) (fun j e => by cases e; exact Nat.le_refl _)
      have hge2 : w1.heap.size ≤ g2 := (hown2.lt _ rfl).1
      have hbw2 : Below w.heap.size w w2 := below_call hb2 hbw1
      try simp only [Nat.zero_add, List.nil_append] at hown2
      have OY2 := OA.own hown2 hlt2
      have OX2 := OX1.out.over hb2
      have gne : g1 ≠ g2 := by omega
      clear hown2 hgrow2 hat2 hb2
      have hgw2 : w.heap.size ≤ g2 := Nat.le_trans hbw1.size hge2
      have cx := OX2.2.1 q hql.out
      have cy := OY2.2.1 q hql.out
      have fx := OX2.2.2
      have fy := OY2.2.2
      have OX5 := Lib.hid ((OX2.set hq.out).far (p := ⟨g2, q, none⟩) (fun e => gne e.symm) (.bool (!tb y q))).rb
      have OY5 := Lib.hid (OA.set (OY2.far (p := ⟨g1, q, none⟩) gne (.bool (!tb x q))) hq.out).rb
      have gne2 : ¬ g2 = g1 := fun e => gne e.symm
      clear OX2 OY2 OX1
      go_wp2_with fail
      (with_reducible refine (cP.out _ _ _ OY5.out OX5.out _ _).mono ?_)
      rintro e w5 ⟨rfl, hb5⟩
      have hbw5 : Below w.heap.size w w5 := below_call hb5 ((hbw2.setCell (by show w.heap.size ≤ g1; omega) _).setCell (by show w.heap.size ≤ g2; omega) _)
      clear hb5 OX5 OY5 cx cy fx fy
      go_wp2_with fail
      (with_reducible refine (cO.out _ _).mono ?_)
      rintro e w6 ⟨A6, d6, rfl, R6, hb6⟩
      have hbw6 : Below w.heap.size w w6 := below_call hb6 hbw5
      clear hb6 hbw5
      go_wp2_with fail
      go_ret2
      exact ⟨_, _, rfl, R6, hbw6⟩
set_option maxRecDepth 100000 in
set_option maxHeartbeats 800000 in
theorem refBin_bad (op : Int) (n m c1 c2 : Nat) (A B : Option Addr) (h : Nat → Bool) (w : World) (ho : op < 0 ∨ 18 < op) :
    Calls Try.prog 10 #[.int .i64 op, .slice A n c1, .slice B m c2] w (LB w 0 h 1) := by
  rcases ho with ho | ho
  · go_enter Try.func10, Try.ntmps10
    go_wp2
    go_ret2
    exact ⟨none, 0, rfl, fun h => absurd h (by omega), Below.refl _ _⟩
  · have h1 : decide (op < 0) = false := by simp; omega
    have h2 : decide (18 < op) = true := by simp; omega
    go_enter Try.func10, Try.ntmps10
    go_wp2
    go_ret2
    exact ⟨none, 0, rfl, fun h => absurd h (by omega), Below.refl _ _⟩
set_option maxRecDepth 100000 in
set_option maxHeartbeats 800000 in
theorem refBin_width (op : Int) (n m c1 c2 : Nat) (A B : Option Addr) (h : Nat → Bool) (w : World) (h0 : 0 ≤ op) (h5 : op ≤ 18) (hw : n ≠ m ∨ n = 0) :
    Calls Try.prog 10 #[.int .i64 op, .slice A n c1, .slice B m c2] w (LB w 0 h 2) := by
  have h1 : decide (op < 0) = false := by simp; omega
  have h2 : decide (18 < op) = false := by simp; omega
  by_cases hnm : n = m
  · obtain rfl : n = 0 := by omega
    subst hnm
    go_enter Try.func10, Try.ntmps10
    go_wp2
    go_ret2
    exact ⟨none, 0, rfl, fun h => absurd h (by omega), Below.refl _ _⟩
  · have n1 : ((n : Int) != (m : Int)) = true := by simp; omega
    clear hnm hw
    go_enter Try.func10, Try.ntmps10
    go_wp2
    go_ret2
    exact ⟨none, 0, rfl, fun h => absurd h (by omega), Below.refl _ _⟩
set_option maxRecDepth 100000 in
set_option maxHeartbeats 800000 in
theorem Bin_bad (op : Int) (n m x y : Nat) (w : World) (ho : op < 0 ∨ 18 < op) :
    Calls Try.prog 9 #[.int .i64 op, vv n x, vv m y] w (RV w (.tuple #[vv 0 0, .int .i64 1])) := by
  rcases ho with ho | ho
  · go_enter Try.func9, Try.ntmps9
    go_wp2
    refine bodyPost_ret (v := .tuple #[.agg #[.int .i64 0, .int .u64 0, .int .u64 0], .int .i64 1]) (by simp [results, Try.results9, go_sem]) rfl ⟨rfl, ?_⟩
    go_grown
  · have h1 : decide (op < 0) = false := by simp; omega
    have h2 : decide (18 < op) = true := by simp; omega
    go_enter Try.func9, Try.ntmps9
    go_wp2
    refine bodyPost_ret (v := .tuple #[.agg #[.int .i64 0, .int .u64 0, .int .u64 0], .int .i64 1]) (by simp [results, Try.results9, go_sem]) rfl ⟨rfl, ?_⟩
    go_grown
set_option maxRecDepth 100000 in
set_option maxHeartbeats 800000 in
theorem Bin_width (op : Int) (n m x y : Nat) (w : World) (h0 : 0 ≤ op) (h5 : op ≤ 18) (hw : n ≠ m ∨ n = 0) :
    Calls Try.prog 9 #[.int .i64 op, vv n x, vv m y] w (RV w (.tuple #[vv 0 0, .int .i64 2])) := by
  have h1 : decide (op < 0) = false := by simp; omega
  have h2 : decide (18 < op) = false := by simp; omega
  by_cases hnm : n = m
  · obtain rfl : n = 0 := by omega
    subst hnm
    go_enter Try.func9, Try.ntmps9
    go_wp2
    refine bodyPost_ret (v := .tuple #[.agg #[.int .i64 0, .int .u64 0, .int .u64 0], .int .i64 2]) (by simp [results, Try.results9, go_sem]) rfl ⟨rfl, ?_⟩
    go_grown
  · have n1 : ((n : Int) != (m : Int)) = true := by simp; omega
    clear hnm hw
    go_enter Try.func9, Try.ntmps9
    go_wp2
    refine bodyPost_ret (v := .tuple #[.agg #[.int .i64 0, .int .u64 0, .int .u64 0], .int .i64 2]) (by simp [results, Try.results9, go_sem]) rfl ⟨rfl, ?_⟩
    go_grown
end Go.Proofs.Ytmgkidfikikjpaa
