/-
  The walk of the reference's split: long division, a bit at a time.
-/
import Derived.Test.YtmgkidfikikjpaaBa
namespace Go.Proofs.Ytmgkidfikikjpaa
open Go.RowKit
/-- Two slices of n bits, those of the numbers q and r. -/
def SP (w : World) (n q r : Nat) (e : Ending) (w' : World) : Prop := ∃ A1 c1 A2 c2, e = .returned (.tuple #[.slice A1 n c1, .slice A2 n c2]) ∧ RB w' A1 n (tb q) ∧ RB w' A2 n (tb r) ∧ Below w.heap.size w w'
set_option maxRecDepth 100000 in
set_option maxHeartbeats 1000000 in
theorem refSplit_zero (n c1 c2 : Nat) (A B : Option Addr) (f g : Nat → Bool) (w : World) (hn : n ≤ 128) (hA : RB w A n f) (hB : RB w B n g) (hz : valB g n = 0) :
    Calls Try.prog 36 #[.slice A n c1, .slice B n c2] w (SP w n (2 ^ n - 1) (valB f n)) := by
  have hmk := run_make_row' 22 4 (.bool false) 1 Try.underlying22 info_bool rfl .i64 .i64 n (by omega) (by omega)
  have cA := fun w (h : RB w B n g) => refAny_ok n c2 B g w (by omega) h
  rw [hz, show (!((0 : Nat) == 0)) = false from rfl] at cA
  replace cA := Lib.hid cA
  have R0 := Lib.hid (RB_zero w n)
  have cN := Lib.hid (fun w A1 d1 (h : RB w A1 n (fun _ => false)) => refNot_ok n d1 A1 (fun _ => false) w (by omega) h)
  have hA2 := Lib.hid (hA.as (g := tb (valB f n)) fun j hj => tb_val f n j hj)
  have hq := Lib.hid (show valB (fun _ => !false) n = (2 ^ n - 1) % 2 ^ n by
    have h1 := valB_not (fun _ => false) n
    rw [valB_none] at h1
    rw [Nat.mod_eq_of_lt (by have := Nat.two_pow_pos n; omega)]
    omega)
  replace hB := Lib.hid hB
  clear hA hz
  go_enter Try.func36, Try.ntmps36
  go_wp2_with fail
  (with_reducible refine (cA.out _ hB.out).mono ?_)
  rintro e w ⟨rfl, rfl⟩
  go_wp2_with fail
  (with_reducible refine (cN.out _ _ _ R0.out).mono ?_)
  rintro e w1 hG
  obtain ⟨A1, d1, rfl, R1, hb1⟩ := GS.num hG hq.out
  have hbw1 : Below w.heap.size w w1 := below_call hb1 (by go_grown)
  have R2 := Lib.hid (hA2.out.keep hbw1)
  replace R1 := Lib.hid R1
  clear hb1 hG
  go_wp2_with fail
  go_ret2
  exact ⟨_, _, _, _, rfl, R1.out, R2.out, hbw1⟩
set_option maxRecDepth 100000 in
set_option maxHeartbeats 2000000 in
theorem refPlus_at (n c1 m c2 : Nat) (A B : Option Addr) (f g : Nat → Bool) (c : Bool) (w : World) (hn : n ≤ 140) (hm : n ≤ m) (hA : RB w A n f) (hB : RB w B n g) :
    Calls Try.prog 33 #[.slice A n c1, .slice B m c2, .bool c] w fun e w' => e = .returned (.slice (some ⟨w.heap.size, 0, none⟩) n n) ∧ w'.rowIs w.heap.size 4 n (fun j => .bool (smB f g c j)) ∧ Below w.heap.size w w' := by
  have hmk := run_make_row' 22 4 (.bool false) 1 Try.underlying22 info_bool rfl .i64 .i64 n (by omega) (by omega)
  have R0 := Lib.hid (World.rowIs_made w (.bool false) n 4)
  replace hA := Lib.hid hA
  replace hB := Lib.hid hB
  go_enter Try.func33, Try.ntmps33
  go_wp2
  go_loopw [2, 8] (fun cv i wr => ∃ k : Nat, k ≤ n ∧ i = .int .i64 (k : Int) ∧ cv = .bool (cyB f g c k) ∧ wr.rowIs w.heap.size 4 n (plusC f g c k) ∧ Below w.heap.size w wr) (fun _ i _ => n - (intOf i).toNat)
  case atStart => exact ⟨0, Nat.zero_le _, rfl, rfl, World.rowIs.congr R0.out fun j hj => by unfold plusC; simp, by go_grown⟩
  case round =>
    obtain ⟨k, hk, rfl, rfl, R, hbw⟩ := hrel
    clear R0 hmk
    by_cases hlt : k < n
    · obtain ⟨b, off, rfl, hb, hc⟩ := (hA.out.keep hbw) (by omega)
      obtain ⟨b2, off2, rfl, hb2, hc2⟩ := (hB.out.keep hbw) (by omega)
      have hck := hc k hlt
      have hck2 := hc2 k hlt
      have hkm : (k : Int) < (m : Int) := by omega
      have hcr : wr.cell? ⟨w.heap.size, k, none⟩ = some (.bool false) := by rw [World.rowIs.cell R hlt]; unfold plusC; simp
      have hf := World.rowIs.frozen R
      clear hc hc2
      obtain ⟨bx, hbx⟩ : ∃ bk, f k = bk := ⟨_, rfl⟩
      obtain ⟨bz, hbz⟩ : ∃ bk, g k = bk := ⟨_, rfl⟩
      obtain ⟨bc, hbc⟩ : ∃ bk, cyB f g c k = bk := ⟨_, rfl⟩
      rw [hbx] at hck
      rw [hbz] at hck2
      rw [hbc]
      have hs : smB f g c k = ((bx != bz) != bc) := by unfold smB; rw [hbx, hbz, hbc]
      have hn1 : cyB f g c (k + 1) = ((bx && bz || bx && bc) || bz && bc) := by rw [← hbx, ← hbz, ← hbc]; rfl
      clear hbx hbz hbc
      replace hs := Lib.hid hs
      replace hn1 := Lib.hid hn1
      cases bx <;> cases bz <;> cases bc
      all_goals
        go_wp2
        go_roundw
        case rel =>
          refine ⟨k + 1, by omega, by go_num, by rw [hn1.out]; rfl, World.rowIs.congr (World.rowIs.set R k _) fun j hj => ?_, hbw.setCell (by simp) _⟩
          by_cases hj1 : j = k
          · subst hj1; rw [if_pos rfl]; unfold plusC; rw [hs.out]; simp
          · rw [if_neg hj1]; unfold plusC
            congr 2
            rw [Bool.eq_iff_iff]; simp; omega
        case measure => simp [intOf]; omega
    · obtain rfl : k = n := by omega
      have R2 : wr.rowIs w.heap.size 4 k (fun j => .bool (smB f g c j)) := World.rowIs.congr R fun j hj => by unfold plusC; simp [hj]
      replace R2 := Lib.hid R2
      clear R
      go_wp2
      go_ret
      exact ⟨rfl, R2.out, hbw⟩
set_option maxRecDepth 100000 in
set_option maxHeartbeats 2000000 in
theorem refMove_at (n c : Nat) (A : Option Addr) (f : Nat → Bool) (t : Int) (b : Bool) (w : World) (hn : n ≤ 140) (t1 : -1000 ≤ t) (t2 : t ≤ 1000) (hA : RB w A n f) :
    Calls Try.prog 38 #[.slice A n c, .int .i64 t, .bool b] w fun e w' => e = .returned (.slice (some ⟨w.heap.size, 0, none⟩) n n) ∧ w'.rowIs w.heap.size 4 n (fun j => .bool (mvB f n t b j)) ∧ Below w.heap.size w w' := by
  have hmk := run_make_row' 22 4 (.bool false) 1 Try.underlying22 info_bool rfl .i64 .i64 n (by omega) (by omega)
  have R0 := Lib.hid (World.rowIs_made w (.bool false) n 4)
  replace hA := Lib.hid hA
  go_enter Try.func38, Try.ntmps38
  go_wp2
  go_loopw [8] (fun i wr => ∃ k : Nat, k ≤ n ∧ i = .int .i64 (k : Int) ∧ wr.rowIs w.heap.size 4 n (mvC f n t b k) ∧ Below w.heap.size w wr) (fun i _ => n - (intOf i).toNat)
  case atStart => exact ⟨0, Nat.zero_le _, rfl, World.rowIs.congr R0.out fun j hj => by unfold mvC; simp, by go_grown⟩
  case round =>
    obtain ⟨k, hk, rfl, R, hbw⟩ := hrel
    clear R0 hmk
    by_cases hlt : k < n
    · have hcr : wr.cell? ⟨w.heap.size, k, none⟩ = some (.bool false) := by rw [World.rowIs.cell R hlt]; unfold mvC; simp
      have hf := World.rowIs.frozen R
      have sub : IntKind.i64.wrap ((k : Int) - t) = (k : Int) - t := IntWalk.i64_in _ (by omega)
      by_cases hin : 0 ≤ (k : Int) - t ∧ (k : Int) - t < (n : Int)
      · obtain ⟨q, hq⟩ : ∃ q : Nat, (k : Int) - t = (q : Int) := ⟨((k : Int) - t).toNat, by omega⟩
        have hqn : q < n := by omega
        obtain ⟨bb, off, rfl, hb, hc⟩ := (hA.out.keep hbw) (by omega)
        have hck := hc q hqn
        have hmv : mvB f n t b k = f q := by unfold mvB; rw [if_pos hin, hq]; rfl
        clear hc
        generalize f q = fq at hck hmv
        replace hmv := Lib.hid hmv
        rw [hq] at sub
        have d1 : decide ((q : Int) < (n : Int)) = true := by simp; omega
        have d2 : decide (0 ≤ (q : Int)) = true := by simp
        have hbb : bb ≠ w.heap.size ∨ bb = w.heap.size := by omega
        clear hin
        rcases hA.out (by omega) with ⟨b3, o3, e3, l3, _⟩
        cases e3
        have hne : ¬ bb = w.heap.size := by omega
        have hne2 : ¬ w.heap.size = bb := by omega
        clear hbb
        go_wp2
        go_roundw
        case rel =>
          refine ⟨k + 1, by omega, by go_num, World.rowIs.congr (World.rowIs.set (World.rowIs.set R k _) k _) fun j hj => ?_, (hbw.setCell (by simp) _).setCell (by simp) _⟩
          by_cases hj1 : j = k
          · subst hj1; rw [if_pos rfl]; unfold mvC; simp [hmv.out]
          · rw [if_neg hj1, if_neg hj1]; unfold mvC
            congr 2
            rw [Bool.eq_iff_iff]; simp; omega
        case measure => simp [intOf]; omega
      · have hmv := Lib.hid (show mvB f n t b k = b by unfold mvB; rw [if_neg hin])
        have hcs : (k : Int) - t < 0 ∨ (0 ≤ (k : Int) - t ∧ (n : Int) ≤ (k : Int) - t) := by omega
        clear hin
        rcases hcs with h1 | ⟨h1, h2⟩
        · have d2 : decide (0 ≤ (k : Int) - t) = false := by simp; omega
          have d3 : ¬ t ≤ (k : Int) := by omega
          have d4 : decide (t ≤ (k : Int)) = false := by simp; omega
          go_wp2
          go_roundw
          case rel =>
            refine ⟨k + 1, by omega, by go_num, World.rowIs.congr (World.rowIs.set R k _) fun j hj => ?_, hbw.setCell (by simp) _⟩
            by_cases hj1 : j = k
            · subst hj1; rw [if_pos rfl]; unfold mvC; simp [hmv.out]
            · rw [if_neg hj1]; unfold mvC
              congr 2
              rw [Bool.eq_iff_iff]; simp; omega
          case measure => simp [intOf]; omega
        · have d2 : decide (0 ≤ (k : Int) - t) = true := by simp; omega
          have d1 : decide ((k : Int) - t < (n : Int)) = false := by simp; omega
          have d3 : t ≤ (k : Int) := by omega
          have d4 : decide (t ≤ (k : Int)) = true := by simp; omega
          go_wp2
          go_roundw
          case rel =>
            refine ⟨k + 1, by omega, by go_num, World.rowIs.congr (World.rowIs.set R k _) fun j hj => ?_, hbw.setCell (by simp) _⟩
            by_cases hj1 : j = k
            · subst hj1; rw [if_pos rfl]; unfold mvC; simp [hmv.out]
            · rw [if_neg hj1]; unfold mvC
              congr 2
              rw [Bool.eq_iff_iff]; simp; omega
          case measure => simp [intOf]; omega
    · obtain rfl : k = n := by omega
      have R2 : wr.rowIs w.heap.size 4 k (fun j => .bool (mvB f k t b j)) := World.rowIs.congr R fun j hj => by unfold mvC; simp [hj]
      replace R2 := Lib.hid R2
      clear R
      go_wp2
      go_ret
      exact ⟨rfl, R2.out, hbw⟩
/-- n bits at the beginning of a block. -/
def RA (w : World) (g n x : Nat) : Prop := g < w.heap.size ∧ ∀ j, j < n → w.cell? ⟨g, j, none⟩ = some (.bool (tb x j))
theorem RA.rb {w : World} {g n x : Nat} (h : RA w g n x) : RB w (some ⟨g, 0, none⟩) n (tb x) := fun _ => ⟨g, 0, rfl, h.1, fun j hj => by rw [Nat.zero_add]; exact h.2 j hj⟩
theorem RA.over {w w' : World} {g n x : Nat} (h : RA w g n x) (hb : Below w.heap.size w w') : RA w' g n x := ⟨Nat.lt_of_lt_of_le h.1 hb.size, fun j hj => cellB (h.2 j hj) hb⟩
theorem RA.far {w : World} {g n x : Nat} (h : RA w g n x) {p : Addr} (hp : p.block ≠ g) (v : Value) : RA (w.setCell p v) g n x := ⟨by simp; exact h.1, fun j hj => by rw [World.cell?_setCell_far w p _ v hp]; exact h.2 j hj⟩
theorem rowB_over {w w' : World} {b n : Nat} {t : TypeId} {f : Nat → Value} (h : w.rowIs b t n f) (hb : Below w.heap.size w w') : w'.rowIs b t n f := World.rowIs.of_block h (hb.block b (World.rowIs.lt h))
theorem bcs_snoc (f : Nat → Bool) (n : Nat) : bcs f n ++ [.bool (f n)] = bcs f (n + 1) := by unfold bcs; rw [List.range_succ]; simp
/-- What an append of a list of bits asks of its source. -/
theorem bcs_cells {w w' : World} {bb ob n : Nat} {f : Nat → Bool} (hcs : ∀ j, j < n → w.cell? ⟨bb, ob + j, none⟩ = some (.bool (f j))) (hb : Below w.heap.size w w') : ∀ j u, (bcs f n)[j]? = some u → w'.cell? ((⟨bb, ob, none⟩ : Addr).add j) = some u := by
  intro j u hj
  have hjm : j < n := by
    rcases Nat.lt_or_ge j n with h' | h'
    · exact h'
    · rw [List.getElem?_eq_none (by rw [bcs_len]; exact h')] at hj; cases hj
  rw [bcs_get f n j hjm] at hj
  have hadd : (⟨bb, ob, none⟩ : Addr).add j = ⟨bb, ob + j, none⟩ := by unfold Addr.add; split <;> simp_all
  rw [hadd, ← hj]
  exact cellB (hcs j hjm) hb
theorem RA_row {w : World} {b n x : Nat} {h : Nat → Bool} (R : w.rowIs b 4 n (fun j => .bool (h j))) (e : ∀ j, j < n → h j = tb x j) : RA w b n x := ⟨World.rowIs.lt R, fun j hj => by rw [World.rowIs.cell R hj, e j hj]⟩
/-- A new block of n bits, those of the number x. -/
def GA (w : World) (n x : Nat) (e : Ending) (w' : World) : Prop := e = .returned (.slice (some ⟨w.heap.size, 0, none⟩) n n) ∧ RA w' w.heap.size n x ∧ Below w.heap.size w w'
theorem refMove_num (m d r : Nat) (A : Option Addr) (b : Bool) (w : World) (hm : m ≤ 140) (h : RB w A m (tb r)) :
    Calls Try.prog 38 #[.slice A m d, .int .i64 1, .bool b] w (GA w m (2 * r + b.toNat)) :=
  (refMove_at m d A (tb r) 1 b w hm (by omega) (by omega) h).mono fun e w' ⟨h1, h2, h3⟩ => ⟨h1, RA_row h2 fun j hj => mv_one r m j b hj, h3⟩
theorem refLess_wide (m d1 d2 r y : Nat) (A B : Option Addr) (w : World) (hm : m ≤ 140) (hA : RB w A m (tb r)) (hB : RB w B m (tb y)) (hr : r < 2 ^ m) (hy : y < 2 ^ m) :
    Calls Try.prog 41 #[.slice A m d1, .slice B m d2] w (RV w (.bool (decide (r < y)))) := by
  have h := refLess_ok m d1 d2 A B (tb r) (tb y) w hm hA hB
  rw [valB_tbl r m hr, valB_tbl y m hy] at h
  exact h
theorem refMinus_num (m d1 d2 r y : Nat) (A B : Option Addr) (w : World) (hm : m ≤ 140) (hA : RB w A m (tb r)) (hB : RB w B m (fun j => !tb y j)) (h1 : y ≤ r) (hr : r < 2 ^ m) :
    Calls Try.prog 33 #[.slice A m d1, .slice B m d2, .bool true] w (GA w m (r - y)) :=
  (refPlus_at m d1 m d2 A B (tb r) (fun j => !tb y j) true w hm (Nat.le_refl _) hA hB).mono fun e w' ⟨h1', h2, h3⟩ => ⟨h1', RA_row h2 fun j hj => by
    refine (tb_val (smB (tb r) (fun j => !tb y j) true) m j hj).trans ?_
    rw [plus_val, not_val, valB_tbl r m hr, valB_tbl y m (by omega), show true.toNat = 1 from rfl, minus_val r y m h1 hr], h3⟩
/-- The quotient's bits that are known when the bits below r are left. -/
def outC (q r j : Nat) : Value := .bool (decide (r ≤ j) && tb q j)
set_option maxRecDepth 1000000 in
set_option maxHeartbeats 4000000 in
theorem refSplit_pos (n c1 c2 x y : Nat) (A B : Option Addr) (w : World) (hn : n ≤ 128) (hA : RB w A n (tb x)) (hB : RB w B n (tb y)) (hx : x < 2 ^ n) (hy : y < 2 ^ n) (h0 : 0 < y) :
    Calls Try.prog 36 #[.slice A n c1, .slice B n c2] w (SP w n (x / y) (x % y)) := by
  obtain ⟨i0, hi, hz0, hz1, hz2⟩ := info_parts info_bool
  have hn0 : 0 < n := by
    rcases Nat.eq_zero_or_pos n with h | h
    · subst h; simp at hy; omega
    · exact h
  have hmk := run_make_row' 22 4 (.bool false) 1 Try.underlying22 info_bool rfl .i64 .i64 n (by omega) (by omega)
  have hmk2 := run_make_row' 22 4 (.bool false) 1 Try.underlying22 info_bool rfl .i64 .i64 (n + 1) (by omega) (by omega)
  rw [show ((n + 1 : Nat) : Int) = (n : Int) + 1 from rfl] at hmk2
  have cA := fun w (h : RB w B n (tb y)) => refAny_ok n c2 B (tb y) w (by omega) h
  rw [valB_tbl y n hy, show (!(y == 0)) = true by simp; omega] at cA
  replace cA := Lib.hid cA
  obtain ⟨bb, ob, rfl, hb, hcs⟩ := hB hn0
  replace hB := Lib.hid hB
  replace hcs := Lib.hid hcs
  replace hA := Lib.hid hA
  go_enter Try.func36, Try.ntmps36
  go_wp2_with fail
  (with_reducible refine (cA.out _ hB.out).mono ?_)
  rintro e w ⟨rfl, rfl⟩
  go_wp2_with (at_builtin; refine wpList_append_lies _ rfl _ _ 22 rfl w.heap.size 4 i0 (.bool false) 1 1 Try.underlying22 hi hz0 hz1 hz2 rfl (by decide) _ _ _ rfl (World.ownsRow_made (base := w.heap.size) w #[] 0 (Nat.le_refl _) (by decide) (by simp)) ⟨bb, ob, none⟩ n c2 (bcs (tb y) n) rfl ?c0 ?c1 ?c2 (by omega) ?c3 ?c4 ?c5 (w.heap.size + 1) (by simp) ?c6)
  case c0 => rw [bcs_len, Nat.mul_one]
  case c1 => exact bcs_cells hcs.out (by go_grown)
  case c2 => exact bcs_one (tb y) n
  case c3 => unfold maxLen; omega
  case c4 => omega
  case c5 => rw [World.size_alloc]; omega
  case c6 =>
    intro g' cap' w1 hown1 hgrow hat hlt1
    have hbw1 : Below w.heap.size w w1 := ((Below.refl _ w).alloc (Nat.le_refl _) _).grown hgrow (by simp) (fun j e => by cases e; exact Nat.le_refl _)
    try simp only [Nat.zero_add, List.nil_append] at hown1
    have hz1' : w.heap.size + 1 ≤ w1.heap.size := by have := hgrow.size; simpa using this
    clear hgrow hat
    have hown2 := hown1.alloc (.cells #[.bool false] 4)
    have b2 : Below w.heap.size w (w1.alloc (.cells #[.bool false] 4)) := by go_grown
    have ne2 : ∀ B : Nat, B = w1.heap.size → w.heap.size ≤ B := fun B e => by omega
    replace hown2 := Lib.hid hown2
    replace b2 := Lib.hid b2
    replace ne2 := Lib.hid ne2
    go_wp2_with (at_builtin; refine wpList_append_lies _ rfl _ _ 22 rfl w.heap.size 4 i0 (.bool false) 1 1 Try.underlying22 hi hz0 hz1 hz2 rfl (by decide) _ _ _ rfl hown2.out ⟨w1.heap.size, 0, none⟩ 1 1 [.bool false] rfl rfl ?d1 ?d2 (by omega) ?d3 ?d4 ?d5 (w1.heap.size + 1) (by simp) ?d6)
    case d1 =>
      intro j u hj
      obtain rfl : j = 0 := by
        rcases Nat.eq_zero_or_pos j with h | h
        · exact h
        · rw [List.getElem?_eq_none (by simp; omega)] at hj; cases hj
      rw [show (⟨w1.heap.size, 0, none⟩ : Addr).add 0 = ⟨w1.heap.size, 0, none⟩ by unfold Addr.add; split <;> simp_all, cell_of_row _ _ _ _ _ _ (heap_alloc_new w1 _)]
      exact hj
    case d2 => intro u hu; simp at hu; subst hu; rfl
    case d3 => unfold maxLen; omega
    case d4 => omega
    case d5 => rw [World.size_alloc]; omega
    case d6 =>
      intro gw capw w2 hown3 hgrow2 hat2 hlt2
      have hbw2 : Below w.heap.size w w2 := b2.out.grown hgrow2 (by rw [World.size_alloc]; have := hbw1.size; omega) (fun j e => by cases e; exact (hown1.lt _ rfl).1)
      have D0 : RA w2 gw (n + 1) y := ⟨hlt2, fun j hj => by
        rw [World.ownsRow.cellAt hown3 j (by omega), show ([.bool false] : List Value) = [.bool (tb y n)] by rw [show tb y n = false from Nat.testBit_lt_two_pow hy], bcs_snoc, bcs_get (tb y) (n + 1) j hj]⟩
      have X0 := Lib.hid (RA_row (x := x / 2 ^ n % y) (World.rowIs_made w2 (.bool false) (n + 1) 4) (fun j _ => by rw [Nat.div_eq_of_lt hx, Nat.zero_mod]; unfold tb; simp))
      have O0 := Lib.hid (World.rowIs_made (w2.alloc (.cells (madeCells #[.bool false] (n + 1)) 4)) (.bool false) n 4)
      have q0 := Lib.hid (show ∀ j, j < n → outC (x / y) n j = .bool false from fun j hj => by unfold outC; rw [show decide (n ≤ j) = false by simp; omega]; rfl)
      have cM := Lib.hid (fun w d r A1 b h => refMove_num (n + 1) d r A1 b w (by omega) h)
      have cL := Lib.hid (fun w d1 d2 r A1 B1 h1 h2 h3 h4 => refLess_wide (n + 1) d1 d2 r y A1 B1 w (by omega) h1 h2 h3 h4)
      have cN := Lib.hid (fun w d A1 (h : RB w A1 (n + 1) (tb y)) => refNot_ok (n + 1) d A1 (tb y) w (by omega) h)
      have cP := Lib.hid (fun w d1 d2 r A1 B1 h1 h2 h3 h4 => refMinus_num (n + 1) d1 d2 r y A1 B1 w (by omega) h1 h2 h3 h4)
      have y2 := Lib.hid (show 2 * y ≤ 2 ^ (n + 1) by rw [Nat.pow_succ]; omega)
      have sz2 : w.heap.size ≤ w2.heap.size := hbw2.size
      have gwl := Lib.hid hlt2
      clear hown3 hgrow2 hat2 hown1 hown2 b2 ne2 hbw1 hlt1 hz1' hlt2 hz0 hz1 hz2 hi hb hcs hB cA hx hy
      replace D0 := Lib.hid D0
      replace hA := Lib.hid hA.out
      replace h0 := Lib.hid h0
      go_wp2_with fail
      go_loopw [7, 9] (fun v i wr => ∃ r : Nat, r ≤ n ∧ ((r = 0 ∧ i = .int .i64 (-1)) ∨ ∃ s : Nat, r = s + 1 ∧ i = .int .i64 (s : Int)) ∧ (∃ gr, v = .slice (some ⟨gr, 0, none⟩) (n + 1) (n + 1) ∧ RA wr gr (n + 1) (x / 2 ^ r % y)) ∧ wr.rowIs (w2.heap.size + 1) 4 n (outC (x / y) r) ∧ RA wr gw (n + 1) y ∧ Below w.heap.size w wr) (fun _ i _ => (intOf i + 1).toNat)
      case atStart =>
        refine ⟨n, Nat.le_refl _, ?_, ⟨_, rfl, X0.out.over (by go_grown)⟩, ?_, D0.out.over (by go_grown), by go_grown⟩
        · exact .inr ⟨n - 1, by omega, by congr 1; omega⟩
        · have := O0.out
          rw [World.size_alloc] at this
          exact World.rowIs.congr this fun j hj => (q0.out j hj).symm
      case round =>
        obtain ⟨r, hr, hc, ⟨gr, rfl, Dr⟩, Ro, Dw, hbw⟩ := hrel
        clear X0 O0 q0 hmk hmk2 hbw2 D0
        rcases hc with ⟨rfl, rfl⟩ | ⟨s, rfl, rfl⟩
        · have Q := Lib.hid (RA_row (x := x / y) (h := tb (x / y)) (World.rowIs.congr Ro fun j hj => by unfold outC; simp) (fun _ _ => rfl)).rb
          rw [Nat.pow_zero, Nat.div_one] at Dr
          have R := Lib.hid (Dr.rb.less (show n ≤ n + 1 by omega))
          clear Dr Ro Dw
          have u1 : (0 : Int) ≤ (n : Int) := by omega
          have u2 : (n : Int) ≤ ((n + 1 : Nat) : Int) := by omega
          go_wp2_with fail
          go_quiet (fail)
          have hbn := below_drewN hbw nq
          go_wp2_with fail
          go_ret2
          exact ⟨_, _, _, _, rfl, Q.out, R.out, hbn⟩
        · obtain ⟨b, off, rfl, hb, hcs⟩ := (RB.keep hA.out hbw) (by omega)
          have hck := hcs s (by omega)
          clear hcs
          have hsn : (s : Int) < (n : Int) := by omega
          have hsl := Lib.hid (show s < n by omega)
          have hnx : ((s = 0 ∧ Value.int .i64 ((s : Int) - 1) = Value.int .i64 (-1)) ∨ ∃ s' : Nat, s = s' + 1 ∧ Value.int .i64 ((s : Int) - 1) = Value.int .i64 (s' : Int)) := by
            rcases Nat.eq_zero_or_pos s with h | h
            · exact .inl ⟨h, by rw [h]; rfl⟩
            · exact .inr ⟨s - 1, by omega, by congr 1; omega⟩
          replace hnx := Lib.hid hnx
          have sN := Lib.hid (split_no x y s h0.out)
          have sY := Lib.hid (split_yes x y s h0.out)
          have r1 := Lib.hid (Nat.mod_lt (x / 2 ^ (s + 1)) h0.out)
          have bx : tb x s = x.testBit s := rfl
          rw [bx] at hck
          clear bx
          have bl := Lib.hid (Bool.toNat_le (x.testBit s))
          generalize x.testBit s = bs at *
          generalize x / 2 ^ (s + 1) % y = r0 at *
          have hl : 2 * r0 + bs.toNat < 2 * y := by have := r1.out; have := bl.out; omega
          have hl2 : 2 * r0 + bs.toNat < 2 ^ (n + 1) := by have := y2.out; omega
          have hyl : y < 2 ^ (n + 1) := by have := y2.out; have := h0.out; omega
          replace hl2 := Lib.hid hl2
          replace hyl := Lib.hid hyl
          have hfz := World.rowIs.frozen Ro
          by_cases hle : y ≤ 2 * r0 + bs.toNat
          · obtain ⟨qt, qr⟩ := sY.out hle
            have lf : decide (2 * r0 + bs.toNat < y) = false := by simp; omega
            have oc := Lib.hid (show ∀ j, j < n → (if j = s then Value.bool true else outC (x / y) (s + 1) j) = outC (x / y) s j from fun j hj => by
              by_cases hj1 : j = s
              · subst hj1; unfold outC; rw [if_pos rfl, show tb (x / y) j = true from qt]; simp
              · rw [if_neg hj1]; unfold outC; congr 2; rw [Bool.eq_iff_iff]; simp; omega)
            clear qt sN sY r1 bl hl
            replace qr := Lib.hid qr
            replace lf := Lib.hid lf
            replace hle := Lib.hid hle
            replace hsn := Lib.hid hsn
            have cL2 := fun w d1 d2 A1 B1 h1 h2 => cL.out w d1 d2 (2 * r0 + bs.toNat) A1 B1 h1 h2 hl2.out hyl.out
            rw [lf.out] at cL2
            replace cL2 := Lib.hid cL2
            clear hfz
            go_wp2_with fail
            (with_reducible refine (cM.out _ _ _ _ _ Dr.rb).mono ?_)
            rintro e w3 ⟨rfl, R3, hb3⟩
            have hbw3 : Below w.heap.size w w3 := below_call hb3 hbw
            have Ro3 := rowB_over Ro hb3
            have Dw3 := Dw.over hb3
            have s3 := hb3.size
            have o3 : w2.heap.size + 1 < wr.heap.size := World.rowIs.lt Ro
            clear Dr Ro Dw hb3 hbw hck
            go_wp2_with fail
            (with_reducible refine (cL2.out _ _ _ _ _ R3.rb Dw3.rb).mono ?_)
            rintro e w4 ⟨rfl, hb4⟩
            have hbw4 : Below w.heap.size w w4 := below_call hb4 hbw3
            have R4 := R3.over hb4
            have Ro4 := rowB_over Ro3 hb4
            have Dw4 := Dw3.over hb4
            have s4 := hb4.size
            clear R3 Ro3 Dw3 hb4 hbw3 cL2
            go_wp2_with fail
            (with_reducible refine (cN.out _ _ _ Dw4.rb).mono ?_)
            rintro e w5 ⟨A5, d5, rfl, R5, hb5⟩
            have hbw5 : Below w.heap.size w w5 := below_call hb5 hbw4
            have R45 := R4.over hb5
            have Ro5 := rowB_over Ro4 hb5
            have Dw5 := Dw4.over hb5
            have s5 := hb5.size
            clear R4 Ro4 Dw4 hb5 hbw4
            go_wp2_with fail
            (with_reducible refine (cP.out _ _ _ _ _ _ R45.rb R5 hle.out hl2.out).mono ?_)
            rintro e w6 ⟨rfl, R6, hb6⟩
            have hbw6 : Below w.heap.size w w6 := below_call hb6 hbw5
            have Ro6 := rowB_over Ro5 hb6
            have Dw6 := Dw5.over hb6
            have s6 := hb6.size
            clear R45 Ro5 Dw5 hb6 hbw5 R5
            have hcr : w6.cell? ⟨w2.heap.size + 1, s, none⟩ = some (outC (x / y) (s + 1) s) := World.rowIs.cell Ro6 hsl.out
            have hfz := World.rowIs.frozen Ro6
            have Ro7 := Lib.hid (World.rowIs.congr (World.rowIs.set Ro6 s (.bool true)) oc.out)
            have R7 := Lib.hid (R6.far (p := ⟨w2.heap.size + 1, s, none⟩) (by show w2.heap.size + 1 ≠ w5.heap.size; omega) (.bool true))
            have Dw7 := Lib.hid (Dw6.far (p := ⟨w2.heap.size + 1, s, none⟩) (by show w2.heap.size + 1 ≠ gw; have := gwl.out; omega) (.bool true))
            generalize outC (x / y) (s + 1) s = ov at hcr
            clear Ro6 R6 Dw6
            go_wp2_with fail
            go_roundw
            case rel => exact ⟨s, by omega, hnx.out, ⟨_, rfl, by rw [qr.out]; exact R7.out⟩, Ro7.out, Dw7.out, hbw6.setCell (by show w.heap.size ≤ w2.heap.size + 1; omega) _⟩
            case measure => simp [intOf] <;> omega
          · have hlt : 2 * r0 + bs.toNat < y := by omega
            obtain ⟨qt, qr⟩ := sN.out hlt
            have lf : decide (2 * r0 + bs.toNat < y) = true := by simp; omega
            have oc := Lib.hid (show ∀ j, j < n → outC (x / y) (s + 1) j = outC (x / y) s j from fun j hj => by
              by_cases hj1 : j = s
              · subst hj1; unfold outC; rw [show tb (x / y) j = false from qt]; simp
              · unfold outC; congr 2; rw [Bool.eq_iff_iff]; simp; omega)
            clear qt sN sY r1 bl hl hlt hle
            replace qr := Lib.hid qr
            replace lf := Lib.hid lf
            have cL2 := fun w d1 d2 A1 B1 h1 h2 => cL.out w d1 d2 (2 * r0 + bs.toNat) A1 B1 h1 h2 hl2.out hyl.out
            rw [lf.out] at cL2
            replace cL2 := Lib.hid cL2
            clear hfz
            go_wp2_with fail
            (with_reducible refine (cM.out _ _ _ _ _ Dr.rb).mono ?_)
            rintro e w3 ⟨rfl, R3, hb3⟩
            have hbw3 : Below w.heap.size w w3 := below_call hb3 hbw
            have Ro3 := rowB_over Ro hb3
            have Dw3 := Dw.over hb3
            have s3 := hb3.size
            have o3 : w2.heap.size + 1 < wr.heap.size := World.rowIs.lt Ro
            clear Dr Ro Dw hb3 hbw hck
            go_wp2_with fail
            (with_reducible refine (cL2.out _ _ _ _ _ R3.rb Dw3.rb).mono ?_)
            rintro e w4 ⟨rfl, hb4⟩
            have hbw4 : Below w.heap.size w w4 := below_call hb4 hbw3
            have R4 := Lib.hid (R3.over hb4)
            have Ro4 := Lib.hid (World.rowIs.congr (rowB_over Ro3 hb4) oc.out)
            have Dw4 := Lib.hid (Dw3.over hb4)
            clear R3 Ro3 Dw3 hb4 hbw3 cL2
            go_wp2_with fail
            go_roundw
            case rel => exact ⟨s, by omega, hnx.out, ⟨_, rfl, by rw [qr.out]; exact R4.out⟩, Ro4.out, Dw4.out, hbw4⟩
            case measure => simp [intOf] <;> omega
end Go.Proofs.Ytmgkidfikikjpaa
