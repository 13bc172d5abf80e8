/-
  The walk of the reference's signed: division with signs.
-/
import Derived.Test.YtmgkidfikikjpaaBb
namespace Go.Proofs.Ytmgkidfikikjpaa
open Go.RowKit
theorem SP.up {w w0 : World} {n q r : Nat} {e : Ending} {w' : World} (h : SP w0 n q r e w') (hb : Below w.heap.size w w0) : SP w n q r e w' := by
  obtain ⟨A1, c1, A2, c2, rfl, R1, R2, hb1⟩ := h
  exact ⟨A1, c1, A2, c2, rfl, R1, R2, below_call hb1 hb⟩
theorem refNeg_num (n c v : Nat) (A : Option Addr) (w : World) (hn : n ≤ 140) (hA : RB w A n (tb v)) (hv : v < 2 ^ n) :
    Calls Try.prog 70 #[.slice A n c] w (GN w n ((0 + 2 ^ n - v) % 2 ^ n)) :=
  (refNeg_ok n c A (tb v) w hn hA).mono fun e w' h => h.num (by rw [neg_val, valB_tbl v n hv, Nat.mod_mod])
theorem refTop_num (n c v : Nat) (A : Option Addr) (w : World) (h1 : 1 ≤ n) (hn : n ≤ 140) (hA : RB w A n (tb v)) :
    Calls Try.prog 39 #[.slice A n c] w fun e w' => e = .returned (.bool (v.testBit (n - 1))) ∧ w' = w := refTop_ok n c A (tb v) w h1 hn hA
theorem neg_lt (n v : Nat) : (0 + 2 ^ n - v) % 2 ^ n < 2 ^ n := Nat.mod_lt _ (Nat.two_pow_pos n)
set_option maxRecDepth 100000 in
set_option maxHeartbeats 1000000 in
theorem refSigned_zero (n c1 c2 : Nat) (A B : Option Addr) (f g : Nat → Bool) (w : World) (hn : n ≤ 128) (hA : RB w A n f) (hB : RB w B n g) (hz : valB g n = 0) :
    Calls Try.prog 37 #[.slice A n c1, .slice B n c2] w (SP w n (2 ^ n - 1) (valB f n)) := by
  have cA := fun w (h : RB w B n g) => refAny_ok n c2 B g w (by omega) h
  have cS := Lib.hid (fun w (h : RB w A n f) (h2 : RB w B n g) => refSplit_zero n c1 c2 A B f g w hn h h2 hz)
  rw [hz, show (!((0 : Nat) == 0)) = false from rfl] at cA
  replace cA := Lib.hid cA
  replace hB := Lib.hid hB
  replace hA := Lib.hid hA
  generalize 2 ^ n - 1 = q0 at *
  generalize valB f n = r0 at *
  clear hz
  go_enter Try.func37, Try.ntmps37
  go_wp2_with fail
  (with_reducible refine (cA.out _ hB.out).mono ?_)
  rintro e w ⟨rfl, rfl⟩
  go_wp2_with fail
  (with_reducible refine (cS.out _ hA.out hB.out).mono ?_)
  rintro e w1 ⟨A1, d1, A2, d2, rfl, R1, R2, hb1⟩
  replace R1 := Lib.hid R1
  replace R2 := Lib.hid R2
  go_wp2_with fail
  go_ret2
  exact ⟨_, _, _, _, rfl, R1.out, R2.out, hb1⟩
set_option maxRecDepth 1000000 in
set_option maxHeartbeats 2000000 in
theorem refSigned_ff (n c1 c2 x y : Nat) (A B : Option Addr) (w : World) (h1 : 1 ≤ n) (hn : n ≤ 128) (hA : RB w A n (tb x)) (hB : RB w B n (tb y)) (hx : x < 2 ^ n) (hy : y < 2 ^ n) (h0 : 0 < y) (sx : x.testBit (n - 1) = false) (sy : y.testBit (n - 1) = false) :
    Calls Try.prog 37 #[.slice A n c1, .slice B n c2] w (SP w n (x / y) (x % y)) := by
  have cA := fun w (h : RB w B n (tb y)) => refAny_ok n c2 B (tb y) w (by omega) h
  rw [valB_tbl y n hy, show (!(y == 0)) = true by simp; omega] at cA
  replace cA := Lib.hid cA
  have tA := fun w (h : RB w A n (tb x)) => refTop_num n c1 x A w h1 (by omega) h
  have tB := fun w (h : RB w B n (tb y)) => refTop_num n c2 y B w h1 (by omega) h
  rw [sx] at tA
  rw [sy] at tB
  replace tA := Lib.hid tA
  replace tB := Lib.hid tB
  have ql : (x / y) < 2 ^ n := Nat.lt_of_le_of_lt (Nat.div_le_self _ _) hx
  have rl : (x % y) < 2 ^ n := Nat.lt_of_le_of_lt (Nat.mod_le _ _) hx
  have cS := Lib.hid (fun w A1 d1 A2 d2 (h : RB w A1 n (tb x)) (h2 : RB w A2 n (tb y)) => refSplit_pos n d1 d2 x y A1 A2 w hn h h2 hx hy h0)
  replace hA := Lib.hid hA
  replace hB := Lib.hid hB
  clear ql rl hx hy h0 sx sy
  generalize hq0 : (x / y) = q0 at *
  generalize hr0 : (x % y) = r0 at *
  clear hq0 hr0
  go_enter Try.func37, Try.ntmps37
  go_wp2_with fail
  (with_reducible refine (cA.out _ hB.out).mono ?_)
  rintro e w ⟨rfl, rfl⟩
  go_wp2_with fail
  (with_reducible refine (tA.out _ hA.out).mono ?_)
  rintro e w ⟨rfl, rfl⟩
  go_wp2_with fail
  (with_reducible refine (tB.out _ hB.out).mono ?_)
  rintro e w ⟨rfl, rfl⟩
  go_wp2_with fail
  (with_reducible refine (cS.out _ _ _ _ _ hA.out hB.out).mono ?_)
  rintro e w3 ⟨Aq, dq, Ar, dr, rfl, Rq, Rr, hb3⟩
  have hbw3 : Below w.heap.size w w3 := hb3
  clear hb3
  go_wp2_with fail
  (with_reducible refine (tA.out _ (hA.out.keep hbw3)).mono ?_)
  rintro e w3 ⟨rfl, rfl⟩
  go_wp2_with fail
  (with_reducible refine (tB.out _ (hB.out.keep hbw3)).mono ?_)
  rintro e w3 ⟨rfl, rfl⟩
  go_wp2_with fail
  (with_reducible refine (tA.out _ (hA.out.keep hbw3)).mono ?_)
  rintro e w3 ⟨rfl, rfl⟩
  have RQ := Lib.hid Rq
  have RR := Lib.hid Rr
  clear Rq Rr
  go_wp2_with fail
  go_ret2
  exact ⟨_, _, _, _, rfl, RQ.out, RR.out, hbw3⟩
set_option maxRecDepth 1000000 in
set_option maxHeartbeats 2000000 in
theorem refSigned_ft (n c1 c2 x y : Nat) (A B : Option Addr) (w : World) (h1 : 1 ≤ n) (hn : n ≤ 128) (hA : RB w A n (tb x)) (hB : RB w B n (tb y)) (hx : x < 2 ^ n) (hy : y < 2 ^ n) (h0 : 0 < y) (sx : x.testBit (n - 1) = false) (sy : y.testBit (n - 1) = true) :
    Calls Try.prog 37 #[.slice A n c1, .slice B n c2] w (SP w n ((0 + 2 ^ n - (x / ((0 + 2 ^ n - y) % 2 ^ n))) % 2 ^ n) (x % ((0 + 2 ^ n - y) % 2 ^ n))) := by
  have cA := fun w (h : RB w B n (tb y)) => refAny_ok n c2 B (tb y) w (by omega) h
  rw [valB_tbl y n hy, show (!(y == 0)) = true by simp; omega] at cA
  replace cA := Lib.hid cA
  have tA := fun w (h : RB w A n (tb x)) => refTop_num n c1 x A w h1 (by omega) h
  have tB := fun w (h : RB w B n (tb y)) => refTop_num n c2 y B w h1 (by omega) h
  rw [sx] at tA
  rw [sy] at tB
  replace tA := Lib.hid tA
  replace tB := Lib.hid tB
  have nB := Lib.hid (fun w (h : RB w B n (tb y)) => refNeg_num n c2 y B w (by omega) h hy)
  have lB := neg_lt n y
  have pB : 0 < (0 + 2 ^ n - y) % 2 ^ n := by rw [Nat.mod_eq_of_lt (by omega)]; omega
  have ql : (x / ((0 + 2 ^ n - y) % 2 ^ n)) < 2 ^ n := Nat.lt_of_le_of_lt (Nat.div_le_self _ _) hx
  have rl : (x % ((0 + 2 ^ n - y) % 2 ^ n)) < 2 ^ n := Nat.lt_of_le_of_lt (Nat.mod_le _ _) hx
  have cS := Lib.hid (fun w A1 d1 A2 d2 (h : RB w A1 n (tb x)) (h2 : RB w A2 n (tb ((0 + 2 ^ n - y) % 2 ^ n))) => refSplit_pos n d1 d2 x ((0 + 2 ^ n - y) % 2 ^ n) A1 A2 w hn h h2 hx lB pB)
  have nQ := Lib.hid (fun w A1 d1 (h : RB w A1 n (tb (x / ((0 + 2 ^ n - y) % 2 ^ n)))) => refNeg_num n d1 (x / ((0 + 2 ^ n - y) % 2 ^ n)) A1 w (by omega) h ql)
  replace hA := Lib.hid hA
  replace hB := Lib.hid hB
  clear ql rl hx hy h0 sx sy
  clear lB pB
  generalize hq0 : (x / ((0 + 2 ^ n - y) % 2 ^ n)) = q0 at *
  generalize hr0 : (x % ((0 + 2 ^ n - y) % 2 ^ n)) = r0 at *
  clear hq0 hr0
  generalize (0 + 2 ^ n - q0) % 2 ^ n = q1 at *
  generalize (0 + 2 ^ n - y) % 2 ^ n = y1 at *
  go_enter Try.func37, Try.ntmps37
  go_wp2_with fail
  (with_reducible refine (cA.out _ hB.out).mono ?_)
  rintro e w ⟨rfl, rfl⟩
  go_wp2_with fail
  (with_reducible refine (tA.out _ hA.out).mono ?_)
  rintro e w ⟨rfl, rfl⟩
  go_wp2_with fail
  (with_reducible refine (tB.out _ hB.out).mono ?_)
  rintro e w ⟨rfl, rfl⟩
  go_wp2_with fail
  (with_reducible refine (nB.out _ hB.out).mono ?_)
  rintro e w2 ⟨AY, dY, rfl, RY, hb2⟩
  have hbw2 : Below w.heap.size w w2 := hb2
  clear hb2
  go_wp2_with fail
  (with_reducible refine (cS.out _ _ _ _ _ (hA.out.keep hbw2) RY).mono ?_)
  rintro e w3 ⟨Aq, dq, Ar, dr, rfl, Rq, Rr, hb3⟩
  have hbw3 : Below w.heap.size w w3 := below_call hb3 hbw2
  clear hb3
  go_wp2_with fail
  (with_reducible refine (tA.out _ (hA.out.keep hbw3)).mono ?_)
  rintro e w3 ⟨rfl, rfl⟩
  go_wp2_with fail
  (with_reducible refine (tB.out _ (hB.out.keep hbw3)).mono ?_)
  rintro e w3 ⟨rfl, rfl⟩
  go_wp2_with fail
  (with_reducible refine (nQ.out _ _ _ Rq).mono ?_)
  rintro e w4 ⟨Aq2, dq2, rfl, Rq2, hb4⟩
  have hbw4 : Below w.heap.size w w4 := below_call hb4 hbw3
  have Rr2 := Rr.keep hb4
  clear hb4 hbw3 Rq Rr
  go_wp2_with fail
  (with_reducible refine (tA.out _ (hA.out.keep hbw4)).mono ?_)
  rintro e w4 ⟨rfl, rfl⟩
  have RQ := Lib.hid Rq2
  have RR := Lib.hid Rr2
  clear Rq2 Rr2
  go_wp2_with fail
  go_ret2
  exact ⟨_, _, _, _, rfl, RQ.out, RR.out, hbw4⟩
set_option maxRecDepth 1000000 in
set_option maxHeartbeats 2000000 in
theorem refSigned_tf (n c1 c2 x y : Nat) (A B : Option Addr) (w : World) (h1 : 1 ≤ n) (hn : n ≤ 128) (hA : RB w A n (tb x)) (hB : RB w B n (tb y)) (hx : x < 2 ^ n) (hy : y < 2 ^ n) (h0 : 0 < y) (sx : x.testBit (n - 1) = true) (sy : y.testBit (n - 1) = false) :
    Calls Try.prog 37 #[.slice A n c1, .slice B n c2] w (SP w n ((0 + 2 ^ n - (((0 + 2 ^ n - x) % 2 ^ n) / y)) % 2 ^ n) ((0 + 2 ^ n - (((0 + 2 ^ n - x) % 2 ^ n) % y)) % 2 ^ n)) := by
  have cA := fun w (h : RB w B n (tb y)) => refAny_ok n c2 B (tb y) w (by omega) h
  rw [valB_tbl y n hy, show (!(y == 0)) = true by simp; omega] at cA
  replace cA := Lib.hid cA
  have tA := fun w (h : RB w A n (tb x)) => refTop_num n c1 x A w h1 (by omega) h
  have tB := fun w (h : RB w B n (tb y)) => refTop_num n c2 y B w h1 (by omega) h
  rw [sx] at tA
  rw [sy] at tB
  replace tA := Lib.hid tA
  replace tB := Lib.hid tB
  have nA := Lib.hid (fun w (h : RB w A n (tb x)) => refNeg_num n c1 x A w (by omega) h hx)
  have lA := neg_lt n x
  have ql : (((0 + 2 ^ n - x) % 2 ^ n) / y) < 2 ^ n := Nat.lt_of_le_of_lt (Nat.div_le_self _ _) lA
  have rl : (((0 + 2 ^ n - x) % 2 ^ n) % y) < 2 ^ n := Nat.lt_of_le_of_lt (Nat.mod_le _ _) lA
  have cS := Lib.hid (fun w A1 d1 A2 d2 (h : RB w A1 n (tb ((0 + 2 ^ n - x) % 2 ^ n))) (h2 : RB w A2 n (tb y)) => refSplit_pos n d1 d2 ((0 + 2 ^ n - x) % 2 ^ n) y A1 A2 w hn h h2 lA hy h0)
  have nQ := Lib.hid (fun w A1 d1 (h : RB w A1 n (tb (((0 + 2 ^ n - x) % 2 ^ n) / y))) => refNeg_num n d1 (((0 + 2 ^ n - x) % 2 ^ n) / y) A1 w (by omega) h ql)
  have nR := Lib.hid (fun w A1 d1 (h : RB w A1 n (tb (((0 + 2 ^ n - x) % 2 ^ n) % y))) => refNeg_num n d1 (((0 + 2 ^ n - x) % 2 ^ n) % y) A1 w (by omega) h rl)
  replace hA := Lib.hid hA
  replace hB := Lib.hid hB
  clear ql rl hx hy h0 sx sy
  clear lA
  generalize hq0 : (((0 + 2 ^ n - x) % 2 ^ n) / y) = q0 at *
  generalize hr0 : (((0 + 2 ^ n - x) % 2 ^ n) % y) = r0 at *
  clear hq0 hr0
  generalize (0 + 2 ^ n - q0) % 2 ^ n = q1 at *
  generalize (0 + 2 ^ n - r0) % 2 ^ n = r1 at *
  generalize (0 + 2 ^ n - x) % 2 ^ n = x1 at *
  go_enter Try.func37, Try.ntmps37
  go_wp2_with fail
  (with_reducible refine (cA.out _ hB.out).mono ?_)
  rintro e w ⟨rfl, rfl⟩
  go_wp2_with fail
  (with_reducible refine (tA.out _ hA.out).mono ?_)
  rintro e w ⟨rfl, rfl⟩
  go_wp2_with fail
  (with_reducible refine (nA.out _ hA.out).mono ?_)
  rintro e w1 ⟨AX, dX, rfl, RX, hb1⟩
  have hbw1 : Below w.heap.size w w1 := hb1
  clear hb1
  go_wp2_with fail
  (with_reducible refine (tB.out _ (hB.out.keep hbw1)).mono ?_)
  rintro e w1 ⟨rfl, rfl⟩
  go_wp2_with fail
  (with_reducible refine (cS.out _ _ _ _ _ RX (hB.out.keep hbw1)).mono ?_)
  rintro e w3 ⟨Aq, dq, Ar, dr, rfl, Rq, Rr, hb3⟩
  have hbw3 : Below w.heap.size w w3 := below_call hb3 hbw1
  clear hb3
  go_wp2_with fail
  (with_reducible refine (tA.out _ (hA.out.keep hbw3)).mono ?_)
  rintro e w3 ⟨rfl, rfl⟩
  go_wp2_with fail
  (with_reducible refine (tB.out _ (hB.out.keep hbw3)).mono ?_)
  rintro e w3 ⟨rfl, rfl⟩
  go_wp2_with fail
  (with_reducible refine (nQ.out _ _ _ Rq).mono ?_)
  rintro e w4 ⟨Aq2, dq2, rfl, Rq2, hb4⟩
  have hbw4 : Below w.heap.size w w4 := below_call hb4 hbw3
  have Rr2 := Rr.keep hb4
  clear hb4 hbw3 Rq Rr
  go_wp2_with fail
  (with_reducible refine (tA.out _ (hA.out.keep hbw4)).mono ?_)
  rintro e w4 ⟨rfl, rfl⟩
  go_wp2_with fail
  (with_reducible refine (nR.out _ _ _ Rr2).mono ?_)
  rintro e w5 ⟨Ar2, dr2, rfl, Rr5, hb5⟩
  have hbw5 : Below w.heap.size w w5 := below_call hb5 hbw4
  have Rq5 := Rq2.keep hb5
  clear hb5 hbw4 Rq2 Rr2
  have RQ := Lib.hid Rq5
  have RR := Lib.hid Rr5
  clear Rq5 Rr5
  go_wp2_with fail
  go_ret2
  exact ⟨_, _, _, _, rfl, RQ.out, RR.out, hbw5⟩
set_option maxRecDepth 1000000 in
set_option maxHeartbeats 2000000 in
theorem refSigned_tt (n c1 c2 x y : Nat) (A B : Option Addr) (w : World) (h1 : 1 ≤ n) (hn : n ≤ 128) (hA : RB w A n (tb x)) (hB : RB w B n (tb y)) (hx : x < 2 ^ n) (hy : y < 2 ^ n) (h0 : 0 < y) (sx : x.testBit (n - 1) = true) (sy : y.testBit (n - 1) = true) :
    Calls Try.prog 37 #[.slice A n c1, .slice B n c2] w (SP w n (((0 + 2 ^ n - x) % 2 ^ n) / ((0 + 2 ^ n - y) % 2 ^ n)) ((0 + 2 ^ n - (((0 + 2 ^ n - x) % 2 ^ n) % ((0 + 2 ^ n - y) % 2 ^ n))) % 2 ^ n)) := by
  have cA := fun w (h : RB w B n (tb y)) => refAny_ok n c2 B (tb y) w (by omega) h
  rw [valB_tbl y n hy, show (!(y == 0)) = true by simp; omega] at cA
  replace cA := Lib.hid cA
  have tA := fun w (h : RB w A n (tb x)) => refTop_num n c1 x A w h1 (by omega) h
  have tB := fun w (h : RB w B n (tb y)) => refTop_num n c2 y B w h1 (by omega) h
  rw [sx] at tA
  rw [sy] at tB
  replace tA := Lib.hid tA
  replace tB := Lib.hid tB
  have nA := Lib.hid (fun w (h : RB w A n (tb x)) => refNeg_num n c1 x A w (by omega) h hx)
  have lA := neg_lt n x
  have nB := Lib.hid (fun w (h : RB w B n (tb y)) => refNeg_num n c2 y B w (by omega) h hy)
  have lB := neg_lt n y
  have pB : 0 < (0 + 2 ^ n - y) % 2 ^ n := by rw [Nat.mod_eq_of_lt (by omega)]; omega
  have ql : (((0 + 2 ^ n - x) % 2 ^ n) / ((0 + 2 ^ n - y) % 2 ^ n)) < 2 ^ n := Nat.lt_of_le_of_lt (Nat.div_le_self _ _) lA
  have rl : (((0 + 2 ^ n - x) % 2 ^ n) % ((0 + 2 ^ n - y) % 2 ^ n)) < 2 ^ n := Nat.lt_of_le_of_lt (Nat.mod_le _ _) lA
  have cS := Lib.hid (fun w A1 d1 A2 d2 (h : RB w A1 n (tb ((0 + 2 ^ n - x) % 2 ^ n))) (h2 : RB w A2 n (tb ((0 + 2 ^ n - y) % 2 ^ n))) => refSplit_pos n d1 d2 ((0 + 2 ^ n - x) % 2 ^ n) ((0 + 2 ^ n - y) % 2 ^ n) A1 A2 w hn h h2 lA lB pB)
  have nR := Lib.hid (fun w A1 d1 (h : RB w A1 n (tb (((0 + 2 ^ n - x) % 2 ^ n) % ((0 + 2 ^ n - y) % 2 ^ n)))) => refNeg_num n d1 (((0 + 2 ^ n - x) % 2 ^ n) % ((0 + 2 ^ n - y) % 2 ^ n)) A1 w (by omega) h rl)
  replace hA := Lib.hid hA
  replace hB := Lib.hid hB
  clear ql rl hx hy h0 sx sy
  clear lA
  clear lB pB
  generalize hq0 : (((0 + 2 ^ n - x) % 2 ^ n) / ((0 + 2 ^ n - y) % 2 ^ n)) = q0 at *
  generalize hr0 : (((0 + 2 ^ n - x) % 2 ^ n) % ((0 + 2 ^ n - y) % 2 ^ n)) = r0 at *
  clear hq0 hr0
  generalize (0 + 2 ^ n - r0) % 2 ^ n = r1 at *
  generalize (0 + 2 ^ n - x) % 2 ^ n = x1 at *
  generalize (0 + 2 ^ n - y) % 2 ^ n = y1 at *
  go_enter Try.func37, Try.ntmps37
  go_wp2_with fail
  (with_reducible refine (cA.out _ hB.out).mono ?_)
  rintro e w ⟨rfl, rfl⟩
  go_wp2_with fail
  (with_reducible refine (tA.out _ hA.out).mono ?_)
  rintro e w ⟨rfl, rfl⟩
  go_wp2_with fail
  (with_reducible refine (nA.out _ hA.out).mono ?_)
  rintro e w1 ⟨AX, dX, rfl, RX, hb1⟩
  have hbw1 : Below w.heap.size w w1 := hb1
  clear hb1
  go_wp2_with fail
  (with_reducible refine (tB.out _ (hB.out.keep hbw1)).mono ?_)
  rintro e w1 ⟨rfl, rfl⟩
  go_wp2_with fail
  (with_reducible refine (nB.out _ (hB.out.keep hbw1)).mono ?_)
  rintro e w2 ⟨AY, dY, rfl, RY, hb2⟩
  have hbw2 : Below w.heap.size w w2 := below_call hb2 hbw1
  have RX2 := RX.keep hb2
  clear RX hb2 hbw1
  go_wp2_with fail
  (with_reducible refine (cS.out _ _ _ _ _ RX2 RY).mono ?_)
  rintro e w3 ⟨Aq, dq, Ar, dr, rfl, Rq, Rr, hb3⟩
  have hbw3 : Below w.heap.size w w3 := below_call hb3 hbw2
  clear hb3
  go_wp2_with fail
  (with_reducible refine (tA.out _ (hA.out.keep hbw3)).mono ?_)
  rintro e w3 ⟨rfl, rfl⟩
  go_wp2_with fail
  (with_reducible refine (tB.out _ (hB.out.keep hbw3)).mono ?_)
  rintro e w3 ⟨rfl, rfl⟩
  go_wp2_with fail
  (with_reducible refine (tA.out _ (hA.out.keep hbw3)).mono ?_)
  rintro e w3 ⟨rfl, rfl⟩
  go_wp2_with fail
  (with_reducible refine (nR.out _ _ _ Rr).mono ?_)
  rintro e w5 ⟨Ar2, dr2, rfl, Rr5, hb5⟩
  have hbw5 : Below w.heap.size w w5 := below_call hb5 hbw3
  have Rq5 := Rq.keep hb5
  clear hb5 hbw3 Rq Rr
  have RQ := Lib.hid Rq5
  have RR := Lib.hid Rr5
  clear Rq5 Rr5
  go_wp2_with fail
  go_ret2
  exact ⟨_, _, _, _, rfl, RQ.out, RR.out, hbw5⟩
end Go.Proofs.Ytmgkidfikikjpaa
