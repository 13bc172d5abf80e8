/-
  The walk of the statement BvDivides where the divisor is not 0.
-/
import Derived.Test.YtknbnpbmgbnlfaaLd
import Derived.Deep.RegionHeld3
namespace Go.Proofs.Ytknbnpbmgbnlfaa
open Go.RowKit
set_option maxRecDepth 100000 in
set_option maxHeartbeats 8000000 in
theorem Div_pos0 (n ca cb mb x y q1 q2 m1 m2 p1 p2 lb zb : Nat) (sb : Bool) (A B : Option Addr) (f g : Nat → Bool) (w : World) (h1 : 1 ≤ n) (hn : n ≤ 128)
    (hA : RB w A n f) (hB : RB w B mb g)
    (hx : ∀ w, RB w A n f → Calls Try.prog 25 #[.slice A n ca] w (RV w (vv n x)))
    (hy : ∀ w b, RB w (some ⟨b, 0, none⟩) n (fun j => decide (j < mb) && g j) → Calls Try.prog 25 #[.slice (some ⟨b, 0, none⟩) n n] w (RV w (vv n y)))
    (hZ : ∀ w, Calls Try.prog 28 #[.int .i64 5, vv n y] w (RV w (.tuple #[vv 1 0, .int .i64 0])))
    (hZb : ∀ w, Calls Try.prog 39 #[vv 1 0, .int .i64 0] w (RV w (.bool false)))
    (hE : ∀ v w, Calls Try.prog 24 #[vv n v, vv n v] w (RV w (.bool true)))
    (d3 : ∀ w, Calls Try.prog 26 #[.int .i64 3, vv n x, vv n y] w (RV w (.tuple #[vv n q1, .int .i64 0])))
    (d4 : ∀ w, Calls Try.prog 26 #[.int .i64 4, vv n x, vv n y] w (RV w (.tuple #[vv n m1, .int .i64 0])))
    (d5 : ∀ w, Calls Try.prog 26 #[.int .i64 5, vv n x, vv n y] w (RV w (.tuple #[vv n q2, .int .i64 0])))
    (d6 : ∀ w, Calls Try.prog 26 #[.int .i64 6, vv n x, vv n y] w (RV w (.tuple #[vv n m2, .int .i64 0])))
    (t1 : ∀ w, Calls Try.prog 26 #[.int .i64 2, vv n q1, vv n y] w (RV w (.tuple #[vv n p1, .int .i64 0])))
    (s1 : ∀ w, Calls Try.prog 26 #[.int .i64 0, vv n p1, vv n m1] w (RV w (.tuple #[vv n x, .int .i64 0])))
    (u1 : ∀ w, Calls Try.prog 26 #[.int .i64 15, vv n m1, vv n y] w (RV w (.tuple #[vv 1 1, .int .i64 0])))
    (z1 : ∀ w, Calls Try.prog 28 #[.int .i64 5, vv n m1] w (RV w (.tuple #[vv 1 zb, .int .i64 0])))
    (t2 : ∀ w, Calls Try.prog 26 #[.int .i64 2, vv n q2, vv n y] w (RV w (.tuple #[vv n p2, .int .i64 0])))
    (s2 : ∀ w, Calls Try.prog 26 #[.int .i64 0, vv n p2, vv n m2] w (RV w (.tuple #[vv n x, .int .i64 0])))
    (u2 : ∀ w, Calls Try.prog 26 #[.int .i64 15, vv n m2, vv n y] w (RV w (.tuple #[vv 1 lb, .int .i64 0])))
    (z2 : ∀ w, Calls Try.prog 28 #[.int .i64 5, vv n m2] w (RV w (.tuple #[vv 1 1, .int .i64 0])))
    (ub : ∀ w, Calls Try.prog 39 #[vv 1 1, .int .i64 0] w (RV w (.bool true))) :
    Calls Try.prog 9 #[.slice A n ca, .slice B mb cb] w (RV w (.bool true)) := by
  have hS := Lib.hid (fun w => short_le n ca A w (by omega))
  have hFB := Lib.hid (fun w (h : RB w B mb g) => fit_ok n mb cb B g w hn h)
  replace hx := Lib.hid hx
  replace hy := Lib.hid hy
  replace hA := Lib.hid hA
  replace hB := Lib.hid hB
  replace hZ := Lib.hid hZ
  replace hZb := Lib.hid hZb
  replace hE := Lib.hid hE
  replace d3 := Lib.hid d3
  replace d4 := Lib.hid d4
  replace d5 := Lib.hid d5
  replace d6 := Lib.hid d6
  replace t1 := Lib.hid t1
  replace s1 := Lib.hid s1
  replace u1 := Lib.hid u1
  replace z1 := Lib.hid z1
  replace t2 := Lib.hid t2
  replace s2 := Lib.hid s2
  replace u2 := Lib.hid u2
  replace z2 := Lib.hid z2
  replace ub := Lib.hid ub
  have n0 : ((n : Int) == 0) = false := by simp; omega
  have n128 : ¬ (128 < n) := by omega
  have wn : IntKind.i64.wrap ((n : Int) - 1) = (n : Int) - 1 := IntWalk.i64_in _ (by omega)
  go_enter Try.func9, Try.ntmps9
  go_wp2_with fail
  (with_reducible refine (awake_t _).mono ?_)
  rintro e w1 ⟨rfl, hbw1⟩
  go_wp2_with fail
  (with_reducible refine (hS.out _).mono ?_)
  rintro e w0 ⟨rfl, rfl⟩
  go_wp2_with fail
  (with_reducible refine (hx.out _ (hA.out.keep hbw1)).mono ?_)
  rintro e w2 ⟨rfl, hb2⟩
  have hbw2 : Below w.heap.size w w2 := below_call hb2 hbw1
  clear hb2 hbw1
  go_wp2_with fail
  (with_reducible refine (hFB.out _ (hB.out.keep hbw2)).mono ?_)
  rintro e w3 ⟨b3, rfl, R3, hb3⟩
  have hbw3 : Below w.heap.size w w3 := below_call hb3 hbw2
  replace R3 := Lib.hid R3
  clear hb3 hbw2
  go_wp2_with fail
  (with_reducible refine (hy.out _ _ R3.out).mono ?_)
  rintro e w4 ⟨rfl, hb4⟩
  have hbw4 : Below w.heap.size w w4 := below_call hb4 hbw3
  have z4 := hbw4.size
  clear hb4 hbw3 R3

  have Y0 : HV 29 ((w4.alloc (.cells (vcs n x) 29)).alloc (.cells (vcs n y) 29)) (w4.heap.size + 1) n y := by
    have h := HV.new (w4.alloc (.cells (vcs n x) 29)) 29 n y
    rw [World.size_alloc] at h
    exact h
  have S0 : IV 69 (((w4.alloc (.cells (vcs n x) 29)).alloc (.cells (vcs n y) 29)).alloc (.cells #[.int .i64 3, .int .i64 4, .int .i64 5, .int .i64 6] 69)) (w4.heap.size + 1 + 1) 4 3 := by
    have h := IV.new4 ((w4.alloc (.cells (vcs n x) 29)).alloc (.cells (vcs n y) 29)) 69
    rw [World.size_alloc, World.size_alloc] at h
    exact h
  have O0 : IV 69 ((((w4.alloc (.cells (vcs n x) 29)).alloc (.cells (vcs n y) 29)).alloc (.cells #[.int .i64 3, .int .i64 4, .int .i64 5, .int .i64 6] 69)).alloc (.cells #[.int .i64 3, .int .i64 4] 69)) (w4.heap.size + 1 + 1 + 1) 2 3 := by
    have h := IV.new3 (((w4.alloc (.cells (vcs n x) 29)).alloc (.cells (vcs n y) 29)).alloc (.cells #[.int .i64 3, .int .i64 4, .int .i64 5, .int .i64 6] 69)) 69
    rw [World.size_alloc, World.size_alloc, World.size_alloc] at h
    exact h
  go_wp2_with fail
  refine wp_loop_rounds 3 ?_
  rw [rounds_succ]
  go_wp2_with fail
  (with_reducible refine (d3.out _).mono ?_)
  rintro e w5 ⟨rfl, hb5⟩
  have hbw5 : Below w.heap.size w w5 := below_call hb5 (by go_grown)
  have z5 := hbw5.size
  have Xh' : HV 29 w5 (w4.heap.size) n x := ((((HV.new w4 29 n x).alloc _).alloc _).alloc _).over hb5
  have Yh' : HV 29 w5 (w4.heap.size + 1) n y := ((Y0.alloc _).alloc _).over hb5
  have Sh' : IV 69 w5 (w4.heap.size + 1 + 1) 4 3 := (S0.alloc _).over hb5
  have Oh' : IV 69 w5 (w4.heap.size + 1 + 1 + 1) 2 3 := O0.over hb5
  have Xh := Xh'
  clear Xh'
  have Xa := Xh.all
  have Xl := Xh.lt
  have Yh := Yh'
  clear Yh'
  have Ya := Yh.all
  have Yl := Yh.lt
  have Sh := Sh'
  clear Sh'
  have Sa := Sh.all
  have Sl := Sh.lt
  have Oh := Oh'
  clear Oh'
  have Oa := Oh.t3
  have Ol := Oh.lt
  clear hb5
  clear Y0 S0 O0
  go_wp2_with fail
  (with_reducible refine (d4.out _).mono ?_)
  rintro e w6 ⟨rfl, hb6⟩
  have hbw6 : Below w.heap.size w w6 := below_call hb6 (by go_grown)
  have z6 := hbw6.size
  have Xh' : HV 29 w6 (w4.heap.size) n x := (Xh.alloc _).over hb6
  have Yh' : HV 29 w6 (w4.heap.size + 1) n y := (Yh.alloc _).over hb6
  have Sh' : IV 69 w6 (w4.heap.size + 1 + 1) 4 3 := (Sh.alloc _).over hb6
  have Oh' : IV 69 w6 (w4.heap.size + 1 + 1 + 1) 2 3 := (Oh.alloc _).over hb6
  have Qh' : HV 29 w6 (w5.heap.size) n q1 := (HV.new w5 29 n q1).over hb6
  clear Xa Xl Xh
  clear Ya Yl Yh
  clear Sa Sl Sh
  clear Oa Ol Oh
  have Xh := Xh'
  clear Xh'
  have Xa := Xh.all
  have Xl := Xh.lt
  have Yh := Yh'
  clear Yh'
  have Ya := Yh.all
  have Yl := Yh.lt
  have Sh := Sh'
  clear Sh'
  have Sa := Sh.all
  have Sl := Sh.lt
  have Oh := Oh'
  clear Oh'
  have Oa := Oh.t3
  have Ol := Oh.lt
  have Qh := Qh'
  clear Qh'
  have Qa := Qh.all
  have Ql := Qh.lt
  clear hb6
  go_wp2_with fail
  (with_reducible refine (hZ.out _).mono ?_)
  rintro e w7 ⟨rfl, hb7⟩
  have hbw7 : Below w.heap.size w w7 := below_call hb7 (by go_grown)
  have z7 := hbw7.size
  have Xh' : HV 29 w7 (w4.heap.size) n x := (Xh.alloc _).over hb7
  have Yh' : HV 29 w7 (w4.heap.size + 1) n y := (Yh.alloc _).over hb7
  have Sh' : IV 69 w7 (w4.heap.size + 1 + 1) 4 3 := (Sh.alloc _).over hb7
  have Oh' : IV 69 w7 (w4.heap.size + 1 + 1 + 1) 2 3 := (Oh.alloc _).over hb7
  have Qh' : HV 29 w7 (w5.heap.size) n q1 := (Qh.alloc _).over hb7
  have Mh' : HV 29 w7 (w6.heap.size) n m1 := (HV.new w6 29 n m1).over hb7
  clear Xa Xl Xh
  clear Ya Yl Yh
  clear Sa Sl Sh
  clear Oa Ol Oh
  clear Qa Ql Qh
  have Xh := Xh'
  clear Xh'
  have Xa := Xh.all
  have Xl := Xh.lt
  have Yh := Yh'
  clear Yh'
  have Ya := Yh.all
  have Yl := Yh.lt
  have Sh := Sh'
  clear Sh'
  have Sa := Sh.all
  have Sl := Sh.lt
  have Oh := Oh'
  clear Oh'
  have Oa := Oh.t3
  have Ol := Oh.lt
  have Qh := Qh'
  clear Qh'
  have Qa := Qh.all
  have Ql := Qh.lt
  have Mh := Mh'
  clear Mh'
  have Ma := Mh.all
  have Ml := Mh.lt
  clear hb7
  go_wp2_with fail
  refine (hZb.out _).mono ?_
  rintro e w8 ⟨rfl, hb8⟩
  have hbw8 : Below w.heap.size w w8 := below_call hb8 (by go_grown)
  have z8 := hbw8.size
  have Xh' : HV 29 w8 (w4.heap.size) n x := (Xh.alloc _).over hb8
  have Yh' : HV 29 w8 (w4.heap.size + 1) n y := (Yh.alloc _).over hb8
  have Sh' : IV 69 w8 (w4.heap.size + 1 + 1) 4 3 := (Sh.alloc _).over hb8
  have Oh' : IV 69 w8 (w4.heap.size + 1 + 1 + 1) 2 3 := (Oh.alloc _).over hb8
  have Qh' : HV 29 w8 (w5.heap.size) n q1 := (Qh.alloc _).over hb8
  have Mh' : HV 29 w8 (w6.heap.size) n m1 := (Mh.alloc _).over hb8
  have Zh' : HV 29 w8 (w7.heap.size) 1 0 := (HV.new w7 29 1 0).over hb8
  clear Xa Xl Xh
  clear Ya Yl Yh
  clear Sa Sl Sh
  clear Oa Ol Oh
  clear Qa Ql Qh
  clear Ma Ml Mh
  have Xh := Xh'
  clear Xh'
  have Xa := Xh.all
  have Xl := Xh.lt
  have Yh := Yh'
  clear Yh'
  have Ya := Yh.all
  have Yl := Yh.lt
  have Sh := Sh'
  clear Sh'
  have Sa := Sh.all
  have Sl := Sh.lt
  have Oh := Oh'
  clear Oh'
  have Oa := Oh.t3
  have Ol := Oh.lt
  have Qh := Qh'
  clear Qh'
  have Qa := Qh.all
  have Ql := Qh.lt
  have Mh := Mh'
  clear Mh'
  have Ma := Mh.all
  have Ml := Mh.lt
  have Zh := Zh'
  clear Zh'
  have Za := Zh.all
  have Zl := Zh.lt
  clear hb8
  clear Za Zl Zh
  go_wp2_with fail
  (with_reducible refine (t1.out _).mono ?_)
  rintro e w9 ⟨rfl, hb9⟩
  have hbw9 : Below w.heap.size w w9 := below_call hb9 (by go_grown)
  have z9 := hbw9.size
  have Xh' : HV 29 w9 (w4.heap.size) n x := Xh.over hb9
  have Yh' : HV 29 w9 (w4.heap.size + 1) n y := Yh.over hb9
  have Sh' : IV 69 w9 (w4.heap.size + 1 + 1) 4 3 := Sh.over hb9
  have Oh' : IV 69 w9 (w4.heap.size + 1 + 1 + 1) 2 3 := Oh.over hb9
  have Qh' : HV 29 w9 (w5.heap.size) n q1 := Qh.over hb9
  have Mh' : HV 29 w9 (w6.heap.size) n m1 := Mh.over hb9
  clear Xa Xl Xh
  clear Ya Yl Yh
  clear Sa Sl Sh
  clear Oa Ol Oh
  clear Qa Ql Qh
  clear Ma Ml Mh
  have Xh := Xh'
  clear Xh'
  have Xa := Xh.all
  have Xl := Xh.lt
  have Yh := Yh'
  clear Yh'
  have Ya := Yh.all
  have Yl := Yh.lt
  have Sh := Sh'
  clear Sh'
  have Sa := Sh.all
  have Sl := Sh.lt
  have Oh := Oh'
  clear Oh'
  have Oa := Oh.t3
  have Ol := Oh.lt
  have Qh := Qh'
  clear Qh'
  have Qa := Qh.all
  have Ql := Qh.lt
  have Mh := Mh'
  clear Mh'
  have Ma := Mh.all
  have Ml := Mh.lt
  clear hb9
  clear Qa Ql Qh
  go_wp2_with fail
  (with_reducible refine (s1.out _).mono ?_)
  rintro e w10 ⟨rfl, hb10⟩
  have hbw10 : Below w.heap.size w w10 := below_call hb10 (by go_grown)
  have z10 := hbw10.size
  have Xh' : HV 29 w10 (w4.heap.size) n x := (Xh.alloc _).over hb10
  have Yh' : HV 29 w10 (w4.heap.size + 1) n y := (Yh.alloc _).over hb10
  have Sh' : IV 69 w10 (w4.heap.size + 1 + 1) 4 3 := (Sh.alloc _).over hb10
  have Oh' : IV 69 w10 (w4.heap.size + 1 + 1 + 1) 2 3 := (Oh.alloc _).over hb10
  have Mh' : HV 29 w10 (w6.heap.size) n m1 := (Mh.alloc _).over hb10
  have Ph' : HV 29 w10 (w9.heap.size) n p1 := (HV.new w9 29 n p1).over hb10
  clear Xa Xl Xh
  clear Ya Yl Yh
  clear Sa Sl Sh
  clear Oa Ol Oh
  clear Ma Ml Mh
  have Xh := Xh'
  clear Xh'
  have Xa := Xh.all
  have Xl := Xh.lt
  have Yh := Yh'
  clear Yh'
  have Ya := Yh.all
  have Yl := Yh.lt
  have Sh := Sh'
  clear Sh'
  have Sa := Sh.all
  have Sl := Sh.lt
  have Oh := Oh'
  clear Oh'
  have Oa := Oh.t3
  have Ol := Oh.lt
  have Mh := Mh'
  clear Mh'
  have Ma := Mh.all
  have Ml := Mh.lt
  have Ph := Ph'
  clear Ph'
  have Pa := Ph.all
  have Pl := Ph.lt
  clear hb10
  clear Pa Pl Ph
  go_wp2_with fail
  (with_reducible refine (hE.out _ _).mono ?_)
  rintro e w11 ⟨rfl, hb11⟩
  have hbw11 : Below w.heap.size w w11 := below_call hb11 (by go_grown)
  have z11 := hbw11.size
  have Xh' : HV 29 w11 (w4.heap.size) n x := (Xh.alloc _).over hb11
  have Yh' : HV 29 w11 (w4.heap.size + 1) n y := (Yh.alloc _).over hb11
  have Sh' : IV 69 w11 (w4.heap.size + 1 + 1) 4 3 := (Sh.alloc _).over hb11
  have Oh' : IV 69 w11 (w4.heap.size + 1 + 1 + 1) 2 3 := (Oh.alloc _).over hb11
  have Mh' : HV 29 w11 (w6.heap.size) n m1 := (Mh.alloc _).over hb11
  have Uh' : HV 29 w11 (w10.heap.size) n x := (HV.new w10 29 n x).over hb11
  clear Xa Xl Xh
  clear Ya Yl Yh
  clear Sa Sl Sh
  clear Oa Ol Oh
  clear Ma Ml Mh
  have Xh := Xh'
  clear Xh'
  have Xa := Xh.all
  have Xl := Xh.lt
  have Yh := Yh'
  clear Yh'
  have Ya := Yh.all
  have Yl := Yh.lt
  have Sh := Sh'
  clear Sh'
  have Sa := Sh.all
  have Sl := Sh.lt
  have Oh := Oh'
  clear Oh'
  have Oa := Oh.t3
  have Ol := Oh.lt
  have Mh := Mh'
  clear Mh'
  have Ma := Mh.all
  have Ml := Mh.lt
  have Uh := Uh'
  clear Uh'
  have Ua := Uh.all
  have Ul := Uh.lt
  clear hb11
  clear Ua Ul Uh
  go_wp2_with fail
  (with_reducible refine (u1.out _).mono ?_)
  rintro e w12 ⟨rfl, hb12⟩
  have hbw12 : Below w.heap.size w w12 := below_call hb12 (by go_grown)
  have z12 := hbw12.size
  have Xh' : HV 29 w12 (w4.heap.size) n x := Xh.over hb12
  have Yh' : HV 29 w12 (w4.heap.size + 1) n y := Yh.over hb12
  have Sh' : IV 69 w12 (w4.heap.size + 1 + 1) 4 3 := Sh.over hb12
  have Oh' : IV 69 w12 (w4.heap.size + 1 + 1 + 1) 2 3 := Oh.over hb12
  have Mh' : HV 29 w12 (w6.heap.size) n m1 := Mh.over hb12
  clear Xa Xl Xh
  clear Ya Yl Yh
  clear Sa Sl Sh
  clear Oa Ol Oh
  clear Ma Ml Mh
  have Xh := Xh'
  clear Xh'
  have Xa := Xh.all
  have Xl := Xh.lt
  have Yh := Yh'
  clear Yh'
  have Ya := Yh.all
  have Yl := Yh.lt
  have Sh := Sh'
  clear Sh'
  have Sa := Sh.all
  have Sl := Sh.lt
  have Oh := Oh'
  clear Oh'
  have Oa := Oh.t3
  have Ol := Oh.lt
  have Mh := Mh'
  clear Mh'
  have Ma := Mh.all
  have Ml := Mh.lt
  clear hb12
  go_wp2_with fail
  refine (ub.out _).mono ?_
  rintro e w13 ⟨rfl, hb13⟩
  have hbw13 : Below w.heap.size w w13 := below_call hb13 (by go_grown)
  have z13 := hbw13.size
  have Xh' : HV 29 w13 (w4.heap.size) n x := (Xh.alloc _).over hb13
  have Yh' : HV 29 w13 (w4.heap.size + 1) n y := (Yh.alloc _).over hb13
  have Sh' : IV 69 w13 (w4.heap.size + 1 + 1) 4 3 := (Sh.alloc _).over hb13
  have Oh' : IV 69 w13 (w4.heap.size + 1 + 1 + 1) 2 3 := (Oh.alloc _).over hb13
  have Mh' : HV 29 w13 (w6.heap.size) n m1 := (Mh.alloc _).over hb13
  have Lh' : HV 29 w13 (w12.heap.size) 1 1 := (HV.new w12 29 1 1).over hb13
  clear Xa Xl Xh
  clear Ya Yl Yh
  clear Sa Sl Sh
  clear Oa Ol Oh
  clear Ma Ml Mh
  have Xh := Xh'
  clear Xh'
  have Xa := Xh.all
  have Xl := Xh.lt
  have Yh := Yh'
  clear Yh'
  have Ya := Yh.all
  have Yl := Yh.lt
  have Sh := Sh'
  clear Sh'
  have Sa := Sh.all
  have Sl := Sh.lt
  have Oh := Oh'
  clear Oh'
  have Oa := Oh.t3
  have Ol := Oh.lt
  have Mh := Mh'
  clear Mh'
  have Ma := Mh.all
  have Ml := Mh.lt
  have Lh := Lh'
  clear Lh'
  have La := Lh.all
  have Ll := Lh.lt
  clear hb13
  clear La Ll Lh
  go_wp2_with fail
  (with_reducible refine (z1.out _).mono ?_)
  rintro e w14 ⟨rfl, hb14⟩
  have hbw14 : Below w.heap.size w w14 := below_call hb14 (by go_grown)
  have z14 := hbw14.size
  have Xh' : HV 29 w14 (w4.heap.size) n x := Xh.over hb14
  have Yh' : HV 29 w14 (w4.heap.size + 1) n y := Yh.over hb14
  have Sh' : IV 69 w14 (w4.heap.size + 1 + 1) 4 3 := Sh.over hb14
  have Oh' : IV 69 w14 (w4.heap.size + 1 + 1 + 1) 2 3 := Oh.over hb14
  have Mh' : HV 29 w14 (w6.heap.size) n m1 := Mh.over hb14
  clear Xa Xl Xh
  clear Ya Yl Yh
  clear Sa Sl Sh
  clear Oa Ol Oh
  clear Ma Ml Mh
  have Xh := Xh'
  clear Xh'
  have Xa := Xh.all
  have Xl := Xh.lt
  have Yh := Yh'
  clear Yh'
  have Ya := Yh.all
  have Yl := Yh.lt
  have Sh := Sh'
  clear Sh'
  have Sa := Sh.all
  have Sl := Sh.lt
  have Oh := Oh'
  clear Oh'
  have Oa := Oh.t3
  have Ol := Oh.lt
  have Mh := Mh'
  clear Mh'
  have Ma := Mh.all
  have Ml := Mh.lt
  clear hb14
  clear Ma Ml Mh
  go_wp2_with fail
  have hbq : Below w.heap.size w (w14.alloc (.cells (vcs 1 zb) 29)) := by go_grown
  go_quiet (fail)
  have hbn := below_drewN hbq nq
  have Xd := ((Xh.alloc (.cells (vcs 1 zb) 29))).drewN nq
  have Yd := ((Yh.alloc (.cells (vcs 1 zb) 29))).drewN nq
  have Sd := ((Sh.alloc (.cells (vcs 1 zb) 29))).drewN nq
  have Od := ((Oh.alloc (.cells (vcs 1 zb) 29))).drewN nq
  have zd := hbn.size
  generalize (w14.alloc (.cells (vcs 1 zb) 29)).drewN nq = wd at *
  clear Xa Xl Xh
  have Xh := Xd
  clear Xd
  have Xa := Xh.all
  have Xl := Xh.lt
  clear Ya Yl Yh
  have Yh := Yd
  clear Yd
  have Ya := Yh.all
  have Yl := Yh.lt
  clear Sa Sl Sh
  have Sh := Sd
  clear Sd
  have Sa := Sh.all
  have Sl := Sh.lt
  clear Oa Ol Oh
  have Oh := Od
  clear Od
  have Oa := Oh.t3
  have Ol := Oh.lt
  clear Oa Ol Oh
  go_wp2_with fail
  go_wp2_with fail
  rw [rounds_succ]
  go_wp2_with fail
  (with_reducible refine (d5.out _).mono ?_)
  rintro e w15 ⟨rfl, hb15⟩
  have hbw15 : Below w.heap.size w w15 := below_call hb15 (by go_grown)
  have z15 := hbw15.size
  have Xh' : HV 29 w15 (w4.heap.size) n x := (Xh.alloc _).over hb15
  have Yh' : HV 29 w15 (w4.heap.size + 1) n y := (Yh.alloc _).over hb15
  have Sh' : IV 69 w15 (w4.heap.size + 1 + 1) 4 3 := (Sh.alloc _).over hb15
  have Oh' : IV 69 w15 (wd.heap.size) 2 5 := (IV.new5 wd 69).over hb15
  clear Xa Xl Xh
  clear Ya Yl Yh
  clear Sa Sl Sh
  have Xh := Xh'
  clear Xh'
  have Xa := Xh.all
  have Xl := Xh.lt
  have Yh := Yh'
  clear Yh'
  have Ya := Yh.all
  have Yl := Yh.lt
  have Sh := Sh'
  clear Sh'
  have Sa := Sh.all
  have Sl := Sh.lt
  have Oh := Oh'
  clear Oh'
  have Oa := Oh.t5
  have Ol := Oh.lt
  clear hb15
  go_wp2_with fail
  (with_reducible refine (d6.out _).mono ?_)
  rintro e w16 ⟨rfl, hb16⟩
  have hbw16 : Below w.heap.size w w16 := below_call hb16 (by go_grown)
  have z16 := hbw16.size
  have Xh' : HV 29 w16 (w4.heap.size) n x := (Xh.alloc _).over hb16
  have Yh' : HV 29 w16 (w4.heap.size + 1) n y := (Yh.alloc _).over hb16
  have Sh' : IV 69 w16 (w4.heap.size + 1 + 1) 4 3 := (Sh.alloc _).over hb16
  have Oh' : IV 69 w16 (wd.heap.size) 2 5 := (Oh.alloc _).over hb16
  have Qh' : HV 29 w16 (w15.heap.size) n q2 := (HV.new w15 29 n q2).over hb16
  clear Xa Xl Xh
  clear Ya Yl Yh
  clear Sa Sl Sh
  clear Oa Ol Oh
  have Xh := Xh'
  clear Xh'
  have Xa := Xh.all
  have Xl := Xh.lt
  have Yh := Yh'
  clear Yh'
  have Ya := Yh.all
  have Yl := Yh.lt
  have Sh := Sh'
  clear Sh'
  have Sa := Sh.all
  have Sl := Sh.lt
  have Oh := Oh'
  clear Oh'
  have Oa := Oh.t5
  have Ol := Oh.lt
  have Qh := Qh'
  clear Qh'
  have Qa := Qh.all
  have Ql := Qh.lt
  clear hb16
  go_wp2_with fail
  (with_reducible refine (hZ.out _).mono ?_)
  rintro e w17 ⟨rfl, hb17⟩
  have hbw17 : Below w.heap.size w w17 := below_call hb17 (by go_grown)
  have z17 := hbw17.size
  have Xh' : HV 29 w17 (w4.heap.size) n x := (Xh.alloc _).over hb17
  have Yh' : HV 29 w17 (w4.heap.size + 1) n y := (Yh.alloc _).over hb17
  have Sh' : IV 69 w17 (w4.heap.size + 1 + 1) 4 3 := (Sh.alloc _).over hb17
  have Oh' : IV 69 w17 (wd.heap.size) 2 5 := (Oh.alloc _).over hb17
  have Qh' : HV 29 w17 (w15.heap.size) n q2 := (Qh.alloc _).over hb17
  have Mh' : HV 29 w17 (w16.heap.size) n m2 := (HV.new w16 29 n m2).over hb17
  clear Xa Xl Xh
  clear Ya Yl Yh
  clear Sa Sl Sh
  clear Oa Ol Oh
  clear Qa Ql Qh
  have Xh := Xh'
  clear Xh'
  have Xa := Xh.all
  have Xl := Xh.lt
  have Yh := Yh'
  clear Yh'
  have Ya := Yh.all
  have Yl := Yh.lt
  have Sh := Sh'
  clear Sh'
  have Sa := Sh.all
  have Sl := Sh.lt
  have Oh := Oh'
  clear Oh'
  have Oa := Oh.t5
  have Ol := Oh.lt
  have Qh := Qh'
  clear Qh'
  have Qa := Qh.all
  have Ql := Qh.lt
  have Mh := Mh'
  clear Mh'
  have Ma := Mh.all
  have Ml := Mh.lt
  clear hb17
  go_wp2_with fail
  refine (hZb.out _).mono ?_
  rintro e w18 ⟨rfl, hb18⟩
  have hbw18 : Below w.heap.size w w18 := below_call hb18 (by go_grown)
  have z18 := hbw18.size
  have Xh' : HV 29 w18 (w4.heap.size) n x := (Xh.alloc _).over hb18
  have Yh' : HV 29 w18 (w4.heap.size + 1) n y := (Yh.alloc _).over hb18
  have Sh' : IV 69 w18 (w4.heap.size + 1 + 1) 4 3 := (Sh.alloc _).over hb18
  have Oh' : IV 69 w18 (wd.heap.size) 2 5 := (Oh.alloc _).over hb18
  have Qh' : HV 29 w18 (w15.heap.size) n q2 := (Qh.alloc _).over hb18
  have Mh' : HV 29 w18 (w16.heap.size) n m2 := (Mh.alloc _).over hb18
  have Zh' : HV 29 w18 (w17.heap.size) 1 0 := (HV.new w17 29 1 0).over hb18
  clear Xa Xl Xh
  clear Ya Yl Yh
  clear Sa Sl Sh
  clear Oa Ol Oh
  clear Qa Ql Qh
  clear Ma Ml Mh
  have Xh := Xh'
  clear Xh'
  have Xa := Xh.all
  have Xl := Xh.lt
  have Yh := Yh'
  clear Yh'
  have Ya := Yh.all
  have Yl := Yh.lt
  have Sh := Sh'
  clear Sh'
  have Sa := Sh.all
  have Sl := Sh.lt
  have Oh := Oh'
  clear Oh'
  have Oa := Oh.t5
  have Ol := Oh.lt
  have Qh := Qh'
  clear Qh'
  have Qa := Qh.all
  have Ql := Qh.lt
  have Mh := Mh'
  clear Mh'
  have Ma := Mh.all
  have Ml := Mh.lt
  have Zh := Zh'
  clear Zh'
  have Za := Zh.all
  have Zl := Zh.lt
  clear hb18
  clear Za Zl Zh
  go_wp2_with fail
  (with_reducible refine (t2.out _).mono ?_)
  rintro e w19 ⟨rfl, hb19⟩
  have hbw19 : Below w.heap.size w w19 := below_call hb19 (by go_grown)
  have z19 := hbw19.size
  have Xh' : HV 29 w19 (w4.heap.size) n x := Xh.over hb19
  have Yh' : HV 29 w19 (w4.heap.size + 1) n y := Yh.over hb19
  have Sh' : IV 69 w19 (w4.heap.size + 1 + 1) 4 3 := Sh.over hb19
  have Oh' : IV 69 w19 (wd.heap.size) 2 5 := Oh.over hb19
  have Qh' : HV 29 w19 (w15.heap.size) n q2 := Qh.over hb19
  have Mh' : HV 29 w19 (w16.heap.size) n m2 := Mh.over hb19
  clear Xa Xl Xh
  clear Ya Yl Yh
  clear Sa Sl Sh
  clear Oa Ol Oh
  clear Qa Ql Qh
  clear Ma Ml Mh
  have Xh := Xh'
  clear Xh'
  have Xa := Xh.all
  have Xl := Xh.lt
  have Yh := Yh'
  clear Yh'
  have Ya := Yh.all
  have Yl := Yh.lt
  have Sh := Sh'
  clear Sh'
  have Sa := Sh.all
  have Sl := Sh.lt
  have Oh := Oh'
  clear Oh'
  have Oa := Oh.t5
  have Ol := Oh.lt
  have Qh := Qh'
  clear Qh'
  have Qa := Qh.all
  have Ql := Qh.lt
  have Mh := Mh'
  clear Mh'
  have Ma := Mh.all
  have Ml := Mh.lt
  clear hb19
  clear Qa Ql Qh
  go_wp2_with fail
  (with_reducible refine (s2.out _).mono ?_)
  rintro e w20 ⟨rfl, hb20⟩
  have hbw20 : Below w.heap.size w w20 := below_call hb20 (by go_grown)
  have z20 := hbw20.size
  have Xh' : HV 29 w20 (w4.heap.size) n x := (Xh.alloc _).over hb20
  have Yh' : HV 29 w20 (w4.heap.size + 1) n y := (Yh.alloc _).over hb20
  have Sh' : IV 69 w20 (w4.heap.size + 1 + 1) 4 3 := (Sh.alloc _).over hb20
  have Oh' : IV 69 w20 (wd.heap.size) 2 5 := (Oh.alloc _).over hb20
  have Mh' : HV 29 w20 (w16.heap.size) n m2 := (Mh.alloc _).over hb20
  have Ph' : HV 29 w20 (w19.heap.size) n p2 := (HV.new w19 29 n p2).over hb20
  clear Xa Xl Xh
  clear Ya Yl Yh
  clear Sa Sl Sh
  clear Oa Ol Oh
  clear Ma Ml Mh
  have Xh := Xh'
  clear Xh'
  have Xa := Xh.all
  have Xl := Xh.lt
  have Yh := Yh'
  clear Yh'
  have Ya := Yh.all
  have Yl := Yh.lt
  have Sh := Sh'
  clear Sh'
  have Sa := Sh.all
  have Sl := Sh.lt
  have Oh := Oh'
  clear Oh'
  have Oa := Oh.t5
  have Ol := Oh.lt
  have Mh := Mh'
  clear Mh'
  have Ma := Mh.all
  have Ml := Mh.lt
  have Ph := Ph'
  clear Ph'
  have Pa := Ph.all
  have Pl := Ph.lt
  clear hb20
  clear Pa Pl Ph
  go_wp2_with fail
  (with_reducible refine (hE.out _ _).mono ?_)
  rintro e w21 ⟨rfl, hb21⟩
  have hbw21 : Below w.heap.size w w21 := below_call hb21 (by go_grown)
  have z21 := hbw21.size
  have Xh' : HV 29 w21 (w4.heap.size) n x := (Xh.alloc _).over hb21
  have Yh' : HV 29 w21 (w4.heap.size + 1) n y := (Yh.alloc _).over hb21
  have Sh' : IV 69 w21 (w4.heap.size + 1 + 1) 4 3 := (Sh.alloc _).over hb21
  have Oh' : IV 69 w21 (wd.heap.size) 2 5 := (Oh.alloc _).over hb21
  have Mh' : HV 29 w21 (w16.heap.size) n m2 := (Mh.alloc _).over hb21
  have Uh' : HV 29 w21 (w20.heap.size) n x := (HV.new w20 29 n x).over hb21
  clear Xa Xl Xh
  clear Ya Yl Yh
  clear Sa Sl Sh
  clear Oa Ol Oh
  clear Ma Ml Mh
  have Xh := Xh'
  clear Xh'
  have Xa := Xh.all
  have Xl := Xh.lt
  have Yh := Yh'
  clear Yh'
  have Ya := Yh.all
  have Yl := Yh.lt
  have Sh := Sh'
  clear Sh'
  have Sa := Sh.all
  have Sl := Sh.lt
  have Oh := Oh'
  clear Oh'
  have Oa := Oh.t5
  have Ol := Oh.lt
  have Mh := Mh'
  clear Mh'
  have Ma := Mh.all
  have Ml := Mh.lt
  have Uh := Uh'
  clear Uh'
  have Ua := Uh.all
  have Ul := Uh.lt
  clear hb21
  clear Ua Ul Uh
  go_wp2_with fail
  (with_reducible refine (u2.out _).mono ?_)
  rintro e w22 ⟨rfl, hb22⟩
  have hbw22 : Below w.heap.size w w22 := below_call hb22 (by go_grown)
  have z22 := hbw22.size
  have Xh' : HV 29 w22 (w4.heap.size) n x := Xh.over hb22
  have Yh' : HV 29 w22 (w4.heap.size + 1) n y := Yh.over hb22
  have Sh' : IV 69 w22 (w4.heap.size + 1 + 1) 4 3 := Sh.over hb22
  have Oh' : IV 69 w22 (wd.heap.size) 2 5 := Oh.over hb22
  have Mh' : HV 29 w22 (w16.heap.size) n m2 := Mh.over hb22
  clear Xa Xl Xh
  clear Ya Yl Yh
  clear Sa Sl Sh
  clear Oa Ol Oh
  clear Ma Ml Mh
  have Xh := Xh'
  clear Xh'
  have Xa := Xh.all
  have Xl := Xh.lt
  have Yh := Yh'
  clear Yh'
  have Ya := Yh.all
  have Yl := Yh.lt
  have Sh := Sh'
  clear Sh'
  have Sa := Sh.all
  have Sl := Sh.lt
  have Oh := Oh'
  clear Oh'
  have Oa := Oh.t5
  have Ol := Oh.lt
  have Mh := Mh'
  clear Mh'
  have Ma := Mh.all
  have Ml := Mh.lt
  clear hb22
  go_wp2_with fail
  (with_reducible refine (z2.out _).mono ?_)
  rintro e w23 ⟨rfl, hb23⟩
  have hbw23 : Below w.heap.size w w23 := below_call hb23 (by go_grown)
  have z23 := hbw23.size
  have Xh' : HV 29 w23 (w4.heap.size) n x := (Xh.alloc _).over hb23
  have Yh' : HV 29 w23 (w4.heap.size + 1) n y := (Yh.alloc _).over hb23
  have Sh' : IV 69 w23 (w4.heap.size + 1 + 1) 4 3 := (Sh.alloc _).over hb23
  have Oh' : IV 69 w23 (wd.heap.size) 2 5 := (Oh.alloc _).over hb23
  have Mh' : HV 29 w23 (w16.heap.size) n m2 := (Mh.alloc _).over hb23
  clear Xa Xl Xh
  clear Ya Yl Yh
  clear Sa Sl Sh
  clear Oa Ol Oh
  clear Ma Ml Mh
  have Xh := Xh'
  clear Xh'
  have Xa := Xh.all
  have Xl := Xh.lt
  have Yh := Yh'
  clear Yh'
  have Ya := Yh.all
  have Yl := Yh.lt
  have Sh := Sh'
  clear Sh'
  have Sa := Sh.all
  have Sl := Sh.lt
  have Oh := Oh'
  clear Oh'
  have Oa := Oh.t5
  have Ol := Oh.lt
  have Mh := Mh'
  clear Mh'
  have Ma := Mh.all
  have Ml := Mh.lt
  clear hb23
  clear Ya Yl Yh
  clear Sa Sl Sh
  go_wp2_with fail
  have Xe := (Xh.alloc (.cells (vcs 1 1) 29))
  have Me := (Mh.alloc (.cells (vcs 1 1) 29))
  have Oe := (Oh.alloc (.cells (vcs 1 1) 29))
  have Re := HV.new w23 29 1 1
  have hbr : Below w.heap.size w (w23.alloc (.cells (vcs 1 1) 29)) := by go_grown
  clear Xa Xl Xh
  clear Ma Ml Mh
  clear Oa Ol Oh
  refine wp_region_held (S := fun w' => w'.cell? ⟨wd.heap.size, 0, none⟩ = some (.int .i64 5) ∧ (w'.cell? ⟨w23.heap.size, 0, none⟩ = some (.int .i64 1) ∧ w'.cell? ⟨w23.heap.size, 1, none⟩ = some (.int .u64 ((lo 1 : Nat) : Int)) ∧ w'.cell? ⟨w23.heap.size, 2, none⟩ = some (.int .u64 ((hi 1 : Nat) : Int))) ∧ (w'.cell? ⟨w16.heap.size, 0, none⟩ = some (.int .i64 (n : Int)) ∧ w'.cell? ⟨w16.heap.size, 1, none⟩ = some (.int .u64 ((lo m2 : Nat) : Int)) ∧ w'.cell? ⟨w16.heap.size, 2, none⟩ = some (.int .u64 ((hi m2 : Nat) : Int))) ∧ (w'.cell? ⟨w4.heap.size, 0, none⟩ = some (.int .i64 (n : Int)) ∧ w'.cell? ⟨w4.heap.size, 1, none⟩ = some (.int .u64 ((lo x : Nat) : Int)) ∧ w'.cell? ⟨w4.heap.size, 2, none⟩ = some (.int .u64 ((hi x : Nat) : Int)))) (by kernel_rfl) ?_
  have hS0 : (fun w' : World => w'.cell? ⟨wd.heap.size, 0, none⟩ = some (.int .i64 5) ∧ (w'.cell? ⟨w23.heap.size, 0, none⟩ = some (.int .i64 1) ∧ w'.cell? ⟨w23.heap.size, 1, none⟩ = some (.int .u64 ((lo 1 : Nat) : Int)) ∧ w'.cell? ⟨w23.heap.size, 2, none⟩ = some (.int .u64 ((hi 1 : Nat) : Int))) ∧ (w'.cell? ⟨w16.heap.size, 0, none⟩ = some (.int .i64 (n : Int)) ∧ w'.cell? ⟨w16.heap.size, 1, none⟩ = some (.int .u64 ((lo m2 : Nat) : Int)) ∧ w'.cell? ⟨w16.heap.size, 2, none⟩ = some (.int .u64 ((hi m2 : Nat) : Int))) ∧ (w'.cell? ⟨w4.heap.size, 0, none⟩ = some (.int .i64 (n : Int)) ∧ w'.cell? ⟨w4.heap.size, 1, none⟩ = some (.int .u64 ((lo x : Nat) : Int)) ∧ w'.cell? ⟨w4.heap.size, 2, none⟩ = some (.int .u64 ((hi x : Nat) : Int)))) (w23.alloc (.cells (vcs 1 1) 29)).drew := ⟨Oe.drew.t5.1, Re.drew.keep3, Me.drew.keep3, Xe.drew.keep3⟩
  refine wpAnyH_take (i := 0) (v := .pointer (some ⟨wd.heap.size, 0, none⟩)) rfl (by kernel_rfl) (by kernel_rfl) (by kernel_rfl) (fun _ _ _ h => h) (Or.inl ⟨by kernel_rfl, ?_⟩) hS0 ?_
  · intro w' hw'
    obtain ⟨k0, ⟨k1, k2, k3⟩, ⟨k4, k5, k6⟩, k7, k8, k9⟩ := hw'
    go_simp
    try with_reducible rfl
  try simp only [Act.put, List.getElem_toArray, List.getElem_cons_zero, List.getElem_cons_succ, List.setIfInBounds_toArray, List.set_cons_zero, List.set_cons_succ]
  refine wpAnyH_take (i := 1) (v := .int .i64 5) rfl (by kernel_rfl) (by kernel_rfl) (by kernel_rfl) (fun _ _ _ h => h) (Or.inl ⟨by kernel_rfl, ?_⟩) hS0 ?_
  · intro w' hw'
    obtain ⟨k0, ⟨k1, k2, k3⟩, ⟨k4, k5, k6⟩, k7, k8, k9⟩ := hw'
    go_simp
    try with_reducible rfl
  try simp only [Act.put, List.getElem_toArray, List.getElem_cons_zero, List.getElem_cons_succ, List.setIfInBounds_toArray, List.set_cons_zero, List.set_cons_succ]
  refine wpAnyH_take (i := 2) (v := .bool true) rfl (by kernel_rfl) (by kernel_rfl) (by kernel_rfl) (fun _ _ _ h => h) (Or.inl ⟨by kernel_rfl, ?_⟩) hS0 ?_
  · intro w' hw'
    obtain ⟨k0, ⟨k1, k2, k3⟩, ⟨k4, k5, k6⟩, k7, k8, k9⟩ := hw'
    go_simp
    try with_reducible rfl
  try simp only [Act.put, List.getElem_toArray, List.getElem_cons_zero, List.getElem_cons_succ, List.setIfInBounds_toArray, List.set_cons_zero, List.set_cons_succ]
  refine wpAnyH_take (i := 3) (v := .bool true) rfl (by kernel_rfl) (by kernel_rfl) (by kernel_rfl) (fun _ _ _ h => h) (Or.inl ⟨by kernel_rfl, ?_⟩) hS0 ?_
  · intro w' hw'
    obtain ⟨k0, ⟨k1, k2, k3⟩, ⟨k4, k5, k6⟩, k7, k8, k9⟩ := hw'
    go_simp
    try with_reducible rfl
  try simp only [Act.put, List.getElem_toArray, List.getElem_cons_zero, List.getElem_cons_succ, List.setIfInBounds_toArray, List.set_cons_zero, List.set_cons_succ]
  refine wpAnyH_take (i := 4) (v := .agg #[.int .i64 1, .int .u64 ((lo 1 : Nat) : Int), .int .u64 ((hi 1 : Nat) : Int)]) rfl (by kernel_rfl) (by kernel_rfl) (by kernel_rfl) (fun _ _ _ h => h) (Or.inl ⟨by kernel_rfl, ?_⟩) hS0 ?_
  · intro w' hw'
    obtain ⟨k0, ⟨k1, k2, k3⟩, ⟨k4, k5, k6⟩, k7, k8, k9⟩ := hw'
    go_simp
    try with_reducible rfl
  try simp only [Act.put, List.getElem_toArray, List.getElem_cons_zero, List.getElem_cons_succ, List.setIfInBounds_toArray, List.set_cons_zero, List.set_cons_succ]
  refine wpAnyH_all (rs := [5]) (by kernel_rfl) (by decide) ?_
  intro i hi
  obtain rfl := List.mem_singleton.1 hi
  clear hi
  refine wpOp_step rfl (fun K hK => ?_)
  replace hK := Lib.hid hK
  go_simp
  refine (ub.out _).mono ?_
  rintro e w24 ⟨rfl, hb24⟩
  have Xr24 := Xe.drew.over hb24
  have Mr24 := Me.drew.over hb24
  have Or24 := Oe.drew.over hb24
  have Rr24 := Re.drew.over hb24
  have hbw24 : Below w.heap.size w w24 := below_call hb24 hbr.drew
  clear hS0
  have hS0 : (fun w' : World => w'.cell? ⟨wd.heap.size, 0, none⟩ = some (.int .i64 5) ∧ (w'.cell? ⟨w23.heap.size, 0, none⟩ = some (.int .i64 1) ∧ w'.cell? ⟨w23.heap.size, 1, none⟩ = some (.int .u64 ((lo 1 : Nat) : Int)) ∧ w'.cell? ⟨w23.heap.size, 2, none⟩ = some (.int .u64 ((hi 1 : Nat) : Int))) ∧ (w'.cell? ⟨w16.heap.size, 0, none⟩ = some (.int .i64 (n : Int)) ∧ w'.cell? ⟨w16.heap.size, 1, none⟩ = some (.int .u64 ((lo m2 : Nat) : Int)) ∧ w'.cell? ⟨w16.heap.size, 2, none⟩ = some (.int .u64 ((hi m2 : Nat) : Int))) ∧ (w'.cell? ⟨w4.heap.size, 0, none⟩ = some (.int .i64 (n : Int)) ∧ w'.cell? ⟨w4.heap.size, 1, none⟩ = some (.int .u64 ((lo x : Nat) : Int)) ∧ w'.cell? ⟨w4.heap.size, 2, none⟩ = some (.int .u64 ((hi x : Nat) : Int)))) w24 := ⟨Or24.t5.1, Rr24.keep3, Mr24.keep3, Xr24.keep3⟩
  clear hb24
  refine hK.out _ _ ⟨hS0, ?_⟩
  clear hK K
  try simp only [Act.put, List.getElem_toArray, List.getElem_cons_zero, List.getElem_cons_succ, List.setIfInBounds_toArray, List.set_cons_zero, List.set_cons_succ]
  refine wpAnyH_take (i := 6) (v := .bool false) rfl (by kernel_rfl) (by kernel_rfl) (by kernel_rfl) (fun _ _ _ h => h) (Or.inl ⟨by kernel_rfl, ?_⟩) hS0 ?_
  · intro w' hw'
    obtain ⟨k0, ⟨k1, k2, k3⟩, ⟨k4, k5, k6⟩, k7, k8, k9⟩ := hw'
    go_simp
    try with_reducible rfl
  try simp only [Act.put, List.getElem_toArray, List.getElem_cons_zero, List.getElem_cons_succ, List.setIfInBounds_toArray, List.set_cons_zero, List.set_cons_succ]
  refine wpAnyH_take (i := 7) (v := .bool false) rfl (by kernel_rfl) (by kernel_rfl) (by kernel_rfl) (fun _ _ _ h => h) (Or.inl ⟨by kernel_rfl, ?_⟩) hS0 ?_
  · intro w' hw'
    obtain ⟨k0, ⟨k1, k2, k3⟩, ⟨k4, k5, k6⟩, k7, k8, k9⟩ := hw'
    go_simp
    try with_reducible rfl
  try simp only [Act.put, List.getElem_toArray, List.getElem_cons_zero, List.getElem_cons_succ, List.setIfInBounds_toArray, List.set_cons_zero, List.set_cons_succ]
  refine wpAnyH_take (i := 8) (v := .bool false) rfl (by kernel_rfl) (by kernel_rfl) (by kernel_rfl) (fun _ _ _ h => h) (Or.inl ⟨by kernel_rfl, ?_⟩) hS0 ?_
  · intro w' hw'
    obtain ⟨k0, ⟨k1, k2, k3⟩, ⟨k4, k5, k6⟩, k7, k8, k9⟩ := hw'
    go_simp
    try with_reducible rfl
  try simp only [Act.put, List.getElem_toArray, List.getElem_cons_zero, List.getElem_cons_succ, List.setIfInBounds_toArray, List.set_cons_zero, List.set_cons_succ]
  refine wpAnyH_take (i := 9) (v := undef) rfl (by kernel_rfl) (by kernel_rfl) (by kernel_rfl) (fun _ _ _ h => h) (Or.inr ⟨by kernel_rfl, rfl⟩) hS0 ?_
  try simp only [Act.put, List.getElem_toArray, List.getElem_cons_zero, List.getElem_cons_succ, List.setIfInBounds_toArray, List.set_cons_zero, List.set_cons_succ]
  refine wpAnyH_take (i := 10) (v := undef) rfl (by kernel_rfl) (by kernel_rfl) (by kernel_rfl) (fun _ _ _ h => h) (Or.inr ⟨by kernel_rfl, rfl⟩) hS0 ?_
  try simp only [Act.put, List.getElem_toArray, List.getElem_cons_zero, List.getElem_cons_succ, List.setIfInBounds_toArray, List.set_cons_zero, List.set_cons_succ]
  refine wpAnyH_take (i := 11) (v := undef) rfl (by kernel_rfl) (by kernel_rfl) (by kernel_rfl) (fun _ _ _ h => h) (Or.inr ⟨by kernel_rfl, rfl⟩) hS0 ?_
  try simp only [Act.put, List.getElem_toArray, List.getElem_cons_zero, List.getElem_cons_succ, List.setIfInBounds_toArray, List.set_cons_zero, List.set_cons_succ]
  refine wpAnyH_take (i := 12) (v := undef) rfl (by kernel_rfl) (by kernel_rfl) (by kernel_rfl) (fun _ _ _ h => h) (Or.inr ⟨by kernel_rfl, rfl⟩) hS0 ?_
  try simp only [Act.put, List.getElem_toArray, List.getElem_cons_zero, List.getElem_cons_succ, List.setIfInBounds_toArray, List.set_cons_zero, List.set_cons_succ]
  refine wpAnyH_take (i := 13) (v := undef) rfl (by kernel_rfl) (by kernel_rfl) (by kernel_rfl) (fun _ _ _ h => h) (Or.inr ⟨by kernel_rfl, rfl⟩) hS0 ?_
  try simp only [Act.put, List.getElem_toArray, List.getElem_cons_zero, List.getElem_cons_succ, List.setIfInBounds_toArray, List.set_cons_zero, List.set_cons_succ]
  refine wpAnyH_take (i := 14) (v := undef) rfl (by kernel_rfl) (by kernel_rfl) (by kernel_rfl) (fun _ _ _ h => h) (Or.inr ⟨by kernel_rfl, rfl⟩) hS0 ?_
  try simp only [Act.put, List.getElem_toArray, List.getElem_cons_zero, List.getElem_cons_succ, List.setIfInBounds_toArray, List.set_cons_zero, List.set_cons_succ]
  refine wpAnyH_take (i := 15) (v := undef) rfl (by kernel_rfl) (by kernel_rfl) (by kernel_rfl) (fun _ _ _ h => h) (Or.inr ⟨by kernel_rfl, rfl⟩) hS0 ?_
  try simp only [Act.put, List.getElem_toArray, List.getElem_cons_zero, List.getElem_cons_succ, List.setIfInBounds_toArray, List.set_cons_zero, List.set_cons_succ]
  refine wpAnyH_take (i := 16) (v := undef) rfl (by kernel_rfl) (by kernel_rfl) (by kernel_rfl) (fun _ _ _ h => h) (Or.inr ⟨by kernel_rfl, rfl⟩) hS0 ?_
  try simp only [Act.put, List.getElem_toArray, List.getElem_cons_zero, List.getElem_cons_succ, List.setIfInBounds_toArray, List.set_cons_zero, List.set_cons_succ]
  refine wpAnyH_take (i := 17) (v := undef) rfl (by kernel_rfl) (by kernel_rfl) (by kernel_rfl) (fun _ _ _ h => h) (Or.inr ⟨by kernel_rfl, rfl⟩) hS0 ?_
  try simp only [Act.put, List.getElem_toArray, List.getElem_cons_zero, List.getElem_cons_succ, List.setIfInBounds_toArray, List.set_cons_zero, List.set_cons_succ]
  refine wpAnyH_take (i := 18) (v := undef) rfl (by kernel_rfl) (by kernel_rfl) (by kernel_rfl) (fun _ _ _ h => h) (Or.inr ⟨by kernel_rfl, rfl⟩) hS0 ?_
  try simp only [Act.put, List.getElem_toArray, List.getElem_cons_zero, List.getElem_cons_succ, List.setIfInBounds_toArray, List.set_cons_zero, List.set_cons_succ]
  refine wpAnyH_take (i := 19) (v := undef) rfl (by kernel_rfl) (by kernel_rfl) (by kernel_rfl) (fun _ _ _ h => h) (Or.inr ⟨by kernel_rfl, rfl⟩) hS0 ?_
  try simp only [Act.put, List.getElem_toArray, List.getElem_cons_zero, List.getElem_cons_succ, List.setIfInBounds_toArray, List.set_cons_zero, List.set_cons_succ]
  refine wpAnyH_take (i := 20) (v := .bool false) rfl (by kernel_rfl) (by kernel_rfl) (by kernel_rfl) (fun _ _ _ h => h) (Or.inl ⟨by kernel_rfl, ?_⟩) hS0 ?_
  · intro w' hw'
    obtain ⟨k0, ⟨k1, k2, k3⟩, ⟨k4, k5, k6⟩, k7, k8, k9⟩ := hw'
    go_simp
    try with_reducible rfl
  try simp only [Act.put, List.getElem_toArray, List.getElem_cons_zero, List.getElem_cons_succ, List.setIfInBounds_toArray, List.set_cons_zero, List.set_cons_succ]
  refine wpAnyH_done (by kernel_rfl) ?_ _
  clear hS0 Xe Me Oe Re hbr Xr24 Mr24 Or24 Rr24
  go_wp2_with fail
  rw [rounds_succ]
  go_wp2_with fail
  go_ret
  exact ⟨rfl, hbw24⟩
set_option maxRecDepth 100000 in
set_option maxHeartbeats 8000000 in
theorem Div_pos1 (n ca cb mb x y q1 q2 m1 m2 p1 p2 lb zb : Nat) (sb : Bool) (A B : Option Addr) (f g : Nat → Bool) (w : World) (h1 : 1 ≤ n) (hn : n ≤ 128)
    (hA : RB w A n f) (hB : RB w B mb g)
    (hx : ∀ w, RB w A n f → Calls Try.prog 25 #[.slice A n ca] w (RV w (vv n x)))
    (hy : ∀ w b, RB w (some ⟨b, 0, none⟩) n (fun j => decide (j < mb) && g j) → Calls Try.prog 25 #[.slice (some ⟨b, 0, none⟩) n n] w (RV w (vv n y)))
    (hZ : ∀ w, Calls Try.prog 28 #[.int .i64 5, vv n y] w (RV w (.tuple #[vv 1 0, .int .i64 0])))
    (hZb : ∀ w, Calls Try.prog 39 #[vv 1 0, .int .i64 0] w (RV w (.bool false)))
    (hE : ∀ v w, Calls Try.prog 24 #[vv n v, vv n v] w (RV w (.bool true)))
    (d3 : ∀ w, Calls Try.prog 26 #[.int .i64 3, vv n x, vv n y] w (RV w (.tuple #[vv n q1, .int .i64 0])))
    (d4 : ∀ w, Calls Try.prog 26 #[.int .i64 4, vv n x, vv n y] w (RV w (.tuple #[vv n m1, .int .i64 0])))
    (d5 : ∀ w, Calls Try.prog 26 #[.int .i64 5, vv n x, vv n y] w (RV w (.tuple #[vv n q2, .int .i64 0])))
    (d6 : ∀ w, Calls Try.prog 26 #[.int .i64 6, vv n x, vv n y] w (RV w (.tuple #[vv n m2, .int .i64 0])))
    (t1 : ∀ w, Calls Try.prog 26 #[.int .i64 2, vv n q1, vv n y] w (RV w (.tuple #[vv n p1, .int .i64 0])))
    (s1 : ∀ w, Calls Try.prog 26 #[.int .i64 0, vv n p1, vv n m1] w (RV w (.tuple #[vv n x, .int .i64 0])))
    (u1 : ∀ w, Calls Try.prog 26 #[.int .i64 15, vv n m1, vv n y] w (RV w (.tuple #[vv 1 1, .int .i64 0])))
    (z1 : ∀ w, Calls Try.prog 28 #[.int .i64 5, vv n m1] w (RV w (.tuple #[vv 1 zb, .int .i64 0])))
    (t2 : ∀ w, Calls Try.prog 26 #[.int .i64 2, vv n q2, vv n y] w (RV w (.tuple #[vv n p2, .int .i64 0])))
    (s2 : ∀ w, Calls Try.prog 26 #[.int .i64 0, vv n p2, vv n m2] w (RV w (.tuple #[vv n x, .int .i64 0])))
    (u2 : ∀ w, Calls Try.prog 26 #[.int .i64 15, vv n m2, vv n y] w (RV w (.tuple #[vv 1 lb, .int .i64 0])))
    (z2 : ∀ w, Calls Try.prog 28 #[.int .i64 5, vv n m2] w (RV w (.tuple #[vv 1 0, .int .i64 0])))
    (ub : ∀ w, Calls Try.prog 39 #[vv 1 1, .int .i64 0] w (RV w (.bool true)))
    (vb : ∀ w, Calls Try.prog 39 #[vv n m2, .int .i64 ((n : Int) - 1)] w (RV w (.bool sb)))
    (vx : ∀ w, Calls Try.prog 39 #[vv n x, .int .i64 ((n : Int) - 1)] w (RV w (.bool sb))) :
    Calls Try.prog 9 #[.slice A n ca, .slice B mb cb] w (RV w (.bool true)) := by
  have hS := Lib.hid (fun w => short_le n ca A w (by omega))
  have hFB := Lib.hid (fun w (h : RB w B mb g) => fit_ok n mb cb B g w hn h)
  replace hx := Lib.hid hx
  replace hy := Lib.hid hy
  replace hA := Lib.hid hA
  replace hB := Lib.hid hB
  replace hZ := Lib.hid hZ
  replace hZb := Lib.hid hZb
  replace hE := Lib.hid hE
  replace d3 := Lib.hid d3
  replace d4 := Lib.hid d4
  replace d5 := Lib.hid d5
  replace d6 := Lib.hid d6
  replace t1 := Lib.hid t1
  replace s1 := Lib.hid s1
  replace u1 := Lib.hid u1
  replace z1 := Lib.hid z1
  replace t2 := Lib.hid t2
  replace s2 := Lib.hid s2
  replace u2 := Lib.hid u2
  replace z2 := Lib.hid z2
  replace ub := Lib.hid ub
  replace vb := Lib.hid vb
  replace vx := Lib.hid vx
  have n0 : ((n : Int) == 0) = false := by simp; omega
  have n128 : ¬ (128 < n) := by omega
  have wn : IntKind.i64.wrap ((n : Int) - 1) = (n : Int) - 1 := IntWalk.i64_in _ (by omega)
  go_enter Try.func9, Try.ntmps9
  go_wp2_with fail
  (with_reducible refine (awake_t _).mono ?_)
  rintro e w1 ⟨rfl, hbw1⟩
  go_wp2_with fail
  (with_reducible refine (hS.out _).mono ?_)
  rintro e w0 ⟨rfl, rfl⟩
  go_wp2_with fail
  (with_reducible refine (hx.out _ (hA.out.keep hbw1)).mono ?_)
  rintro e w2 ⟨rfl, hb2⟩
  have hbw2 : Below w.heap.size w w2 := below_call hb2 hbw1
  clear hb2 hbw1
  go_wp2_with fail
  (with_reducible refine (hFB.out _ (hB.out.keep hbw2)).mono ?_)
  rintro e w3 ⟨b3, rfl, R3, hb3⟩
  have hbw3 : Below w.heap.size w w3 := below_call hb3 hbw2
  replace R3 := Lib.hid R3
  clear hb3 hbw2
  go_wp2_with fail
  (with_reducible refine (hy.out _ _ R3.out).mono ?_)
  rintro e w4 ⟨rfl, hb4⟩
  have hbw4 : Below w.heap.size w w4 := below_call hb4 hbw3
  have z4 := hbw4.size
  clear hb4 hbw3 R3

  have Y0 : HV 29 ((w4.alloc (.cells (vcs n x) 29)).alloc (.cells (vcs n y) 29)) (w4.heap.size + 1) n y := by
    have h := HV.new (w4.alloc (.cells (vcs n x) 29)) 29 n y
    rw [World.size_alloc] at h
    exact h
  have S0 : IV 69 (((w4.alloc (.cells (vcs n x) 29)).alloc (.cells (vcs n y) 29)).alloc (.cells #[.int .i64 3, .int .i64 4, .int .i64 5, .int .i64 6] 69)) (w4.heap.size + 1 + 1) 4 3 := by
    have h := IV.new4 ((w4.alloc (.cells (vcs n x) 29)).alloc (.cells (vcs n y) 29)) 69
    rw [World.size_alloc, World.size_alloc] at h
    exact h
  have O0 : IV 69 ((((w4.alloc (.cells (vcs n x) 29)).alloc (.cells (vcs n y) 29)).alloc (.cells #[.int .i64 3, .int .i64 4, .int .i64 5, .int .i64 6] 69)).alloc (.cells #[.int .i64 3, .int .i64 4] 69)) (w4.heap.size + 1 + 1 + 1) 2 3 := by
    have h := IV.new3 (((w4.alloc (.cells (vcs n x) 29)).alloc (.cells (vcs n y) 29)).alloc (.cells #[.int .i64 3, .int .i64 4, .int .i64 5, .int .i64 6] 69)) 69
    rw [World.size_alloc, World.size_alloc, World.size_alloc] at h
    exact h
  go_wp2_with fail
  refine wp_loop_rounds 3 ?_
  rw [rounds_succ]
  go_wp2_with fail
  (with_reducible refine (d3.out _).mono ?_)
  rintro e w5 ⟨rfl, hb5⟩
  have hbw5 : Below w.heap.size w w5 := below_call hb5 (by go_grown)
  have z5 := hbw5.size
  have Xh' : HV 29 w5 (w4.heap.size) n x := ((((HV.new w4 29 n x).alloc _).alloc _).alloc _).over hb5
  have Yh' : HV 29 w5 (w4.heap.size + 1) n y := ((Y0.alloc _).alloc _).over hb5
  have Sh' : IV 69 w5 (w4.heap.size + 1 + 1) 4 3 := (S0.alloc _).over hb5
  have Oh' : IV 69 w5 (w4.heap.size + 1 + 1 + 1) 2 3 := O0.over hb5
  have Xh := Xh'
  clear Xh'
  have Xa := Xh.all
  have Xl := Xh.lt
  have Yh := Yh'
  clear Yh'
  have Ya := Yh.all
  have Yl := Yh.lt
  have Sh := Sh'
  clear Sh'
  have Sa := Sh.all
  have Sl := Sh.lt
  have Oh := Oh'
  clear Oh'
  have Oa := Oh.t3
  have Ol := Oh.lt
  clear hb5
  clear Y0 S0 O0
  go_wp2_with fail
  (with_reducible refine (d4.out _).mono ?_)
  rintro e w6 ⟨rfl, hb6⟩
  have hbw6 : Below w.heap.size w w6 := below_call hb6 (by go_grown)
  have z6 := hbw6.size
  have Xh' : HV 29 w6 (w4.heap.size) n x := (Xh.alloc _).over hb6
  have Yh' : HV 29 w6 (w4.heap.size + 1) n y := (Yh.alloc _).over hb6
  have Sh' : IV 69 w6 (w4.heap.size + 1 + 1) 4 3 := (Sh.alloc _).over hb6
  have Oh' : IV 69 w6 (w4.heap.size + 1 + 1 + 1) 2 3 := (Oh.alloc _).over hb6
  have Qh' : HV 29 w6 (w5.heap.size) n q1 := (HV.new w5 29 n q1).over hb6
  clear Xa Xl Xh
  clear Ya Yl Yh
  clear Sa Sl Sh
  clear Oa Ol Oh
  have Xh := Xh'
  clear Xh'
  have Xa := Xh.all
  have Xl := Xh.lt
  have Yh := Yh'
  clear Yh'
  have Ya := Yh.all
  have Yl := Yh.lt
  have Sh := Sh'
  clear Sh'
  have Sa := Sh.all
  have Sl := Sh.lt
  have Oh := Oh'
  clear Oh'
  have Oa := Oh.t3
  have Ol := Oh.lt
  have Qh := Qh'
  clear Qh'
  have Qa := Qh.all
  have Ql := Qh.lt
  clear hb6
  go_wp2_with fail
  (with_reducible refine (hZ.out _).mono ?_)
  rintro e w7 ⟨rfl, hb7⟩
  have hbw7 : Below w.heap.size w w7 := below_call hb7 (by go_grown)
  have z7 := hbw7.size
  have Xh' : HV 29 w7 (w4.heap.size) n x := (Xh.alloc _).over hb7
  have Yh' : HV 29 w7 (w4.heap.size + 1) n y := (Yh.alloc _).over hb7
  have Sh' : IV 69 w7 (w4.heap.size + 1 + 1) 4 3 := (Sh.alloc _).over hb7
  have Oh' : IV 69 w7 (w4.heap.size + 1 + 1 + 1) 2 3 := (Oh.alloc _).over hb7
  have Qh' : HV 29 w7 (w5.heap.size) n q1 := (Qh.alloc _).over hb7
  have Mh' : HV 29 w7 (w6.heap.size) n m1 := (HV.new w6 29 n m1).over hb7
  clear Xa Xl Xh
  clear Ya Yl Yh
  clear Sa Sl Sh
  clear Oa Ol Oh
  clear Qa Ql Qh
  have Xh := Xh'
  clear Xh'
  have Xa := Xh.all
  have Xl := Xh.lt
  have Yh := Yh'
  clear Yh'
  have Ya := Yh.all
  have Yl := Yh.lt
  have Sh := Sh'
  clear Sh'
  have Sa := Sh.all
  have Sl := Sh.lt
  have Oh := Oh'
  clear Oh'
  have Oa := Oh.t3
  have Ol := Oh.lt
  have Qh := Qh'
  clear Qh'
  have Qa := Qh.all
  have Ql := Qh.lt
  have Mh := Mh'
  clear Mh'
  have Ma := Mh.all
  have Ml := Mh.lt
  clear hb7
  go_wp2_with fail
  refine (hZb.out _).mono ?_
  rintro e w8 ⟨rfl, hb8⟩
  have hbw8 : Below w.heap.size w w8 := below_call hb8 (by go_grown)
  have z8 := hbw8.size
  have Xh' : HV 29 w8 (w4.heap.size) n x := (Xh.alloc _).over hb8
  have Yh' : HV 29 w8 (w4.heap.size + 1) n y := (Yh.alloc _).over hb8
  have Sh' : IV 69 w8 (w4.heap.size + 1 + 1) 4 3 := (Sh.alloc _).over hb8
  have Oh' : IV 69 w8 (w4.heap.size + 1 + 1 + 1) 2 3 := (Oh.alloc _).over hb8
  have Qh' : HV 29 w8 (w5.heap.size) n q1 := (Qh.alloc _).over hb8
  have Mh' : HV 29 w8 (w6.heap.size) n m1 := (Mh.alloc _).over hb8
  have Zh' : HV 29 w8 (w7.heap.size) 1 0 := (HV.new w7 29 1 0).over hb8
  clear Xa Xl Xh
  clear Ya Yl Yh
  clear Sa Sl Sh
  clear Oa Ol Oh
  clear Qa Ql Qh
  clear Ma Ml Mh
  have Xh := Xh'
  clear Xh'
  have Xa := Xh.all
  have Xl := Xh.lt
  have Yh := Yh'
  clear Yh'
  have Ya := Yh.all
  have Yl := Yh.lt
  have Sh := Sh'
  clear Sh'
  have Sa := Sh.all
  have Sl := Sh.lt
  have Oh := Oh'
  clear Oh'
  have Oa := Oh.t3
  have Ol := Oh.lt
  have Qh := Qh'
  clear Qh'
  have Qa := Qh.all
  have Ql := Qh.lt
  have Mh := Mh'
  clear Mh'
  have Ma := Mh.all
  have Ml := Mh.lt
  have Zh := Zh'
  clear Zh'
  have Za := Zh.all
  have Zl := Zh.lt
  clear hb8
  clear Za Zl Zh
  go_wp2_with fail
  (with_reducible refine (t1.out _).mono ?_)
  rintro e w9 ⟨rfl, hb9⟩
  have hbw9 : Below w.heap.size w w9 := below_call hb9 (by go_grown)
  have z9 := hbw9.size
  have Xh' : HV 29 w9 (w4.heap.size) n x := Xh.over hb9
  have Yh' : HV 29 w9 (w4.heap.size + 1) n y := Yh.over hb9
  have Sh' : IV 69 w9 (w4.heap.size + 1 + 1) 4 3 := Sh.over hb9
  have Oh' : IV 69 w9 (w4.heap.size + 1 + 1 + 1) 2 3 := Oh.over hb9
  have Qh' : HV 29 w9 (w5.heap.size) n q1 := Qh.over hb9
  have Mh' : HV 29 w9 (w6.heap.size) n m1 := Mh.over hb9
  clear Xa Xl Xh
  clear Ya Yl Yh
  clear Sa Sl Sh
  clear Oa Ol Oh
  clear Qa Ql Qh
  clear Ma Ml Mh
  have Xh := Xh'
  clear Xh'
  have Xa := Xh.all
  have Xl := Xh.lt
  have Yh := Yh'
  clear Yh'
  have Ya := Yh.all
  have Yl := Yh.lt
  have Sh := Sh'
  clear Sh'
  have Sa := Sh.all
  have Sl := Sh.lt
  have Oh := Oh'
  clear Oh'
  have Oa := Oh.t3
  have Ol := Oh.lt
  have Qh := Qh'
  clear Qh'
  have Qa := Qh.all
  have Ql := Qh.lt
  have Mh := Mh'
  clear Mh'
  have Ma := Mh.all
  have Ml := Mh.lt
  clear hb9
  clear Qa Ql Qh
  go_wp2_with fail
  (with_reducible refine (s1.out _).mono ?_)
  rintro e w10 ⟨rfl, hb10⟩
  have hbw10 : Below w.heap.size w w10 := below_call hb10 (by go_grown)
  have z10 := hbw10.size
  have Xh' : HV 29 w10 (w4.heap.size) n x := (Xh.alloc _).over hb10
  have Yh' : HV 29 w10 (w4.heap.size + 1) n y := (Yh.alloc _).over hb10
  have Sh' : IV 69 w10 (w4.heap.size + 1 + 1) 4 3 := (Sh.alloc _).over hb10
  have Oh' : IV 69 w10 (w4.heap.size + 1 + 1 + 1) 2 3 := (Oh.alloc _).over hb10
  have Mh' : HV 29 w10 (w6.heap.size) n m1 := (Mh.alloc _).over hb10
  have Ph' : HV 29 w10 (w9.heap.size) n p1 := (HV.new w9 29 n p1).over hb10
  clear Xa Xl Xh
  clear Ya Yl Yh
  clear Sa Sl Sh
  clear Oa Ol Oh
  clear Ma Ml Mh
  have Xh := Xh'
  clear Xh'
  have Xa := Xh.all
  have Xl := Xh.lt
  have Yh := Yh'
  clear Yh'
  have Ya := Yh.all
  have Yl := Yh.lt
  have Sh := Sh'
  clear Sh'
  have Sa := Sh.all
  have Sl := Sh.lt
  have Oh := Oh'
  clear Oh'
  have Oa := Oh.t3
  have Ol := Oh.lt
  have Mh := Mh'
  clear Mh'
  have Ma := Mh.all
  have Ml := Mh.lt
  have Ph := Ph'
  clear Ph'
  have Pa := Ph.all
  have Pl := Ph.lt
  clear hb10
  clear Pa Pl Ph
  go_wp2_with fail
  (with_reducible refine (hE.out _ _).mono ?_)
  rintro e w11 ⟨rfl, hb11⟩
  have hbw11 : Below w.heap.size w w11 := below_call hb11 (by go_grown)
  have z11 := hbw11.size
  have Xh' : HV 29 w11 (w4.heap.size) n x := (Xh.alloc _).over hb11
  have Yh' : HV 29 w11 (w4.heap.size + 1) n y := (Yh.alloc _).over hb11
  have Sh' : IV 69 w11 (w4.heap.size + 1 + 1) 4 3 := (Sh.alloc _).over hb11
  have Oh' : IV 69 w11 (w4.heap.size + 1 + 1 + 1) 2 3 := (Oh.alloc _).over hb11
  have Mh' : HV 29 w11 (w6.heap.size) n m1 := (Mh.alloc _).over hb11
  have Uh' : HV 29 w11 (w10.heap.size) n x := (HV.new w10 29 n x).over hb11
  clear Xa Xl Xh
  clear Ya Yl Yh
  clear Sa Sl Sh
  clear Oa Ol Oh
  clear Ma Ml Mh
  have Xh := Xh'
  clear Xh'
  have Xa := Xh.all
  have Xl := Xh.lt
  have Yh := Yh'
  clear Yh'
  have Ya := Yh.all
  have Yl := Yh.lt
  have Sh := Sh'
  clear Sh'
  have Sa := Sh.all
  have Sl := Sh.lt
  have Oh := Oh'
  clear Oh'
  have Oa := Oh.t3
  have Ol := Oh.lt
  have Mh := Mh'
  clear Mh'
  have Ma := Mh.all
  have Ml := Mh.lt
  have Uh := Uh'
  clear Uh'
  have Ua := Uh.all
  have Ul := Uh.lt
  clear hb11
  clear Ua Ul Uh
  go_wp2_with fail
  (with_reducible refine (u1.out _).mono ?_)
  rintro e w12 ⟨rfl, hb12⟩
  have hbw12 : Below w.heap.size w w12 := below_call hb12 (by go_grown)
  have z12 := hbw12.size
  have Xh' : HV 29 w12 (w4.heap.size) n x := Xh.over hb12
  have Yh' : HV 29 w12 (w4.heap.size + 1) n y := Yh.over hb12
  have Sh' : IV 69 w12 (w4.heap.size + 1 + 1) 4 3 := Sh.over hb12
  have Oh' : IV 69 w12 (w4.heap.size + 1 + 1 + 1) 2 3 := Oh.over hb12
  have Mh' : HV 29 w12 (w6.heap.size) n m1 := Mh.over hb12
  clear Xa Xl Xh
  clear Ya Yl Yh
  clear Sa Sl Sh
  clear Oa Ol Oh
  clear Ma Ml Mh
  have Xh := Xh'
  clear Xh'
  have Xa := Xh.all
  have Xl := Xh.lt
  have Yh := Yh'
  clear Yh'
  have Ya := Yh.all
  have Yl := Yh.lt
  have Sh := Sh'
  clear Sh'
  have Sa := Sh.all
  have Sl := Sh.lt
  have Oh := Oh'
  clear Oh'
  have Oa := Oh.t3
  have Ol := Oh.lt
  have Mh := Mh'
  clear Mh'
  have Ma := Mh.all
  have Ml := Mh.lt
  clear hb12
  go_wp2_with fail
  refine (ub.out _).mono ?_
  rintro e w13 ⟨rfl, hb13⟩
  have hbw13 : Below w.heap.size w w13 := below_call hb13 (by go_grown)
  have z13 := hbw13.size
  have Xh' : HV 29 w13 (w4.heap.size) n x := (Xh.alloc _).over hb13
  have Yh' : HV 29 w13 (w4.heap.size + 1) n y := (Yh.alloc _).over hb13
  have Sh' : IV 69 w13 (w4.heap.size + 1 + 1) 4 3 := (Sh.alloc _).over hb13
  have Oh' : IV 69 w13 (w4.heap.size + 1 + 1 + 1) 2 3 := (Oh.alloc _).over hb13
  have Mh' : HV 29 w13 (w6.heap.size) n m1 := (Mh.alloc _).over hb13
  have Lh' : HV 29 w13 (w12.heap.size) 1 1 := (HV.new w12 29 1 1).over hb13
  clear Xa Xl Xh
  clear Ya Yl Yh
  clear Sa Sl Sh
  clear Oa Ol Oh
  clear Ma Ml Mh
  have Xh := Xh'
  clear Xh'
  have Xa := Xh.all
  have Xl := Xh.lt
  have Yh := Yh'
  clear Yh'
  have Ya := Yh.all
  have Yl := Yh.lt
  have Sh := Sh'
  clear Sh'
  have Sa := Sh.all
  have Sl := Sh.lt
  have Oh := Oh'
  clear Oh'
  have Oa := Oh.t3
  have Ol := Oh.lt
  have Mh := Mh'
  clear Mh'
  have Ma := Mh.all
  have Ml := Mh.lt
  have Lh := Lh'
  clear Lh'
  have La := Lh.all
  have Ll := Lh.lt
  clear hb13
  clear La Ll Lh
  go_wp2_with fail
  (with_reducible refine (z1.out _).mono ?_)
  rintro e w14 ⟨rfl, hb14⟩
  have hbw14 : Below w.heap.size w w14 := below_call hb14 (by go_grown)
  have z14 := hbw14.size
  have Xh' : HV 29 w14 (w4.heap.size) n x := Xh.over hb14
  have Yh' : HV 29 w14 (w4.heap.size + 1) n y := Yh.over hb14
  have Sh' : IV 69 w14 (w4.heap.size + 1 + 1) 4 3 := Sh.over hb14
  have Oh' : IV 69 w14 (w4.heap.size + 1 + 1 + 1) 2 3 := Oh.over hb14
  have Mh' : HV 29 w14 (w6.heap.size) n m1 := Mh.over hb14
  clear Xa Xl Xh
  clear Ya Yl Yh
  clear Sa Sl Sh
  clear Oa Ol Oh
  clear Ma Ml Mh
  have Xh := Xh'
  clear Xh'
  have Xa := Xh.all
  have Xl := Xh.lt
  have Yh := Yh'
  clear Yh'
  have Ya := Yh.all
  have Yl := Yh.lt
  have Sh := Sh'
  clear Sh'
  have Sa := Sh.all
  have Sl := Sh.lt
  have Oh := Oh'
  clear Oh'
  have Oa := Oh.t3
  have Ol := Oh.lt
  have Mh := Mh'
  clear Mh'
  have Ma := Mh.all
  have Ml := Mh.lt
  clear hb14
  clear Ma Ml Mh
  go_wp2_with fail
  have hbq : Below w.heap.size w (w14.alloc (.cells (vcs 1 zb) 29)) := by go_grown
  go_quiet (fail)
  have hbn := below_drewN hbq nq
  have Xd := ((Xh.alloc (.cells (vcs 1 zb) 29))).drewN nq
  have Yd := ((Yh.alloc (.cells (vcs 1 zb) 29))).drewN nq
  have Sd := ((Sh.alloc (.cells (vcs 1 zb) 29))).drewN nq
  have Od := ((Oh.alloc (.cells (vcs 1 zb) 29))).drewN nq
  have zd := hbn.size
  generalize (w14.alloc (.cells (vcs 1 zb) 29)).drewN nq = wd at *
  clear Xa Xl Xh
  have Xh := Xd
  clear Xd
  have Xa := Xh.all
  have Xl := Xh.lt
  clear Ya Yl Yh
  have Yh := Yd
  clear Yd
  have Ya := Yh.all
  have Yl := Yh.lt
  clear Sa Sl Sh
  have Sh := Sd
  clear Sd
  have Sa := Sh.all
  have Sl := Sh.lt
  clear Oa Ol Oh
  have Oh := Od
  clear Od
  have Oa := Oh.t3
  have Ol := Oh.lt
  clear Oa Ol Oh
  go_wp2_with fail
  go_wp2_with fail
  rw [rounds_succ]
  go_wp2_with fail
  (with_reducible refine (d5.out _).mono ?_)
  rintro e w15 ⟨rfl, hb15⟩
  have hbw15 : Below w.heap.size w w15 := below_call hb15 (by go_grown)
  have z15 := hbw15.size
  have Xh' : HV 29 w15 (w4.heap.size) n x := (Xh.alloc _).over hb15
  have Yh' : HV 29 w15 (w4.heap.size + 1) n y := (Yh.alloc _).over hb15
  have Sh' : IV 69 w15 (w4.heap.size + 1 + 1) 4 3 := (Sh.alloc _).over hb15
  have Oh' : IV 69 w15 (wd.heap.size) 2 5 := (IV.new5 wd 69).over hb15
  clear Xa Xl Xh
  clear Ya Yl Yh
  clear Sa Sl Sh
  have Xh := Xh'
  clear Xh'
  have Xa := Xh.all
  have Xl := Xh.lt
  have Yh := Yh'
  clear Yh'
  have Ya := Yh.all
  have Yl := Yh.lt
  have Sh := Sh'
  clear Sh'
  have Sa := Sh.all
  have Sl := Sh.lt
  have Oh := Oh'
  clear Oh'
  have Oa := Oh.t5
  have Ol := Oh.lt
  clear hb15
  go_wp2_with fail
  (with_reducible refine (d6.out _).mono ?_)
  rintro e w16 ⟨rfl, hb16⟩
  have hbw16 : Below w.heap.size w w16 := below_call hb16 (by go_grown)
  have z16 := hbw16.size
  have Xh' : HV 29 w16 (w4.heap.size) n x := (Xh.alloc _).over hb16
  have Yh' : HV 29 w16 (w4.heap.size + 1) n y := (Yh.alloc _).over hb16
  have Sh' : IV 69 w16 (w4.heap.size + 1 + 1) 4 3 := (Sh.alloc _).over hb16
  have Oh' : IV 69 w16 (wd.heap.size) 2 5 := (Oh.alloc _).over hb16
  have Qh' : HV 29 w16 (w15.heap.size) n q2 := (HV.new w15 29 n q2).over hb16
  clear Xa Xl Xh
  clear Ya Yl Yh
  clear Sa Sl Sh
  clear Oa Ol Oh
  have Xh := Xh'
  clear Xh'
  have Xa := Xh.all
  have Xl := Xh.lt
  have Yh := Yh'
  clear Yh'
  have Ya := Yh.all
  have Yl := Yh.lt
  have Sh := Sh'
  clear Sh'
  have Sa := Sh.all
  have Sl := Sh.lt
  have Oh := Oh'
  clear Oh'
  have Oa := Oh.t5
  have Ol := Oh.lt
  have Qh := Qh'
  clear Qh'
  have Qa := Qh.all
  have Ql := Qh.lt
  clear hb16
  go_wp2_with fail
  (with_reducible refine (hZ.out _).mono ?_)
  rintro e w17 ⟨rfl, hb17⟩
  have hbw17 : Below w.heap.size w w17 := below_call hb17 (by go_grown)
  have z17 := hbw17.size
  have Xh' : HV 29 w17 (w4.heap.size) n x := (Xh.alloc _).over hb17
  have Yh' : HV 29 w17 (w4.heap.size + 1) n y := (Yh.alloc _).over hb17
  have Sh' : IV 69 w17 (w4.heap.size + 1 + 1) 4 3 := (Sh.alloc _).over hb17
  have Oh' : IV 69 w17 (wd.heap.size) 2 5 := (Oh.alloc _).over hb17
  have Qh' : HV 29 w17 (w15.heap.size) n q2 := (Qh.alloc _).over hb17
  have Mh' : HV 29 w17 (w16.heap.size) n m2 := (HV.new w16 29 n m2).over hb17
  clear Xa Xl Xh
  clear Ya Yl Yh
  clear Sa Sl Sh
  clear Oa Ol Oh
  clear Qa Ql Qh
  have Xh := Xh'
  clear Xh'
  have Xa := Xh.all
  have Xl := Xh.lt
  have Yh := Yh'
  clear Yh'
  have Ya := Yh.all
  have Yl := Yh.lt
  have Sh := Sh'
  clear Sh'
  have Sa := Sh.all
  have Sl := Sh.lt
  have Oh := Oh'
  clear Oh'
  have Oa := Oh.t5
  have Ol := Oh.lt
  have Qh := Qh'
  clear Qh'
  have Qa := Qh.all
  have Ql := Qh.lt
  have Mh := Mh'
  clear Mh'
  have Ma := Mh.all
  have Ml := Mh.lt
  clear hb17
  go_wp2_with fail
  refine (hZb.out _).mono ?_
  rintro e w18 ⟨rfl, hb18⟩
  have hbw18 : Below w.heap.size w w18 := below_call hb18 (by go_grown)
  have z18 := hbw18.size
  have Xh' : HV 29 w18 (w4.heap.size) n x := (Xh.alloc _).over hb18
  have Yh' : HV 29 w18 (w4.heap.size + 1) n y := (Yh.alloc _).over hb18
  have Sh' : IV 69 w18 (w4.heap.size + 1 + 1) 4 3 := (Sh.alloc _).over hb18
  have Oh' : IV 69 w18 (wd.heap.size) 2 5 := (Oh.alloc _).over hb18
  have Qh' : HV 29 w18 (w15.heap.size) n q2 := (Qh.alloc _).over hb18
  have Mh' : HV 29 w18 (w16.heap.size) n m2 := (Mh.alloc _).over hb18
  have Zh' : HV 29 w18 (w17.heap.size) 1 0 := (HV.new w17 29 1 0).over hb18
  clear Xa Xl Xh
  clear Ya Yl Yh
  clear Sa Sl Sh
  clear Oa Ol Oh
  clear Qa Ql Qh
  clear Ma Ml Mh
  have Xh := Xh'
  clear Xh'
  have Xa := Xh.all
  have Xl := Xh.lt
  have Yh := Yh'
  clear Yh'
  have Ya := Yh.all
  have Yl := Yh.lt
  have Sh := Sh'
  clear Sh'
  have Sa := Sh.all
  have Sl := Sh.lt
  have Oh := Oh'
  clear Oh'
  have Oa := Oh.t5
  have Ol := Oh.lt
  have Qh := Qh'
  clear Qh'
  have Qa := Qh.all
  have Ql := Qh.lt
  have Mh := Mh'
  clear Mh'
  have Ma := Mh.all
  have Ml := Mh.lt
  have Zh := Zh'
  clear Zh'
  have Za := Zh.all
  have Zl := Zh.lt
  clear hb18
  clear Za Zl Zh
  go_wp2_with fail
  (with_reducible refine (t2.out _).mono ?_)
  rintro e w19 ⟨rfl, hb19⟩
  have hbw19 : Below w.heap.size w w19 := below_call hb19 (by go_grown)
  have z19 := hbw19.size
  have Xh' : HV 29 w19 (w4.heap.size) n x := Xh.over hb19
  have Yh' : HV 29 w19 (w4.heap.size + 1) n y := Yh.over hb19
  have Sh' : IV 69 w19 (w4.heap.size + 1 + 1) 4 3 := Sh.over hb19
  have Oh' : IV 69 w19 (wd.heap.size) 2 5 := Oh.over hb19
  have Qh' : HV 29 w19 (w15.heap.size) n q2 := Qh.over hb19
  have Mh' : HV 29 w19 (w16.heap.size) n m2 := Mh.over hb19
  clear Xa Xl Xh
  clear Ya Yl Yh
  clear Sa Sl Sh
  clear Oa Ol Oh
  clear Qa Ql Qh
  clear Ma Ml Mh
  have Xh := Xh'
  clear Xh'
  have Xa := Xh.all
  have Xl := Xh.lt
  have Yh := Yh'
  clear Yh'
  have Ya := Yh.all
  have Yl := Yh.lt
  have Sh := Sh'
  clear Sh'
  have Sa := Sh.all
  have Sl := Sh.lt
  have Oh := Oh'
  clear Oh'
  have Oa := Oh.t5
  have Ol := Oh.lt
  have Qh := Qh'
  clear Qh'
  have Qa := Qh.all
  have Ql := Qh.lt
  have Mh := Mh'
  clear Mh'
  have Ma := Mh.all
  have Ml := Mh.lt
  clear hb19
  clear Qa Ql Qh
  go_wp2_with fail
  (with_reducible refine (s2.out _).mono ?_)
  rintro e w20 ⟨rfl, hb20⟩
  have hbw20 : Below w.heap.size w w20 := below_call hb20 (by go_grown)
  have z20 := hbw20.size
  have Xh' : HV 29 w20 (w4.heap.size) n x := (Xh.alloc _).over hb20
  have Yh' : HV 29 w20 (w4.heap.size + 1) n y := (Yh.alloc _).over hb20
  have Sh' : IV 69 w20 (w4.heap.size + 1 + 1) 4 3 := (Sh.alloc _).over hb20
  have Oh' : IV 69 w20 (wd.heap.size) 2 5 := (Oh.alloc _).over hb20
  have Mh' : HV 29 w20 (w16.heap.size) n m2 := (Mh.alloc _).over hb20
  have Ph' : HV 29 w20 (w19.heap.size) n p2 := (HV.new w19 29 n p2).over hb20
  clear Xa Xl Xh
  clear Ya Yl Yh
  clear Sa Sl Sh
  clear Oa Ol Oh
  clear Ma Ml Mh
  have Xh := Xh'
  clear Xh'
  have Xa := Xh.all
  have Xl := Xh.lt
  have Yh := Yh'
  clear Yh'
  have Ya := Yh.all
  have Yl := Yh.lt
  have Sh := Sh'
  clear Sh'
  have Sa := Sh.all
  have Sl := Sh.lt
  have Oh := Oh'
  clear Oh'
  have Oa := Oh.t5
  have Ol := Oh.lt
  have Mh := Mh'
  clear Mh'
  have Ma := Mh.all
  have Ml := Mh.lt
  have Ph := Ph'
  clear Ph'
  have Pa := Ph.all
  have Pl := Ph.lt
  clear hb20
  clear Pa Pl Ph
  go_wp2_with fail
  (with_reducible refine (hE.out _ _).mono ?_)
  rintro e w21 ⟨rfl, hb21⟩
  have hbw21 : Below w.heap.size w w21 := below_call hb21 (by go_grown)
  have z21 := hbw21.size
  have Xh' : HV 29 w21 (w4.heap.size) n x := (Xh.alloc _).over hb21
  have Yh' : HV 29 w21 (w4.heap.size + 1) n y := (Yh.alloc _).over hb21
  have Sh' : IV 69 w21 (w4.heap.size + 1 + 1) 4 3 := (Sh.alloc _).over hb21
  have Oh' : IV 69 w21 (wd.heap.size) 2 5 := (Oh.alloc _).over hb21
  have Mh' : HV 29 w21 (w16.heap.size) n m2 := (Mh.alloc _).over hb21
  have Uh' : HV 29 w21 (w20.heap.size) n x := (HV.new w20 29 n x).over hb21
  clear Xa Xl Xh
  clear Ya Yl Yh
  clear Sa Sl Sh
  clear Oa Ol Oh
  clear Ma Ml Mh
  have Xh := Xh'
  clear Xh'
  have Xa := Xh.all
  have Xl := Xh.lt
  have Yh := Yh'
  clear Yh'
  have Ya := Yh.all
  have Yl := Yh.lt
  have Sh := Sh'
  clear Sh'
  have Sa := Sh.all
  have Sl := Sh.lt
  have Oh := Oh'
  clear Oh'
  have Oa := Oh.t5
  have Ol := Oh.lt
  have Mh := Mh'
  clear Mh'
  have Ma := Mh.all
  have Ml := Mh.lt
  have Uh := Uh'
  clear Uh'
  have Ua := Uh.all
  have Ul := Uh.lt
  clear hb21
  clear Ua Ul Uh
  go_wp2_with fail
  (with_reducible refine (u2.out _).mono ?_)
  rintro e w22 ⟨rfl, hb22⟩
  have hbw22 : Below w.heap.size w w22 := below_call hb22 (by go_grown)
  have z22 := hbw22.size
  have Xh' : HV 29 w22 (w4.heap.size) n x := Xh.over hb22
  have Yh' : HV 29 w22 (w4.heap.size + 1) n y := Yh.over hb22
  have Sh' : IV 69 w22 (w4.heap.size + 1 + 1) 4 3 := Sh.over hb22
  have Oh' : IV 69 w22 (wd.heap.size) 2 5 := Oh.over hb22
  have Mh' : HV 29 w22 (w16.heap.size) n m2 := Mh.over hb22
  clear Xa Xl Xh
  clear Ya Yl Yh
  clear Sa Sl Sh
  clear Oa Ol Oh
  clear Ma Ml Mh
  have Xh := Xh'
  clear Xh'
  have Xa := Xh.all
  have Xl := Xh.lt
  have Yh := Yh'
  clear Yh'
  have Ya := Yh.all
  have Yl := Yh.lt
  have Sh := Sh'
  clear Sh'
  have Sa := Sh.all
  have Sl := Sh.lt
  have Oh := Oh'
  clear Oh'
  have Oa := Oh.t5
  have Ol := Oh.lt
  have Mh := Mh'
  clear Mh'
  have Ma := Mh.all
  have Ml := Mh.lt
  clear hb22
  go_wp2_with fail
  (with_reducible refine (z2.out _).mono ?_)
  rintro e w23 ⟨rfl, hb23⟩
  have hbw23 : Below w.heap.size w w23 := below_call hb23 (by go_grown)
  have z23 := hbw23.size
  have Xh' : HV 29 w23 (w4.heap.size) n x := (Xh.alloc _).over hb23
  have Yh' : HV 29 w23 (w4.heap.size + 1) n y := (Yh.alloc _).over hb23
  have Sh' : IV 69 w23 (w4.heap.size + 1 + 1) 4 3 := (Sh.alloc _).over hb23
  have Oh' : IV 69 w23 (wd.heap.size) 2 5 := (Oh.alloc _).over hb23
  have Mh' : HV 29 w23 (w16.heap.size) n m2 := (Mh.alloc _).over hb23
  clear Xa Xl Xh
  clear Ya Yl Yh
  clear Sa Sl Sh
  clear Oa Ol Oh
  clear Ma Ml Mh
  have Xh := Xh'
  clear Xh'
  have Xa := Xh.all
  have Xl := Xh.lt
  have Yh := Yh'
  clear Yh'
  have Ya := Yh.all
  have Yl := Yh.lt
  have Sh := Sh'
  clear Sh'
  have Sa := Sh.all
  have Sl := Sh.lt
  have Oh := Oh'
  clear Oh'
  have Oa := Oh.t5
  have Ol := Oh.lt
  have Mh := Mh'
  clear Mh'
  have Ma := Mh.all
  have Ml := Mh.lt
  clear hb23
  clear Ya Yl Yh
  clear Sa Sl Sh
  go_wp2_with fail
  have Xe := (Xh.alloc (.cells (vcs 1 0) 29))
  have Me := (Mh.alloc (.cells (vcs 1 0) 29))
  have Oe := (Oh.alloc (.cells (vcs 1 0) 29))
  have Re := HV.new w23 29 1 0
  have hbr : Below w.heap.size w (w23.alloc (.cells (vcs 1 0) 29)) := by go_grown
  clear Xa Xl Xh
  clear Ma Ml Mh
  clear Oa Ol Oh
  refine wp_region_held (S := fun w' => w'.cell? ⟨wd.heap.size, 0, none⟩ = some (.int .i64 5) ∧ (w'.cell? ⟨w23.heap.size, 0, none⟩ = some (.int .i64 1) ∧ w'.cell? ⟨w23.heap.size, 1, none⟩ = some (.int .u64 ((lo 0 : Nat) : Int)) ∧ w'.cell? ⟨w23.heap.size, 2, none⟩ = some (.int .u64 ((hi 0 : Nat) : Int))) ∧ (w'.cell? ⟨w16.heap.size, 0, none⟩ = some (.int .i64 (n : Int)) ∧ w'.cell? ⟨w16.heap.size, 1, none⟩ = some (.int .u64 ((lo m2 : Nat) : Int)) ∧ w'.cell? ⟨w16.heap.size, 2, none⟩ = some (.int .u64 ((hi m2 : Nat) : Int))) ∧ (w'.cell? ⟨w4.heap.size, 0, none⟩ = some (.int .i64 (n : Int)) ∧ w'.cell? ⟨w4.heap.size, 1, none⟩ = some (.int .u64 ((lo x : Nat) : Int)) ∧ w'.cell? ⟨w4.heap.size, 2, none⟩ = some (.int .u64 ((hi x : Nat) : Int)))) (by kernel_rfl) ?_
  have hS0 : (fun w' : World => w'.cell? ⟨wd.heap.size, 0, none⟩ = some (.int .i64 5) ∧ (w'.cell? ⟨w23.heap.size, 0, none⟩ = some (.int .i64 1) ∧ w'.cell? ⟨w23.heap.size, 1, none⟩ = some (.int .u64 ((lo 0 : Nat) : Int)) ∧ w'.cell? ⟨w23.heap.size, 2, none⟩ = some (.int .u64 ((hi 0 : Nat) : Int))) ∧ (w'.cell? ⟨w16.heap.size, 0, none⟩ = some (.int .i64 (n : Int)) ∧ w'.cell? ⟨w16.heap.size, 1, none⟩ = some (.int .u64 ((lo m2 : Nat) : Int)) ∧ w'.cell? ⟨w16.heap.size, 2, none⟩ = some (.int .u64 ((hi m2 : Nat) : Int))) ∧ (w'.cell? ⟨w4.heap.size, 0, none⟩ = some (.int .i64 (n : Int)) ∧ w'.cell? ⟨w4.heap.size, 1, none⟩ = some (.int .u64 ((lo x : Nat) : Int)) ∧ w'.cell? ⟨w4.heap.size, 2, none⟩ = some (.int .u64 ((hi x : Nat) : Int)))) (w23.alloc (.cells (vcs 1 0) 29)).drew := ⟨Oe.drew.t5.1, Re.drew.keep3, Me.drew.keep3, Xe.drew.keep3⟩
  refine wpAnyH_take (i := 0) (v := .pointer (some ⟨wd.heap.size, 0, none⟩)) rfl (by kernel_rfl) (by kernel_rfl) (by kernel_rfl) (fun _ _ _ h => h) (Or.inl ⟨by kernel_rfl, ?_⟩) hS0 ?_
  · intro w' hw'
    obtain ⟨k0, ⟨k1, k2, k3⟩, ⟨k4, k5, k6⟩, k7, k8, k9⟩ := hw'
    go_simp
    try with_reducible rfl
  try simp only [Act.put, List.getElem_toArray, List.getElem_cons_zero, List.getElem_cons_succ, List.setIfInBounds_toArray, List.set_cons_zero, List.set_cons_succ]
  refine wpAnyH_take (i := 1) (v := .int .i64 5) rfl (by kernel_rfl) (by kernel_rfl) (by kernel_rfl) (fun _ _ _ h => h) (Or.inl ⟨by kernel_rfl, ?_⟩) hS0 ?_
  · intro w' hw'
    obtain ⟨k0, ⟨k1, k2, k3⟩, ⟨k4, k5, k6⟩, k7, k8, k9⟩ := hw'
    go_simp
    try with_reducible rfl
  try simp only [Act.put, List.getElem_toArray, List.getElem_cons_zero, List.getElem_cons_succ, List.setIfInBounds_toArray, List.set_cons_zero, List.set_cons_succ]
  refine wpAnyH_take (i := 2) (v := .bool true) rfl (by kernel_rfl) (by kernel_rfl) (by kernel_rfl) (fun _ _ _ h => h) (Or.inl ⟨by kernel_rfl, ?_⟩) hS0 ?_
  · intro w' hw'
    obtain ⟨k0, ⟨k1, k2, k3⟩, ⟨k4, k5, k6⟩, k7, k8, k9⟩ := hw'
    go_simp
    try with_reducible rfl
  try simp only [Act.put, List.getElem_toArray, List.getElem_cons_zero, List.getElem_cons_succ, List.setIfInBounds_toArray, List.set_cons_zero, List.set_cons_succ]
  refine wpAnyH_take (i := 3) (v := .bool true) rfl (by kernel_rfl) (by kernel_rfl) (by kernel_rfl) (fun _ _ _ h => h) (Or.inl ⟨by kernel_rfl, ?_⟩) hS0 ?_
  · intro w' hw'
    obtain ⟨k0, ⟨k1, k2, k3⟩, ⟨k4, k5, k6⟩, k7, k8, k9⟩ := hw'
    go_simp
    try with_reducible rfl
  try simp only [Act.put, List.getElem_toArray, List.getElem_cons_zero, List.getElem_cons_succ, List.setIfInBounds_toArray, List.set_cons_zero, List.set_cons_succ]
  refine wpAnyH_take (i := 4) (v := .agg #[.int .i64 1, .int .u64 ((lo 0 : Nat) : Int), .int .u64 ((hi 0 : Nat) : Int)]) rfl (by kernel_rfl) (by kernel_rfl) (by kernel_rfl) (fun _ _ _ h => h) (Or.inl ⟨by kernel_rfl, ?_⟩) hS0 ?_
  · intro w' hw'
    obtain ⟨k0, ⟨k1, k2, k3⟩, ⟨k4, k5, k6⟩, k7, k8, k9⟩ := hw'
    go_simp
    try with_reducible rfl
  try simp only [Act.put, List.getElem_toArray, List.getElem_cons_zero, List.getElem_cons_succ, List.setIfInBounds_toArray, List.set_cons_zero, List.set_cons_succ]
  refine wpAnyH_all (rs := [5]) (by kernel_rfl) (by decide) ?_
  intro i hi
  obtain rfl := List.mem_singleton.1 hi
  clear hi
  refine wpOp_step rfl (fun K hK => ?_)
  replace hK := Lib.hid hK
  go_simp
  refine (hZb.out _).mono ?_
  rintro e w24 ⟨rfl, hb24⟩
  have Xr24 := Xe.drew.over hb24
  have Mr24 := Me.drew.over hb24
  have Or24 := Oe.drew.over hb24
  have Rr24 := Re.drew.over hb24
  have hbw24 : Below w.heap.size w w24 := below_call hb24 hbr.drew
  clear hS0
  have hS0 : (fun w' : World => w'.cell? ⟨wd.heap.size, 0, none⟩ = some (.int .i64 5) ∧ (w'.cell? ⟨w23.heap.size, 0, none⟩ = some (.int .i64 1) ∧ w'.cell? ⟨w23.heap.size, 1, none⟩ = some (.int .u64 ((lo 0 : Nat) : Int)) ∧ w'.cell? ⟨w23.heap.size, 2, none⟩ = some (.int .u64 ((hi 0 : Nat) : Int))) ∧ (w'.cell? ⟨w16.heap.size, 0, none⟩ = some (.int .i64 (n : Int)) ∧ w'.cell? ⟨w16.heap.size, 1, none⟩ = some (.int .u64 ((lo m2 : Nat) : Int)) ∧ w'.cell? ⟨w16.heap.size, 2, none⟩ = some (.int .u64 ((hi m2 : Nat) : Int))) ∧ (w'.cell? ⟨w4.heap.size, 0, none⟩ = some (.int .i64 (n : Int)) ∧ w'.cell? ⟨w4.heap.size, 1, none⟩ = some (.int .u64 ((lo x : Nat) : Int)) ∧ w'.cell? ⟨w4.heap.size, 2, none⟩ = some (.int .u64 ((hi x : Nat) : Int)))) w24 := ⟨Or24.t5.1, Rr24.keep3, Mr24.keep3, Xr24.keep3⟩
  clear hb24
  refine hK.out _ _ ⟨hS0, ?_⟩
  clear hK K
  try simp only [Act.put, List.getElem_toArray, List.getElem_cons_zero, List.getElem_cons_succ, List.setIfInBounds_toArray, List.set_cons_zero, List.set_cons_succ]
  refine wpAnyH_take (i := 6) (v := .bool true) rfl (by kernel_rfl) (by kernel_rfl) (by kernel_rfl) (fun _ _ _ h => h) (Or.inl ⟨by kernel_rfl, ?_⟩) hS0 ?_
  · intro w' hw'
    obtain ⟨k0, ⟨k1, k2, k3⟩, ⟨k4, k5, k6⟩, k7, k8, k9⟩ := hw'
    go_simp
    try with_reducible rfl
  try simp only [Act.put, List.getElem_toArray, List.getElem_cons_zero, List.getElem_cons_succ, List.setIfInBounds_toArray, List.set_cons_zero, List.set_cons_succ]
  refine wpAnyH_take (i := 7) (v := .bool true) rfl (by kernel_rfl) (by kernel_rfl) (by kernel_rfl) (fun _ _ _ h => h) (Or.inl ⟨by kernel_rfl, ?_⟩) hS0 ?_
  · intro w' hw'
    obtain ⟨k0, ⟨k1, k2, k3⟩, ⟨k4, k5, k6⟩, k7, k8, k9⟩ := hw'
    go_simp
    try with_reducible rfl
  try simp only [Act.put, List.getElem_toArray, List.getElem_cons_zero, List.getElem_cons_succ, List.setIfInBounds_toArray, List.set_cons_zero, List.set_cons_succ]
  refine wpAnyH_take (i := 8) (v := .bool true) rfl (by kernel_rfl) (by kernel_rfl) (by kernel_rfl) (fun _ _ _ h => h) (Or.inl ⟨by kernel_rfl, ?_⟩) hS0 ?_
  · intro w' hw'
    obtain ⟨k0, ⟨k1, k2, k3⟩, ⟨k4, k5, k6⟩, k7, k8, k9⟩ := hw'
    go_simp
    try with_reducible rfl
  try simp only [Act.put, List.getElem_toArray, List.getElem_cons_zero, List.getElem_cons_succ, List.setIfInBounds_toArray, List.set_cons_zero, List.set_cons_succ]
  refine wpAnyH_take (i := 9) (v := vv n m2) rfl (by kernel_rfl) (by kernel_rfl) (by kernel_rfl) (fun _ _ _ h => h) (Or.inl ⟨by kernel_rfl, ?_⟩) hS0 ?_
  · intro w' hw'
    obtain ⟨k0, ⟨k1, k2, k3⟩, ⟨k4, k5, k6⟩, k7, k8, k9⟩ := hw'
    go_simp
    try with_reducible rfl
  try simp only [Act.put, List.getElem_toArray, List.getElem_cons_zero, List.getElem_cons_succ, List.setIfInBounds_toArray, List.set_cons_zero, List.set_cons_succ]
  refine wpAnyH_take (i := 10) (v := .slice A n ca) rfl (by kernel_rfl) (by kernel_rfl) (by kernel_rfl) (fun _ _ _ h => h) (Or.inl ⟨by kernel_rfl, ?_⟩) hS0 ?_
  · intro w' hw'
    obtain ⟨k0, ⟨k1, k2, k3⟩, ⟨k4, k5, k6⟩, k7, k8, k9⟩ := hw'
    go_simp
    try with_reducible rfl
  try simp only [Act.put, List.getElem_toArray, List.getElem_cons_zero, List.getElem_cons_succ, List.setIfInBounds_toArray, List.set_cons_zero, List.set_cons_succ]
  refine wpAnyH_take (i := 11) (v := .int .i64 (n : Int)) rfl (by kernel_rfl) (by kernel_rfl) (by kernel_rfl) (fun _ _ _ h => h) (Or.inl ⟨by kernel_rfl, ?_⟩) hS0 ?_
  · intro w' hw'
    obtain ⟨k0, ⟨k1, k2, k3⟩, ⟨k4, k5, k6⟩, k7, k8, k9⟩ := hw'
    go_simp
    try with_reducible rfl
  try simp only [Act.put, List.getElem_toArray, List.getElem_cons_zero, List.getElem_cons_succ, List.setIfInBounds_toArray, List.set_cons_zero, List.set_cons_succ]
  refine wpAnyH_take (i := 12) (v := .int .i64 ((n : Int) - 1)) rfl (by kernel_rfl) (by kernel_rfl) (by kernel_rfl) (fun _ _ _ h => h) (Or.inl ⟨by kernel_rfl, ?_⟩) hS0 ?_
  · intro w' hw'
    obtain ⟨k0, ⟨k1, k2, k3⟩, ⟨k4, k5, k6⟩, k7, k8, k9⟩ := hw'
    go_simp
    try with_reducible rfl
  try simp only [Act.put, List.getElem_toArray, List.getElem_cons_zero, List.getElem_cons_succ, List.setIfInBounds_toArray, List.set_cons_zero, List.set_cons_succ]
  refine wpAnyH_take (i := 14) (v := vv n x) rfl (by kernel_rfl) (by kernel_rfl) (by kernel_rfl) (fun _ _ _ h => h) (Or.inl ⟨by kernel_rfl, ?_⟩) hS0 ?_
  · intro w' hw'
    obtain ⟨k0, ⟨k1, k2, k3⟩, ⟨k4, k5, k6⟩, k7, k8, k9⟩ := hw'
    go_simp
    try with_reducible rfl
  try simp only [Act.put, List.getElem_toArray, List.getElem_cons_zero, List.getElem_cons_succ, List.setIfInBounds_toArray, List.set_cons_zero, List.set_cons_succ]
  refine wpAnyH_take (i := 15) (v := .slice A n ca) rfl (by kernel_rfl) (by kernel_rfl) (by kernel_rfl) (fun _ _ _ h => h) (Or.inl ⟨by kernel_rfl, ?_⟩) hS0 ?_
  · intro w' hw'
    obtain ⟨k0, ⟨k1, k2, k3⟩, ⟨k4, k5, k6⟩, k7, k8, k9⟩ := hw'
    go_simp
    try with_reducible rfl
  try simp only [Act.put, List.getElem_toArray, List.getElem_cons_zero, List.getElem_cons_succ, List.setIfInBounds_toArray, List.set_cons_zero, List.set_cons_succ]
  refine wpAnyH_take (i := 16) (v := .int .i64 (n : Int)) rfl (by kernel_rfl) (by kernel_rfl) (by kernel_rfl) (fun _ _ _ h => h) (Or.inl ⟨by kernel_rfl, ?_⟩) hS0 ?_
  · intro w' hw'
    obtain ⟨k0, ⟨k1, k2, k3⟩, ⟨k4, k5, k6⟩, k7, k8, k9⟩ := hw'
    go_simp
    try with_reducible rfl
  try simp only [Act.put, List.getElem_toArray, List.getElem_cons_zero, List.getElem_cons_succ, List.setIfInBounds_toArray, List.set_cons_zero, List.set_cons_succ]
  refine wpAnyH_take (i := 17) (v := .int .i64 ((n : Int) - 1)) rfl (by kernel_rfl) (by kernel_rfl) (by kernel_rfl) (fun _ _ _ h => h) (Or.inl ⟨by kernel_rfl, ?_⟩) hS0 ?_
  · intro w' hw'
    obtain ⟨k0, ⟨k1, k2, k3⟩, ⟨k4, k5, k6⟩, k7, k8, k9⟩ := hw'
    go_simp
    try with_reducible rfl
  try simp only [Act.put, List.getElem_toArray, List.getElem_cons_zero, List.getElem_cons_succ, List.setIfInBounds_toArray, List.set_cons_zero, List.set_cons_succ]
  refine wpAnyH_all (rs := [13]) (by kernel_rfl) (by decide) ?_
  intro i hi
  obtain rfl := List.mem_singleton.1 hi
  clear hi
  refine wpOp_step rfl (fun K hK => ?_)
  replace hK := Lib.hid hK
  go_simp
  refine (vb.out _).mono ?_
  rintro e w25 ⟨rfl, hb25⟩
  have Xr25 := Xr24.over hb25
  have Mr25 := Mr24.over hb25
  have Or25 := Or24.over hb25
  have Rr25 := Rr24.over hb25
  have hbw25 : Below w.heap.size w w25 := below_call hb25 hbw24
  clear hS0
  have hS0 : (fun w' : World => w'.cell? ⟨wd.heap.size, 0, none⟩ = some (.int .i64 5) ∧ (w'.cell? ⟨w23.heap.size, 0, none⟩ = some (.int .i64 1) ∧ w'.cell? ⟨w23.heap.size, 1, none⟩ = some (.int .u64 ((lo 0 : Nat) : Int)) ∧ w'.cell? ⟨w23.heap.size, 2, none⟩ = some (.int .u64 ((hi 0 : Nat) : Int))) ∧ (w'.cell? ⟨w16.heap.size, 0, none⟩ = some (.int .i64 (n : Int)) ∧ w'.cell? ⟨w16.heap.size, 1, none⟩ = some (.int .u64 ((lo m2 : Nat) : Int)) ∧ w'.cell? ⟨w16.heap.size, 2, none⟩ = some (.int .u64 ((hi m2 : Nat) : Int))) ∧ (w'.cell? ⟨w4.heap.size, 0, none⟩ = some (.int .i64 (n : Int)) ∧ w'.cell? ⟨w4.heap.size, 1, none⟩ = some (.int .u64 ((lo x : Nat) : Int)) ∧ w'.cell? ⟨w4.heap.size, 2, none⟩ = some (.int .u64 ((hi x : Nat) : Int)))) w25 := ⟨Or25.t5.1, Rr25.keep3, Mr25.keep3, Xr25.keep3⟩
  clear hb25
  refine hK.out _ _ ⟨hS0, ?_⟩
  clear hK K
  try simp only [Act.put, List.getElem_toArray, List.getElem_cons_zero, List.getElem_cons_succ, List.setIfInBounds_toArray, List.set_cons_zero, List.set_cons_succ]
  refine wpAnyH_all (rs := [18]) (by kernel_rfl) (by decide) ?_
  intro i hi
  obtain rfl := List.mem_singleton.1 hi
  clear hi
  refine wpOp_step rfl (fun K hK => ?_)
  replace hK := Lib.hid hK
  go_simp
  refine (vx.out _).mono ?_
  rintro e w26 ⟨rfl, hb26⟩
  have Xr26 := Xr25.over hb26
  have Mr26 := Mr25.over hb26
  have Or26 := Or25.over hb26
  have Rr26 := Rr25.over hb26
  have hbw26 : Below w.heap.size w w26 := below_call hb26 hbw25
  clear hS0
  have hS0 : (fun w' : World => w'.cell? ⟨wd.heap.size, 0, none⟩ = some (.int .i64 5) ∧ (w'.cell? ⟨w23.heap.size, 0, none⟩ = some (.int .i64 1) ∧ w'.cell? ⟨w23.heap.size, 1, none⟩ = some (.int .u64 ((lo 0 : Nat) : Int)) ∧ w'.cell? ⟨w23.heap.size, 2, none⟩ = some (.int .u64 ((hi 0 : Nat) : Int))) ∧ (w'.cell? ⟨w16.heap.size, 0, none⟩ = some (.int .i64 (n : Int)) ∧ w'.cell? ⟨w16.heap.size, 1, none⟩ = some (.int .u64 ((lo m2 : Nat) : Int)) ∧ w'.cell? ⟨w16.heap.size, 2, none⟩ = some (.int .u64 ((hi m2 : Nat) : Int))) ∧ (w'.cell? ⟨w4.heap.size, 0, none⟩ = some (.int .i64 (n : Int)) ∧ w'.cell? ⟨w4.heap.size, 1, none⟩ = some (.int .u64 ((lo x : Nat) : Int)) ∧ w'.cell? ⟨w4.heap.size, 2, none⟩ = some (.int .u64 ((hi x : Nat) : Int)))) w26 := ⟨Or26.t5.1, Rr26.keep3, Mr26.keep3, Xr26.keep3⟩
  clear hb26
  refine hK.out _ _ ⟨hS0, ?_⟩
  clear hK K
  try simp only [Act.put, List.getElem_toArray, List.getElem_cons_zero, List.getElem_cons_succ, List.setIfInBounds_toArray, List.set_cons_zero, List.set_cons_succ]
  refine wpAnyH_take (i := 19) (v := .bool false) rfl (by kernel_rfl) (by kernel_rfl) (by kernel_rfl) (fun _ _ _ h => h) (Or.inl ⟨by kernel_rfl, ?_⟩) hS0 ?_
  · intro w' hw'
    obtain ⟨k0, ⟨k1, k2, k3⟩, ⟨k4, k5, k6⟩, k7, k8, k9⟩ := hw'
    go_simp
    try with_reducible rfl
  try simp only [Act.put, List.getElem_toArray, List.getElem_cons_zero, List.getElem_cons_succ, List.setIfInBounds_toArray, List.set_cons_zero, List.set_cons_succ]
  refine wpAnyH_take (i := 20) (v := .bool false) rfl (by kernel_rfl) (by kernel_rfl) (by kernel_rfl) (fun _ _ _ h => h) (Or.inl ⟨by kernel_rfl, ?_⟩) hS0 ?_
  · intro w' hw'
    obtain ⟨k0, ⟨k1, k2, k3⟩, ⟨k4, k5, k6⟩, k7, k8, k9⟩ := hw'
    go_simp
    try with_reducible rfl
  try simp only [Act.put, List.getElem_toArray, List.getElem_cons_zero, List.getElem_cons_succ, List.setIfInBounds_toArray, List.set_cons_zero, List.set_cons_succ]
  refine wpAnyH_done (by kernel_rfl) ?_ _
  clear hS0 Xe Me Oe Re hbr Xr24 Mr24 Or24 Rr24 Xr25 Mr25 Or25 Rr25 Xr26 Mr26 Or26 Rr26
  go_wp2_with fail
  rw [rounds_succ]
  go_wp2_with fail
  go_ret
  exact ⟨rfl, hbw26⟩
end Go.Proofs.Ytknbnpbmgbnlfaa
