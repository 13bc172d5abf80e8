/-
  The walk of the statement BvDivides.
-/
import Derived.Test.YtknbnpbmgbnlfaaWy
import Derived.Test.YtknbnpbmgbnlfaaWz
import Derived.Test.YtknbnpbmgbnlfaaWr
namespace Go.Proofs.Ytknbnpbmgbnlfaa
open Go.RowKit
/-- Block b is a row of k integers from c on. -/
def IV (t : TypeId) (w : World) (b k c : Nat) : Prop := w.rowIs b t k (fun i => .int .i64 ((c + i : Nat) : Int))
section
variable {t : TypeId} {w w' : World} {b k c : Nat}
theorem IV.over (h : IV t w b k c) (hb : Below w.heap.size w w') : IV t w' b k c := World.rowIs.of_block h (hb.block b (World.rowIs.lt h))
theorem IV.alloc (h : IV t w b k c) (o : Obj) : IV t (w.alloc o) b k c := World.rowIs.alloc h o
theorem IV.drew (h : IV t w b k c) : IV t w.drew b k c := h
theorem IV.drewN (h : IV t w b k c) (m : Nat) : IV t (w.drewN m) b k c := h
theorem IV.lt (h : IV t w b k c) : b < w.heap.size := World.rowIs.lt h
theorem IV.all (h : IV t w b 4 3) : w.cell? ⟨b, 0, none⟩ = some (.int .i64 3) ∧ w.cell? ⟨b, 1, none⟩ = some (.int .i64 4) ∧ w.cell? ⟨b, 2, none⟩ = some (.int .i64 5) ∧ w.cell? ⟨b, 3, none⟩ = some (.int .i64 6) :=
  ⟨World.rowIs.cell h (i := 0) (by decide), World.rowIs.cell h (i := 1) (by decide), World.rowIs.cell h (i := 2) (by decide), World.rowIs.cell h (i := 3) (by decide)⟩
theorem IV.t3 (h : IV t w b 2 3) : w.cell? ⟨b, 0, none⟩ = some (.int .i64 3) ∧ w.cell? ⟨b, 1, none⟩ = some (.int .i64 4) :=
  ⟨World.rowIs.cell h (i := 0) (by decide), World.rowIs.cell h (i := 1) (by decide)⟩
theorem IV.t5 (h : IV t w b 2 5) : w.cell? ⟨b, 0, none⟩ = some (.int .i64 5) ∧ w.cell? ⟨b, 1, none⟩ = some (.int .i64 6) :=
  ⟨World.rowIs.cell h (i := 0) (by decide), World.rowIs.cell h (i := 1) (by decide)⟩
theorem IV.new3 (w : World) (t : TypeId) : IV t (w.alloc (.cells #[.int .i64 3, .int .i64 4] t)) w.heap.size 2 3 := by
  refine ⟨_, heap_alloc_new w _, rfl, fun i hi => ?_⟩
  match i, hi with
  | 0, _ => rfl
  | 1, _ => rfl
theorem IV.new5 (w : World) (t : TypeId) : IV t (w.alloc (.cells #[.int .i64 5, .int .i64 6] t)) w.heap.size 2 5 := by
  refine ⟨_, heap_alloc_new w _, rfl, fun i hi => ?_⟩
  match i, hi with
  | 0, _ => rfl
  | 1, _ => rfl
theorem IV.two (h : IV t w b 2 c) : w.cell? ⟨b, 0, none⟩ = some (.int .i64 (c : Int)) ∧ w.cell? ⟨b, 1, none⟩ = some (.int .i64 ((c + 1 : Nat) : Int)) :=
  ⟨World.rowIs.cell h (i := 0) (by decide), World.rowIs.cell h (i := 1) (by decide)⟩
theorem IV.new4 (w : World) (t : TypeId) : IV t (w.alloc (.cells #[.int .i64 3, .int .i64 4, .int .i64 5, .int .i64 6] t)) w.heap.size 4 3 := by
  refine ⟨_, heap_alloc_new w _, rfl, fun i hi => ?_⟩
  match i, hi with
  | 0, _ => rfl
  | 1, _ => rfl
  | 2, _ => rfl
  | 3, _ => rfl
end

set_option maxRecDepth 100000 in
set_option maxHeartbeats 8000000 in
theorem Div_zero (n ca cb mb x y q1 q2 : Nat) (A B : Option Addr) (f g : Nat → Bool) (w : World) (h1 : 1 ≤ n) (hn : n ≤ 128)
    (hA : RB w A n f) (hB : RB w B mb g)
    (hx : ∀ w, RB w A n f → Calls Try.prog 25 #[.slice A n ca] w (RV w (vv n x)))
    (hy : ∀ w b, RB w (some ⟨b, 0, none⟩) n (fun j => decide (j < mb) && g j) → Calls Try.prog 25 #[.slice (some ⟨b, 0, none⟩) n n] w (RV w (vv n y)))
    (hZ : ∀ w, Calls Try.prog 28 #[.int .i64 5, vv n y] w (RV w (.tuple #[vv 1 1, .int .i64 0])))
    (hZb : ∀ w, Calls Try.prog 39 #[vv 1 1, .int .i64 0] w (RV w (.bool true)))
    (hE : ∀ v w, Calls Try.prog 24 #[vv n v, vv n v] w (RV w (.bool true)))
    (d3 : ∀ w, Calls Try.prog 26 #[.int .i64 3, vv n x, vv n y] w (RV w (.tuple #[vv n q1, .int .i64 0])))
    (d4 : ∀ w, Calls Try.prog 26 #[.int .i64 4, vv n x, vv n y] w (RV w (.tuple #[vv n x, .int .i64 0])))
    (d5 : ∀ w, Calls Try.prog 26 #[.int .i64 5, vv n x, vv n y] w (RV w (.tuple #[vv n q2, .int .i64 0])))
    (d6 : ∀ w, Calls Try.prog 26 #[.int .i64 6, vv n x, vv n y] w (RV w (.tuple #[vv n x, .int .i64 0])))
    (r1 : ∀ w, Calls Try.prog 28 #[.int .i64 2, vv n q1] w (RV w (.tuple #[vv 1 1, .int .i64 0])))
    (r2 : ∀ w, Calls Try.prog 28 #[.int .i64 2, vv n q2] w (RV w (.tuple #[vv 1 1, .int .i64 0]))) :
    Calls Try.prog 9 #[.slice A n ca, .slice B mb cb] w (RV w (.bool true)) := by
  have hS := Lib.hid (fun w => short_le n ca A w (by omega))
  have hFB := Lib.hid (fun w (h : RB w B mb g) => fit_ok n mb cb B g w hn h)
  replace hx := Lib.hid hx
  replace hy := Lib.hid hy
  replace hA := Lib.hid hA
  replace hB := Lib.hid hB
  replace hZ := Lib.hid hZ
  replace hZb := Lib.hid hZb
  replace hE := Lib.hid hE
  replace d3 := Lib.hid d3
  replace d4 := Lib.hid d4
  replace d5 := Lib.hid d5
  replace d6 := Lib.hid d6
  replace r1 := Lib.hid r1
  replace r2 := Lib.hid r2
  have n0 : ((n : Int) == 0) = false := by simp; omega
  have n128 : ¬ (128 < n) := by omega
  have wn : IntKind.i64.wrap ((n : Int) - 1) = (n : Int) - 1 := IntWalk.i64_in _ (by omega)
  go_enter Try.func9, Try.ntmps9
  go_wp2_with fail
  (with_reducible refine (awake_t _).mono ?_)
  rintro e w1 ⟨rfl, hbw1⟩
  go_wp2_with fail
  (with_reducible refine (hS.out _).mono ?_)
  rintro e w0 ⟨rfl, rfl⟩
  go_wp2_with fail
  (with_reducible refine (hx.out _ (hA.out.keep hbw1)).mono ?_)
  rintro e w2 ⟨rfl, hb2⟩
  have hbw2 : Below w.heap.size w w2 := below_call hb2 hbw1
  clear hb2 hbw1
  go_wp2_with fail
  (with_reducible refine (hFB.out _ (hB.out.keep hbw2)).mono ?_)
  rintro e w3 ⟨b3, rfl, R3, hb3⟩
  have hbw3 : Below w.heap.size w w3 := below_call hb3 hbw2
  replace R3 := Lib.hid R3
  clear hb3 hbw2
  go_wp2_with fail
  (with_reducible refine (hy.out _ _ R3.out).mono ?_)
  rintro e w4 ⟨rfl, hb4⟩
  have hbw4 : Below w.heap.size w w4 := below_call hb4 hbw3
  have z4 := hbw4.size
  clear hb4 hbw3 R3

  have Y0 : HV 29 ((w4.alloc (.cells (vcs n x) 29)).alloc (.cells (vcs n y) 29)) (w4.heap.size + 1) n y := by
    have h := HV.new (w4.alloc (.cells (vcs n x) 29)) 29 n y
    rw [World.size_alloc] at h
    exact h
  have S0 : IV 69 (((w4.alloc (.cells (vcs n x) 29)).alloc (.cells (vcs n y) 29)).alloc (.cells #[.int .i64 3, .int .i64 4, .int .i64 5, .int .i64 6] 69)) (w4.heap.size + 1 + 1) 4 3 := by
    have h := IV.new4 ((w4.alloc (.cells (vcs n x) 29)).alloc (.cells (vcs n y) 29)) 69
    rw [World.size_alloc, World.size_alloc] at h
    exact h
  have O0 : IV 69 ((((w4.alloc (.cells (vcs n x) 29)).alloc (.cells (vcs n y) 29)).alloc (.cells #[.int .i64 3, .int .i64 4, .int .i64 5, .int .i64 6] 69)).alloc (.cells #[.int .i64 3, .int .i64 4] 69)) (w4.heap.size + 1 + 1 + 1) 2 3 := by
    have h := IV.new3 (((w4.alloc (.cells (vcs n x) 29)).alloc (.cells (vcs n y) 29)).alloc (.cells #[.int .i64 3, .int .i64 4, .int .i64 5, .int .i64 6] 69)) 69
    rw [World.size_alloc, World.size_alloc, World.size_alloc] at h
    exact h
  go_wp2_with fail
  refine wp_loop_rounds 3 ?_
  rw [rounds_succ]
  go_wp2_with fail
  (with_reducible refine (d3.out _).mono ?_)
  rintro e w5 ⟨rfl, hb5⟩
  have hbw5 : Below w.heap.size w w5 := below_call hb5 (by go_grown)
  have z5 := hbw5.size
  have Xh' : HV 29 w5 (w4.heap.size) n x := ((((HV.new w4 29 n x).alloc _).alloc _).alloc _).over hb5
  have Yh' : HV 29 w5 (w4.heap.size + 1) n y := ((Y0.alloc _).alloc _).over hb5
  have Sh' : IV 69 w5 (w4.heap.size + 1 + 1) 4 3 := (S0.alloc _).over hb5
  have Oh' : IV 69 w5 (w4.heap.size + 1 + 1 + 1) 2 3 := O0.over hb5
  have Xh := Xh'
  clear Xh'
  have Xa := Xh.all
  have Xl := Xh.lt
  have Yh := Yh'
  clear Yh'
  have Ya := Yh.all
  have Yl := Yh.lt
  have Sh := Sh'
  clear Sh'
  have Sa := Sh.all
  have Sl := Sh.lt
  have Oh := Oh'
  clear Oh'
  have Oa := Oh.t3
  have Ol := Oh.lt
  clear hb5
  clear Y0 S0 O0
  go_wp2_with fail
  (with_reducible refine (d4.out _).mono ?_)
  rintro e w6 ⟨rfl, hb6⟩
  have hbw6 : Below w.heap.size w w6 := below_call hb6 (by go_grown)
  have z6 := hbw6.size
  have Xh' : HV 29 w6 (w4.heap.size) n x := (Xh.alloc _).over hb6
  have Yh' : HV 29 w6 (w4.heap.size + 1) n y := (Yh.alloc _).over hb6
  have Sh' : IV 69 w6 (w4.heap.size + 1 + 1) 4 3 := (Sh.alloc _).over hb6
  have Oh' : IV 69 w6 (w4.heap.size + 1 + 1 + 1) 2 3 := (Oh.alloc _).over hb6
  have Qh' : HV 29 w6 (w5.heap.size) n q1 := (HV.new w5 29 n q1).over hb6
  clear Xa Xl Xh
  clear Ya Yl Yh
  clear Sa Sl Sh
  clear Oa Ol Oh
  have Xh := Xh'
  clear Xh'
  have Xa := Xh.all
  have Xl := Xh.lt
  have Yh := Yh'
  clear Yh'
  have Ya := Yh.all
  have Yl := Yh.lt
  have Sh := Sh'
  clear Sh'
  have Sa := Sh.all
  have Sl := Sh.lt
  have Oh := Oh'
  clear Oh'
  have Oa := Oh.t3
  have Ol := Oh.lt
  have Qh := Qh'
  clear Qh'
  have Qa := Qh.all
  have Ql := Qh.lt
  clear hb6
  go_wp2_with fail
  (with_reducible refine (hZ.out _).mono ?_)
  rintro e w7 ⟨rfl, hb7⟩
  have hbw7 : Below w.heap.size w w7 := below_call hb7 (by go_grown)
  have z7 := hbw7.size
  have Xh' : HV 29 w7 (w4.heap.size) n x := (Xh.alloc _).over hb7
  have Yh' : HV 29 w7 (w4.heap.size + 1) n y := (Yh.alloc _).over hb7
  have Sh' : IV 69 w7 (w4.heap.size + 1 + 1) 4 3 := (Sh.alloc _).over hb7
  have Oh' : IV 69 w7 (w4.heap.size + 1 + 1 + 1) 2 3 := (Oh.alloc _).over hb7
  have Qh' : HV 29 w7 (w5.heap.size) n q1 := (Qh.alloc _).over hb7
  have Mh' : HV 29 w7 (w6.heap.size) n x := (HV.new w6 29 n x).over hb7
  clear Xa Xl Xh
  clear Ya Yl Yh
  clear Sa Sl Sh
  clear Oa Ol Oh
  clear Qa Ql Qh
  have Xh := Xh'
  clear Xh'
  have Xa := Xh.all
  have Xl := Xh.lt
  have Yh := Yh'
  clear Yh'
  have Ya := Yh.all
  have Yl := Yh.lt
  have Sh := Sh'
  clear Sh'
  have Sa := Sh.all
  have Sl := Sh.lt
  have Oh := Oh'
  clear Oh'
  have Oa := Oh.t3
  have Ol := Oh.lt
  have Qh := Qh'
  clear Qh'
  have Qa := Qh.all
  have Ql := Qh.lt
  have Mh := Mh'
  clear Mh'
  have Ma := Mh.all
  have Ml := Mh.lt
  clear hb7
  go_wp2_with fail
  refine (hZb.out _).mono ?_
  rintro e w8 ⟨rfl, hb8⟩
  have hbw8 : Below w.heap.size w w8 := below_call hb8 (by go_grown)
  have z8 := hbw8.size
  have Xh' : HV 29 w8 (w4.heap.size) n x := (Xh.alloc _).over hb8
  have Yh' : HV 29 w8 (w4.heap.size + 1) n y := (Yh.alloc _).over hb8
  have Sh' : IV 69 w8 (w4.heap.size + 1 + 1) 4 3 := (Sh.alloc _).over hb8
  have Oh' : IV 69 w8 (w4.heap.size + 1 + 1 + 1) 2 3 := (Oh.alloc _).over hb8
  have Qh' : HV 29 w8 (w5.heap.size) n q1 := (Qh.alloc _).over hb8
  have Mh' : HV 29 w8 (w6.heap.size) n x := (Mh.alloc _).over hb8
  have Zh' : HV 29 w8 (w7.heap.size) 1 1 := (HV.new w7 29 1 1).over hb8
  clear Xa Xl Xh
  clear Ya Yl Yh
  clear Sa Sl Sh
  clear Oa Ol Oh
  clear Qa Ql Qh
  clear Ma Ml Mh
  have Xh := Xh'
  clear Xh'
  have Xa := Xh.all
  have Xl := Xh.lt
  have Yh := Yh'
  clear Yh'
  have Ya := Yh.all
  have Yl := Yh.lt
  have Sh := Sh'
  clear Sh'
  have Sa := Sh.all
  have Sl := Sh.lt
  have Oh := Oh'
  clear Oh'
  have Oa := Oh.t3
  have Ol := Oh.lt
  have Qh := Qh'
  clear Qh'
  have Qa := Qh.all
  have Ql := Qh.lt
  have Mh := Mh'
  clear Mh'
  have Ma := Mh.all
  have Ml := Mh.lt
  have Zh := Zh'
  clear Zh'
  have Za := Zh.all
  have Zl := Zh.lt
  clear hb8
  clear Za Zl Zh
  clear Oa Ol Oh
  go_wp2_with fail
  (with_reducible refine (r1.out _).mono ?_)
  rintro e w9 ⟨rfl, hb9⟩
  have hbw9 : Below w.heap.size w w9 := below_call hb9 (by go_grown)
  have z9 := hbw9.size
  have Xh' : HV 29 w9 (w4.heap.size) n x := Xh.over hb9
  have Yh' : HV 29 w9 (w4.heap.size + 1) n y := Yh.over hb9
  have Sh' : IV 69 w9 (w4.heap.size + 1 + 1) 4 3 := Sh.over hb9
  have Qh' : HV 29 w9 (w5.heap.size) n q1 := Qh.over hb9
  have Mh' : HV 29 w9 (w6.heap.size) n x := Mh.over hb9
  clear Xa Xl Xh
  clear Ya Yl Yh
  clear Sa Sl Sh
  clear Qa Ql Qh
  clear Ma Ml Mh
  have Xh := Xh'
  clear Xh'
  have Xa := Xh.all
  have Xl := Xh.lt
  have Yh := Yh'
  clear Yh'
  have Ya := Yh.all
  have Yl := Yh.lt
  have Sh := Sh'
  clear Sh'
  have Sa := Sh.all
  have Sl := Sh.lt
  have Qh := Qh'
  clear Qh'
  have Qa := Qh.all
  have Ql := Qh.lt
  have Mh := Mh'
  clear Mh'
  have Ma := Mh.all
  have Ml := Mh.lt
  clear hb9
  clear Qa Ql Qh
  go_wp2_with fail
  refine (hZb.out _).mono ?_
  rintro e w10 ⟨rfl, hb10⟩
  have hbw10 : Below w.heap.size w w10 := below_call hb10 (by go_grown)
  have z10 := hbw10.size
  have Xh' : HV 29 w10 (w4.heap.size) n x := (Xh.alloc _).over hb10
  have Yh' : HV 29 w10 (w4.heap.size + 1) n y := (Yh.alloc _).over hb10
  have Sh' : IV 69 w10 (w4.heap.size + 1 + 1) 4 3 := (Sh.alloc _).over hb10
  have Mh' : HV 29 w10 (w6.heap.size) n x := (Mh.alloc _).over hb10
  have Nh' : HV 29 w10 (w9.heap.size) 1 1 := (HV.new w9 29 1 1).over hb10
  clear Xa Xl Xh
  clear Ya Yl Yh
  clear Sa Sl Sh
  clear Ma Ml Mh
  have Xh := Xh'
  clear Xh'
  have Xa := Xh.all
  have Xl := Xh.lt
  have Yh := Yh'
  clear Yh'
  have Ya := Yh.all
  have Yl := Yh.lt
  have Sh := Sh'
  clear Sh'
  have Sa := Sh.all
  have Sl := Sh.lt
  have Mh := Mh'
  clear Mh'
  have Ma := Mh.all
  have Ml := Mh.lt
  have Nh := Nh'
  clear Nh'
  have Na := Nh.all
  have Nl := Nh.lt
  clear hb10
  clear Na Nl Nh
  go_wp2_with fail
  (with_reducible refine (hE.out _ _).mono ?_)
  rintro e w11 ⟨rfl, hb11⟩
  have hbw11 : Below w.heap.size w w11 := below_call hb11 (by go_grown)
  have z11 := hbw11.size
  have Xh' : HV 29 w11 (w4.heap.size) n x := Xh.over hb11
  have Yh' : HV 29 w11 (w4.heap.size + 1) n y := Yh.over hb11
  have Sh' : IV 69 w11 (w4.heap.size + 1 + 1) 4 3 := Sh.over hb11
  have Mh' : HV 29 w11 (w6.heap.size) n x := Mh.over hb11
  clear Xa Xl Xh
  clear Ya Yl Yh
  clear Sa Sl Sh
  clear Ma Ml Mh
  have Xh := Xh'
  clear Xh'
  have Xa := Xh.all
  have Xl := Xh.lt
  have Yh := Yh'
  clear Yh'
  have Ya := Yh.all
  have Yl := Yh.lt
  have Sh := Sh'
  clear Sh'
  have Sa := Sh.all
  have Sl := Sh.lt
  have Mh := Mh'
  clear Mh'
  have Ma := Mh.all
  have Ml := Mh.lt
  clear hb11
  clear Ma Ml Mh
  go_wp2_with fail
  rw [rounds_succ]
  go_wp2_with fail
  (with_reducible refine (d5.out _).mono ?_)
  rintro e w12 ⟨rfl, hb12⟩
  have hbw12 : Below w.heap.size w w12 := below_call hb12 (by go_grown)
  have z12 := hbw12.size
  have Xh' : HV 29 w12 (w4.heap.size) n x := (Xh.alloc _).over hb12
  have Yh' : HV 29 w12 (w4.heap.size + 1) n y := (Yh.alloc _).over hb12
  have Sh' : IV 69 w12 (w4.heap.size + 1 + 1) 4 3 := (Sh.alloc _).over hb12
  have Oh' : IV 69 w12 (w11.heap.size) 2 5 := (IV.new5 w11 69).over hb12
  clear Xa Xl Xh
  clear Ya Yl Yh
  clear Sa Sl Sh
  have Xh := Xh'
  clear Xh'
  have Xa := Xh.all
  have Xl := Xh.lt
  have Yh := Yh'
  clear Yh'
  have Ya := Yh.all
  have Yl := Yh.lt
  have Sh := Sh'
  clear Sh'
  have Sa := Sh.all
  have Sl := Sh.lt
  have Oh := Oh'
  clear Oh'
  have Oa := Oh.t5
  have Ol := Oh.lt
  clear hb12
  go_wp2_with fail
  (with_reducible refine (d6.out _).mono ?_)
  rintro e w13 ⟨rfl, hb13⟩
  have hbw13 : Below w.heap.size w w13 := below_call hb13 (by go_grown)
  have z13 := hbw13.size
  have Xh' : HV 29 w13 (w4.heap.size) n x := (Xh.alloc _).over hb13
  have Yh' : HV 29 w13 (w4.heap.size + 1) n y := (Yh.alloc _).over hb13
  have Sh' : IV 69 w13 (w4.heap.size + 1 + 1) 4 3 := (Sh.alloc _).over hb13
  have Oh' : IV 69 w13 (w11.heap.size) 2 5 := (Oh.alloc _).over hb13
  have Qh' : HV 29 w13 (w12.heap.size) n q2 := (HV.new w12 29 n q2).over hb13
  clear Xa Xl Xh
  clear Ya Yl Yh
  clear Sa Sl Sh
  clear Oa Ol Oh
  have Xh := Xh'
  clear Xh'
  have Xa := Xh.all
  have Xl := Xh.lt
  have Yh := Yh'
  clear Yh'
  have Ya := Yh.all
  have Yl := Yh.lt
  have Sh := Sh'
  clear Sh'
  have Sa := Sh.all
  have Sl := Sh.lt
  have Oh := Oh'
  clear Oh'
  have Oa := Oh.t5
  have Ol := Oh.lt
  have Qh := Qh'
  clear Qh'
  have Qa := Qh.all
  have Ql := Qh.lt
  clear hb13
  go_wp2_with fail
  (with_reducible refine (hZ.out _).mono ?_)
  rintro e w14 ⟨rfl, hb14⟩
  have hbw14 : Below w.heap.size w w14 := below_call hb14 (by go_grown)
  have z14 := hbw14.size
  have Xh' : HV 29 w14 (w4.heap.size) n x := (Xh.alloc _).over hb14
  have Yh' : HV 29 w14 (w4.heap.size + 1) n y := (Yh.alloc _).over hb14
  have Sh' : IV 69 w14 (w4.heap.size + 1 + 1) 4 3 := (Sh.alloc _).over hb14
  have Oh' : IV 69 w14 (w11.heap.size) 2 5 := (Oh.alloc _).over hb14
  have Qh' : HV 29 w14 (w12.heap.size) n q2 := (Qh.alloc _).over hb14
  have Mh' : HV 29 w14 (w13.heap.size) n x := (HV.new w13 29 n x).over hb14
  clear Xa Xl Xh
  clear Ya Yl Yh
  clear Sa Sl Sh
  clear Oa Ol Oh
  clear Qa Ql Qh
  have Xh := Xh'
  clear Xh'
  have Xa := Xh.all
  have Xl := Xh.lt
  have Yh := Yh'
  clear Yh'
  have Ya := Yh.all
  have Yl := Yh.lt
  have Sh := Sh'
  clear Sh'
  have Sa := Sh.all
  have Sl := Sh.lt
  have Oh := Oh'
  clear Oh'
  have Oa := Oh.t5
  have Ol := Oh.lt
  have Qh := Qh'
  clear Qh'
  have Qa := Qh.all
  have Ql := Qh.lt
  have Mh := Mh'
  clear Mh'
  have Ma := Mh.all
  have Ml := Mh.lt
  clear hb14
  go_wp2_with fail
  refine (hZb.out _).mono ?_
  rintro e w15 ⟨rfl, hb15⟩
  have hbw15 : Below w.heap.size w w15 := below_call hb15 (by go_grown)
  have z15 := hbw15.size
  have Xh' : HV 29 w15 (w4.heap.size) n x := (Xh.alloc _).over hb15
  have Yh' : HV 29 w15 (w4.heap.size + 1) n y := (Yh.alloc _).over hb15
  have Sh' : IV 69 w15 (w4.heap.size + 1 + 1) 4 3 := (Sh.alloc _).over hb15
  have Oh' : IV 69 w15 (w11.heap.size) 2 5 := (Oh.alloc _).over hb15
  have Qh' : HV 29 w15 (w12.heap.size) n q2 := (Qh.alloc _).over hb15
  have Mh' : HV 29 w15 (w13.heap.size) n x := (Mh.alloc _).over hb15
  have Zh' : HV 29 w15 (w14.heap.size) 1 1 := (HV.new w14 29 1 1).over hb15
  clear Xa Xl Xh
  clear Ya Yl Yh
  clear Sa Sl Sh
  clear Oa Ol Oh
  clear Qa Ql Qh
  clear Ma Ml Mh
  have Xh := Xh'
  clear Xh'
  have Xa := Xh.all
  have Xl := Xh.lt
  have Yh := Yh'
  clear Yh'
  have Ya := Yh.all
  have Yl := Yh.lt
  have Sh := Sh'
  clear Sh'
  have Sa := Sh.all
  have Sl := Sh.lt
  have Oh := Oh'
  clear Oh'
  have Oa := Oh.t5
  have Ol := Oh.lt
  have Qh := Qh'
  clear Qh'
  have Qa := Qh.all
  have Ql := Qh.lt
  have Mh := Mh'
  clear Mh'
  have Ma := Mh.all
  have Ml := Mh.lt
  have Zh := Zh'
  clear Zh'
  have Za := Zh.all
  have Zl := Zh.lt
  clear hb15
  clear Za Zl Zh
  clear Oa Ol Oh
  go_wp2_with fail
  (with_reducible refine (r2.out _).mono ?_)
  rintro e w16 ⟨rfl, hb16⟩
  have hbw16 : Below w.heap.size w w16 := below_call hb16 (by go_grown)
  have z16 := hbw16.size
  have Xh' : HV 29 w16 (w4.heap.size) n x := Xh.over hb16
  have Yh' : HV 29 w16 (w4.heap.size + 1) n y := Yh.over hb16
  have Sh' : IV 69 w16 (w4.heap.size + 1 + 1) 4 3 := Sh.over hb16
  have Qh' : HV 29 w16 (w12.heap.size) n q2 := Qh.over hb16
  have Mh' : HV 29 w16 (w13.heap.size) n x := Mh.over hb16
  clear Xa Xl Xh
  clear Ya Yl Yh
  clear Sa Sl Sh
  clear Qa Ql Qh
  clear Ma Ml Mh
  have Xh := Xh'
  clear Xh'
  have Xa := Xh.all
  have Xl := Xh.lt
  have Yh := Yh'
  clear Yh'
  have Ya := Yh.all
  have Yl := Yh.lt
  have Sh := Sh'
  clear Sh'
  have Sa := Sh.all
  have Sl := Sh.lt
  have Qh := Qh'
  clear Qh'
  have Qa := Qh.all
  have Ql := Qh.lt
  have Mh := Mh'
  clear Mh'
  have Ma := Mh.all
  have Ml := Mh.lt
  clear hb16
  clear Qa Ql Qh
  go_wp2_with fail
  refine (hZb.out _).mono ?_
  rintro e w17 ⟨rfl, hb17⟩
  have hbw17 : Below w.heap.size w w17 := below_call hb17 (by go_grown)
  have z17 := hbw17.size
  have Xh' : HV 29 w17 (w4.heap.size) n x := (Xh.alloc _).over hb17
  have Yh' : HV 29 w17 (w4.heap.size + 1) n y := (Yh.alloc _).over hb17
  have Sh' : IV 69 w17 (w4.heap.size + 1 + 1) 4 3 := (Sh.alloc _).over hb17
  have Mh' : HV 29 w17 (w13.heap.size) n x := (Mh.alloc _).over hb17
  have Nh' : HV 29 w17 (w16.heap.size) 1 1 := (HV.new w16 29 1 1).over hb17
  clear Xa Xl Xh
  clear Ya Yl Yh
  clear Sa Sl Sh
  clear Ma Ml Mh
  have Xh := Xh'
  clear Xh'
  have Xa := Xh.all
  have Xl := Xh.lt
  have Yh := Yh'
  clear Yh'
  have Ya := Yh.all
  have Yl := Yh.lt
  have Sh := Sh'
  clear Sh'
  have Sa := Sh.all
  have Sl := Sh.lt
  have Mh := Mh'
  clear Mh'
  have Ma := Mh.all
  have Ml := Mh.lt
  have Nh := Nh'
  clear Nh'
  have Na := Nh.all
  have Nl := Nh.lt
  clear hb17
  clear Na Nl Nh
  go_wp2_with fail
  (with_reducible refine (hE.out _ _).mono ?_)
  rintro e w18 ⟨rfl, hb18⟩
  have hbw18 : Below w.heap.size w w18 := below_call hb18 (by go_grown)
  have z18 := hbw18.size
  have Xh' : HV 29 w18 (w4.heap.size) n x := Xh.over hb18
  have Yh' : HV 29 w18 (w4.heap.size + 1) n y := Yh.over hb18
  have Sh' : IV 69 w18 (w4.heap.size + 1 + 1) 4 3 := Sh.over hb18
  have Mh' : HV 29 w18 (w13.heap.size) n x := Mh.over hb18
  clear Xa Xl Xh
  clear Ya Yl Yh
  clear Sa Sl Sh
  clear Ma Ml Mh
  have Xh := Xh'
  clear Xh'
  have Xa := Xh.all
  have Xl := Xh.lt
  have Yh := Yh'
  clear Yh'
  have Ya := Yh.all
  have Yl := Yh.lt
  have Sh := Sh'
  clear Sh'
  have Sa := Sh.all
  have Sl := Sh.lt
  have Mh := Mh'
  clear Mh'
  have Ma := Mh.all
  have Ml := Mh.lt
  clear hb18
  clear Ma Ml Mh
  go_wp2_with fail
  rw [rounds_succ]
  go_wp2_with fail
  go_ret
  exact ⟨rfl, hbw18⟩
end Go.Proofs.Ytknbnpbmgbnlfaa
