/-
  The four walks of the statement BvParts: each list has at most 128 bits or more.
-/
import Derived.Test.YtmgkidfikikjpaaEd
import Derived.Test.YtmgkidfikikjpaaBg
namespace Go.Proofs.Ytmgkidfikikjpaa
open Go.RowKit
attribute [local go_sem ↓] Go.wp_at_zero Go.wp_at_succ
/-- A variable that holds three integers. -/
def AV (q : Nat → Int) (w : World) (b _n _x : Nat) : Prop := w.rowIs b 37 3 (fun i => .int .i64 (q i))
theorem AV.over {q : Nat → Int} {w w' : World} {b n x : Nat} (h : AV q w b n x) (hb : Below w.heap.size w w') : AV q w' b n x := World.rowIs.of_block h (hb.block b (World.rowIs.lt h))
theorem AV.alloc {q : Nat → Int} {w : World} {b n x : Nat} (h : AV q w b n x) (o : Obj) : AV q (w.alloc o) b n x := World.rowIs.alloc h o
theorem AV.drew {q : Nat → Int} {w : World} {b n x : Nat} (h : AV q w b n x) : AV q w.drew b n x := h
theorem AV.lt {q : Nat → Int} {w : World} {b n x : Nat} (h : AV q w b n x) : b < w.heap.size := World.rowIs.lt h
theorem AV.far3 {q : Nat → Int} {w : World} {b n x d i j k : Nat} {u v z : Value} (h : AV q w b n x) (hd : b ≠ d) : AV q (((w.setCell ⟨d, i, none⟩ u).setCell ⟨d, j, none⟩ v).setCell ⟨d, k, none⟩ z) b n x := World.rowIs.setOther (World.rowIs.setOther (World.rowIs.setOther h hd u) hd v) hd z
theorem AV.all {q : Nat → Int} {w : World} {b n x : Nat} (h : AV q w b n x) : w.cell? ⟨b, 0, none⟩ = some (.int .i64 (q 0)) ∧ w.cell? ⟨b, 1, none⟩ = some (.int .i64 (q 1)) ∧ w.cell? ⟨b, 2, none⟩ = some (.int .i64 (q 2)) := ⟨World.rowIs.cell h (i := 0) (by decide), World.rowIs.cell h (i := 1) (by decide), World.rowIs.cell h (i := 2) (by decide)⟩
theorem AV.new (q : Nat → Int) (w : World) : AV q (w.alloc (.cells #[.int .i64 (q 0), .int .i64 (q 1), .int .i64 (q 2)] 37)) w.heap.size 0 0 := World.rowIs_alloc w _ _ _ fun i hi => by
  obtain rfl | rfl | rfl : i = 0 ∨ i = 1 ∨ i = 2 := by simp at hi; omega
  · rfl
  · rfl
  · rfl
/-- A variable that holds false and true. -/
def TV (w : World) (b _n _x : Nat) : Prop := w.rowIs b 4 2 (fun i => .bool (decide (i = 1)))
theorem TV.over {w w' : World} {b n x : Nat} (h : TV w b n x) (hb : Below w.heap.size w w') : TV w' b n x := World.rowIs.of_block h (hb.block b (World.rowIs.lt h))
theorem TV.alloc {w : World} {b n x : Nat} (h : TV w b n x) (o : Obj) : TV (w.alloc o) b n x := World.rowIs.alloc h o
theorem TV.lt {w : World} {b n x : Nat} (h : TV w b n x) : b < w.heap.size := World.rowIs.lt h
theorem TV.far3 {w : World} {b n x d i j k : Nat} {u v z : Value} (h : TV w b n x) (hd : b ≠ d) : TV (((w.setCell ⟨d, i, none⟩ u).setCell ⟨d, j, none⟩ v).setCell ⟨d, k, none⟩ z) b n x := World.rowIs.setOther (World.rowIs.setOther (World.rowIs.setOther h hd u) hd v) hd z
theorem TV.all {w : World} {b n x : Nat} (h : TV w b n x) : w.cell? ⟨b, 0, none⟩ = some (.bool false) ∧ w.cell? ⟨b, 1, none⟩ = some (.bool true) := ⟨World.rowIs.cell h (i := 0) (by decide), World.rowIs.cell h (i := 1) (by decide)⟩
theorem TV.new (w : World) : TV (w.alloc (.cells #[.bool false, .bool true] 4)) w.heap.size 0 0 := World.rowIs_alloc w _ _ _ fun i hi => by
  obtain rfl | rfl : i = 0 ∨ i = 1 := by simp at hi; omega
  · rfl
  · rfl
set_option maxRecDepth 1000000 in
set_option maxHeartbeats 8000000 in
theorem Parts_ss (na0 nb0 na nb ca cb nx ny x y : Nat) (q : Nat → Int) (A B : Option Addr) (f g : Nat → Bool) (w : World) (ha : na ≤ 128) (hb : nb ≤ 128) (hA : RB w A na f) (hB : RB w B nb g)
    (hSa : ∀ w, Calls Try.prog 7 #[.slice A na0 ca] w fun e w' => e = .returned (.slice A na ca) ∧ w' = w)
    (hSb : ∀ w, Calls Try.prog 7 #[.slice B nb0 cb] w fun e w' => e = .returned (.slice B nb cb) ∧ w' = w)
    (hOa : ∀ w, RB w A na f → Calls Try.prog 8 #[.slice A na ca] w (RV w (vv nx x)))
    (hOb : ∀ w, RB w B nb g → Calls Try.prog 8 #[.slice B nb cb] w (RV w (vv ny y)))
    (hIa : ∀ w, RB w A na f → Calls Try.prog 11 #[vv nx x, .slice A na ca] w (RV w (.bool true)))
    (hIb : ∀ w, RB w B nb g → Calls Try.prog 11 #[vv ny y, .slice B nb cb] w (RV w (.bool true)))
    (nk1 : Nat) (h1 : Nat → Bool) (ek1 : Int) (hn1 : nk1 ≤ 128) (cS : ∀ w, Calls Try.prog 12 #[vv nx x, .int .i64 (q 0), .int .i64 (q 1)] w (RV w (.tuple #[vv nk1 (valB h1 nk1), .int .i64 ek1]))) (rS : ∀ w, RB w A na f → Calls Try.prog 13 #[.slice A na ca, .int .i64 (q 0), .int .i64 (q 1)] w (LB w nk1 h1 ek1))
    (nk2 : Nat) (h2 : Nat → Bool) (ek2 : Int) (hn2 : nk2 ≤ 128) (cP : ∀ w, Calls Try.prog 14 #[vv nx x, .int .i64 (q 0), vv ny y] w (RV w (.tuple #[vv nk2 (valB h2 nk2), .int .i64 ek2]))) (rP : ∀ w, RB w A na f → RB w B nb g → Calls Try.prog 15 #[.slice A na ca, .int .i64 (q 0), .slice B nb cb] w (LB w nk2 h2 ek2))
    (nk3 : Nat) (h3 : Nat → Bool) (ek3 : Int) (hn3 : nk3 ≤ 128) (cC : ∀ (w : World) (b : Nat), b = w.heap.size → Calls Try.prog 16 #[.slice (some ⟨b, 0, none⟩) 3 3] (w.alloc (.cells #[.int .i64 (nx : Int), .int .u64 ((lo x : Nat) : Int), .int .u64 ((hi x : Nat) : Int), .int .i64 (ny : Int), .int .u64 ((lo y : Nat) : Int), .int .u64 ((hi y : Nat) : Int), .int .i64 (nx : Int), .int .u64 ((lo x : Nat) : Int), .int .u64 ((hi x : Nat) : Int)] 28)) (RV (w.alloc (.cells #[.int .i64 (nx : Int), .int .u64 ((lo x : Nat) : Int), .int .u64 ((hi x : Nat) : Int), .int .i64 (ny : Int), .int .u64 ((lo y : Nat) : Int), .int .u64 ((hi y : Nat) : Int), .int .i64 (nx : Int), .int .u64 ((lo x : Nat) : Int), .int .u64 ((hi x : Nat) : Int)] 28)) (.tuple #[vv nk3 (valB h3 nk3), .int .i64 ek3])))
    (rC : ∀ (w : World) (b : Nat), b = w.heap.size → RB w A na f → RB w B nb g → Calls Try.prog 17 #[.slice (some ⟨b, 0, none⟩) 3 3] (w.alloc (.cells #[.slice A na ca, .slice B nb cb, .slice A na ca] 22)) (LB (w.alloc (.cells #[.slice A na ca, .slice B nb cb, .slice A na ca] 22)) nk3 h3 ek3))
    (nk4 : Nat) (h4 : Nat → Bool) (ek4 : Int) (hn4 : nk4 ≤ 128) (cE : ∀ w, Calls Try.prog 18 #[vv nx x, .int .i64 (q 2), .bool false] w (RV w (.tuple #[vv nk4 (valB h4 nk4), .int .i64 ek4]))) (rE : ∀ w, RB w A na f → Calls Try.prog 19 #[.slice A na ca, .int .i64 (q 2), .bool false] w (LB w nk4 h4 ek4))
    (nk5 : Nat) (h5 : Nat → Bool) (ek5 : Int) (hn5 : nk5 ≤ 128) (cF : ∀ w, Calls Try.prog 18 #[vv nx x, .int .i64 (q 2), .bool true] w (RV w (.tuple #[vv nk5 (valB h5 nk5), .int .i64 ek5]))) (rF : ∀ w, RB w A na f → Calls Try.prog 19 #[.slice A na ca, .int .i64 (q 2), .bool true] w (LB w nk5 h5 ek5))
    (eb : Bool) (cQ : ∀ w, Calls Try.prog 21 #[vv nx x, vv ny y] w (RV w (.bool eb))) (rQ : ∀ w, RB w A na f → RB w B nb g → Calls Try.prog 22 #[.slice A na ca, .slice B nb cb] w (RV w (.bool eb))) :
    Calls Try.prog 4 #[.slice A na0 ca, .slice B nb0 cb, .agg #[.int .i64 (q 0), .int .i64 (q 1), .int .i64 (q 2)]] w (RV w (.bool true)) := by
  have hA2 : RB w A na f := hA
  have hB2 : RB w B nb g := hB
  obtain ⟨z, hz⟩ : ∃ z : Nat, 0 = z := ⟨_, rfl⟩
  have cZ := Lib.hid (show ∀ w, Calls Try.prog 16 #[.slice none 0 0] w (RV w (.tuple #[vv z z, .int .i64 2])) by subst hz; exact fun w => Cat_no w)
  have cW := Lib.hid (fun w => Width_v z z w)
  have zq : ((z : Int) == 0) = true := by simp; omega
  have zq2 : (z == 0) = true := by simp; omega
  clear hz
  have d1 : ¬ (128 : Int) < (na : Int) := by omega
  have d2 : ¬ (128 : Int) < (nb : Int) := by omega
  have eqe : (eb == eb) = true := by simp
  clear ha hb
  have j1 := fun w c1 A1 (h : RB w A1 nk1 h1) => Is_ok nk1 c1 A1 h1 w hn1 h
  have ee1 : (ek1 != ek1) = false := by simp
  have j2 := fun w c1 A1 (h : RB w A1 nk2 h2) => Is_ok nk2 c1 A1 h2 w hn2 h
  have ee2 : (ek2 != ek2) = false := by simp
  have j3 := fun w c1 A1 (h : RB w A1 nk3 h3) => Is_ok nk3 c1 A1 h3 w hn3 h
  have ee3 : (ek3 != ek3) = false := by simp
  have j4 := fun w c1 A1 (h : RB w A1 nk4 h4) => Is_ok nk4 c1 A1 h4 w hn4 h
  have ee4 : (ek4 != ek4) = false := by simp
  have j5 := fun w c1 A1 (h : RB w A1 nk5 h5) => Is_ok nk5 c1 A1 h5 w hn5 h
  have ee5 : (ek5 != ek5) = false := by simp
  generalize valB h1 nk1 = v1 at j1 cS
  generalize valB h2 nk2 = v2 at j2 cP
  generalize valB h3 nk3 = v3 at j3 cC
  generalize valB h4 nk4 = v4 at j4 cE
  generalize valB h5 nk5 = v5 at j5 cF
  replace hA := Lib.hid hA
  replace hB := Lib.hid hB
  replace hA2 := Lib.hid hA2
  replace hB2 := Lib.hid hB2
  replace hSa := Lib.hid hSa
  replace hSb := Lib.hid hSb
  replace hOa := Lib.hid hOa
  replace hOb := Lib.hid hOb
  replace hIa := Lib.hid hIa
  replace hIb := Lib.hid hIb
  replace cS := Lib.hid cS
  replace rS := Lib.hid rS
  replace cP := Lib.hid cP
  replace rP := Lib.hid rP
  replace cC := Lib.hid cC
  replace rC := Lib.hid rC
  replace cE := Lib.hid cE
  replace rE := Lib.hid rE
  replace cF := Lib.hid cF
  replace rF := Lib.hid rF
  replace cQ := Lib.hid cQ
  replace rQ := Lib.hid rQ
  replace j1 := Lib.hid j1
  replace j2 := Lib.hid j2
  replace j3 := Lib.hid j3
  replace j4 := Lib.hid j4
  replace j5 := Lib.hid j5
  go_enter Try.func4, Try.ntmps4
  go_wp2_with fail
  (with_reducible refine (awake_t _).mono ?_)
  rintro e w1 ⟨rfl, hb1⟩
  have hbw1 : Below w.heap.size w w1 := below_call hb1 (by go_grown)
  have z1 := hbw1.size
  have Ph' : AV q w1 (w.heap.size) 0 0 := (AV.new q w).over hb1
  have Ph := Ph'
  clear Ph'
  have Pa := Ph.all
  have Pl := Ph.lt
  clear hb1
  go_wp2_with fail
  (with_reducible refine (hSa.out _).mono ?_)
  rintro e w1 ⟨rfl, rfl⟩
  go_wp2_with fail
  (with_reducible refine (hSb.out _).mono ?_)
  rintro e w1 ⟨rfl, rfl⟩
  go_wp2_with fail
  (with_reducible refine (hOa.out _ (hA.out.keep hbw1)).mono ?_)
  rintro e w2 ⟨rfl, hb2⟩
  have hbw2 : Below w.heap.size w w2 := below_call hb2 (by go_grown)
  have z2 := hbw2.size
  have Ph' : AV q w2 (w.heap.size) 0 0 := Ph.over hb2
  clear Pa Pl Ph
  have Ph := Ph'
  clear Ph'
  have Pa := Ph.all
  have Pl := Ph.lt
  clear hb2
  go_wp2_with fail
  (with_reducible refine (hOb.out _ (hB.out.keep hbw2)).mono ?_)
  rintro e w3 ⟨rfl, hb3⟩
  have hbw3 : Below w.heap.size w w3 := below_call hb3 (by go_grown)
  have z3 := hbw3.size
  have Ph' : AV q w3 (w.heap.size) 0 0 := Ph.over hb3
  clear Pa Pl Ph
  have Ph := Ph'
  clear Ph'
  have Pa := Ph.all
  have Pl := Ph.lt
  clear hb3
  have Y0 : HV 28 ((w3.alloc (.cells (vcs nx x) 28)).alloc (.cells (vcs ny y) 28)) (w3.heap.size + 1) ny y := by
    have h := HV.new (w3.alloc (.cells (vcs nx x) 28)) 28 ny y
    rw [World.size_alloc] at h
    exact h
  go_wp2_with fail
  (with_reducible refine (cS.out _).mono ?_)
  rintro e w4 ⟨rfl, hb4⟩
  have hbw4 : Below w.heap.size w w4 := below_call hb4 (by go_grown)
  have z4 := hbw4.size
  have Ph' : AV q w4 (w.heap.size) 0 0 := ((Ph.alloc _).alloc _).over hb4
  have Xh' : HV 28 w4 (w3.heap.size) nx x := ((HV.new w3 28 nx x).alloc _).over hb4
  have Yh' : HV 28 w4 (w3.heap.size + 1) ny y := Y0.over hb4
  clear Pa Pl Ph
  have Ph := Ph'
  clear Ph'
  have Pa := Ph.all
  have Pl := Ph.lt
  have Xh := Xh'
  clear Xh'
  have Xa := Xh.all
  have Xl := Xh.lt
  have Yh := Yh'
  clear Yh'
  have Ya := Yh.all
  have Yl := Yh.lt
  clear hb4
  clear Y0
  have dX : ¬ w3.heap.size = w4.heap.size := by omega
  have dY : ¬ w3.heap.size + 1 = w4.heap.size := by omega
  have dP : ¬ w.heap.size = w4.heap.size := by omega
  go_wp2_with fail
  (with_reducible refine (rS.out _ (hA2.out.keep (by go_grown))).mono ?_)
  rintro e w5 ⟨Ak5, ck5, rfl, Rk5, hb5⟩
  have hbw5 : Below w.heap.size w w5 := below_call hb5 (by go_grown)
  have z5 := hbw5.size
  have Ph' : AV q w5 (w.heap.size) 0 0 := (Ph.alloc _).over hb5
  have Xh' : HV 28 w5 (w3.heap.size) nx x := (Xh.alloc _).over hb5
  have Yh' : HV 28 w5 (w3.heap.size + 1) ny y := (Yh.alloc _).over hb5
  have Vh' : HV 28 w5 (w4.heap.size) nk1 v1 := (HV.new w4 28 nk1 v1).over hb5
  clear Pa Pl Ph
  clear Xa Xl Xh
  clear Ya Yl Yh
  have Ph := Ph'
  clear Ph'
  have Pa := Ph.all
  have Pl := Ph.lt
  have Xh := Xh'
  clear Xh'
  have Xa := Xh.all
  have Xl := Xh.lt
  have Yh := Yh'
  clear Yh'
  have Ya := Yh.all
  have Yl := Yh.lt
  have Vh := Vh'
  clear Vh'
  have Va := Vh.all
  have Vl := Vh.lt
  clear hb5
  go_wp2_with fail
  (with_reducible refine (j1.out _ _ _ Rk5).mono ?_)
  rintro e w6 ⟨rfl, hb6⟩
  have hbw6 : Below w.heap.size w w6 := below_call hb6 (by go_grown)
  have z6 := hbw6.size
  have Ph' : AV q w6 (w.heap.size) 0 0 := Ph.over hb6
  have Xh' : HV 28 w6 (w3.heap.size) nx x := Xh.over hb6
  have Yh' : HV 28 w6 (w3.heap.size + 1) ny y := Yh.over hb6
  have Vh' : HV 28 w6 (w4.heap.size) nk1 v1 := Vh.over hb6
  clear Pa Pl Ph
  clear Xa Xl Xh
  clear Ya Yl Yh
  clear Va Vl Vh
  have Ph := Ph'
  clear Ph'
  have Pa := Ph.all
  have Pl := Ph.lt
  have Xh := Xh'
  clear Xh'
  have Xa := Xh.all
  have Xl := Xh.lt
  have Yh := Yh'
  clear Yh'
  have Ya := Yh.all
  have Yl := Yh.lt
  have Vh := Vh'
  clear Vh'
  have Va := Vh.all
  have Vl := Vh.lt
  clear hb6
  clear Rk5
  go_wp2_with fail
  (with_reducible refine (cP.out _).mono ?_)
  rintro e w7 ⟨rfl, hb7⟩
  have hbw7 : Below w.heap.size w w7 := below_call hb7 (by go_grown)
  have z7 := hbw7.size
  have Ph' : AV q w7 (w.heap.size) 0 0 := Ph.over hb7
  have Xh' : HV 28 w7 (w3.heap.size) nx x := Xh.over hb7
  have Yh' : HV 28 w7 (w3.heap.size + 1) ny y := Yh.over hb7
  have Vh' : HV 28 w7 (w4.heap.size) nk1 v1 := Vh.over hb7
  clear Pa Pl Ph
  clear Xa Xl Xh
  clear Ya Yl Yh
  clear Va Vl Vh
  have Ph := Ph'
  clear Ph'
  have Pa := Ph.all
  have Pl := Ph.lt
  have Xh := Xh'
  clear Xh'
  have Xa := Xh.all
  have Xl := Xh.lt
  have Yh := Yh'
  clear Yh'
  have Ya := Yh.all
  have Yl := Yh.lt
  have Vh := Vh'
  clear Vh'
  have Va := Vh.all
  have Vl := Vh.lt
  clear hb7
  go_wp2_with fail
  (with_reducible refine (rP.out _ (hA2.out.keep (by
    repeat' (first | (with_reducible refine Below.setCell ?_ ?_ _) | (with_reducible refine Below.alloc ?_ ?_ _))
    all_goals (first | assumption | (dsimp only; omega) | (simp; omega)))) (hB2.out.keep (by
    repeat' (first | (with_reducible refine Below.setCell ?_ ?_ _) | (with_reducible refine Below.alloc ?_ ?_ _))
    all_goals (first | assumption | (dsimp only; omega) | (simp; omega))))).mono ?_)
  rintro e w8 ⟨Ak8, ck8, rfl, Rk8, hb8⟩
  have hbw8 : Below w.heap.size w w8 := below_call hb8 (by
    repeat' (first | (with_reducible refine Below.setCell ?_ ?_ _) | (with_reducible refine Below.alloc ?_ ?_ _))
    all_goals (first | assumption | (dsimp only; omega) | (simp; omega)))
  have z8 := hbw8.size
  have Ph' : AV q w8 (w.heap.size) 0 0 := (Ph.far3 (by assumption)).over hb8
  have Xh' : HV 28 w8 (w3.heap.size) nx x := (Xh.far3 (by assumption)).over hb8
  have Yh' : HV 28 w8 (w3.heap.size + 1) ny y := (Yh.far3 (by assumption)).over hb8
  have Vh' : HV 28 w8 (w4.heap.size) nk2 v2 := (Vh.set3 nk2 v2).over hb8
  clear Pa Pl Ph
  clear Xa Xl Xh
  clear Ya Yl Yh
  clear Va Vl Vh
  have Ph := Ph'
  clear Ph'
  have Pa := Ph.all
  have Pl := Ph.lt
  have Xh := Xh'
  clear Xh'
  have Xa := Xh.all
  have Xl := Xh.lt
  have Yh := Yh'
  clear Yh'
  have Ya := Yh.all
  have Yl := Yh.lt
  have Vh := Vh'
  clear Vh'
  have Va := Vh.all
  have Vl := Vh.lt
  clear hb8
  go_wp2_with fail
  (with_reducible refine (j2.out _ _ _ Rk8).mono ?_)
  rintro e w9 ⟨rfl, hb9⟩
  have hbw9 : Below w.heap.size w w9 := below_call hb9 (by go_grown)
  have z9 := hbw9.size
  have Ph' : AV q w9 (w.heap.size) 0 0 := Ph.over hb9
  have Xh' : HV 28 w9 (w3.heap.size) nx x := Xh.over hb9
  have Yh' : HV 28 w9 (w3.heap.size + 1) ny y := Yh.over hb9
  have Vh' : HV 28 w9 (w4.heap.size) nk2 v2 := Vh.over hb9
  clear Pa Pl Ph
  clear Xa Xl Xh
  clear Ya Yl Yh
  clear Va Vl Vh
  have Ph := Ph'
  clear Ph'
  have Pa := Ph.all
  have Pl := Ph.lt
  have Xh := Xh'
  clear Xh'
  have Xa := Xh.all
  have Xl := Xh.lt
  have Yh := Yh'
  clear Yh'
  have Ya := Yh.all
  have Yl := Yh.lt
  have Vh := Vh'
  clear Vh'
  have Va := Vh.all
  have Vl := Vh.lt
  clear hb9
  clear Rk8
  go_wp2_with fail
  (with_reducible refine (cC.out _ _ (by simp)).mono ?_)
  rintro e w10 ⟨rfl, hb10⟩
  have hbw10 : Below w.heap.size w w10 := below_call hb10 (by go_grown)
  have z10 := hbw10.size
  have Ph' : AV q w10 (w.heap.size) 0 0 := (Ph.alloc _).over hb10
  have Xh' : HV 28 w10 (w3.heap.size) nx x := (Xh.alloc _).over hb10
  have Yh' : HV 28 w10 (w3.heap.size + 1) ny y := (Yh.alloc _).over hb10
  have Vh' : HV 28 w10 (w4.heap.size) nk2 v2 := (Vh.alloc _).over hb10
  clear Pa Pl Ph
  clear Xa Xl Xh
  clear Ya Yl Yh
  clear Va Vl Vh
  have Ph := Ph'
  clear Ph'
  have Pa := Ph.all
  have Pl := Ph.lt
  have Xh := Xh'
  clear Xh'
  have Xa := Xh.all
  have Xl := Xh.lt
  have Yh := Yh'
  clear Yh'
  have Ya := Yh.all
  have Yl := Yh.lt
  have Vh := Vh'
  clear Vh'
  have Va := Vh.all
  have Vl := Vh.lt
  clear hb10
  go_wp2_with fail
  (with_reducible refine (rC.out _ _ (by simp) (hA2.out.keep (by
    repeat' (first | (with_reducible refine Below.setCell ?_ ?_ _) | (with_reducible refine Below.alloc ?_ ?_ _))
    all_goals (first | assumption | (dsimp only; omega) | (simp; omega)))) (hB2.out.keep (by
    repeat' (first | (with_reducible refine Below.setCell ?_ ?_ _) | (with_reducible refine Below.alloc ?_ ?_ _))
    all_goals (first | assumption | (dsimp only; omega) | (simp; omega))))).mono ?_)
  rintro e w11 ⟨Ak11, ck11, rfl, Rk11, hb11⟩
  have hbw11 : Below w.heap.size w w11 := below_call hb11 (by
    repeat' (first | (with_reducible refine Below.setCell ?_ ?_ _) | (with_reducible refine Below.alloc ?_ ?_ _))
    all_goals (first | assumption | (dsimp only; omega) | (simp; omega)))
  have z11 := hbw11.size
  have Ph' : AV q w11 (w.heap.size) 0 0 := ((Ph.far3 (by assumption)).alloc _).over hb11
  have Xh' : HV 28 w11 (w3.heap.size) nx x := ((Xh.far3 (by assumption)).alloc _).over hb11
  have Yh' : HV 28 w11 (w3.heap.size + 1) ny y := ((Yh.far3 (by assumption)).alloc _).over hb11
  have Vh' : HV 28 w11 (w4.heap.size) nk3 v3 := ((Vh.set3 nk3 v3).alloc _).over hb11
  clear Pa Pl Ph
  clear Xa Xl Xh
  clear Ya Yl Yh
  clear Va Vl Vh
  have Ph := Ph'
  clear Ph'
  have Pa := Ph.all
  have Pl := Ph.lt
  have Xh := Xh'
  clear Xh'
  have Xa := Xh.all
  have Xl := Xh.lt
  have Yh := Yh'
  clear Yh'
  have Ya := Yh.all
  have Yl := Yh.lt
  have Vh := Vh'
  clear Vh'
  have Va := Vh.all
  have Vl := Vh.lt
  clear hb11
  go_wp2_with fail
  (with_reducible refine (j3.out _ _ _ Rk11).mono ?_)
  rintro e w12 ⟨rfl, hb12⟩
  have hbw12 : Below w.heap.size w w12 := below_call hb12 (by go_grown)
  have z12 := hbw12.size
  have Ph' : AV q w12 (w.heap.size) 0 0 := Ph.over hb12
  have Xh' : HV 28 w12 (w3.heap.size) nx x := Xh.over hb12
  have Yh' : HV 28 w12 (w3.heap.size + 1) ny y := Yh.over hb12
  have Vh' : HV 28 w12 (w4.heap.size) nk3 v3 := Vh.over hb12
  clear Pa Pl Ph
  clear Xa Xl Xh
  clear Ya Yl Yh
  clear Va Vl Vh
  have Ph := Ph'
  clear Ph'
  have Pa := Ph.all
  have Pl := Ph.lt
  have Xh := Xh'
  clear Xh'
  have Xa := Xh.all
  have Xl := Xh.lt
  have Yh := Yh'
  clear Yh'
  have Ya := Yh.all
  have Yl := Yh.lt
  have Vh := Vh'
  clear Vh'
  have Va := Vh.all
  have Vl := Vh.lt
  clear hb12
  clear Rk11
  have dV : ¬ w12.heap.size = w4.heap.size := by omega
  go_wp2_with fail
  refine wp_loop_rounds 3 ?_
  rw [rounds_succ]
  have L0 := (TV.new w12).all
  go_wp2_with fail
  (with_reducible refine (cE.out _).mono ?_)
  rintro e w13 ⟨rfl, hb13⟩
  have hbw13 : Below w.heap.size w w13 := below_call hb13 (by go_grown)
  have z13 := hbw13.size
  have Ph' : AV q w13 (w.heap.size) 0 0 := (Ph.alloc _).over hb13
  have Xh' : HV 28 w13 (w3.heap.size) nx x := (Xh.alloc _).over hb13
  have Yh' : HV 28 w13 (w3.heap.size + 1) ny y := (Yh.alloc _).over hb13
  have Vh' : HV 28 w13 (w4.heap.size) nk3 v3 := (Vh.alloc _).over hb13
  have Lh' : TV w13 (w12.heap.size) 0 0 := (TV.new w12).over hb13
  clear Pa Pl Ph
  clear Xa Xl Xh
  clear Ya Yl Yh
  clear Va Vl Vh
  have Ph := Ph'
  clear Ph'
  have Pa := Ph.all
  have Pl := Ph.lt
  have Xh := Xh'
  clear Xh'
  have Xa := Xh.all
  have Xl := Xh.lt
  have Yh := Yh'
  clear Yh'
  have Ya := Yh.all
  have Yl := Yh.lt
  have Vh := Vh'
  clear Vh'
  have Va := Vh.all
  have Vl := Vh.lt
  have Lh := Lh'
  clear Lh'
  have La := Lh.all
  have Ll := Lh.lt
  clear hb13
  clear L0
  go_wp2_with fail
  (with_reducible refine (rE.out _ (hA2.out.keep (by
    repeat' (first | (with_reducible refine Below.setCell ?_ ?_ _) | (with_reducible refine Below.alloc ?_ ?_ _))
    all_goals (first | assumption | (dsimp only; omega) | (simp; omega))))).mono ?_)
  rintro e w14 ⟨Ak14, ck14, rfl, Rk14, hb14⟩
  have hbw14 : Below w.heap.size w w14 := below_call hb14 (by
    repeat' (first | (with_reducible refine Below.setCell ?_ ?_ _) | (with_reducible refine Below.alloc ?_ ?_ _))
    all_goals (first | assumption | (dsimp only; omega) | (simp; omega)))
  have z14 := hbw14.size
  have Ph' : AV q w14 (w.heap.size) 0 0 := (Ph.far3 (by assumption)).over hb14
  have Xh' : HV 28 w14 (w3.heap.size) nx x := (Xh.far3 (by assumption)).over hb14
  have Yh' : HV 28 w14 (w3.heap.size + 1) ny y := (Yh.far3 (by assumption)).over hb14
  have Vh' : HV 28 w14 (w4.heap.size) nk4 v4 := (Vh.set3 nk4 v4).over hb14
  have Lh' : TV w14 (w12.heap.size) 0 0 := (Lh.far3 (by assumption)).over hb14
  clear Pa Pl Ph
  clear Xa Xl Xh
  clear Ya Yl Yh
  clear Va Vl Vh
  clear La Ll Lh
  have Ph := Ph'
  clear Ph'
  have Pa := Ph.all
  have Pl := Ph.lt
  have Xh := Xh'
  clear Xh'
  have Xa := Xh.all
  have Xl := Xh.lt
  have Yh := Yh'
  clear Yh'
  have Ya := Yh.all
  have Yl := Yh.lt
  have Vh := Vh'
  clear Vh'
  have Va := Vh.all
  have Vl := Vh.lt
  have Lh := Lh'
  clear Lh'
  have La := Lh.all
  have Ll := Lh.lt
  clear hb14
  go_wp2_with fail
  (with_reducible refine (j4.out _ _ _ Rk14).mono ?_)
  rintro e w15 ⟨rfl, hb15⟩
  have hbw15 : Below w.heap.size w w15 := below_call hb15 (by go_grown)
  have z15 := hbw15.size
  have Ph' : AV q w15 (w.heap.size) 0 0 := Ph.over hb15
  have Xh' : HV 28 w15 (w3.heap.size) nx x := Xh.over hb15
  have Yh' : HV 28 w15 (w3.heap.size + 1) ny y := Yh.over hb15
  have Vh' : HV 28 w15 (w4.heap.size) nk4 v4 := Vh.over hb15
  have Lh' : TV w15 (w12.heap.size) 0 0 := Lh.over hb15
  clear Pa Pl Ph
  clear Xa Xl Xh
  clear Ya Yl Yh
  clear Va Vl Vh
  clear La Ll Lh
  have Ph := Ph'
  clear Ph'
  have Pa := Ph.all
  have Pl := Ph.lt
  have Xh := Xh'
  clear Xh'
  have Xa := Xh.all
  have Xl := Xh.lt
  have Yh := Yh'
  clear Yh'
  have Ya := Yh.all
  have Yl := Yh.lt
  have Vh := Vh'
  clear Vh'
  have Va := Vh.all
  have Vl := Vh.lt
  have Lh := Lh'
  clear Lh'
  have La := Lh.all
  have Ll := Lh.lt
  clear hb15
  clear Rk14
  go_wp2_with fail
  rw [rounds_succ]
  go_wp2_with fail
  (with_reducible refine (cF.out _).mono ?_)
  rintro e w16 ⟨rfl, hb16⟩
  have hbw16 : Below w.heap.size w w16 := below_call hb16 (by go_grown)
  have z16 := hbw16.size
  have Ph' : AV q w16 (w.heap.size) 0 0 := Ph.over hb16
  have Xh' : HV 28 w16 (w3.heap.size) nx x := Xh.over hb16
  have Yh' : HV 28 w16 (w3.heap.size + 1) ny y := Yh.over hb16
  have Vh' : HV 28 w16 (w4.heap.size) nk4 v4 := Vh.over hb16
  have Lh' : TV w16 (w12.heap.size) 0 0 := Lh.over hb16
  clear Pa Pl Ph
  clear Xa Xl Xh
  clear Ya Yl Yh
  clear Va Vl Vh
  clear La Ll Lh
  have Ph := Ph'
  clear Ph'
  have Pa := Ph.all
  have Pl := Ph.lt
  have Xh := Xh'
  clear Xh'
  have Xa := Xh.all
  have Xl := Xh.lt
  have Yh := Yh'
  clear Yh'
  have Ya := Yh.all
  have Yl := Yh.lt
  have Vh := Vh'
  clear Vh'
  have Va := Vh.all
  have Vl := Vh.lt
  have Lh := Lh'
  clear Lh'
  have La := Lh.all
  have Ll := Lh.lt
  clear hb16
  go_wp2_with fail
  (with_reducible refine (rF.out _ (hA2.out.keep (by
    repeat' (first | (with_reducible refine Below.setCell ?_ ?_ _) | (with_reducible refine Below.alloc ?_ ?_ _))
    all_goals (first | assumption | (dsimp only; omega) | (simp; omega))))).mono ?_)
  rintro e w17 ⟨Ak17, ck17, rfl, Rk17, hb17⟩
  have hbw17 : Below w.heap.size w w17 := below_call hb17 (by
    repeat' (first | (with_reducible refine Below.setCell ?_ ?_ _) | (with_reducible refine Below.alloc ?_ ?_ _))
    all_goals (first | assumption | (dsimp only; omega) | (simp; omega)))
  have z17 := hbw17.size
  have Ph' : AV q w17 (w.heap.size) 0 0 := (Ph.far3 (by assumption)).over hb17
  have Xh' : HV 28 w17 (w3.heap.size) nx x := (Xh.far3 (by assumption)).over hb17
  have Yh' : HV 28 w17 (w3.heap.size + 1) ny y := (Yh.far3 (by assumption)).over hb17
  have Vh' : HV 28 w17 (w4.heap.size) nk5 v5 := (Vh.set3 nk5 v5).over hb17
  have Lh' : TV w17 (w12.heap.size) 0 0 := (Lh.far3 (by assumption)).over hb17
  clear Pa Pl Ph
  clear Xa Xl Xh
  clear Ya Yl Yh
  clear Va Vl Vh
  clear La Ll Lh
  have Ph := Ph'
  clear Ph'
  have Pa := Ph.all
  have Pl := Ph.lt
  have Xh := Xh'
  clear Xh'
  have Xa := Xh.all
  have Xl := Xh.lt
  have Yh := Yh'
  clear Yh'
  have Ya := Yh.all
  have Yl := Yh.lt
  have Vh := Vh'
  clear Vh'
  have Va := Vh.all
  have Vl := Vh.lt
  have Lh := Lh'
  clear Lh'
  have La := Lh.all
  have Ll := Lh.lt
  clear hb17
  go_wp2_with fail
  (with_reducible refine (j5.out _ _ _ Rk17).mono ?_)
  rintro e w18 ⟨rfl, hb18⟩
  have hbw18 : Below w.heap.size w w18 := below_call hb18 (by go_grown)
  have z18 := hbw18.size
  have Ph' : AV q w18 (w.heap.size) 0 0 := Ph.over hb18
  have Xh' : HV 28 w18 (w3.heap.size) nx x := Xh.over hb18
  have Yh' : HV 28 w18 (w3.heap.size + 1) ny y := Yh.over hb18
  have Vh' : HV 28 w18 (w4.heap.size) nk5 v5 := Vh.over hb18
  have Lh' : TV w18 (w12.heap.size) 0 0 := Lh.over hb18
  clear Pa Pl Ph
  clear Xa Xl Xh
  clear Ya Yl Yh
  clear Va Vl Vh
  clear La Ll Lh
  have Ph := Ph'
  clear Ph'
  have Pa := Ph.all
  have Pl := Ph.lt
  have Xh := Xh'
  clear Xh'
  have Xa := Xh.all
  have Xl := Xh.lt
  have Yh := Yh'
  clear Yh'
  have Ya := Yh.all
  have Yl := Yh.lt
  have Vh := Vh'
  clear Vh'
  have Va := Vh.all
  have Vl := Vh.lt
  have Lh := Lh'
  clear Lh'
  have La := Lh.all
  have Ll := Lh.lt
  clear hb18
  clear Rk17
  go_wp2_with fail
  rw [rounds_succ]
  clear La Ll Lh
  clear Pa Pl Ph
  go_wp2_with fail
  (with_reducible refine (cZ.out _).mono ?_)
  rintro e w19 ⟨rfl, hb19⟩
  have hbw19 : Below w.heap.size w w19 := below_call hb19 (by go_grown)
  have z19 := hbw19.size
  have Xh' : HV 28 w19 (w3.heap.size) nx x := Xh.over hb19
  have Yh' : HV 28 w19 (w3.heap.size + 1) ny y := Yh.over hb19
  have Vh' : HV 28 w19 (w4.heap.size) nk5 v5 := Vh.over hb19
  clear Xa Xl Xh
  clear Ya Yl Yh
  clear Va Vl Vh
  have Xh := Xh'
  clear Xh'
  have Xa := Xh.all
  have Xl := Xh.lt
  have Yh := Yh'
  clear Yh'
  have Ya := Yh.all
  have Yl := Yh.lt
  have Vh := Vh'
  clear Vh'
  have Va := Vh.all
  have Vl := Vh.lt
  clear hb19
  go_wp2_with fail
  (with_reducible refine (cW.out _).mono ?_)
  rintro e w20 ⟨rfl, hb20⟩
  have hbw20 : Below w.heap.size w w20 := below_call hb20 (by
    repeat' (first | (with_reducible refine Below.setCell ?_ ?_ _) | (with_reducible refine Below.alloc ?_ ?_ _))
    all_goals (first | assumption | (dsimp only; omega) | (simp; omega)))
  have z20 := hbw20.size
  have Xh' : HV 28 w20 (w3.heap.size) nx x := (Xh.far3 (by assumption)).over hb20
  have Yh' : HV 28 w20 (w3.heap.size + 1) ny y := (Yh.far3 (by assumption)).over hb20
  have Vh' : HV 28 w20 (w4.heap.size) z z := (Vh.set3 z z).over hb20
  clear Xa Xl Xh
  clear Ya Yl Yh
  clear Va Vl Vh
  have Xh := Xh'
  clear Xh'
  have Xa := Xh.all
  have Xl := Xh.lt
  have Yh := Yh'
  clear Yh'
  have Ya := Yh.all
  have Yl := Yh.lt
  have Vh := Vh'
  clear Vh'
  have Va := Vh.all
  have Vl := Vh.lt
  clear hb20
  clear Va Vl Vh
  go_wp2_with fail
  (with_reducible refine (hIa.out _ (hA2.out.keep hbw20)).mono ?_)
  rintro e w21 ⟨rfl, hb21⟩
  have hbw21 : Below w.heap.size w w21 := below_call hb21 (by go_grown)
  have z21 := hbw21.size
  have Xh' : HV 28 w21 (w3.heap.size) nx x := Xh.over hb21
  have Yh' : HV 28 w21 (w3.heap.size + 1) ny y := Yh.over hb21
  clear Xa Xl Xh
  clear Ya Yl Yh
  have Xh := Xh'
  clear Xh'
  have Xa := Xh.all
  have Xl := Xh.lt
  have Yh := Yh'
  clear Yh'
  have Ya := Yh.all
  have Yl := Yh.lt
  clear hb21
  go_wp2_with fail
  (with_reducible refine (hIb.out _ (hB2.out.keep hbw21)).mono ?_)
  rintro e w22 ⟨rfl, hb22⟩
  have hbw22 : Below w.heap.size w w22 := below_call hb22 (by go_grown)
  have z22 := hbw22.size
  have Xh' : HV 28 w22 (w3.heap.size) nx x := Xh.over hb22
  have Yh' : HV 28 w22 (w3.heap.size + 1) ny y := Yh.over hb22
  clear Xa Xl Xh
  clear Ya Yl Yh
  have Xh := Xh'
  clear Xh'
  have Xa := Xh.all
  have Xl := Xh.lt
  have Yh := Yh'
  clear Yh'
  have Ya := Yh.all
  have Yl := Yh.lt
  clear hb22
  go_wp2_with fail
  (with_reducible refine (cQ.out _).mono ?_)
  rintro e w23 ⟨rfl, hb23⟩
  have hbw23 : Below w.heap.size w w23 := below_call hb23 (by go_grown)
  have z23 := hbw23.size
  have Xh' : HV 28 w23 (w3.heap.size) nx x := Xh.over hb23
  have Yh' : HV 28 w23 (w3.heap.size + 1) ny y := Yh.over hb23
  clear Xa Xl Xh
  clear Ya Yl Yh
  have Xh := Xh'
  clear Xh'
  have Xa := Xh.all
  have Xl := Xh.lt
  have Yh := Yh'
  clear Yh'
  have Ya := Yh.all
  have Yl := Yh.lt
  clear hb23
  go_wp2_with fail
  (with_reducible refine (rQ.out _ (hA2.out.keep hbw23) (hB2.out.keep hbw23)).mono ?_)
  rintro e w24 ⟨rfl, hb24⟩
  have hbw24 : Below w.heap.size w w24 := below_call hb24 (by go_grown)
  have z24 := hbw24.size
  have Xh' : HV 28 w24 (w3.heap.size) nx x := Xh.over hb24
  have Yh' : HV 28 w24 (w3.heap.size + 1) ny y := Yh.over hb24
  clear Xa Xl Xh
  clear Ya Yl Yh
  have Xh := Xh'
  clear Xh'
  have Xa := Xh.all
  have Xl := Xh.lt
  have Yh := Yh'
  clear Yh'
  have Ya := Yh.all
  have Yl := Yh.lt
  clear hb24
  go_wp2_with fail
  go_ret
  exact ⟨rfl, hbw24⟩
set_option maxRecDepth 1000000 in
set_option maxHeartbeats 8000000 in
theorem Parts_sl (na0 nb0 na nb ca cb nx ny x y : Nat) (q : Nat → Int) (A B : Option Addr) (f g : Nat → Bool) (w : World) (ha : na ≤ 128) (hb : 128 < nb) (hA : RB w A na f) (hB : RB w B nb g)
    (hSa : ∀ w, Calls Try.prog 7 #[.slice A na0 ca] w fun e w' => e = .returned (.slice A na ca) ∧ w' = w)
    (hSb : ∀ w, Calls Try.prog 7 #[.slice B nb0 cb] w fun e w' => e = .returned (.slice B nb cb) ∧ w' = w)
    (hOa : ∀ w, RB w A na f → Calls Try.prog 8 #[.slice A na ca] w (RV w (vv nx x)))
    (hOb : ∀ w, RB w B nb g → Calls Try.prog 8 #[.slice B nb cb] w (RV w (vv ny y)))
    (hIa : ∀ w, RB w A na f → Calls Try.prog 11 #[vv nx x, .slice A na ca] w (RV w (.bool true)))
    (hIb : ∀ w, RB w none 0 g → Calls Try.prog 11 #[vv ny y, .slice none 0 0] w (RV w (.bool true)))
    (nk1 : Nat) (h1 : Nat → Bool) (ek1 : Int) (hn1 : nk1 ≤ 128) (cS : ∀ w, Calls Try.prog 12 #[vv nx x, .int .i64 (q 0), .int .i64 (q 1)] w (RV w (.tuple #[vv nk1 (valB h1 nk1), .int .i64 ek1]))) (rS : ∀ w, RB w A na f → Calls Try.prog 13 #[.slice A na ca, .int .i64 (q 0), .int .i64 (q 1)] w (LB w nk1 h1 ek1))
    (nk2 : Nat) (h2 : Nat → Bool) (ek2 : Int) (hn2 : nk2 ≤ 128) (cP : ∀ w, Calls Try.prog 14 #[vv nx x, .int .i64 (q 0), vv ny y] w (RV w (.tuple #[vv nk2 (valB h2 nk2), .int .i64 ek2]))) (rP : ∀ w, RB w A na f → RB w none 0 g → Calls Try.prog 15 #[.slice A na ca, .int .i64 (q 0), .slice none 0 0] w (LB w nk2 h2 ek2))
    (nk3 : Nat) (h3 : Nat → Bool) (ek3 : Int) (hn3 : nk3 ≤ 128) (cC : ∀ (w : World) (b : Nat), b = w.heap.size → Calls Try.prog 16 #[.slice (some ⟨b, 0, none⟩) 3 3] (w.alloc (.cells #[.int .i64 (nx : Int), .int .u64 ((lo x : Nat) : Int), .int .u64 ((hi x : Nat) : Int), .int .i64 (ny : Int), .int .u64 ((lo y : Nat) : Int), .int .u64 ((hi y : Nat) : Int), .int .i64 (nx : Int), .int .u64 ((lo x : Nat) : Int), .int .u64 ((hi x : Nat) : Int)] 28)) (RV (w.alloc (.cells #[.int .i64 (nx : Int), .int .u64 ((lo x : Nat) : Int), .int .u64 ((hi x : Nat) : Int), .int .i64 (ny : Int), .int .u64 ((lo y : Nat) : Int), .int .u64 ((hi y : Nat) : Int), .int .i64 (nx : Int), .int .u64 ((lo x : Nat) : Int), .int .u64 ((hi x : Nat) : Int)] 28)) (.tuple #[vv nk3 (valB h3 nk3), .int .i64 ek3])))
    (rC : ∀ (w : World) (b : Nat), b = w.heap.size → RB w A na f → RB w none 0 g → Calls Try.prog 17 #[.slice (some ⟨b, 0, none⟩) 3 3] (w.alloc (.cells #[.slice A na ca, .slice none 0 0, .slice A na ca] 22)) (LB (w.alloc (.cells #[.slice A na ca, .slice none 0 0, .slice A na ca] 22)) nk3 h3 ek3))
    (nk4 : Nat) (h4 : Nat → Bool) (ek4 : Int) (hn4 : nk4 ≤ 128) (cE : ∀ w, Calls Try.prog 18 #[vv nx x, .int .i64 (q 2), .bool false] w (RV w (.tuple #[vv nk4 (valB h4 nk4), .int .i64 ek4]))) (rE : ∀ w, RB w A na f → Calls Try.prog 19 #[.slice A na ca, .int .i64 (q 2), .bool false] w (LB w nk4 h4 ek4))
    (nk5 : Nat) (h5 : Nat → Bool) (ek5 : Int) (hn5 : nk5 ≤ 128) (cF : ∀ w, Calls Try.prog 18 #[vv nx x, .int .i64 (q 2), .bool true] w (RV w (.tuple #[vv nk5 (valB h5 nk5), .int .i64 ek5]))) (rF : ∀ w, RB w A na f → Calls Try.prog 19 #[.slice A na ca, .int .i64 (q 2), .bool true] w (LB w nk5 h5 ek5))
    (eb : Bool) (cQ : ∀ w, Calls Try.prog 21 #[vv nx x, vv ny y] w (RV w (.bool eb))) (rQ : ∀ w, RB w A na f → RB w none 0 g → Calls Try.prog 22 #[.slice A na ca, .slice none 0 0] w (RV w (.bool eb))) :
    Calls Try.prog 4 #[.slice A na0 ca, .slice B nb0 cb, .agg #[.int .i64 (q 0), .int .i64 (q 1), .int .i64 (q 2)]] w (RV w (.bool true)) := by
  have hA2 : RB w A na f := hA
  have hB2 : RB w none 0 g := fun h => absurd h (by omega)
  obtain ⟨z, hz⟩ : ∃ z : Nat, 0 = z := ⟨_, rfl⟩
  have cZ := Lib.hid (show ∀ w, Calls Try.prog 16 #[.slice none 0 0] w (RV w (.tuple #[vv z z, .int .i64 2])) by subst hz; exact fun w => Cat_no w)
  have cW := Lib.hid (fun w => Width_v z z w)
  have zq : ((z : Int) == 0) = true := by simp; omega
  have zq2 : (z == 0) = true := by simp; omega
  clear hz
  have d1 : ¬ (128 : Int) < (na : Int) := by omega
  have d2 : (128 : Int) < (nb : Int) := by omega
  have eqe : (eb == eb) = true := by simp
  clear ha hb
  have j1 := fun w c1 A1 (h : RB w A1 nk1 h1) => Is_ok nk1 c1 A1 h1 w hn1 h
  have ee1 : (ek1 != ek1) = false := by simp
  have j2 := fun w c1 A1 (h : RB w A1 nk2 h2) => Is_ok nk2 c1 A1 h2 w hn2 h
  have ee2 : (ek2 != ek2) = false := by simp
  have j3 := fun w c1 A1 (h : RB w A1 nk3 h3) => Is_ok nk3 c1 A1 h3 w hn3 h
  have ee3 : (ek3 != ek3) = false := by simp
  have j4 := fun w c1 A1 (h : RB w A1 nk4 h4) => Is_ok nk4 c1 A1 h4 w hn4 h
  have ee4 : (ek4 != ek4) = false := by simp
  have j5 := fun w c1 A1 (h : RB w A1 nk5 h5) => Is_ok nk5 c1 A1 h5 w hn5 h
  have ee5 : (ek5 != ek5) = false := by simp
  generalize valB h1 nk1 = v1 at j1 cS
  generalize valB h2 nk2 = v2 at j2 cP
  generalize valB h3 nk3 = v3 at j3 cC
  generalize valB h4 nk4 = v4 at j4 cE
  generalize valB h5 nk5 = v5 at j5 cF
  replace hA := Lib.hid hA
  replace hB := Lib.hid hB
  replace hA2 := Lib.hid hA2
  replace hB2 := Lib.hid hB2
  replace hSa := Lib.hid hSa
  replace hSb := Lib.hid hSb
  replace hOa := Lib.hid hOa
  replace hOb := Lib.hid hOb
  replace hIa := Lib.hid hIa
  replace hIb := Lib.hid hIb
  replace cS := Lib.hid cS
  replace rS := Lib.hid rS
  replace cP := Lib.hid cP
  replace rP := Lib.hid rP
  replace cC := Lib.hid cC
  replace rC := Lib.hid rC
  replace cE := Lib.hid cE
  replace rE := Lib.hid rE
  replace cF := Lib.hid cF
  replace rF := Lib.hid rF
  replace cQ := Lib.hid cQ
  replace rQ := Lib.hid rQ
  replace j1 := Lib.hid j1
  replace j2 := Lib.hid j2
  replace j3 := Lib.hid j3
  replace j4 := Lib.hid j4
  replace j5 := Lib.hid j5
  go_enter Try.func4, Try.ntmps4
  go_wp2_with fail
  (with_reducible refine (awake_t _).mono ?_)
  rintro e w1 ⟨rfl, hb1⟩
  have hbw1 : Below w.heap.size w w1 := below_call hb1 (by go_grown)
  have z1 := hbw1.size
  have Ph' : AV q w1 (w.heap.size) 0 0 := (AV.new q w).over hb1
  have Ph := Ph'
  clear Ph'
  have Pa := Ph.all
  have Pl := Ph.lt
  clear hb1
  go_wp2_with fail
  (with_reducible refine (hSa.out _).mono ?_)
  rintro e w1 ⟨rfl, rfl⟩
  go_wp2_with fail
  (with_reducible refine (hSb.out _).mono ?_)
  rintro e w1 ⟨rfl, rfl⟩
  go_wp2_with fail
  (with_reducible refine (hOa.out _ (hA.out.keep hbw1)).mono ?_)
  rintro e w2 ⟨rfl, hb2⟩
  have hbw2 : Below w.heap.size w w2 := below_call hb2 (by go_grown)
  have z2 := hbw2.size
  have Ph' : AV q w2 (w.heap.size) 0 0 := Ph.over hb2
  clear Pa Pl Ph
  have Ph := Ph'
  clear Ph'
  have Pa := Ph.all
  have Pl := Ph.lt
  clear hb2
  go_wp2_with fail
  (with_reducible refine (hOb.out _ (hB.out.keep hbw2)).mono ?_)
  rintro e w3 ⟨rfl, hb3⟩
  have hbw3 : Below w.heap.size w w3 := below_call hb3 (by go_grown)
  have z3 := hbw3.size
  have Ph' : AV q w3 (w.heap.size) 0 0 := Ph.over hb3
  clear Pa Pl Ph
  have Ph := Ph'
  clear Ph'
  have Pa := Ph.all
  have Pl := Ph.lt
  clear hb3
  have Y0 : HV 28 ((w3.alloc (.cells (vcs nx x) 28)).alloc (.cells (vcs ny y) 28)) (w3.heap.size + 1) ny y := by
    have h := HV.new (w3.alloc (.cells (vcs nx x) 28)) 28 ny y
    rw [World.size_alloc] at h
    exact h
  go_wp2_with fail
  (with_reducible refine (cS.out _).mono ?_)
  rintro e w4 ⟨rfl, hb4⟩
  have hbw4 : Below w.heap.size w w4 := below_call hb4 (by go_grown)
  have z4 := hbw4.size
  have Ph' : AV q w4 (w.heap.size) 0 0 := ((Ph.alloc _).alloc _).over hb4
  have Xh' : HV 28 w4 (w3.heap.size) nx x := ((HV.new w3 28 nx x).alloc _).over hb4
  have Yh' : HV 28 w4 (w3.heap.size + 1) ny y := Y0.over hb4
  clear Pa Pl Ph
  have Ph := Ph'
  clear Ph'
  have Pa := Ph.all
  have Pl := Ph.lt
  have Xh := Xh'
  clear Xh'
  have Xa := Xh.all
  have Xl := Xh.lt
  have Yh := Yh'
  clear Yh'
  have Ya := Yh.all
  have Yl := Yh.lt
  clear hb4
  clear Y0
  have dX : ¬ w3.heap.size = w4.heap.size := by omega
  have dY : ¬ w3.heap.size + 1 = w4.heap.size := by omega
  have dP : ¬ w.heap.size = w4.heap.size := by omega
  go_wp2_with fail
  (with_reducible refine (rS.out _ (hA2.out.keep (by go_grown))).mono ?_)
  rintro e w5 ⟨Ak5, ck5, rfl, Rk5, hb5⟩
  have hbw5 : Below w.heap.size w w5 := below_call hb5 (by go_grown)
  have z5 := hbw5.size
  have Ph' : AV q w5 (w.heap.size) 0 0 := (Ph.alloc _).over hb5
  have Xh' : HV 28 w5 (w3.heap.size) nx x := (Xh.alloc _).over hb5
  have Yh' : HV 28 w5 (w3.heap.size + 1) ny y := (Yh.alloc _).over hb5
  have Vh' : HV 28 w5 (w4.heap.size) nk1 v1 := (HV.new w4 28 nk1 v1).over hb5
  clear Pa Pl Ph
  clear Xa Xl Xh
  clear Ya Yl Yh
  have Ph := Ph'
  clear Ph'
  have Pa := Ph.all
  have Pl := Ph.lt
  have Xh := Xh'
  clear Xh'
  have Xa := Xh.all
  have Xl := Xh.lt
  have Yh := Yh'
  clear Yh'
  have Ya := Yh.all
  have Yl := Yh.lt
  have Vh := Vh'
  clear Vh'
  have Va := Vh.all
  have Vl := Vh.lt
  clear hb5
  go_wp2_with fail
  (with_reducible refine (j1.out _ _ _ Rk5).mono ?_)
  rintro e w6 ⟨rfl, hb6⟩
  have hbw6 : Below w.heap.size w w6 := below_call hb6 (by go_grown)
  have z6 := hbw6.size
  have Ph' : AV q w6 (w.heap.size) 0 0 := Ph.over hb6
  have Xh' : HV 28 w6 (w3.heap.size) nx x := Xh.over hb6
  have Yh' : HV 28 w6 (w3.heap.size + 1) ny y := Yh.over hb6
  have Vh' : HV 28 w6 (w4.heap.size) nk1 v1 := Vh.over hb6
  clear Pa Pl Ph
  clear Xa Xl Xh
  clear Ya Yl Yh
  clear Va Vl Vh
  have Ph := Ph'
  clear Ph'
  have Pa := Ph.all
  have Pl := Ph.lt
  have Xh := Xh'
  clear Xh'
  have Xa := Xh.all
  have Xl := Xh.lt
  have Yh := Yh'
  clear Yh'
  have Ya := Yh.all
  have Yl := Yh.lt
  have Vh := Vh'
  clear Vh'
  have Va := Vh.all
  have Vl := Vh.lt
  clear hb6
  clear Rk5
  go_wp2_with fail
  (with_reducible refine (cP.out _).mono ?_)
  rintro e w7 ⟨rfl, hb7⟩
  have hbw7 : Below w.heap.size w w7 := below_call hb7 (by go_grown)
  have z7 := hbw7.size
  have Ph' : AV q w7 (w.heap.size) 0 0 := Ph.over hb7
  have Xh' : HV 28 w7 (w3.heap.size) nx x := Xh.over hb7
  have Yh' : HV 28 w7 (w3.heap.size + 1) ny y := Yh.over hb7
  have Vh' : HV 28 w7 (w4.heap.size) nk1 v1 := Vh.over hb7
  clear Pa Pl Ph
  clear Xa Xl Xh
  clear Ya Yl Yh
  clear Va Vl Vh
  have Ph := Ph'
  clear Ph'
  have Pa := Ph.all
  have Pl := Ph.lt
  have Xh := Xh'
  clear Xh'
  have Xa := Xh.all
  have Xl := Xh.lt
  have Yh := Yh'
  clear Yh'
  have Ya := Yh.all
  have Yl := Yh.lt
  have Vh := Vh'
  clear Vh'
  have Va := Vh.all
  have Vl := Vh.lt
  clear hb7
  go_wp2_with fail
  (with_reducible refine (rP.out _ (hA2.out.keep (by
    repeat' (first | (with_reducible refine Below.setCell ?_ ?_ _) | (with_reducible refine Below.alloc ?_ ?_ _))
    all_goals (first | assumption | (dsimp only; omega) | (simp; omega)))) (hB2.out.keep (by
    repeat' (first | (with_reducible refine Below.setCell ?_ ?_ _) | (with_reducible refine Below.alloc ?_ ?_ _))
    all_goals (first | assumption | (dsimp only; omega) | (simp; omega))))).mono ?_)
  rintro e w8 ⟨Ak8, ck8, rfl, Rk8, hb8⟩
  have hbw8 : Below w.heap.size w w8 := below_call hb8 (by
    repeat' (first | (with_reducible refine Below.setCell ?_ ?_ _) | (with_reducible refine Below.alloc ?_ ?_ _))
    all_goals (first | assumption | (dsimp only; omega) | (simp; omega)))
  have z8 := hbw8.size
  have Ph' : AV q w8 (w.heap.size) 0 0 := (Ph.far3 (by assumption)).over hb8
  have Xh' : HV 28 w8 (w3.heap.size) nx x := (Xh.far3 (by assumption)).over hb8
  have Yh' : HV 28 w8 (w3.heap.size + 1) ny y := (Yh.far3 (by assumption)).over hb8
  have Vh' : HV 28 w8 (w4.heap.size) nk2 v2 := (Vh.set3 nk2 v2).over hb8
  clear Pa Pl Ph
  clear Xa Xl Xh
  clear Ya Yl Yh
  clear Va Vl Vh
  have Ph := Ph'
  clear Ph'
  have Pa := Ph.all
  have Pl := Ph.lt
  have Xh := Xh'
  clear Xh'
  have Xa := Xh.all
  have Xl := Xh.lt
  have Yh := Yh'
  clear Yh'
  have Ya := Yh.all
  have Yl := Yh.lt
  have Vh := Vh'
  clear Vh'
  have Va := Vh.all
  have Vl := Vh.lt
  clear hb8
  go_wp2_with fail
  (with_reducible refine (j2.out _ _ _ Rk8).mono ?_)
  rintro e w9 ⟨rfl, hb9⟩
  have hbw9 : Below w.heap.size w w9 := below_call hb9 (by go_grown)
  have z9 := hbw9.size
  have Ph' : AV q w9 (w.heap.size) 0 0 := Ph.over hb9
  have Xh' : HV 28 w9 (w3.heap.size) nx x := Xh.over hb9
  have Yh' : HV 28 w9 (w3.heap.size + 1) ny y := Yh.over hb9
  have Vh' : HV 28 w9 (w4.heap.size) nk2 v2 := Vh.over hb9
  clear Pa Pl Ph
  clear Xa Xl Xh
  clear Ya Yl Yh
  clear Va Vl Vh
  have Ph := Ph'
  clear Ph'
  have Pa := Ph.all
  have Pl := Ph.lt
  have Xh := Xh'
  clear Xh'
  have Xa := Xh.all
  have Xl := Xh.lt
  have Yh := Yh'
  clear Yh'
  have Ya := Yh.all
  have Yl := Yh.lt
  have Vh := Vh'
  clear Vh'
  have Va := Vh.all
  have Vl := Vh.lt
  clear hb9
  clear Rk8
  go_wp2_with fail
  (with_reducible refine (cC.out _ _ (by simp)).mono ?_)
  rintro e w10 ⟨rfl, hb10⟩
  have hbw10 : Below w.heap.size w w10 := below_call hb10 (by go_grown)
  have z10 := hbw10.size
  have Ph' : AV q w10 (w.heap.size) 0 0 := (Ph.alloc _).over hb10
  have Xh' : HV 28 w10 (w3.heap.size) nx x := (Xh.alloc _).over hb10
  have Yh' : HV 28 w10 (w3.heap.size + 1) ny y := (Yh.alloc _).over hb10
  have Vh' : HV 28 w10 (w4.heap.size) nk2 v2 := (Vh.alloc _).over hb10
  clear Pa Pl Ph
  clear Xa Xl Xh
  clear Ya Yl Yh
  clear Va Vl Vh
  have Ph := Ph'
  clear Ph'
  have Pa := Ph.all
  have Pl := Ph.lt
  have Xh := Xh'
  clear Xh'
  have Xa := Xh.all
  have Xl := Xh.lt
  have Yh := Yh'
  clear Yh'
  have Ya := Yh.all
  have Yl := Yh.lt
  have Vh := Vh'
  clear Vh'
  have Va := Vh.all
  have Vl := Vh.lt
  clear hb10
  go_wp2_with fail
  (with_reducible refine (rC.out _ _ (by simp) (hA2.out.keep (by
    repeat' (first | (with_reducible refine Below.setCell ?_ ?_ _) | (with_reducible refine Below.alloc ?_ ?_ _))
    all_goals (first | assumption | (dsimp only; omega) | (simp; omega)))) (hB2.out.keep (by
    repeat' (first | (with_reducible refine Below.setCell ?_ ?_ _) | (with_reducible refine Below.alloc ?_ ?_ _))
    all_goals (first | assumption | (dsimp only; omega) | (simp; omega))))).mono ?_)
  rintro e w11 ⟨Ak11, ck11, rfl, Rk11, hb11⟩
  have hbw11 : Below w.heap.size w w11 := below_call hb11 (by
    repeat' (first | (with_reducible refine Below.setCell ?_ ?_ _) | (with_reducible refine Below.alloc ?_ ?_ _))
    all_goals (first | assumption | (dsimp only; omega) | (simp; omega)))
  have z11 := hbw11.size
  have Ph' : AV q w11 (w.heap.size) 0 0 := ((Ph.far3 (by assumption)).alloc _).over hb11
  have Xh' : HV 28 w11 (w3.heap.size) nx x := ((Xh.far3 (by assumption)).alloc _).over hb11
  have Yh' : HV 28 w11 (w3.heap.size + 1) ny y := ((Yh.far3 (by assumption)).alloc _).over hb11
  have Vh' : HV 28 w11 (w4.heap.size) nk3 v3 := ((Vh.set3 nk3 v3).alloc _).over hb11
  clear Pa Pl Ph
  clear Xa Xl Xh
  clear Ya Yl Yh
  clear Va Vl Vh
  have Ph := Ph'
  clear Ph'
  have Pa := Ph.all
  have Pl := Ph.lt
  have Xh := Xh'
  clear Xh'
  have Xa := Xh.all
  have Xl := Xh.lt
  have Yh := Yh'
  clear Yh'
  have Ya := Yh.all
  have Yl := Yh.lt
  have Vh := Vh'
  clear Vh'
  have Va := Vh.all
  have Vl := Vh.lt
  clear hb11
  go_wp2_with fail
  (with_reducible refine (j3.out _ _ _ Rk11).mono ?_)
  rintro e w12 ⟨rfl, hb12⟩
  have hbw12 : Below w.heap.size w w12 := below_call hb12 (by go_grown)
  have z12 := hbw12.size
  have Ph' : AV q w12 (w.heap.size) 0 0 := Ph.over hb12
  have Xh' : HV 28 w12 (w3.heap.size) nx x := Xh.over hb12
  have Yh' : HV 28 w12 (w3.heap.size + 1) ny y := Yh.over hb12
  have Vh' : HV 28 w12 (w4.heap.size) nk3 v3 := Vh.over hb12
  clear Pa Pl Ph
  clear Xa Xl Xh
  clear Ya Yl Yh
  clear Va Vl Vh
  have Ph := Ph'
  clear Ph'
  have Pa := Ph.all
  have Pl := Ph.lt
  have Xh := Xh'
  clear Xh'
  have Xa := Xh.all
  have Xl := Xh.lt
  have Yh := Yh'
  clear Yh'
  have Ya := Yh.all
  have Yl := Yh.lt
  have Vh := Vh'
  clear Vh'
  have Va := Vh.all
  have Vl := Vh.lt
  clear hb12
  clear Rk11
  have dV : ¬ w12.heap.size = w4.heap.size := by omega
  go_wp2_with fail
  refine wp_loop_rounds 3 ?_
  rw [rounds_succ]
  have L0 := (TV.new w12).all
  go_wp2_with fail
  (with_reducible refine (cE.out _).mono ?_)
  rintro e w13 ⟨rfl, hb13⟩
  have hbw13 : Below w.heap.size w w13 := below_call hb13 (by go_grown)
  have z13 := hbw13.size
  have Ph' : AV q w13 (w.heap.size) 0 0 := (Ph.alloc _).over hb13
  have Xh' : HV 28 w13 (w3.heap.size) nx x := (Xh.alloc _).over hb13
  have Yh' : HV 28 w13 (w3.heap.size + 1) ny y := (Yh.alloc _).over hb13
  have Vh' : HV 28 w13 (w4.heap.size) nk3 v3 := (Vh.alloc _).over hb13
  have Lh' : TV w13 (w12.heap.size) 0 0 := (TV.new w12).over hb13
  clear Pa Pl Ph
  clear Xa Xl Xh
  clear Ya Yl Yh
  clear Va Vl Vh
  have Ph := Ph'
  clear Ph'
  have Pa := Ph.all
  have Pl := Ph.lt
  have Xh := Xh'
  clear Xh'
  have Xa := Xh.all
  have Xl := Xh.lt
  have Yh := Yh'
  clear Yh'
  have Ya := Yh.all
  have Yl := Yh.lt
  have Vh := Vh'
  clear Vh'
  have Va := Vh.all
  have Vl := Vh.lt
  have Lh := Lh'
  clear Lh'
  have La := Lh.all
  have Ll := Lh.lt
  clear hb13
  clear L0
  go_wp2_with fail
  (with_reducible refine (rE.out _ (hA2.out.keep (by
    repeat' (first | (with_reducible refine Below.setCell ?_ ?_ _) | (with_reducible refine Below.alloc ?_ ?_ _))
    all_goals (first | assumption | (dsimp only; omega) | (simp; omega))))).mono ?_)
  rintro e w14 ⟨Ak14, ck14, rfl, Rk14, hb14⟩
  have hbw14 : Below w.heap.size w w14 := below_call hb14 (by
    repeat' (first | (with_reducible refine Below.setCell ?_ ?_ _) | (with_reducible refine Below.alloc ?_ ?_ _))
    all_goals (first | assumption | (dsimp only; omega) | (simp; omega)))
  have z14 := hbw14.size
  have Ph' : AV q w14 (w.heap.size) 0 0 := (Ph.far3 (by assumption)).over hb14
  have Xh' : HV 28 w14 (w3.heap.size) nx x := (Xh.far3 (by assumption)).over hb14
  have Yh' : HV 28 w14 (w3.heap.size + 1) ny y := (Yh.far3 (by assumption)).over hb14
  have Vh' : HV 28 w14 (w4.heap.size) nk4 v4 := (Vh.set3 nk4 v4).over hb14
  have Lh' : TV w14 (w12.heap.size) 0 0 := (Lh.far3 (by assumption)).over hb14
  clear Pa Pl Ph
  clear Xa Xl Xh
  clear Ya Yl Yh
  clear Va Vl Vh
  clear La Ll Lh
  have Ph := Ph'
  clear Ph'
  have Pa := Ph.all
  have Pl := Ph.lt
  have Xh := Xh'
  clear Xh'
  have Xa := Xh.all
  have Xl := Xh.lt
  have Yh := Yh'
  clear Yh'
  have Ya := Yh.all
  have Yl := Yh.lt
  have Vh := Vh'
  clear Vh'
  have Va := Vh.all
  have Vl := Vh.lt
  have Lh := Lh'
  clear Lh'
  have La := Lh.all
  have Ll := Lh.lt
  clear hb14
  go_wp2_with fail
  (with_reducible refine (j4.out _ _ _ Rk14).mono ?_)
  rintro e w15 ⟨rfl, hb15⟩
  have hbw15 : Below w.heap.size w w15 := below_call hb15 (by go_grown)
  have z15 := hbw15.size
  have Ph' : AV q w15 (w.heap.size) 0 0 := Ph.over hb15
  have Xh' : HV 28 w15 (w3.heap.size) nx x := Xh.over hb15
  have Yh' : HV 28 w15 (w3.heap.size + 1) ny y := Yh.over hb15
  have Vh' : HV 28 w15 (w4.heap.size) nk4 v4 := Vh.over hb15
  have Lh' : TV w15 (w12.heap.size) 0 0 := Lh.over hb15
  clear Pa Pl Ph
  clear Xa Xl Xh
  clear Ya Yl Yh
  clear Va Vl Vh
  clear La Ll Lh
  have Ph := Ph'
  clear Ph'
  have Pa := Ph.all
  have Pl := Ph.lt
  have Xh := Xh'
  clear Xh'
  have Xa := Xh.all
  have Xl := Xh.lt
  have Yh := Yh'
  clear Yh'
  have Ya := Yh.all
  have Yl := Yh.lt
  have Vh := Vh'
  clear Vh'
  have Va := Vh.all
  have Vl := Vh.lt
  have Lh := Lh'
  clear Lh'
  have La := Lh.all
  have Ll := Lh.lt
  clear hb15
  clear Rk14
  go_wp2_with fail
  rw [rounds_succ]
  go_wp2_with fail
  (with_reducible refine (cF.out _).mono ?_)
  rintro e w16 ⟨rfl, hb16⟩
  have hbw16 : Below w.heap.size w w16 := below_call hb16 (by go_grown)
  have z16 := hbw16.size
  have Ph' : AV q w16 (w.heap.size) 0 0 := Ph.over hb16
  have Xh' : HV 28 w16 (w3.heap.size) nx x := Xh.over hb16
  have Yh' : HV 28 w16 (w3.heap.size + 1) ny y := Yh.over hb16
  have Vh' : HV 28 w16 (w4.heap.size) nk4 v4 := Vh.over hb16
  have Lh' : TV w16 (w12.heap.size) 0 0 := Lh.over hb16
  clear Pa Pl Ph
  clear Xa Xl Xh
  clear Ya Yl Yh
  clear Va Vl Vh
  clear La Ll Lh
  have Ph := Ph'
  clear Ph'
  have Pa := Ph.all
  have Pl := Ph.lt
  have Xh := Xh'
  clear Xh'
  have Xa := Xh.all
  have Xl := Xh.lt
  have Yh := Yh'
  clear Yh'
  have Ya := Yh.all
  have Yl := Yh.lt
  have Vh := Vh'
  clear Vh'
  have Va := Vh.all
  have Vl := Vh.lt
  have Lh := Lh'
  clear Lh'
  have La := Lh.all
  have Ll := Lh.lt
  clear hb16
  go_wp2_with fail
  (with_reducible refine (rF.out _ (hA2.out.keep (by
    repeat' (first | (with_reducible refine Below.setCell ?_ ?_ _) | (with_reducible refine Below.alloc ?_ ?_ _))
    all_goals (first | assumption | (dsimp only; omega) | (simp; omega))))).mono ?_)
  rintro e w17 ⟨Ak17, ck17, rfl, Rk17, hb17⟩
  have hbw17 : Below w.heap.size w w17 := below_call hb17 (by
    repeat' (first | (with_reducible refine Below.setCell ?_ ?_ _) | (with_reducible refine Below.alloc ?_ ?_ _))
    all_goals (first | assumption | (dsimp only; omega) | (simp; omega)))
  have z17 := hbw17.size
  have Ph' : AV q w17 (w.heap.size) 0 0 := (Ph.far3 (by assumption)).over hb17
  have Xh' : HV 28 w17 (w3.heap.size) nx x := (Xh.far3 (by assumption)).over hb17
  have Yh' : HV 28 w17 (w3.heap.size + 1) ny y := (Yh.far3 (by assumption)).over hb17
  have Vh' : HV 28 w17 (w4.heap.size) nk5 v5 := (Vh.set3 nk5 v5).over hb17
  have Lh' : TV w17 (w12.heap.size) 0 0 := (Lh.far3 (by assumption)).over hb17
  clear Pa Pl Ph
  clear Xa Xl Xh
  clear Ya Yl Yh
  clear Va Vl Vh
  clear La Ll Lh
  have Ph := Ph'
  clear Ph'
  have Pa := Ph.all
  have Pl := Ph.lt
  have Xh := Xh'
  clear Xh'
  have Xa := Xh.all
  have Xl := Xh.lt
  have Yh := Yh'
  clear Yh'
  have Ya := Yh.all
  have Yl := Yh.lt
  have Vh := Vh'
  clear Vh'
  have Va := Vh.all
  have Vl := Vh.lt
  have Lh := Lh'
  clear Lh'
  have La := Lh.all
  have Ll := Lh.lt
  clear hb17
  go_wp2_with fail
  (with_reducible refine (j5.out _ _ _ Rk17).mono ?_)
  rintro e w18 ⟨rfl, hb18⟩
  have hbw18 : Below w.heap.size w w18 := below_call hb18 (by go_grown)
  have z18 := hbw18.size
  have Ph' : AV q w18 (w.heap.size) 0 0 := Ph.over hb18
  have Xh' : HV 28 w18 (w3.heap.size) nx x := Xh.over hb18
  have Yh' : HV 28 w18 (w3.heap.size + 1) ny y := Yh.over hb18
  have Vh' : HV 28 w18 (w4.heap.size) nk5 v5 := Vh.over hb18
  have Lh' : TV w18 (w12.heap.size) 0 0 := Lh.over hb18
  clear Pa Pl Ph
  clear Xa Xl Xh
  clear Ya Yl Yh
  clear Va Vl Vh
  clear La Ll Lh
  have Ph := Ph'
  clear Ph'
  have Pa := Ph.all
  have Pl := Ph.lt
  have Xh := Xh'
  clear Xh'
  have Xa := Xh.all
  have Xl := Xh.lt
  have Yh := Yh'
  clear Yh'
  have Ya := Yh.all
  have Yl := Yh.lt
  have Vh := Vh'
  clear Vh'
  have Va := Vh.all
  have Vl := Vh.lt
  have Lh := Lh'
  clear Lh'
  have La := Lh.all
  have Ll := Lh.lt
  clear hb18
  clear Rk17
  go_wp2_with fail
  rw [rounds_succ]
  clear La Ll Lh
  clear Pa Pl Ph
  go_wp2_with fail
  (with_reducible refine (cZ.out _).mono ?_)
  rintro e w19 ⟨rfl, hb19⟩
  have hbw19 : Below w.heap.size w w19 := below_call hb19 (by go_grown)
  have z19 := hbw19.size
  have Xh' : HV 28 w19 (w3.heap.size) nx x := Xh.over hb19
  have Yh' : HV 28 w19 (w3.heap.size + 1) ny y := Yh.over hb19
  have Vh' : HV 28 w19 (w4.heap.size) nk5 v5 := Vh.over hb19
  clear Xa Xl Xh
  clear Ya Yl Yh
  clear Va Vl Vh
  have Xh := Xh'
  clear Xh'
  have Xa := Xh.all
  have Xl := Xh.lt
  have Yh := Yh'
  clear Yh'
  have Ya := Yh.all
  have Yl := Yh.lt
  have Vh := Vh'
  clear Vh'
  have Va := Vh.all
  have Vl := Vh.lt
  clear hb19
  go_wp2_with fail
  (with_reducible refine (cW.out _).mono ?_)
  rintro e w20 ⟨rfl, hb20⟩
  have hbw20 : Below w.heap.size w w20 := below_call hb20 (by
    repeat' (first | (with_reducible refine Below.setCell ?_ ?_ _) | (with_reducible refine Below.alloc ?_ ?_ _))
    all_goals (first | assumption | (dsimp only; omega) | (simp; omega)))
  have z20 := hbw20.size
  have Xh' : HV 28 w20 (w3.heap.size) nx x := (Xh.far3 (by assumption)).over hb20
  have Yh' : HV 28 w20 (w3.heap.size + 1) ny y := (Yh.far3 (by assumption)).over hb20
  have Vh' : HV 28 w20 (w4.heap.size) z z := (Vh.set3 z z).over hb20
  clear Xa Xl Xh
  clear Ya Yl Yh
  clear Va Vl Vh
  have Xh := Xh'
  clear Xh'
  have Xa := Xh.all
  have Xl := Xh.lt
  have Yh := Yh'
  clear Yh'
  have Ya := Yh.all
  have Yl := Yh.lt
  have Vh := Vh'
  clear Vh'
  have Va := Vh.all
  have Vl := Vh.lt
  clear hb20
  clear Va Vl Vh
  go_wp2_with fail
  (with_reducible refine (hIa.out _ (hA2.out.keep hbw20)).mono ?_)
  rintro e w21 ⟨rfl, hb21⟩
  have hbw21 : Below w.heap.size w w21 := below_call hb21 (by go_grown)
  have z21 := hbw21.size
  have Xh' : HV 28 w21 (w3.heap.size) nx x := Xh.over hb21
  have Yh' : HV 28 w21 (w3.heap.size + 1) ny y := Yh.over hb21
  clear Xa Xl Xh
  clear Ya Yl Yh
  have Xh := Xh'
  clear Xh'
  have Xa := Xh.all
  have Xl := Xh.lt
  have Yh := Yh'
  clear Yh'
  have Ya := Yh.all
  have Yl := Yh.lt
  clear hb21
  go_wp2_with fail
  (with_reducible refine (hIb.out _ (hB2.out.keep hbw21)).mono ?_)
  rintro e w22 ⟨rfl, hb22⟩
  have hbw22 : Below w.heap.size w w22 := below_call hb22 (by go_grown)
  have z22 := hbw22.size
  have Xh' : HV 28 w22 (w3.heap.size) nx x := Xh.over hb22
  have Yh' : HV 28 w22 (w3.heap.size + 1) ny y := Yh.over hb22
  clear Xa Xl Xh
  clear Ya Yl Yh
  have Xh := Xh'
  clear Xh'
  have Xa := Xh.all
  have Xl := Xh.lt
  have Yh := Yh'
  clear Yh'
  have Ya := Yh.all
  have Yl := Yh.lt
  clear hb22
  go_wp2_with fail
  (with_reducible refine (cQ.out _).mono ?_)
  rintro e w23 ⟨rfl, hb23⟩
  have hbw23 : Below w.heap.size w w23 := below_call hb23 (by go_grown)
  have z23 := hbw23.size
  have Xh' : HV 28 w23 (w3.heap.size) nx x := Xh.over hb23
  have Yh' : HV 28 w23 (w3.heap.size + 1) ny y := Yh.over hb23
  clear Xa Xl Xh
  clear Ya Yl Yh
  have Xh := Xh'
  clear Xh'
  have Xa := Xh.all
  have Xl := Xh.lt
  have Yh := Yh'
  clear Yh'
  have Ya := Yh.all
  have Yl := Yh.lt
  clear hb23
  go_wp2_with fail
  (with_reducible refine (rQ.out _ (hA2.out.keep hbw23) (hB2.out.keep hbw23)).mono ?_)
  rintro e w24 ⟨rfl, hb24⟩
  have hbw24 : Below w.heap.size w w24 := below_call hb24 (by go_grown)
  have z24 := hbw24.size
  have Xh' : HV 28 w24 (w3.heap.size) nx x := Xh.over hb24
  have Yh' : HV 28 w24 (w3.heap.size + 1) ny y := Yh.over hb24
  clear Xa Xl Xh
  clear Ya Yl Yh
  have Xh := Xh'
  clear Xh'
  have Xa := Xh.all
  have Xl := Xh.lt
  have Yh := Yh'
  clear Yh'
  have Ya := Yh.all
  have Yl := Yh.lt
  clear hb24
  go_wp2_with fail
  go_ret
  exact ⟨rfl, hbw24⟩
set_option maxRecDepth 1000000 in
set_option maxHeartbeats 8000000 in
theorem Parts_ls (na0 nb0 na nb ca cb nx ny x y : Nat) (q : Nat → Int) (A B : Option Addr) (f g : Nat → Bool) (w : World) (ha : 128 < na) (hb : nb ≤ 128) (hA : RB w A na f) (hB : RB w B nb g)
    (hSa : ∀ w, Calls Try.prog 7 #[.slice A na0 ca] w fun e w' => e = .returned (.slice A na ca) ∧ w' = w)
    (hSb : ∀ w, Calls Try.prog 7 #[.slice B nb0 cb] w fun e w' => e = .returned (.slice B nb cb) ∧ w' = w)
    (hOa : ∀ w, RB w A na f → Calls Try.prog 8 #[.slice A na ca] w (RV w (vv nx x)))
    (hOb : ∀ w, RB w B nb g → Calls Try.prog 8 #[.slice B nb cb] w (RV w (vv ny y)))
    (hIa : ∀ w, RB w none 0 f → Calls Try.prog 11 #[vv nx x, .slice none 0 0] w (RV w (.bool true)))
    (hIb : ∀ w, RB w B nb g → Calls Try.prog 11 #[vv ny y, .slice B nb cb] w (RV w (.bool true)))
    (nk1 : Nat) (h1 : Nat → Bool) (ek1 : Int) (hn1 : nk1 ≤ 128) (cS : ∀ w, Calls Try.prog 12 #[vv nx x, .int .i64 (q 0), .int .i64 (q 1)] w (RV w (.tuple #[vv nk1 (valB h1 nk1), .int .i64 ek1]))) (rS : ∀ w, RB w none 0 f → Calls Try.prog 13 #[.slice none 0 0, .int .i64 (q 0), .int .i64 (q 1)] w (LB w nk1 h1 ek1))
    (nk2 : Nat) (h2 : Nat → Bool) (ek2 : Int) (hn2 : nk2 ≤ 128) (cP : ∀ w, Calls Try.prog 14 #[vv nx x, .int .i64 (q 0), vv ny y] w (RV w (.tuple #[vv nk2 (valB h2 nk2), .int .i64 ek2]))) (rP : ∀ w, RB w none 0 f → RB w B nb g → Calls Try.prog 15 #[.slice none 0 0, .int .i64 (q 0), .slice B nb cb] w (LB w nk2 h2 ek2))
    (nk3 : Nat) (h3 : Nat → Bool) (ek3 : Int) (hn3 : nk3 ≤ 128) (cC : ∀ (w : World) (b : Nat), b = w.heap.size → Calls Try.prog 16 #[.slice (some ⟨b, 0, none⟩) 3 3] (w.alloc (.cells #[.int .i64 (nx : Int), .int .u64 ((lo x : Nat) : Int), .int .u64 ((hi x : Nat) : Int), .int .i64 (ny : Int), .int .u64 ((lo y : Nat) : Int), .int .u64 ((hi y : Nat) : Int), .int .i64 (nx : Int), .int .u64 ((lo x : Nat) : Int), .int .u64 ((hi x : Nat) : Int)] 28)) (RV (w.alloc (.cells #[.int .i64 (nx : Int), .int .u64 ((lo x : Nat) : Int), .int .u64 ((hi x : Nat) : Int), .int .i64 (ny : Int), .int .u64 ((lo y : Nat) : Int), .int .u64 ((hi y : Nat) : Int), .int .i64 (nx : Int), .int .u64 ((lo x : Nat) : Int), .int .u64 ((hi x : Nat) : Int)] 28)) (.tuple #[vv nk3 (valB h3 nk3), .int .i64 ek3])))
    (rC : ∀ (w : World) (b : Nat), b = w.heap.size → RB w none 0 f → RB w B nb g → Calls Try.prog 17 #[.slice (some ⟨b, 0, none⟩) 3 3] (w.alloc (.cells #[.slice none 0 0, .slice B nb cb, .slice none 0 0] 22)) (LB (w.alloc (.cells #[.slice none 0 0, .slice B nb cb, .slice none 0 0] 22)) nk3 h3 ek3))
    (nk4 : Nat) (h4 : Nat → Bool) (ek4 : Int) (hn4 : nk4 ≤ 128) (cE : ∀ w, Calls Try.prog 18 #[vv nx x, .int .i64 (q 2), .bool false] w (RV w (.tuple #[vv nk4 (valB h4 nk4), .int .i64 ek4]))) (rE : ∀ w, RB w none 0 f → Calls Try.prog 19 #[.slice none 0 0, .int .i64 (q 2), .bool false] w (LB w nk4 h4 ek4))
    (nk5 : Nat) (h5 : Nat → Bool) (ek5 : Int) (hn5 : nk5 ≤ 128) (cF : ∀ w, Calls Try.prog 18 #[vv nx x, .int .i64 (q 2), .bool true] w (RV w (.tuple #[vv nk5 (valB h5 nk5), .int .i64 ek5]))) (rF : ∀ w, RB w none 0 f → Calls Try.prog 19 #[.slice none 0 0, .int .i64 (q 2), .bool true] w (LB w nk5 h5 ek5))
    (eb : Bool) (cQ : ∀ w, Calls Try.prog 21 #[vv nx x, vv ny y] w (RV w (.bool eb))) (rQ : ∀ w, RB w none 0 f → RB w B nb g → Calls Try.prog 22 #[.slice none 0 0, .slice B nb cb] w (RV w (.bool eb))) :
    Calls Try.prog 4 #[.slice A na0 ca, .slice B nb0 cb, .agg #[.int .i64 (q 0), .int .i64 (q 1), .int .i64 (q 2)]] w (RV w (.bool true)) := by
  have hA2 : RB w none 0 f := fun h => absurd h (by omega)
  have hB2 : RB w B nb g := hB
  obtain ⟨z, hz⟩ : ∃ z : Nat, 0 = z := ⟨_, rfl⟩
  have cZ := Lib.hid (show ∀ w, Calls Try.prog 16 #[.slice none 0 0] w (RV w (.tuple #[vv z z, .int .i64 2])) by subst hz; exact fun w => Cat_no w)
  have cW := Lib.hid (fun w => Width_v z z w)
  have zq : ((z : Int) == 0) = true := by simp; omega
  have zq2 : (z == 0) = true := by simp; omega
  clear hz
  have d1 : (128 : Int) < (na : Int) := by omega
  have d2 : ¬ (128 : Int) < (nb : Int) := by omega
  have eqe : (eb == eb) = true := by simp
  clear ha hb
  have j1 := fun w c1 A1 (h : RB w A1 nk1 h1) => Is_ok nk1 c1 A1 h1 w hn1 h
  have ee1 : (ek1 != ek1) = false := by simp
  have j2 := fun w c1 A1 (h : RB w A1 nk2 h2) => Is_ok nk2 c1 A1 h2 w hn2 h
  have ee2 : (ek2 != ek2) = false := by simp
  have j3 := fun w c1 A1 (h : RB w A1 nk3 h3) => Is_ok nk3 c1 A1 h3 w hn3 h
  have ee3 : (ek3 != ek3) = false := by simp
  have j4 := fun w c1 A1 (h : RB w A1 nk4 h4) => Is_ok nk4 c1 A1 h4 w hn4 h
  have ee4 : (ek4 != ek4) = false := by simp
  have j5 := fun w c1 A1 (h : RB w A1 nk5 h5) => Is_ok nk5 c1 A1 h5 w hn5 h
  have ee5 : (ek5 != ek5) = false := by simp
  generalize valB h1 nk1 = v1 at j1 cS
  generalize valB h2 nk2 = v2 at j2 cP
  generalize valB h3 nk3 = v3 at j3 cC
  generalize valB h4 nk4 = v4 at j4 cE
  generalize valB h5 nk5 = v5 at j5 cF
  replace hA := Lib.hid hA
  replace hB := Lib.hid hB
  replace hA2 := Lib.hid hA2
  replace hB2 := Lib.hid hB2
  replace hSa := Lib.hid hSa
  replace hSb := Lib.hid hSb
  replace hOa := Lib.hid hOa
  replace hOb := Lib.hid hOb
  replace hIa := Lib.hid hIa
  replace hIb := Lib.hid hIb
  replace cS := Lib.hid cS
  replace rS := Lib.hid rS
  replace cP := Lib.hid cP
  replace rP := Lib.hid rP
  replace cC := Lib.hid cC
  replace rC := Lib.hid rC
  replace cE := Lib.hid cE
  replace rE := Lib.hid rE
  replace cF := Lib.hid cF
  replace rF := Lib.hid rF
  replace cQ := Lib.hid cQ
  replace rQ := Lib.hid rQ
  replace j1 := Lib.hid j1
  replace j2 := Lib.hid j2
  replace j3 := Lib.hid j3
  replace j4 := Lib.hid j4
  replace j5 := Lib.hid j5
  go_enter Try.func4, Try.ntmps4
  go_wp2_with fail
  (with_reducible refine (awake_t _).mono ?_)
  rintro e w1 ⟨rfl, hb1⟩
  have hbw1 : Below w.heap.size w w1 := below_call hb1 (by go_grown)
  have z1 := hbw1.size
  have Ph' : AV q w1 (w.heap.size) 0 0 := (AV.new q w).over hb1
  have Ph := Ph'
  clear Ph'
  have Pa := Ph.all
  have Pl := Ph.lt
  clear hb1
  go_wp2_with fail
  (with_reducible refine (hSa.out _).mono ?_)
  rintro e w1 ⟨rfl, rfl⟩
  go_wp2_with fail
  (with_reducible refine (hSb.out _).mono ?_)
  rintro e w1 ⟨rfl, rfl⟩
  go_wp2_with fail
  (with_reducible refine (hOa.out _ (hA.out.keep hbw1)).mono ?_)
  rintro e w2 ⟨rfl, hb2⟩
  have hbw2 : Below w.heap.size w w2 := below_call hb2 (by go_grown)
  have z2 := hbw2.size
  have Ph' : AV q w2 (w.heap.size) 0 0 := Ph.over hb2
  clear Pa Pl Ph
  have Ph := Ph'
  clear Ph'
  have Pa := Ph.all
  have Pl := Ph.lt
  clear hb2
  go_wp2_with fail
  (with_reducible refine (hOb.out _ (hB.out.keep hbw2)).mono ?_)
  rintro e w3 ⟨rfl, hb3⟩
  have hbw3 : Below w.heap.size w w3 := below_call hb3 (by go_grown)
  have z3 := hbw3.size
  have Ph' : AV q w3 (w.heap.size) 0 0 := Ph.over hb3
  clear Pa Pl Ph
  have Ph := Ph'
  clear Ph'
  have Pa := Ph.all
  have Pl := Ph.lt
  clear hb3
  have Y0 : HV 28 ((w3.alloc (.cells (vcs nx x) 28)).alloc (.cells (vcs ny y) 28)) (w3.heap.size + 1) ny y := by
    have h := HV.new (w3.alloc (.cells (vcs nx x) 28)) 28 ny y
    rw [World.size_alloc] at h
    exact h
  go_wp2_with fail
  (with_reducible refine (cS.out _).mono ?_)
  rintro e w4 ⟨rfl, hb4⟩
  have hbw4 : Below w.heap.size w w4 := below_call hb4 (by go_grown)
  have z4 := hbw4.size
  have Ph' : AV q w4 (w.heap.size) 0 0 := ((Ph.alloc _).alloc _).over hb4
  have Xh' : HV 28 w4 (w3.heap.size) nx x := ((HV.new w3 28 nx x).alloc _).over hb4
  have Yh' : HV 28 w4 (w3.heap.size + 1) ny y := Y0.over hb4
  clear Pa Pl Ph
  have Ph := Ph'
  clear Ph'
  have Pa := Ph.all
  have Pl := Ph.lt
  have Xh := Xh'
  clear Xh'
  have Xa := Xh.all
  have Xl := Xh.lt
  have Yh := Yh'
  clear Yh'
  have Ya := Yh.all
  have Yl := Yh.lt
  clear hb4
  clear Y0
  have dX : ¬ w3.heap.size = w4.heap.size := by omega
  have dY : ¬ w3.heap.size + 1 = w4.heap.size := by omega
  have dP : ¬ w.heap.size = w4.heap.size := by omega
  go_wp2_with fail
  (with_reducible refine (rS.out _ (hA2.out.keep (by go_grown))).mono ?_)
  rintro e w5 ⟨Ak5, ck5, rfl, Rk5, hb5⟩
  have hbw5 : Below w.heap.size w w5 := below_call hb5 (by go_grown)
  have z5 := hbw5.size
  have Ph' : AV q w5 (w.heap.size) 0 0 := (Ph.alloc _).over hb5
  have Xh' : HV 28 w5 (w3.heap.size) nx x := (Xh.alloc _).over hb5
  have Yh' : HV 28 w5 (w3.heap.size + 1) ny y := (Yh.alloc _).over hb5
  have Vh' : HV 28 w5 (w4.heap.size) nk1 v1 := (HV.new w4 28 nk1 v1).over hb5
  clear Pa Pl Ph
  clear Xa Xl Xh
  clear Ya Yl Yh
  have Ph := Ph'
  clear Ph'
  have Pa := Ph.all
  have Pl := Ph.lt
  have Xh := Xh'
  clear Xh'
  have Xa := Xh.all
  have Xl := Xh.lt
  have Yh := Yh'
  clear Yh'
  have Ya := Yh.all
  have Yl := Yh.lt
  have Vh := Vh'
  clear Vh'
  have Va := Vh.all
  have Vl := Vh.lt
  clear hb5
  go_wp2_with fail
  (with_reducible refine (j1.out _ _ _ Rk5).mono ?_)
  rintro e w6 ⟨rfl, hb6⟩
  have hbw6 : Below w.heap.size w w6 := below_call hb6 (by go_grown)
  have z6 := hbw6.size
  have Ph' : AV q w6 (w.heap.size) 0 0 := Ph.over hb6
  have Xh' : HV 28 w6 (w3.heap.size) nx x := Xh.over hb6
  have Yh' : HV 28 w6 (w3.heap.size + 1) ny y := Yh.over hb6
  have Vh' : HV 28 w6 (w4.heap.size) nk1 v1 := Vh.over hb6
  clear Pa Pl Ph
  clear Xa Xl Xh
  clear Ya Yl Yh
  clear Va Vl Vh
  have Ph := Ph'
  clear Ph'
  have Pa := Ph.all
  have Pl := Ph.lt
  have Xh := Xh'
  clear Xh'
  have Xa := Xh.all
  have Xl := Xh.lt
  have Yh := Yh'
  clear Yh'
  have Ya := Yh.all
  have Yl := Yh.lt
  have Vh := Vh'
  clear Vh'
  have Va := Vh.all
  have Vl := Vh.lt
  clear hb6
  clear Rk5
  go_wp2_with fail
  (with_reducible refine (cP.out _).mono ?_)
  rintro e w7 ⟨rfl, hb7⟩
  have hbw7 : Below w.heap.size w w7 := below_call hb7 (by go_grown)
  have z7 := hbw7.size
  have Ph' : AV q w7 (w.heap.size) 0 0 := Ph.over hb7
  have Xh' : HV 28 w7 (w3.heap.size) nx x := Xh.over hb7
  have Yh' : HV 28 w7 (w3.heap.size + 1) ny y := Yh.over hb7
  have Vh' : HV 28 w7 (w4.heap.size) nk1 v1 := Vh.over hb7
  clear Pa Pl Ph
  clear Xa Xl Xh
  clear Ya Yl Yh
  clear Va Vl Vh
  have Ph := Ph'
  clear Ph'
  have Pa := Ph.all
  have Pl := Ph.lt
  have Xh := Xh'
  clear Xh'
  have Xa := Xh.all
  have Xl := Xh.lt
  have Yh := Yh'
  clear Yh'
  have Ya := Yh.all
  have Yl := Yh.lt
  have Vh := Vh'
  clear Vh'
  have Va := Vh.all
  have Vl := Vh.lt
  clear hb7
  go_wp2_with fail
  (with_reducible refine (rP.out _ (hA2.out.keep (by
    repeat' (first | (with_reducible refine Below.setCell ?_ ?_ _) | (with_reducible refine Below.alloc ?_ ?_ _))
    all_goals (first | assumption | (dsimp only; omega) | (simp; omega)))) (hB2.out.keep (by
    repeat' (first | (with_reducible refine Below.setCell ?_ ?_ _) | (with_reducible refine Below.alloc ?_ ?_ _))
    all_goals (first | assumption | (dsimp only; omega) | (simp; omega))))).mono ?_)
  rintro e w8 ⟨Ak8, ck8, rfl, Rk8, hb8⟩
  have hbw8 : Below w.heap.size w w8 := below_call hb8 (by
    repeat' (first | (with_reducible refine Below.setCell ?_ ?_ _) | (with_reducible refine Below.alloc ?_ ?_ _))
    all_goals (first | assumption | (dsimp only; omega) | (simp; omega)))
  have z8 := hbw8.size
  have Ph' : AV q w8 (w.heap.size) 0 0 := (Ph.far3 (by assumption)).over hb8
  have Xh' : HV 28 w8 (w3.heap.size) nx x := (Xh.far3 (by assumption)).over hb8
  have Yh' : HV 28 w8 (w3.heap.size + 1) ny y := (Yh.far3 (by assumption)).over hb8
  have Vh' : HV 28 w8 (w4.heap.size) nk2 v2 := (Vh.set3 nk2 v2).over hb8
  clear Pa Pl Ph
  clear Xa Xl Xh
  clear Ya Yl Yh
  clear Va Vl Vh
  have Ph := Ph'
  clear Ph'
  have Pa := Ph.all
  have Pl := Ph.lt
  have Xh := Xh'
  clear Xh'
  have Xa := Xh.all
  have Xl := Xh.lt
  have Yh := Yh'
  clear Yh'
  have Ya := Yh.all
  have Yl := Yh.lt
  have Vh := Vh'
  clear Vh'
  have Va := Vh.all
  have Vl := Vh.lt
  clear hb8
  go_wp2_with fail
  (with_reducible refine (j2.out _ _ _ Rk8).mono ?_)
  rintro e w9 ⟨rfl, hb9⟩
  have hbw9 : Below w.heap.size w w9 := below_call hb9 (by go_grown)
  have z9 := hbw9.size
  have Ph' : AV q w9 (w.heap.size) 0 0 := Ph.over hb9
  have Xh' : HV 28 w9 (w3.heap.size) nx x := Xh.over hb9
  have Yh' : HV 28 w9 (w3.heap.size + 1) ny y := Yh.over hb9
  have Vh' : HV 28 w9 (w4.heap.size) nk2 v2 := Vh.over hb9
  clear Pa Pl Ph
  clear Xa Xl Xh
  clear Ya Yl Yh
  clear Va Vl Vh
  have Ph := Ph'
  clear Ph'
  have Pa := Ph.all
  have Pl := Ph.lt
  have Xh := Xh'
  clear Xh'
  have Xa := Xh.all
  have Xl := Xh.lt
  have Yh := Yh'
  clear Yh'
  have Ya := Yh.all
  have Yl := Yh.lt
  have Vh := Vh'
  clear Vh'
  have Va := Vh.all
  have Vl := Vh.lt
  clear hb9
  clear Rk8
  go_wp2_with fail
  (with_reducible refine (cC.out _ _ (by simp)).mono ?_)
  rintro e w10 ⟨rfl, hb10⟩
  have hbw10 : Below w.heap.size w w10 := below_call hb10 (by go_grown)
  have z10 := hbw10.size
  have Ph' : AV q w10 (w.heap.size) 0 0 := (Ph.alloc _).over hb10
  have Xh' : HV 28 w10 (w3.heap.size) nx x := (Xh.alloc _).over hb10
  have Yh' : HV 28 w10 (w3.heap.size + 1) ny y := (Yh.alloc _).over hb10
  have Vh' : HV 28 w10 (w4.heap.size) nk2 v2 := (Vh.alloc _).over hb10
  clear Pa Pl Ph
  clear Xa Xl Xh
  clear Ya Yl Yh
  clear Va Vl Vh
  have Ph := Ph'
  clear Ph'
  have Pa := Ph.all
  have Pl := Ph.lt
  have Xh := Xh'
  clear Xh'
  have Xa := Xh.all
  have Xl := Xh.lt
  have Yh := Yh'
  clear Yh'
  have Ya := Yh.all
  have Yl := Yh.lt
  have Vh := Vh'
  clear Vh'
  have Va := Vh.all
  have Vl := Vh.lt
  clear hb10
  go_wp2_with fail
  (with_reducible refine (rC.out _ _ (by simp) (hA2.out.keep (by
    repeat' (first | (with_reducible refine Below.setCell ?_ ?_ _) | (with_reducible refine Below.alloc ?_ ?_ _))
    all_goals (first | assumption | (dsimp only; omega) | (simp; omega)))) (hB2.out.keep (by
    repeat' (first | (with_reducible refine Below.setCell ?_ ?_ _) | (with_reducible refine Below.alloc ?_ ?_ _))
    all_goals (first | assumption | (dsimp only; omega) | (simp; omega))))).mono ?_)
  rintro e w11 ⟨Ak11, ck11, rfl, Rk11, hb11⟩
  have hbw11 : Below w.heap.size w w11 := below_call hb11 (by
    repeat' (first | (with_reducible refine Below.setCell ?_ ?_ _) | (with_reducible refine Below.alloc ?_ ?_ _))
    all_goals (first | assumption | (dsimp only; omega) | (simp; omega)))
  have z11 := hbw11.size
  have Ph' : AV q w11 (w.heap.size) 0 0 := ((Ph.far3 (by assumption)).alloc _).over hb11
  have Xh' : HV 28 w11 (w3.heap.size) nx x := ((Xh.far3 (by assumption)).alloc _).over hb11
  have Yh' : HV 28 w11 (w3.heap.size + 1) ny y := ((Yh.far3 (by assumption)).alloc _).over hb11
  have Vh' : HV 28 w11 (w4.heap.size) nk3 v3 := ((Vh.set3 nk3 v3).alloc _).over hb11
  clear Pa Pl Ph
  clear Xa Xl Xh
  clear Ya Yl Yh
  clear Va Vl Vh
  have Ph := Ph'
  clear Ph'
  have Pa := Ph.all
  have Pl := Ph.lt
  have Xh := Xh'
  clear Xh'
  have Xa := Xh.all
  have Xl := Xh.lt
  have Yh := Yh'
  clear Yh'
  have Ya := Yh.all
  have Yl := Yh.lt
  have Vh := Vh'
  clear Vh'
  have Va := Vh.all
  have Vl := Vh.lt
  clear hb11
  go_wp2_with fail
  (with_reducible refine (j3.out _ _ _ Rk11).mono ?_)
  rintro e w12 ⟨rfl, hb12⟩
  have hbw12 : Below w.heap.size w w12 := below_call hb12 (by go_grown)
  have z12 := hbw12.size
  have Ph' : AV q w12 (w.heap.size) 0 0 := Ph.over hb12
  have Xh' : HV 28 w12 (w3.heap.size) nx x := Xh.over hb12
  have Yh' : HV 28 w12 (w3.heap.size + 1) ny y := Yh.over hb12
  have Vh' : HV 28 w12 (w4.heap.size) nk3 v3 := Vh.over hb12
  clear Pa Pl Ph
  clear Xa Xl Xh
  clear Ya Yl Yh
  clear Va Vl Vh
  have Ph := Ph'
  clear Ph'
  have Pa := Ph.all
  have Pl := Ph.lt
  have Xh := Xh'
  clear Xh'
  have Xa := Xh.all
  have Xl := Xh.lt
  have Yh := Yh'
  clear Yh'
  have Ya := Yh.all
  have Yl := Yh.lt
  have Vh := Vh'
  clear Vh'
  have Va := Vh.all
  have Vl := Vh.lt
  clear hb12
  clear Rk11
  have dV : ¬ w12.heap.size = w4.heap.size := by omega
  go_wp2_with fail
  refine wp_loop_rounds 3 ?_
  rw [rounds_succ]
  have L0 := (TV.new w12).all
  go_wp2_with fail
  (with_reducible refine (cE.out _).mono ?_)
  rintro e w13 ⟨rfl, hb13⟩
  have hbw13 : Below w.heap.size w w13 := below_call hb13 (by go_grown)
  have z13 := hbw13.size
  have Ph' : AV q w13 (w.heap.size) 0 0 := (Ph.alloc _).over hb13
  have Xh' : HV 28 w13 (w3.heap.size) nx x := (Xh.alloc _).over hb13
  have Yh' : HV 28 w13 (w3.heap.size + 1) ny y := (Yh.alloc _).over hb13
  have Vh' : HV 28 w13 (w4.heap.size) nk3 v3 := (Vh.alloc _).over hb13
  have Lh' : TV w13 (w12.heap.size) 0 0 := (TV.new w12).over hb13
  clear Pa Pl Ph
  clear Xa Xl Xh
  clear Ya Yl Yh
  clear Va Vl Vh
  have Ph := Ph'
  clear Ph'
  have Pa := Ph.all
  have Pl := Ph.lt
  have Xh := Xh'
  clear Xh'
  have Xa := Xh.all
  have Xl := Xh.lt
  have Yh := Yh'
  clear Yh'
  have Ya := Yh.all
  have Yl := Yh.lt
  have Vh := Vh'
  clear Vh'
  have Va := Vh.all
  have Vl := Vh.lt
  have Lh := Lh'
  clear Lh'
  have La := Lh.all
  have Ll := Lh.lt
  clear hb13
  clear L0
  go_wp2_with fail
  (with_reducible refine (rE.out _ (hA2.out.keep (by
    repeat' (first | (with_reducible refine Below.setCell ?_ ?_ _) | (with_reducible refine Below.alloc ?_ ?_ _))
    all_goals (first | assumption | (dsimp only; omega) | (simp; omega))))).mono ?_)
  rintro e w14 ⟨Ak14, ck14, rfl, Rk14, hb14⟩
  have hbw14 : Below w.heap.size w w14 := below_call hb14 (by
    repeat' (first | (with_reducible refine Below.setCell ?_ ?_ _) | (with_reducible refine Below.alloc ?_ ?_ _))
    all_goals (first | assumption | (dsimp only; omega) | (simp; omega)))
  have z14 := hbw14.size
  have Ph' : AV q w14 (w.heap.size) 0 0 := (Ph.far3 (by assumption)).over hb14
  have Xh' : HV 28 w14 (w3.heap.size) nx x := (Xh.far3 (by assumption)).over hb14
  have Yh' : HV 28 w14 (w3.heap.size + 1) ny y := (Yh.far3 (by assumption)).over hb14
  have Vh' : HV 28 w14 (w4.heap.size) nk4 v4 := (Vh.set3 nk4 v4).over hb14
  have Lh' : TV w14 (w12.heap.size) 0 0 := (Lh.far3 (by assumption)).over hb14
  clear Pa Pl Ph
  clear Xa Xl Xh
  clear Ya Yl Yh
  clear Va Vl Vh
  clear La Ll Lh
  have Ph := Ph'
  clear Ph'
  have Pa := Ph.all
  have Pl := Ph.lt
  have Xh := Xh'
  clear Xh'
  have Xa := Xh.all
  have Xl := Xh.lt
  have Yh := Yh'
  clear Yh'
  have Ya := Yh.all
  have Yl := Yh.lt
  have Vh := Vh'
  clear Vh'
  have Va := Vh.all
  have Vl := Vh.lt
  have Lh := Lh'
  clear Lh'
  have La := Lh.all
  have Ll := Lh.lt
  clear hb14
  go_wp2_with fail
  (with_reducible refine (j4.out _ _ _ Rk14).mono ?_)
  rintro e w15 ⟨rfl, hb15⟩
  have hbw15 : Below w.heap.size w w15 := below_call hb15 (by go_grown)
  have z15 := hbw15.size
  have Ph' : AV q w15 (w.heap.size) 0 0 := Ph.over hb15
  have Xh' : HV 28 w15 (w3.heap.size) nx x := Xh.over hb15
  have Yh' : HV 28 w15 (w3.heap.size + 1) ny y := Yh.over hb15
  have Vh' : HV 28 w15 (w4.heap.size) nk4 v4 := Vh.over hb15
  have Lh' : TV w15 (w12.heap.size) 0 0 := Lh.over hb15
  clear Pa Pl Ph
  clear Xa Xl Xh
  clear Ya Yl Yh
  clear Va Vl Vh
  clear La Ll Lh
  have Ph := Ph'
  clear Ph'
  have Pa := Ph.all
  have Pl := Ph.lt
  have Xh := Xh'
  clear Xh'
  have Xa := Xh.all
  have Xl := Xh.lt
  have Yh := Yh'
  clear Yh'
  have Ya := Yh.all
  have Yl := Yh.lt
  have Vh := Vh'
  clear Vh'
  have Va := Vh.all
  have Vl := Vh.lt
  have Lh := Lh'
  clear Lh'
  have La := Lh.all
  have Ll := Lh.lt
  clear hb15
  clear Rk14
  go_wp2_with fail
  rw [rounds_succ]
  go_wp2_with fail
  (with_reducible refine (cF.out _).mono ?_)
  rintro e w16 ⟨rfl, hb16⟩
  have hbw16 : Below w.heap.size w w16 := below_call hb16 (by go_grown)
  have z16 := hbw16.size
  have Ph' : AV q w16 (w.heap.size) 0 0 := Ph.over hb16
  have Xh' : HV 28 w16 (w3.heap.size) nx x := Xh.over hb16
  have Yh' : HV 28 w16 (w3.heap.size + 1) ny y := Yh.over hb16
  have Vh' : HV 28 w16 (w4.heap.size) nk4 v4 := Vh.over hb16
  have Lh' : TV w16 (w12.heap.size) 0 0 := Lh.over hb16
  clear Pa Pl Ph
  clear Xa Xl Xh
  clear Ya Yl Yh
  clear Va Vl Vh
  clear La Ll Lh
  have Ph := Ph'
  clear Ph'
  have Pa := Ph.all
  have Pl := Ph.lt
  have Xh := Xh'
  clear Xh'
  have Xa := Xh.all
  have Xl := Xh.lt
  have Yh := Yh'
  clear Yh'
  have Ya := Yh.all
  have Yl := Yh.lt
  have Vh := Vh'
  clear Vh'
  have Va := Vh.all
  have Vl := Vh.lt
  have Lh := Lh'
  clear Lh'
  have La := Lh.all
  have Ll := Lh.lt
  clear hb16
  go_wp2_with fail
  (with_reducible refine (rF.out _ (hA2.out.keep (by
    repeat' (first | (with_reducible refine Below.setCell ?_ ?_ _) | (with_reducible refine Below.alloc ?_ ?_ _))
    all_goals (first | assumption | (dsimp only; omega) | (simp; omega))))).mono ?_)
  rintro e w17 ⟨Ak17, ck17, rfl, Rk17, hb17⟩
  have hbw17 : Below w.heap.size w w17 := below_call hb17 (by
    repeat' (first | (with_reducible refine Below.setCell ?_ ?_ _) | (with_reducible refine Below.alloc ?_ ?_ _))
    all_goals (first | assumption | (dsimp only; omega) | (simp; omega)))
  have z17 := hbw17.size
  have Ph' : AV q w17 (w.heap.size) 0 0 := (Ph.far3 (by assumption)).over hb17
  have Xh' : HV 28 w17 (w3.heap.size) nx x := (Xh.far3 (by assumption)).over hb17
  have Yh' : HV 28 w17 (w3.heap.size + 1) ny y := (Yh.far3 (by assumption)).over hb17
  have Vh' : HV 28 w17 (w4.heap.size) nk5 v5 := (Vh.set3 nk5 v5).over hb17
  have Lh' : TV w17 (w12.heap.size) 0 0 := (Lh.far3 (by assumption)).over hb17
  clear Pa Pl Ph
  clear Xa Xl Xh
  clear Ya Yl Yh
  clear Va Vl Vh
  clear La Ll Lh
  have Ph := Ph'
  clear Ph'
  have Pa := Ph.all
  have Pl := Ph.lt
  have Xh := Xh'
  clear Xh'
  have Xa := Xh.all
  have Xl := Xh.lt
  have Yh := Yh'
  clear Yh'
  have Ya := Yh.all
  have Yl := Yh.lt
  have Vh := Vh'
  clear Vh'
  have Va := Vh.all
  have Vl := Vh.lt
  have Lh := Lh'
  clear Lh'
  have La := Lh.all
  have Ll := Lh.lt
  clear hb17
  go_wp2_with fail
  (with_reducible refine (j5.out _ _ _ Rk17).mono ?_)
  rintro e w18 ⟨rfl, hb18⟩
  have hbw18 : Below w.heap.size w w18 := below_call hb18 (by go_grown)
  have z18 := hbw18.size
  have Ph' : AV q w18 (w.heap.size) 0 0 := Ph.over hb18
  have Xh' : HV 28 w18 (w3.heap.size) nx x := Xh.over hb18
  have Yh' : HV 28 w18 (w3.heap.size + 1) ny y := Yh.over hb18
  have Vh' : HV 28 w18 (w4.heap.size) nk5 v5 := Vh.over hb18
  have Lh' : TV w18 (w12.heap.size) 0 0 := Lh.over hb18
  clear Pa Pl Ph
  clear Xa Xl Xh
  clear Ya Yl Yh
  clear Va Vl Vh
  clear La Ll Lh
  have Ph := Ph'
  clear Ph'
  have Pa := Ph.all
  have Pl := Ph.lt
  have Xh := Xh'
  clear Xh'
  have Xa := Xh.all
  have Xl := Xh.lt
  have Yh := Yh'
  clear Yh'
  have Ya := Yh.all
  have Yl := Yh.lt
  have Vh := Vh'
  clear Vh'
  have Va := Vh.all
  have Vl := Vh.lt
  have Lh := Lh'
  clear Lh'
  have La := Lh.all
  have Ll := Lh.lt
  clear hb18
  clear Rk17
  go_wp2_with fail
  rw [rounds_succ]
  clear La Ll Lh
  clear Pa Pl Ph
  go_wp2_with fail
  (with_reducible refine (cZ.out _).mono ?_)
  rintro e w19 ⟨rfl, hb19⟩
  have hbw19 : Below w.heap.size w w19 := below_call hb19 (by go_grown)
  have z19 := hbw19.size
  have Xh' : HV 28 w19 (w3.heap.size) nx x := Xh.over hb19
  have Yh' : HV 28 w19 (w3.heap.size + 1) ny y := Yh.over hb19
  have Vh' : HV 28 w19 (w4.heap.size) nk5 v5 := Vh.over hb19
  clear Xa Xl Xh
  clear Ya Yl Yh
  clear Va Vl Vh
  have Xh := Xh'
  clear Xh'
  have Xa := Xh.all
  have Xl := Xh.lt
  have Yh := Yh'
  clear Yh'
  have Ya := Yh.all
  have Yl := Yh.lt
  have Vh := Vh'
  clear Vh'
  have Va := Vh.all
  have Vl := Vh.lt
  clear hb19
  go_wp2_with fail
  (with_reducible refine (cW.out _).mono ?_)
  rintro e w20 ⟨rfl, hb20⟩
  have hbw20 : Below w.heap.size w w20 := below_call hb20 (by
    repeat' (first | (with_reducible refine Below.setCell ?_ ?_ _) | (with_reducible refine Below.alloc ?_ ?_ _))
    all_goals (first | assumption | (dsimp only; omega) | (simp; omega)))
  have z20 := hbw20.size
  have Xh' : HV 28 w20 (w3.heap.size) nx x := (Xh.far3 (by assumption)).over hb20
  have Yh' : HV 28 w20 (w3.heap.size + 1) ny y := (Yh.far3 (by assumption)).over hb20
  have Vh' : HV 28 w20 (w4.heap.size) z z := (Vh.set3 z z).over hb20
  clear Xa Xl Xh
  clear Ya Yl Yh
  clear Va Vl Vh
  have Xh := Xh'
  clear Xh'
  have Xa := Xh.all
  have Xl := Xh.lt
  have Yh := Yh'
  clear Yh'
  have Ya := Yh.all
  have Yl := Yh.lt
  have Vh := Vh'
  clear Vh'
  have Va := Vh.all
  have Vl := Vh.lt
  clear hb20
  clear Va Vl Vh
  go_wp2_with fail
  (with_reducible refine (hIa.out _ (hA2.out.keep hbw20)).mono ?_)
  rintro e w21 ⟨rfl, hb21⟩
  have hbw21 : Below w.heap.size w w21 := below_call hb21 (by go_grown)
  have z21 := hbw21.size
  have Xh' : HV 28 w21 (w3.heap.size) nx x := Xh.over hb21
  have Yh' : HV 28 w21 (w3.heap.size + 1) ny y := Yh.over hb21
  clear Xa Xl Xh
  clear Ya Yl Yh
  have Xh := Xh'
  clear Xh'
  have Xa := Xh.all
  have Xl := Xh.lt
  have Yh := Yh'
  clear Yh'
  have Ya := Yh.all
  have Yl := Yh.lt
  clear hb21
  go_wp2_with fail
  (with_reducible refine (hIb.out _ (hB2.out.keep hbw21)).mono ?_)
  rintro e w22 ⟨rfl, hb22⟩
  have hbw22 : Below w.heap.size w w22 := below_call hb22 (by go_grown)
  have z22 := hbw22.size
  have Xh' : HV 28 w22 (w3.heap.size) nx x := Xh.over hb22
  have Yh' : HV 28 w22 (w3.heap.size + 1) ny y := Yh.over hb22
  clear Xa Xl Xh
  clear Ya Yl Yh
  have Xh := Xh'
  clear Xh'
  have Xa := Xh.all
  have Xl := Xh.lt
  have Yh := Yh'
  clear Yh'
  have Ya := Yh.all
  have Yl := Yh.lt
  clear hb22
  go_wp2_with fail
  (with_reducible refine (cQ.out _).mono ?_)
  rintro e w23 ⟨rfl, hb23⟩
  have hbw23 : Below w.heap.size w w23 := below_call hb23 (by go_grown)
  have z23 := hbw23.size
  have Xh' : HV 28 w23 (w3.heap.size) nx x := Xh.over hb23
  have Yh' : HV 28 w23 (w3.heap.size + 1) ny y := Yh.over hb23
  clear Xa Xl Xh
  clear Ya Yl Yh
  have Xh := Xh'
  clear Xh'
  have Xa := Xh.all
  have Xl := Xh.lt
  have Yh := Yh'
  clear Yh'
  have Ya := Yh.all
  have Yl := Yh.lt
  clear hb23
  go_wp2_with fail
  (with_reducible refine (rQ.out _ (hA2.out.keep hbw23) (hB2.out.keep hbw23)).mono ?_)
  rintro e w24 ⟨rfl, hb24⟩
  have hbw24 : Below w.heap.size w w24 := below_call hb24 (by go_grown)
  have z24 := hbw24.size
  have Xh' : HV 28 w24 (w3.heap.size) nx x := Xh.over hb24
  have Yh' : HV 28 w24 (w3.heap.size + 1) ny y := Yh.over hb24
  clear Xa Xl Xh
  clear Ya Yl Yh
  have Xh := Xh'
  clear Xh'
  have Xa := Xh.all
  have Xl := Xh.lt
  have Yh := Yh'
  clear Yh'
  have Ya := Yh.all
  have Yl := Yh.lt
  clear hb24
  go_wp2_with fail
  go_ret
  exact ⟨rfl, hbw24⟩
set_option maxRecDepth 1000000 in
set_option maxHeartbeats 8000000 in
theorem Parts_ll (na0 nb0 na nb ca cb nx ny x y : Nat) (q : Nat → Int) (A B : Option Addr) (f g : Nat → Bool) (w : World) (ha : 128 < na) (hb : 128 < nb) (hA : RB w A na f) (hB : RB w B nb g)
    (hSa : ∀ w, Calls Try.prog 7 #[.slice A na0 ca] w fun e w' => e = .returned (.slice A na ca) ∧ w' = w)
    (hSb : ∀ w, Calls Try.prog 7 #[.slice B nb0 cb] w fun e w' => e = .returned (.slice B nb cb) ∧ w' = w)
    (hOa : ∀ w, RB w A na f → Calls Try.prog 8 #[.slice A na ca] w (RV w (vv nx x)))
    (hOb : ∀ w, RB w B nb g → Calls Try.prog 8 #[.slice B nb cb] w (RV w (vv ny y)))
    (hIa : ∀ w, RB w none 0 f → Calls Try.prog 11 #[vv nx x, .slice none 0 0] w (RV w (.bool true)))
    (hIb : ∀ w, RB w none 0 g → Calls Try.prog 11 #[vv ny y, .slice none 0 0] w (RV w (.bool true)))
    (nk1 : Nat) (h1 : Nat → Bool) (ek1 : Int) (hn1 : nk1 ≤ 128) (cS : ∀ w, Calls Try.prog 12 #[vv nx x, .int .i64 (q 0), .int .i64 (q 1)] w (RV w (.tuple #[vv nk1 (valB h1 nk1), .int .i64 ek1]))) (rS : ∀ w, RB w none 0 f → Calls Try.prog 13 #[.slice none 0 0, .int .i64 (q 0), .int .i64 (q 1)] w (LB w nk1 h1 ek1))
    (nk2 : Nat) (h2 : Nat → Bool) (ek2 : Int) (hn2 : nk2 ≤ 128) (cP : ∀ w, Calls Try.prog 14 #[vv nx x, .int .i64 (q 0), vv ny y] w (RV w (.tuple #[vv nk2 (valB h2 nk2), .int .i64 ek2]))) (rP : ∀ w, RB w none 0 f → RB w none 0 g → Calls Try.prog 15 #[.slice none 0 0, .int .i64 (q 0), .slice none 0 0] w (LB w nk2 h2 ek2))
    (nk3 : Nat) (h3 : Nat → Bool) (ek3 : Int) (hn3 : nk3 ≤ 128) (cC : ∀ (w : World) (b : Nat), b = w.heap.size → Calls Try.prog 16 #[.slice (some ⟨b, 0, none⟩) 3 3] (w.alloc (.cells #[.int .i64 (nx : Int), .int .u64 ((lo x : Nat) : Int), .int .u64 ((hi x : Nat) : Int), .int .i64 (ny : Int), .int .u64 ((lo y : Nat) : Int), .int .u64 ((hi y : Nat) : Int), .int .i64 (nx : Int), .int .u64 ((lo x : Nat) : Int), .int .u64 ((hi x : Nat) : Int)] 28)) (RV (w.alloc (.cells #[.int .i64 (nx : Int), .int .u64 ((lo x : Nat) : Int), .int .u64 ((hi x : Nat) : Int), .int .i64 (ny : Int), .int .u64 ((lo y : Nat) : Int), .int .u64 ((hi y : Nat) : Int), .int .i64 (nx : Int), .int .u64 ((lo x : Nat) : Int), .int .u64 ((hi x : Nat) : Int)] 28)) (.tuple #[vv nk3 (valB h3 nk3), .int .i64 ek3])))
    (rC : ∀ (w : World) (b : Nat), b = w.heap.size → RB w none 0 f → RB w none 0 g → Calls Try.prog 17 #[.slice (some ⟨b, 0, none⟩) 3 3] (w.alloc (.cells #[.slice none 0 0, .slice none 0 0, .slice none 0 0] 22)) (LB (w.alloc (.cells #[.slice none 0 0, .slice none 0 0, .slice none 0 0] 22)) nk3 h3 ek3))
    (nk4 : Nat) (h4 : Nat → Bool) (ek4 : Int) (hn4 : nk4 ≤ 128) (cE : ∀ w, Calls Try.prog 18 #[vv nx x, .int .i64 (q 2), .bool false] w (RV w (.tuple #[vv nk4 (valB h4 nk4), .int .i64 ek4]))) (rE : ∀ w, RB w none 0 f → Calls Try.prog 19 #[.slice none 0 0, .int .i64 (q 2), .bool false] w (LB w nk4 h4 ek4))
    (nk5 : Nat) (h5 : Nat → Bool) (ek5 : Int) (hn5 : nk5 ≤ 128) (cF : ∀ w, Calls Try.prog 18 #[vv nx x, .int .i64 (q 2), .bool true] w (RV w (.tuple #[vv nk5 (valB h5 nk5), .int .i64 ek5]))) (rF : ∀ w, RB w none 0 f → Calls Try.prog 19 #[.slice none 0 0, .int .i64 (q 2), .bool true] w (LB w nk5 h5 ek5))
    (eb : Bool) (cQ : ∀ w, Calls Try.prog 21 #[vv nx x, vv ny y] w (RV w (.bool eb))) (rQ : ∀ w, RB w none 0 f → RB w none 0 g → Calls Try.prog 22 #[.slice none 0 0, .slice none 0 0] w (RV w (.bool eb))) :
    Calls Try.prog 4 #[.slice A na0 ca, .slice B nb0 cb, .agg #[.int .i64 (q 0), .int .i64 (q 1), .int .i64 (q 2)]] w (RV w (.bool true)) := by
  have hA2 : RB w none 0 f := fun h => absurd h (by omega)
  have hB2 : RB w none 0 g := fun h => absurd h (by omega)
  obtain ⟨z, hz⟩ : ∃ z : Nat, 0 = z := ⟨_, rfl⟩
  have cZ := Lib.hid (show ∀ w, Calls Try.prog 16 #[.slice none 0 0] w (RV w (.tuple #[vv z z, .int .i64 2])) by subst hz; exact fun w => Cat_no w)
  have cW := Lib.hid (fun w => Width_v z z w)
  have zq : ((z : Int) == 0) = true := by simp; omega
  have zq2 : (z == 0) = true := by simp; omega
  clear hz
  have d1 : (128 : Int) < (na : Int) := by omega
  have d2 : (128 : Int) < (nb : Int) := by omega
  have eqe : (eb == eb) = true := by simp
  clear ha hb
  have j1 := fun w c1 A1 (h : RB w A1 nk1 h1) => Is_ok nk1 c1 A1 h1 w hn1 h
  have ee1 : (ek1 != ek1) = false := by simp
  have j2 := fun w c1 A1 (h : RB w A1 nk2 h2) => Is_ok nk2 c1 A1 h2 w hn2 h
  have ee2 : (ek2 != ek2) = false := by simp
  have j3 := fun w c1 A1 (h : RB w A1 nk3 h3) => Is_ok nk3 c1 A1 h3 w hn3 h
  have ee3 : (ek3 != ek3) = false := by simp
  have j4 := fun w c1 A1 (h : RB w A1 nk4 h4) => Is_ok nk4 c1 A1 h4 w hn4 h
  have ee4 : (ek4 != ek4) = false := by simp
  have j5 := fun w c1 A1 (h : RB w A1 nk5 h5) => Is_ok nk5 c1 A1 h5 w hn5 h
  have ee5 : (ek5 != ek5) = false := by simp
  generalize valB h1 nk1 = v1 at j1 cS
  generalize valB h2 nk2 = v2 at j2 cP
  generalize valB h3 nk3 = v3 at j3 cC
  generalize valB h4 nk4 = v4 at j4 cE
  generalize valB h5 nk5 = v5 at j5 cF
  replace hA := Lib.hid hA
  replace hB := Lib.hid hB
  replace hA2 := Lib.hid hA2
  replace hB2 := Lib.hid hB2
  replace hSa := Lib.hid hSa
  replace hSb := Lib.hid hSb
  replace hOa := Lib.hid hOa
  replace hOb := Lib.hid hOb
  replace hIa := Lib.hid hIa
  replace hIb := Lib.hid hIb
  replace cS := Lib.hid cS
  replace rS := Lib.hid rS
  replace cP := Lib.hid cP
  replace rP := Lib.hid rP
  replace cC := Lib.hid cC
  replace rC := Lib.hid rC
  replace cE := Lib.hid cE
  replace rE := Lib.hid rE
  replace cF := Lib.hid cF
  replace rF := Lib.hid rF
  replace cQ := Lib.hid cQ
  replace rQ := Lib.hid rQ
  replace j1 := Lib.hid j1
  replace j2 := Lib.hid j2
  replace j3 := Lib.hid j3
  replace j4 := Lib.hid j4
  replace j5 := Lib.hid j5
  go_enter Try.func4, Try.ntmps4
  go_wp2_with fail
  (with_reducible refine (awake_t _).mono ?_)
  rintro e w1 ⟨rfl, hb1⟩
  have hbw1 : Below w.heap.size w w1 := below_call hb1 (by go_grown)
  have z1 := hbw1.size
  have Ph' : AV q w1 (w.heap.size) 0 0 := (AV.new q w).over hb1
  have Ph := Ph'
  clear Ph'
  have Pa := Ph.all
  have Pl := Ph.lt
  clear hb1
  go_wp2_with fail
  (with_reducible refine (hSa.out _).mono ?_)
  rintro e w1 ⟨rfl, rfl⟩
  go_wp2_with fail
  (with_reducible refine (hSb.out _).mono ?_)
  rintro e w1 ⟨rfl, rfl⟩
  go_wp2_with fail
  (with_reducible refine (hOa.out _ (hA.out.keep hbw1)).mono ?_)
  rintro e w2 ⟨rfl, hb2⟩
  have hbw2 : Below w.heap.size w w2 := below_call hb2 (by go_grown)
  have z2 := hbw2.size
  have Ph' : AV q w2 (w.heap.size) 0 0 := Ph.over hb2
  clear Pa Pl Ph
  have Ph := Ph'
  clear Ph'
  have Pa := Ph.all
  have Pl := Ph.lt
  clear hb2
  go_wp2_with fail
  (with_reducible refine (hOb.out _ (hB.out.keep hbw2)).mono ?_)
  rintro e w3 ⟨rfl, hb3⟩
  have hbw3 : Below w.heap.size w w3 := below_call hb3 (by go_grown)
  have z3 := hbw3.size
  have Ph' : AV q w3 (w.heap.size) 0 0 := Ph.over hb3
  clear Pa Pl Ph
  have Ph := Ph'
  clear Ph'
  have Pa := Ph.all
  have Pl := Ph.lt
  clear hb3
  have Y0 : HV 28 ((w3.alloc (.cells (vcs nx x) 28)).alloc (.cells (vcs ny y) 28)) (w3.heap.size + 1) ny y := by
    have h := HV.new (w3.alloc (.cells (vcs nx x) 28)) 28 ny y
    rw [World.size_alloc] at h
    exact h
  go_wp2_with fail
  (with_reducible refine (cS.out _).mono ?_)
  rintro e w4 ⟨rfl, hb4⟩
  have hbw4 : Below w.heap.size w w4 := below_call hb4 (by go_grown)
  have z4 := hbw4.size
  have Ph' : AV q w4 (w.heap.size) 0 0 := ((Ph.alloc _).alloc _).over hb4
  have Xh' : HV 28 w4 (w3.heap.size) nx x := ((HV.new w3 28 nx x).alloc _).over hb4
  have Yh' : HV 28 w4 (w3.heap.size + 1) ny y := Y0.over hb4
  clear Pa Pl Ph
  have Ph := Ph'
  clear Ph'
  have Pa := Ph.all
  have Pl := Ph.lt
  have Xh := Xh'
  clear Xh'
  have Xa := Xh.all
  have Xl := Xh.lt
  have Yh := Yh'
  clear Yh'
  have Ya := Yh.all
  have Yl := Yh.lt
  clear hb4
  clear Y0
  have dX : ¬ w3.heap.size = w4.heap.size := by omega
  have dY : ¬ w3.heap.size + 1 = w4.heap.size := by omega
  have dP : ¬ w.heap.size = w4.heap.size := by omega
  go_wp2_with fail
  (with_reducible refine (rS.out _ (hA2.out.keep (by go_grown))).mono ?_)
  rintro e w5 ⟨Ak5, ck5, rfl, Rk5, hb5⟩
  have hbw5 : Below w.heap.size w w5 := below_call hb5 (by go_grown)
  have z5 := hbw5.size
  have Ph' : AV q w5 (w.heap.size) 0 0 := (Ph.alloc _).over hb5
  have Xh' : HV 28 w5 (w3.heap.size) nx x := (Xh.alloc _).over hb5
  have Yh' : HV 28 w5 (w3.heap.size + 1) ny y := (Yh.alloc _).over hb5
  have Vh' : HV 28 w5 (w4.heap.size) nk1 v1 := (HV.new w4 28 nk1 v1).over hb5
  clear Pa Pl Ph
  clear Xa Xl Xh
  clear Ya Yl Yh
  have Ph := Ph'
  clear Ph'
  have Pa := Ph.all
  have Pl := Ph.lt
  have Xh := Xh'
  clear Xh'
  have Xa := Xh.all
  have Xl := Xh.lt
  have Yh := Yh'
  clear Yh'
  have Ya := Yh.all
  have Yl := Yh.lt
  have Vh := Vh'
  clear Vh'
  have Va := Vh.all
  have Vl := Vh.lt
  clear hb5
  go_wp2_with fail
  (with_reducible refine (j1.out _ _ _ Rk5).mono ?_)
  rintro e w6 ⟨rfl, hb6⟩
  have hbw6 : Below w.heap.size w w6 := below_call hb6 (by go_grown)
  have z6 := hbw6.size
  have Ph' : AV q w6 (w.heap.size) 0 0 := Ph.over hb6
  have Xh' : HV 28 w6 (w3.heap.size) nx x := Xh.over hb6
  have Yh' : HV 28 w6 (w3.heap.size + 1) ny y := Yh.over hb6
  have Vh' : HV 28 w6 (w4.heap.size) nk1 v1 := Vh.over hb6
  clear Pa Pl Ph
  clear Xa Xl Xh
  clear Ya Yl Yh
  clear Va Vl Vh
  have Ph := Ph'
  clear Ph'
  have Pa := Ph.all
  have Pl := Ph.lt
  have Xh := Xh'
  clear Xh'
  have Xa := Xh.all
  have Xl := Xh.lt
  have Yh := Yh'
  clear Yh'
  have Ya := Yh.all
  have Yl := Yh.lt
  have Vh := Vh'
  clear Vh'
  have Va := Vh.all
  have Vl := Vh.lt
  clear hb6
  clear Rk5
  go_wp2_with fail
  (with_reducible refine (cP.out _).mono ?_)
  rintro e w7 ⟨rfl, hb7⟩
  have hbw7 : Below w.heap.size w w7 := below_call hb7 (by go_grown)
  have z7 := hbw7.size
  have Ph' : AV q w7 (w.heap.size) 0 0 := Ph.over hb7
  have Xh' : HV 28 w7 (w3.heap.size) nx x := Xh.over hb7
  have Yh' : HV 28 w7 (w3.heap.size + 1) ny y := Yh.over hb7
  have Vh' : HV 28 w7 (w4.heap.size) nk1 v1 := Vh.over hb7
  clear Pa Pl Ph
  clear Xa Xl Xh
  clear Ya Yl Yh
  clear Va Vl Vh
  have Ph := Ph'
  clear Ph'
  have Pa := Ph.all
  have Pl := Ph.lt
  have Xh := Xh'
  clear Xh'
  have Xa := Xh.all
  have Xl := Xh.lt
  have Yh := Yh'
  clear Yh'
  have Ya := Yh.all
  have Yl := Yh.lt
  have Vh := Vh'
  clear Vh'
  have Va := Vh.all
  have Vl := Vh.lt
  clear hb7
  go_wp2_with fail
  (with_reducible refine (rP.out _ (hA2.out.keep (by
    repeat' (first | (with_reducible refine Below.setCell ?_ ?_ _) | (with_reducible refine Below.alloc ?_ ?_ _))
    all_goals (first | assumption | (dsimp only; omega) | (simp; omega)))) (hB2.out.keep (by
    repeat' (first | (with_reducible refine Below.setCell ?_ ?_ _) | (with_reducible refine Below.alloc ?_ ?_ _))
    all_goals (first | assumption | (dsimp only; omega) | (simp; omega))))).mono ?_)
  rintro e w8 ⟨Ak8, ck8, rfl, Rk8, hb8⟩
  have hbw8 : Below w.heap.size w w8 := below_call hb8 (by
    repeat' (first | (with_reducible refine Below.setCell ?_ ?_ _) | (with_reducible refine Below.alloc ?_ ?_ _))
    all_goals (first | assumption | (dsimp only; omega) | (simp; omega)))
  have z8 := hbw8.size
  have Ph' : AV q w8 (w.heap.size) 0 0 := (Ph.far3 (by assumption)).over hb8
  have Xh' : HV 28 w8 (w3.heap.size) nx x := (Xh.far3 (by assumption)).over hb8
  have Yh' : HV 28 w8 (w3.heap.size + 1) ny y := (Yh.far3 (by assumption)).over hb8
  have Vh' : HV 28 w8 (w4.heap.size) nk2 v2 := (Vh.set3 nk2 v2).over hb8
  clear Pa Pl Ph
  clear Xa Xl Xh
  clear Ya Yl Yh
  clear Va Vl Vh
  have Ph := Ph'
  clear Ph'
  have Pa := Ph.all
  have Pl := Ph.lt
  have Xh := Xh'
  clear Xh'
  have Xa := Xh.all
  have Xl := Xh.lt
  have Yh := Yh'
  clear Yh'
  have Ya := Yh.all
  have Yl := Yh.lt
  have Vh := Vh'
  clear Vh'
  have Va := Vh.all
  have Vl := Vh.lt
  clear hb8
  go_wp2_with fail
  (with_reducible refine (j2.out _ _ _ Rk8).mono ?_)
  rintro e w9 ⟨rfl, hb9⟩
  have hbw9 : Below w.heap.size w w9 := below_call hb9 (by go_grown)
  have z9 := hbw9.size
  have Ph' : AV q w9 (w.heap.size) 0 0 := Ph.over hb9
  have Xh' : HV 28 w9 (w3.heap.size) nx x := Xh.over hb9
  have Yh' : HV 28 w9 (w3.heap.size + 1) ny y := Yh.over hb9
  have Vh' : HV 28 w9 (w4.heap.size) nk2 v2 := Vh.over hb9
  clear Pa Pl Ph
  clear Xa Xl Xh
  clear Ya Yl Yh
  clear Va Vl Vh
  have Ph := Ph'
  clear Ph'
  have Pa := Ph.all
  have Pl := Ph.lt
  have Xh := Xh'
  clear Xh'
  have Xa := Xh.all
  have Xl := Xh.lt
  have Yh := Yh'
  clear Yh'
  have Ya := Yh.all
  have Yl := Yh.lt
  have Vh := Vh'
  clear Vh'
  have Va := Vh.all
  have Vl := Vh.lt
  clear hb9
  clear Rk8
  go_wp2_with fail
  (with_reducible refine (cC.out _ _ (by simp)).mono ?_)
  rintro e w10 ⟨rfl, hb10⟩
  have hbw10 : Below w.heap.size w w10 := below_call hb10 (by go_grown)
  have z10 := hbw10.size
  have Ph' : AV q w10 (w.heap.size) 0 0 := (Ph.alloc _).over hb10
  have Xh' : HV 28 w10 (w3.heap.size) nx x := (Xh.alloc _).over hb10
  have Yh' : HV 28 w10 (w3.heap.size + 1) ny y := (Yh.alloc _).over hb10
  have Vh' : HV 28 w10 (w4.heap.size) nk2 v2 := (Vh.alloc _).over hb10
  clear Pa Pl Ph
  clear Xa Xl Xh
  clear Ya Yl Yh
  clear Va Vl Vh
  have Ph := Ph'
  clear Ph'
  have Pa := Ph.all
  have Pl := Ph.lt
  have Xh := Xh'
  clear Xh'
  have Xa := Xh.all
  have Xl := Xh.lt
  have Yh := Yh'
  clear Yh'
  have Ya := Yh.all
  have Yl := Yh.lt
  have Vh := Vh'
  clear Vh'
  have Va := Vh.all
  have Vl := Vh.lt
  clear hb10
  go_wp2_with fail
  (with_reducible refine (rC.out _ _ (by simp) (hA2.out.keep (by
    repeat' (first | (with_reducible refine Below.setCell ?_ ?_ _) | (with_reducible refine Below.alloc ?_ ?_ _))
    all_goals (first | assumption | (dsimp only; omega) | (simp; omega)))) (hB2.out.keep (by
    repeat' (first | (with_reducible refine Below.setCell ?_ ?_ _) | (with_reducible refine Below.alloc ?_ ?_ _))
    all_goals (first | assumption | (dsimp only; omega) | (simp; omega))))).mono ?_)
  rintro e w11 ⟨Ak11, ck11, rfl, Rk11, hb11⟩
  have hbw11 : Below w.heap.size w w11 := below_call hb11 (by
    repeat' (first | (with_reducible refine Below.setCell ?_ ?_ _) | (with_reducible refine Below.alloc ?_ ?_ _))
    all_goals (first | assumption | (dsimp only; omega) | (simp; omega)))
  have z11 := hbw11.size
  have Ph' : AV q w11 (w.heap.size) 0 0 := ((Ph.far3 (by assumption)).alloc _).over hb11
  have Xh' : HV 28 w11 (w3.heap.size) nx x := ((Xh.far3 (by assumption)).alloc _).over hb11
  have Yh' : HV 28 w11 (w3.heap.size + 1) ny y := ((Yh.far3 (by assumption)).alloc _).over hb11
  have Vh' : HV 28 w11 (w4.heap.size) nk3 v3 := ((Vh.set3 nk3 v3).alloc _).over hb11
  clear Pa Pl Ph
  clear Xa Xl Xh
  clear Ya Yl Yh
  clear Va Vl Vh
  have Ph := Ph'
  clear Ph'
  have Pa := Ph.all
  have Pl := Ph.lt
  have Xh := Xh'
  clear Xh'
  have Xa := Xh.all
  have Xl := Xh.lt
  have Yh := Yh'
  clear Yh'
  have Ya := Yh.all
  have Yl := Yh.lt
  have Vh := Vh'
  clear Vh'
  have Va := Vh.all
  have Vl := Vh.lt
  clear hb11
  go_wp2_with fail
  (with_reducible refine (j3.out _ _ _ Rk11).mono ?_)
  rintro e w12 ⟨rfl, hb12⟩
  have hbw12 : Below w.heap.size w w12 := below_call hb12 (by go_grown)
  have z12 := hbw12.size
  have Ph' : AV q w12 (w.heap.size) 0 0 := Ph.over hb12
  have Xh' : HV 28 w12 (w3.heap.size) nx x := Xh.over hb12
  have Yh' : HV 28 w12 (w3.heap.size + 1) ny y := Yh.over hb12
  have Vh' : HV 28 w12 (w4.heap.size) nk3 v3 := Vh.over hb12
  clear Pa Pl Ph
  clear Xa Xl Xh
  clear Ya Yl Yh
  clear Va Vl Vh
  have Ph := Ph'
  clear Ph'
  have Pa := Ph.all
  have Pl := Ph.lt
  have Xh := Xh'
  clear Xh'
  have Xa := Xh.all
  have Xl := Xh.lt
  have Yh := Yh'
  clear Yh'
  have Ya := Yh.all
  have Yl := Yh.lt
  have Vh := Vh'
  clear Vh'
  have Va := Vh.all
  have Vl := Vh.lt
  clear hb12
  clear Rk11
  have dV : ¬ w12.heap.size = w4.heap.size := by omega
  go_wp2_with fail
  refine wp_loop_rounds 3 ?_
  rw [rounds_succ]
  have L0 := (TV.new w12).all
  go_wp2_with fail
  (with_reducible refine (cE.out _).mono ?_)
  rintro e w13 ⟨rfl, hb13⟩
  have hbw13 : Below w.heap.size w w13 := below_call hb13 (by go_grown)
  have z13 := hbw13.size
  have Ph' : AV q w13 (w.heap.size) 0 0 := (Ph.alloc _).over hb13
  have Xh' : HV 28 w13 (w3.heap.size) nx x := (Xh.alloc _).over hb13
  have Yh' : HV 28 w13 (w3.heap.size + 1) ny y := (Yh.alloc _).over hb13
  have Vh' : HV 28 w13 (w4.heap.size) nk3 v3 := (Vh.alloc _).over hb13
  have Lh' : TV w13 (w12.heap.size) 0 0 := (TV.new w12).over hb13
  clear Pa Pl Ph
  clear Xa Xl Xh
  clear Ya Yl Yh
  clear Va Vl Vh
  have Ph := Ph'
  clear Ph'
  have Pa := Ph.all
  have Pl := Ph.lt
  have Xh := Xh'
  clear Xh'
  have Xa := Xh.all
  have Xl := Xh.lt
  have Yh := Yh'
  clear Yh'
  have Ya := Yh.all
  have Yl := Yh.lt
  have Vh := Vh'
  clear Vh'
  have Va := Vh.all
  have Vl := Vh.lt
  have Lh := Lh'
  clear Lh'
  have La := Lh.all
  have Ll := Lh.lt
  clear hb13
  clear L0
  go_wp2_with fail
  (with_reducible refine (rE.out _ (hA2.out.keep (by
    repeat' (first | (with_reducible refine Below.setCell ?_ ?_ _) | (with_reducible refine Below.alloc ?_ ?_ _))
    all_goals (first | assumption | (dsimp only; omega) | (simp; omega))))).mono ?_)
  rintro e w14 ⟨Ak14, ck14, rfl, Rk14, hb14⟩
  have hbw14 : Below w.heap.size w w14 := below_call hb14 (by
    repeat' (first | (with_reducible refine Below.setCell ?_ ?_ _) | (with_reducible refine Below.alloc ?_ ?_ _))
    all_goals (first | assumption | (dsimp only; omega) | (simp; omega)))
  have z14 := hbw14.size
  have Ph' : AV q w14 (w.heap.size) 0 0 := (Ph.far3 (by assumption)).over hb14
  have Xh' : HV 28 w14 (w3.heap.size) nx x := (Xh.far3 (by assumption)).over hb14
  have Yh' : HV 28 w14 (w3.heap.size + 1) ny y := (Yh.far3 (by assumption)).over hb14
  have Vh' : HV 28 w14 (w4.heap.size) nk4 v4 := (Vh.set3 nk4 v4).over hb14
  have Lh' : TV w14 (w12.heap.size) 0 0 := (Lh.far3 (by assumption)).over hb14
  clear Pa Pl Ph
  clear Xa Xl Xh
  clear Ya Yl Yh
  clear Va Vl Vh
  clear La Ll Lh
  have Ph := Ph'
  clear Ph'
  have Pa := Ph.all
  have Pl := Ph.lt
  have Xh := Xh'
  clear Xh'
  have Xa := Xh.all
  have Xl := Xh.lt
  have Yh := Yh'
  clear Yh'
  have Ya := Yh.all
  have Yl := Yh.lt
  have Vh := Vh'
  clear Vh'
  have Va := Vh.all
  have Vl := Vh.lt
  have Lh := Lh'
  clear Lh'
  have La := Lh.all
  have Ll := Lh.lt
  clear hb14
  go_wp2_with fail
  (with_reducible refine (j4.out _ _ _ Rk14).mono ?_)
  rintro e w15 ⟨rfl, hb15⟩
  have hbw15 : Below w.heap.size w w15 := below_call hb15 (by go_grown)
  have z15 := hbw15.size
  have Ph' : AV q w15 (w.heap.size) 0 0 := Ph.over hb15
  have Xh' : HV 28 w15 (w3.heap.size) nx x := Xh.over hb15
  have Yh' : HV 28 w15 (w3.heap.size + 1) ny y := Yh.over hb15
  have Vh' : HV 28 w15 (w4.heap.size) nk4 v4 := Vh.over hb15
  have Lh' : TV w15 (w12.heap.size) 0 0 := Lh.over hb15
  clear Pa Pl Ph
  clear Xa Xl Xh
  clear Ya Yl Yh
  clear Va Vl Vh
  clear La Ll Lh
  have Ph := Ph'
  clear Ph'
  have Pa := Ph.all
  have Pl := Ph.lt
  have Xh := Xh'
  clear Xh'
  have Xa := Xh.all
  have Xl := Xh.lt
  have Yh := Yh'
  clear Yh'
  have Ya := Yh.all
  have Yl := Yh.lt
  have Vh := Vh'
  clear Vh'
  have Va := Vh.all
  have Vl := Vh.lt
  have Lh := Lh'
  clear Lh'
  have La := Lh.all
  have Ll := Lh.lt
  clear hb15
  clear Rk14
  go_wp2_with fail
  rw [rounds_succ]
  go_wp2_with fail
  (with_reducible refine (cF.out _).mono ?_)
  rintro e w16 ⟨rfl, hb16⟩
  have hbw16 : Below w.heap.size w w16 := below_call hb16 (by go_grown)
  have z16 := hbw16.size
  have Ph' : AV q w16 (w.heap.size) 0 0 := Ph.over hb16
  have Xh' : HV 28 w16 (w3.heap.size) nx x := Xh.over hb16
  have Yh' : HV 28 w16 (w3.heap.size + 1) ny y := Yh.over hb16
  have Vh' : HV 28 w16 (w4.heap.size) nk4 v4 := Vh.over hb16
  have Lh' : TV w16 (w12.heap.size) 0 0 := Lh.over hb16
  clear Pa Pl Ph
  clear Xa Xl Xh
  clear Ya Yl Yh
  clear Va Vl Vh
  clear La Ll Lh
  have Ph := Ph'
  clear Ph'
  have Pa := Ph.all
  have Pl := Ph.lt
  have Xh := Xh'
  clear Xh'
  have Xa := Xh.all
  have Xl := Xh.lt
  have Yh := Yh'
  clear Yh'
  have Ya := Yh.all
  have Yl := Yh.lt
  have Vh := Vh'
  clear Vh'
  have Va := Vh.all
  have Vl := Vh.lt
  have Lh := Lh'
  clear Lh'
  have La := Lh.all
  have Ll := Lh.lt
  clear hb16
  go_wp2_with fail
  (with_reducible refine (rF.out _ (hA2.out.keep (by
    repeat' (first | (with_reducible refine Below.setCell ?_ ?_ _) | (with_reducible refine Below.alloc ?_ ?_ _))
    all_goals (first | assumption | (dsimp only; omega) | (simp; omega))))).mono ?_)
  rintro e w17 ⟨Ak17, ck17, rfl, Rk17, hb17⟩
  have hbw17 : Below w.heap.size w w17 := below_call hb17 (by
    repeat' (first | (with_reducible refine Below.setCell ?_ ?_ _) | (with_reducible refine Below.alloc ?_ ?_ _))
    all_goals (first | assumption | (dsimp only; omega) | (simp; omega)))
  have z17 := hbw17.size
  have Ph' : AV q w17 (w.heap.size) 0 0 := (Ph.far3 (by assumption)).over hb17
  have Xh' : HV 28 w17 (w3.heap.size) nx x := (Xh.far3 (by assumption)).over hb17
  have Yh' : HV 28 w17 (w3.heap.size + 1) ny y := (Yh.far3 (by assumption)).over hb17
  have Vh' : HV 28 w17 (w4.heap.size) nk5 v5 := (Vh.set3 nk5 v5).over hb17
  have Lh' : TV w17 (w12.heap.size) 0 0 := (Lh.far3 (by assumption)).over hb17
  clear Pa Pl Ph
  clear Xa Xl Xh
  clear Ya Yl Yh
  clear Va Vl Vh
  clear La Ll Lh
  have Ph := Ph'
  clear Ph'
  have Pa := Ph.all
  have Pl := Ph.lt
  have Xh := Xh'
  clear Xh'
  have Xa := Xh.all
  have Xl := Xh.lt
  have Yh := Yh'
  clear Yh'
  have Ya := Yh.all
  have Yl := Yh.lt
  have Vh := Vh'
  clear Vh'
  have Va := Vh.all
  have Vl := Vh.lt
  have Lh := Lh'
  clear Lh'
  have La := Lh.all
  have Ll := Lh.lt
  clear hb17
  go_wp2_with fail
  (with_reducible refine (j5.out _ _ _ Rk17).mono ?_)
  rintro e w18 ⟨rfl, hb18⟩
  have hbw18 : Below w.heap.size w w18 := below_call hb18 (by go_grown)
  have z18 := hbw18.size
  have Ph' : AV q w18 (w.heap.size) 0 0 := Ph.over hb18
  have Xh' : HV 28 w18 (w3.heap.size) nx x := Xh.over hb18
  have Yh' : HV 28 w18 (w3.heap.size + 1) ny y := Yh.over hb18
  have Vh' : HV 28 w18 (w4.heap.size) nk5 v5 := Vh.over hb18
  have Lh' : TV w18 (w12.heap.size) 0 0 := Lh.over hb18
  clear Pa Pl Ph
  clear Xa Xl Xh
  clear Ya Yl Yh
  clear Va Vl Vh
  clear La Ll Lh
  have Ph := Ph'
  clear Ph'
  have Pa := Ph.all
  have Pl := Ph.lt
  have Xh := Xh'
  clear Xh'
  have Xa := Xh.all
  have Xl := Xh.lt
  have Yh := Yh'
  clear Yh'
  have Ya := Yh.all
  have Yl := Yh.lt
  have Vh := Vh'
  clear Vh'
  have Va := Vh.all
  have Vl := Vh.lt
  have Lh := Lh'
  clear Lh'
  have La := Lh.all
  have Ll := Lh.lt
  clear hb18
  clear Rk17
  go_wp2_with fail
  rw [rounds_succ]
  clear La Ll Lh
  clear Pa Pl Ph
  go_wp2_with fail
  (with_reducible refine (cZ.out _).mono ?_)
  rintro e w19 ⟨rfl, hb19⟩
  have hbw19 : Below w.heap.size w w19 := below_call hb19 (by go_grown)
  have z19 := hbw19.size
  have Xh' : HV 28 w19 (w3.heap.size) nx x := Xh.over hb19
  have Yh' : HV 28 w19 (w3.heap.size + 1) ny y := Yh.over hb19
  have Vh' : HV 28 w19 (w4.heap.size) nk5 v5 := Vh.over hb19
  clear Xa Xl Xh
  clear Ya Yl Yh
  clear Va Vl Vh
  have Xh := Xh'
  clear Xh'
  have Xa := Xh.all
  have Xl := Xh.lt
  have Yh := Yh'
  clear Yh'
  have Ya := Yh.all
  have Yl := Yh.lt
  have Vh := Vh'
  clear Vh'
  have Va := Vh.all
  have Vl := Vh.lt
  clear hb19
  go_wp2_with fail
  (with_reducible refine (cW.out _).mono ?_)
  rintro e w20 ⟨rfl, hb20⟩
  have hbw20 : Below w.heap.size w w20 := below_call hb20 (by
    repeat' (first | (with_reducible refine Below.setCell ?_ ?_ _) | (with_reducible refine Below.alloc ?_ ?_ _))
    all_goals (first | assumption | (dsimp only; omega) | (simp; omega)))
  have z20 := hbw20.size
  have Xh' : HV 28 w20 (w3.heap.size) nx x := (Xh.far3 (by assumption)).over hb20
  have Yh' : HV 28 w20 (w3.heap.size + 1) ny y := (Yh.far3 (by assumption)).over hb20
  have Vh' : HV 28 w20 (w4.heap.size) z z := (Vh.set3 z z).over hb20
  clear Xa Xl Xh
  clear Ya Yl Yh
  clear Va Vl Vh
  have Xh := Xh'
  clear Xh'
  have Xa := Xh.all
  have Xl := Xh.lt
  have Yh := Yh'
  clear Yh'
  have Ya := Yh.all
  have Yl := Yh.lt
  have Vh := Vh'
  clear Vh'
  have Va := Vh.all
  have Vl := Vh.lt
  clear hb20
  clear Va Vl Vh
  go_wp2_with fail
  (with_reducible refine (hIa.out _ (hA2.out.keep hbw20)).mono ?_)
  rintro e w21 ⟨rfl, hb21⟩
  have hbw21 : Below w.heap.size w w21 := below_call hb21 (by go_grown)
  have z21 := hbw21.size
  have Xh' : HV 28 w21 (w3.heap.size) nx x := Xh.over hb21
  have Yh' : HV 28 w21 (w3.heap.size + 1) ny y := Yh.over hb21
  clear Xa Xl Xh
  clear Ya Yl Yh
  have Xh := Xh'
  clear Xh'
  have Xa := Xh.all
  have Xl := Xh.lt
  have Yh := Yh'
  clear Yh'
  have Ya := Yh.all
  have Yl := Yh.lt
  clear hb21
  go_wp2_with fail
  (with_reducible refine (hIb.out _ (hB2.out.keep hbw21)).mono ?_)
  rintro e w22 ⟨rfl, hb22⟩
  have hbw22 : Below w.heap.size w w22 := below_call hb22 (by go_grown)
  have z22 := hbw22.size
  have Xh' : HV 28 w22 (w3.heap.size) nx x := Xh.over hb22
  have Yh' : HV 28 w22 (w3.heap.size + 1) ny y := Yh.over hb22
  clear Xa Xl Xh
  clear Ya Yl Yh
  have Xh := Xh'
  clear Xh'
  have Xa := Xh.all
  have Xl := Xh.lt
  have Yh := Yh'
  clear Yh'
  have Ya := Yh.all
  have Yl := Yh.lt
  clear hb22
  go_wp2_with fail
  (with_reducible refine (cQ.out _).mono ?_)
  rintro e w23 ⟨rfl, hb23⟩
  have hbw23 : Below w.heap.size w w23 := below_call hb23 (by go_grown)
  have z23 := hbw23.size
  have Xh' : HV 28 w23 (w3.heap.size) nx x := Xh.over hb23
  have Yh' : HV 28 w23 (w3.heap.size + 1) ny y := Yh.over hb23
  clear Xa Xl Xh
  clear Ya Yl Yh
  have Xh := Xh'
  clear Xh'
  have Xa := Xh.all
  have Xl := Xh.lt
  have Yh := Yh'
  clear Yh'
  have Ya := Yh.all
  have Yl := Yh.lt
  clear hb23
  go_wp2_with fail
  (with_reducible refine (rQ.out _ (hA2.out.keep hbw23) (hB2.out.keep hbw23)).mono ?_)
  rintro e w24 ⟨rfl, hb24⟩
  have hbw24 : Below w.heap.size w w24 := below_call hb24 (by go_grown)
  have z24 := hbw24.size
  have Xh' : HV 28 w24 (w3.heap.size) nx x := Xh.over hb24
  have Yh' : HV 28 w24 (w3.heap.size + 1) ny y := Yh.over hb24
  clear Xa Xl Xh
  clear Ya Yl Yh
  have Xh := Xh'
  clear Xh'
  have Xa := Xh.all
  have Xl := Xh.lt
  have Yh := Yh'
  clear Yh'
  have Ya := Yh.all
  have Yl := Yh.lt
  clear hb24
  go_wp2_with fail
  go_ret
  exact ⟨rfl, hbw24⟩
end Go.Proofs.Ytmgkidfikikjpaa
