/-
  The walk of the statement BvMoves where the shift is the whole width.
-/
import Derived.Test.YtmpjgdhajjkopaaLm
namespace Go.Proofs.Ytmpjgdhajjkopaa
open Go.RowKit
set_option maxRecDepth 100000 in
set_option maxHeartbeats 4000000 in
theorem Moves_eq (n c K0 K L x up back low want sar tr oth : Nat) (b : Int) (A : Option Addr) (f : Nat → Bool) (w : World) (h1 : 1 ≤ n) (hn : n ≤ 128) (hA : RB w A n f)
    (hm : ∃ m : Int, (if (n : Int) < b then (n : Int) else b) = m ∧ (if m > 0 then m else 0) = (K0 : Int)) (hK0 : K0 ≤ n)
    (hq : (8 ≤ n ∧ K0 = K) ∨ (n < 8 ∧ (if wrap64 (wrap64 (2 ^ n) - 1) < (K0 : Int) then wrap64 (wrap64 (2 ^ n) - 1) else (K0 : Int)) = (K : Int)))
    (hL : L = max 1 (n - K)) (hKn : K = n)
    (hO : ∀ w, RB w A n f → Calls Try.prog 25 #[.slice A n c] w (RV w (vv n x)))
    (hN : ∀ (w : World) (g : Nat), g = w.heap.size → Calls Try.prog 15 #[.int .i64 (n : Int), .slice (some ⟨g, 0, none⟩) 1 1] (w.alloc (.cells #[.int .u64 (K : Int)] 26)) (RV (w.alloc (.cells #[.int .u64 (K : Int)] 26)) (.tuple #[vv n K, .int .i64 0])))
    (hU : ∀ w, Calls Try.prog 26 #[.int .i64 10, vv n x, vv n K] w (RV w (.tuple #[vv n up, .int .i64 0])))
    (hD : ∀ w, Calls Try.prog 26 #[.int .i64 11, vv n up, vv n K] w (RV w (.tuple #[vv n back, .int .i64 0])))
    (hC : ∀ w, Calls Try.prog 30 #[vv n x, .int .i64 0, .int .i64 (L : Int)] w (RV w (.tuple #[vv L low, .int .i64 0])))
    (hX : ∀ w, Calls Try.prog 36 #[vv L low, .int .i64 (n : Int), .bool false] w (RV w (.tuple #[vv n want, .int .i64 0])))
    (hR : ∀ w, Calls Try.prog 26 #[.int .i64 12, vv n x, vv n K] w (RV w (.tuple #[vv n sar, .int .i64 0])))
    (hT : ∀ w, Calls Try.prog 28 #[.int .i64 0, vv n x] w (RV w (.tuple #[vv n tr, .int .i64 0])))
    (hR2 : ∀ w, Calls Try.prog 26 #[.int .i64 12, vv n tr, vv n K] w (RV w (.tuple #[vv n oth, .int .i64 0])))
    (hT2 : ∀ w, Calls Try.prog 28 #[.int .i64 0, vv n oth] w (RV w (.tuple #[vv n sar, .int .i64 0])))
    (hE1 : ∀ w, Calls Try.prog 24 #[vv n back, vv n 0] w (RV w (.bool true)))
    (hE2 : ∀ w, Calls Try.prog 24 #[vv n sar, vv n sar] w (RV w (.bool true))) :
    Calls Try.prog 12 #[.slice A n c, .int .i64 b] w (RV w (.bool true)) := by
  have hS := Lib.hid (fun w => short_le n c A w (by omega))
  have hW := Lib.hid (fun w => New_none n w h1 hn)
  replace hO := Lib.hid hO
  replace hN := Lib.hid hN
  replace hU := Lib.hid hU
  replace hD := Lib.hid hD
  replace hC := Lib.hid hC
  replace hX := Lib.hid hX
  replace hR := Lib.hid hR
  replace hT := Lib.hid hT
  replace hR2 := Lib.hid hR2
  replace hT2 := Lib.hid hT2
  replace hE1 := Lib.hid hE1
  replace hE2 := Lib.hid hE2
  replace hA := Lib.hid hA
  obtain ⟨m, hm1, hm2⟩ := hm
  have hsub : IntKind.i64.wrap ((n : Int) - (K : Int)) = (n : Int) - (K : Int) := IntWalk.i64_in _ (by omega)
  have hmax : (if 1 < (n : Int) - (K : Int) then (n : Int) - (K : Int) else 1) = (L : Int) := by rw [hL]; split <;> omega
  have n0 : ((n : Int) == 0) = false := by simp; omega
  have n128 : ¬ (128 < n) := by omega
  have hKe : ((K : Int) == (n : Int)) = true := by simp; omega
  have hKb : K ≤ n := by omega
  clear hL hKn
  rcases hq with ⟨h8, hq⟩ | ⟨h8, hq⟩
  · obtain rfl := hq.symm
    go_enter Try.func12, Try.ntmps12
    go_wp2_with fail
    (with_reducible refine (awake_t _).mono ?_)
    rintro e w1 ⟨rfl, hbw1⟩
    go_wp2_with fail
    (with_reducible refine (hS.out _).mono ?_)
    rintro e w0 ⟨rfl, rfl⟩
    go_wp2_with fail
    (with_reducible refine (hO.out _ (hA.out.keep hbw1)).mono ?_)
    rintro e w2 ⟨rfl, hb2⟩
    have hbw2 : Below w.heap.size w w2 := below_call hb2 hbw1
    have z2 := hbw2.size
    clear hb2 hbw1
    go_wp2_with fail
    (with_reducible refine (hN.out _ _ (by simp)).mono ?_)
    rintro e w3 ⟨rfl, hb3⟩
    have hbw3 : Below w.heap.size w w3 := below_call hb3 (by go_grown)
    have z3 := hbw3.size
    have Xh : HV 29 w3 w2.heap.size n x := ((HV.new w2 29 n x).alloc _).over hb3
    have Xa := Xh.all
    have Xl := Xh.lt
    clear hb3
    go_wp2_with fail
    (with_reducible refine (hU.out _).mono ?_)
    rintro e w4 ⟨rfl, hb4⟩
    have hbw4 : Below w.heap.size w w4 := below_call hb4 (by go_grown)
    have z4 := hbw4.size
    have Xh' : HV 29 w4 w2.heap.size n x := (Xh.alloc _).over hb4
    clear Xa Xl Xh
    have Xh := Xh'
    clear Xh'
    have Xa := Xh.all
    have Xl := Xh.lt
    have Vh : HV 29 w4 w3.heap.size n K := (HV.new w3 29 n K).over hb4
    have Va := Vh.all
    have Vl := Vh.lt
    clear hb4
    go_wp2_with fail
    (with_reducible refine (hD.out _).mono ?_)
    rintro e w5 ⟨rfl, hb5⟩
    have hbw5 : Below w.heap.size w w5 := below_call hb5 (by go_grown)
    have z5 := hbw5.size
    have Xh' : HV 29 w5 w2.heap.size n x := (Xh.alloc _).over hb5
    have Vh' : HV 29 w5 w3.heap.size n K := (Vh.alloc _).over hb5
    clear Xa Xl Xh
    clear Va Vl Vh
    have Xh := Xh'
    clear Xh'
    have Xa := Xh.all
    have Xl := Xh.lt
    have Vh := Vh'
    clear Vh'
    have Va := Vh.all
    have Vl := Vh.lt
    clear hb5
    go_wp2_with fail
    (with_reducible refine (hC.out _).mono ?_)
    rintro e w6 ⟨rfl, hb6⟩
    have hbw6 : Below w.heap.size w w6 := below_call hb6 (by go_grown)
    have z6 := hbw6.size
    have Xh' : HV 29 w6 w2.heap.size n x := (Xh.alloc _).over hb6
    have Vh' : HV 29 w6 w3.heap.size n K := (Vh.alloc _).over hb6
    clear Xa Xl Xh
    clear Va Vl Vh
    have Xh := Xh'
    clear Xh'
    have Xa := Xh.all
    have Xl := Xh.lt
    have Vh := Vh'
    clear Vh'
    have Va := Vh.all
    have Vl := Vh.lt
    have Bh : HV 29 w6 w5.heap.size n back := (HV.new w5 29 n back).over hb6
    have Ba := Bh.all
    have Bl := Bh.lt
    clear hb6
    go_wp2_with fail
    (with_reducible refine (hX.out _).mono ?_)
    rintro e w7 ⟨rfl, hb7⟩
    have hbw7 : Below w.heap.size w w7 := below_call hb7 (by go_grown)
    have z7 := hbw7.size
    have Xh' : HV 29 w7 w2.heap.size n x := (Xh.alloc _).over hb7
    have Vh' : HV 29 w7 w3.heap.size n K := (Vh.alloc _).over hb7
    have Bh' : HV 29 w7 w5.heap.size n back := (Bh.alloc _).over hb7
    clear Xa Xl Xh
    clear Va Vl Vh
    clear Ba Bl Bh
    have Xh := Xh'
    clear Xh'
    have Xa := Xh.all
    have Xl := Xh.lt
    have Vh := Vh'
    clear Vh'
    have Va := Vh.all
    have Vl := Vh.lt
    have Bh := Bh'
    clear Bh'
    have Ba := Bh.all
    have Bl := Bh.lt
    clear hb7
    have Xn := Nat.ne_of_lt Xl
    have Xm := Nat.ne_of_gt Xl
    have Vn := Nat.ne_of_lt Vl
    have Vm := Nat.ne_of_gt Vl
    have Bn := Nat.ne_of_lt Bl
    have Bm := Nat.ne_of_gt Bl
    go_wp2_with fail
    (with_reducible refine (hW.out _).mono ?_)
    rintro e w8 ⟨rfl, hb8⟩
    have hbw8 : Below w.heap.size w w8 := below_call hb8 (by go_grown)
    have z8 := hbw8.size
    have Xh' : HV 29 w8 w2.heap.size n x := (Xh.alloc _).over hb8
    have Vh' : HV 29 w8 w3.heap.size n K := (Vh.alloc _).over hb8
    have Bh' : HV 29 w8 w5.heap.size n back := (Bh.alloc _).over hb8
    clear Xa Xl Xh
    clear Va Vl Vh
    clear Ba Bl Bh
    have Xh := Xh'
    clear Xh'
    have Xa := Xh.all
    have Xl := Xh.lt
    have Vh := Vh'
    clear Vh'
    have Va := Vh.all
    have Vl := Vh.lt
    have Bh := Bh'
    clear Bh'
    have Ba := Bh.all
    have Bl := Bh.lt
    have Wh : HV 29 w8 w7.heap.size n want := (HV.new w7 29 n want).over hb8
    have Wa := Wh.all
    have Wl := Wh.lt
    clear hb8
    go_wp2_with fail
    (with_reducible refine (hR.out _).mono ?_)
    rintro e w9 ⟨rfl, hb9⟩
    have hbw9 : Below w.heap.size w w9 := below_call hb9 (by go_grown)
    have z9 := hbw9.size
    have Xh' : HV 29 w9 w2.heap.size n x := (HV.far3 (d := w7.heap.size) Xh (by omega)).over hb9
    have Vh' : HV 29 w9 w3.heap.size n K := (HV.far3 (d := w7.heap.size) Vh (by omega)).over hb9
    have Bh' : HV 29 w9 w5.heap.size n back := (HV.far3 (d := w7.heap.size) Bh (by omega)).over hb9
    have Wh' : HV 29 w9 w7.heap.size n 0 := (HV.set3 Wh n 0).over hb9
    clear Xa Xl Xh
    clear Va Vl Vh
    clear Ba Bl Bh
    clear Wa Wl Wh
    have Xh := Xh'
    clear Xh'
    have Xa := Xh.all
    have Xl := Xh.lt
    have Vh := Vh'
    clear Vh'
    have Va := Vh.all
    have Vl := Vh.lt
    have Bh := Bh'
    clear Bh'
    have Ba := Bh.all
    have Bl := Bh.lt
    have Wh := Wh'
    clear Wh'
    have Wa := Wh.all
    have Wl := Wh.lt
    clear hb9
    clear Xn Xm Vn Vm Bn Bm
    go_wp2_with fail
    (with_reducible refine (hT.out _).mono ?_)
    rintro e w10 ⟨rfl, hb10⟩
    have hbw10 : Below w.heap.size w w10 := below_call hb10 (by go_grown)
    have z10 := hbw10.size
    have Xh' : HV 29 w10 w2.heap.size n x := (Xh.alloc _).over hb10
    have Vh' : HV 29 w10 w3.heap.size n K := (Vh.alloc _).over hb10
    have Bh' : HV 29 w10 w5.heap.size n back := (Bh.alloc _).over hb10
    have Wh' : HV 29 w10 w7.heap.size n 0 := (Wh.alloc _).over hb10
    clear Xa Xl Xh
    clear Va Vl Vh
    clear Ba Bl Bh
    clear Wa Wl Wh
    have Xh := Xh'
    clear Xh'
    have Xa := Xh.all
    have Xl := Xh.lt
    have Vh := Vh'
    clear Vh'
    have Va := Vh.all
    have Vl := Vh.lt
    have Bh := Bh'
    clear Bh'
    have Ba := Bh.all
    have Bl := Bh.lt
    have Wh := Wh'
    clear Wh'
    have Wa := Wh.all
    have Wl := Wh.lt
    have Dh : HV 29 w10 w9.heap.size n sar := (HV.new w9 29 n sar).over hb10
    have Da := Dh.all
    have Dl := Dh.lt
    clear hb10
    go_wp2_with fail
    (with_reducible refine (hR2.out _).mono ?_)
    rintro e w11 ⟨rfl, hb11⟩
    have hbw11 : Below w.heap.size w w11 := below_call hb11 (by go_grown)
    have z11 := hbw11.size
    clear Xa Xl Xh
    clear Va Vl Vh
    have Bh' : HV 29 w11 w5.heap.size n back := (Bh.alloc _).over hb11
    have Wh' : HV 29 w11 w7.heap.size n 0 := (Wh.alloc _).over hb11
    have Dh' : HV 29 w11 w9.heap.size n sar := (Dh.alloc _).over hb11
    clear Ba Bl Bh
    clear Wa Wl Wh
    clear Da Dl Dh
    have Bh := Bh'
    clear Bh'
    have Ba := Bh.all
    have Bl := Bh.lt
    have Wh := Wh'
    clear Wh'
    have Wa := Wh.all
    have Wl := Wh.lt
    have Dh := Dh'
    clear Dh'
    have Da := Dh.all
    have Dl := Dh.lt
    clear hb11
    go_wp2_with fail
    (with_reducible refine (hT2.out _).mono ?_)
    rintro e w12 ⟨rfl, hb12⟩
    have hbw12 : Below w.heap.size w w12 := below_call hb12 (by go_grown)
    have z12 := hbw12.size
    have Bh' : HV 29 w12 w5.heap.size n back := (Bh.alloc _).over hb12
    have Wh' : HV 29 w12 w7.heap.size n 0 := (Wh.alloc _).over hb12
    have Dh' : HV 29 w12 w9.heap.size n sar := (Dh.alloc _).over hb12
    clear Ba Bl Bh
    clear Wa Wl Wh
    clear Da Dl Dh
    have Bh := Bh'
    clear Bh'
    have Ba := Bh.all
    have Bl := Bh.lt
    have Wh := Wh'
    clear Wh'
    have Wa := Wh.all
    have Wl := Wh.lt
    have Dh := Dh'
    clear Dh'
    have Da := Dh.all
    have Dl := Dh.lt
    clear hb12
    go_wp2_with fail
    (with_reducible refine (hE1.out _).mono ?_)
    rintro e w13 ⟨rfl, hb13⟩
    have hbw13 : Below w.heap.size w w13 := below_call hb13 (by go_grown)
    have z13 := hbw13.size
    clear Ba Bl Bh
    clear Wa Wl Wh
    have Dh' : HV 29 w13 w9.heap.size n sar := (Dh.alloc _).over hb13
    clear Da Dl Dh
    have Dh := Dh'
    clear Dh'
    have Da := Dh.all
    have Dl := Dh.lt
    have Sh : HV 29 w13 w12.heap.size n sar := (HV.new w12 29 n sar).over hb13
    have Sa := Sh.all
    have Sl := Sh.lt
    clear hb13
    go_wp2_with fail
    (with_reducible refine (hE2.out _).mono ?_)
    rintro e w14 ⟨rfl, hb14⟩
    have hbw14 : Below w.heap.size w w14 := below_call hb14 hbw13
    go_wp2_with fail
    go_ret
    exact ⟨rfl, hbw14⟩
  · go_enter Try.func12, Try.ntmps12
    go_wp2_with fail
    (with_reducible refine (awake_t _).mono ?_)
    rintro e w1 ⟨rfl, hbw1⟩
    go_wp2_with fail
    (with_reducible refine (hS.out _).mono ?_)
    rintro e w0 ⟨rfl, rfl⟩
    go_wp2_with fail
    (with_reducible refine (hO.out _ (hA.out.keep hbw1)).mono ?_)
    rintro e w2 ⟨rfl, hb2⟩
    have hbw2 : Below w.heap.size w w2 := below_call hb2 hbw1
    have z2 := hbw2.size
    clear hb2 hbw1
    go_wp2_with fail
    (with_reducible refine (hN.out _ _ (by simp)).mono ?_)
    rintro e w3 ⟨rfl, hb3⟩
    have hbw3 : Below w.heap.size w w3 := below_call hb3 (by go_grown)
    have z3 := hbw3.size
    have Xh : HV 29 w3 w2.heap.size n x := ((HV.new w2 29 n x).alloc _).over hb3
    have Xa := Xh.all
    have Xl := Xh.lt
    clear hb3
    go_wp2_with fail
    (with_reducible refine (hU.out _).mono ?_)
    rintro e w4 ⟨rfl, hb4⟩
    have hbw4 : Below w.heap.size w w4 := below_call hb4 (by go_grown)
    have z4 := hbw4.size
    have Xh' : HV 29 w4 w2.heap.size n x := (Xh.alloc _).over hb4
    clear Xa Xl Xh
    have Xh := Xh'
    clear Xh'
    have Xa := Xh.all
    have Xl := Xh.lt
    have Vh : HV 29 w4 w3.heap.size n K := (HV.new w3 29 n K).over hb4
    have Va := Vh.all
    have Vl := Vh.lt
    clear hb4
    go_wp2_with fail
    (with_reducible refine (hD.out _).mono ?_)
    rintro e w5 ⟨rfl, hb5⟩
    have hbw5 : Below w.heap.size w w5 := below_call hb5 (by go_grown)
    have z5 := hbw5.size
    have Xh' : HV 29 w5 w2.heap.size n x := (Xh.alloc _).over hb5
    have Vh' : HV 29 w5 w3.heap.size n K := (Vh.alloc _).over hb5
    clear Xa Xl Xh
    clear Va Vl Vh
    have Xh := Xh'
    clear Xh'
    have Xa := Xh.all
    have Xl := Xh.lt
    have Vh := Vh'
    clear Vh'
    have Va := Vh.all
    have Vl := Vh.lt
    clear hb5
    go_wp2_with fail
    (with_reducible refine (hC.out _).mono ?_)
    rintro e w6 ⟨rfl, hb6⟩
    have hbw6 : Below w.heap.size w w6 := below_call hb6 (by go_grown)
    have z6 := hbw6.size
    have Xh' : HV 29 w6 w2.heap.size n x := (Xh.alloc _).over hb6
    have Vh' : HV 29 w6 w3.heap.size n K := (Vh.alloc _).over hb6
    clear Xa Xl Xh
    clear Va Vl Vh
    have Xh := Xh'
    clear Xh'
    have Xa := Xh.all
    have Xl := Xh.lt
    have Vh := Vh'
    clear Vh'
    have Va := Vh.all
    have Vl := Vh.lt
    have Bh : HV 29 w6 w5.heap.size n back := (HV.new w5 29 n back).over hb6
    have Ba := Bh.all
    have Bl := Bh.lt
    clear hb6
    go_wp2_with fail
    (with_reducible refine (hX.out _).mono ?_)
    rintro e w7 ⟨rfl, hb7⟩
    have hbw7 : Below w.heap.size w w7 := below_call hb7 (by go_grown)
    have z7 := hbw7.size
    have Xh' : HV 29 w7 w2.heap.size n x := (Xh.alloc _).over hb7
    have Vh' : HV 29 w7 w3.heap.size n K := (Vh.alloc _).over hb7
    have Bh' : HV 29 w7 w5.heap.size n back := (Bh.alloc _).over hb7
    clear Xa Xl Xh
    clear Va Vl Vh
    clear Ba Bl Bh
    have Xh := Xh'
    clear Xh'
    have Xa := Xh.all
    have Xl := Xh.lt
    have Vh := Vh'
    clear Vh'
    have Va := Vh.all
    have Vl := Vh.lt
    have Bh := Bh'
    clear Bh'
    have Ba := Bh.all
    have Bl := Bh.lt
    clear hb7
    have Xn := Nat.ne_of_lt Xl
    have Xm := Nat.ne_of_gt Xl
    have Vn := Nat.ne_of_lt Vl
    have Vm := Nat.ne_of_gt Vl
    have Bn := Nat.ne_of_lt Bl
    have Bm := Nat.ne_of_gt Bl
    go_wp2_with fail
    (with_reducible refine (hW.out _).mono ?_)
    rintro e w8 ⟨rfl, hb8⟩
    have hbw8 : Below w.heap.size w w8 := below_call hb8 (by go_grown)
    have z8 := hbw8.size
    have Xh' : HV 29 w8 w2.heap.size n x := (Xh.alloc _).over hb8
    have Vh' : HV 29 w8 w3.heap.size n K := (Vh.alloc _).over hb8
    have Bh' : HV 29 w8 w5.heap.size n back := (Bh.alloc _).over hb8
    clear Xa Xl Xh
    clear Va Vl Vh
    clear Ba Bl Bh
    have Xh := Xh'
    clear Xh'
    have Xa := Xh.all
    have Xl := Xh.lt
    have Vh := Vh'
    clear Vh'
    have Va := Vh.all
    have Vl := Vh.lt
    have Bh := Bh'
    clear Bh'
    have Ba := Bh.all
    have Bl := Bh.lt
    have Wh : HV 29 w8 w7.heap.size n want := (HV.new w7 29 n want).over hb8
    have Wa := Wh.all
    have Wl := Wh.lt
    clear hb8
    go_wp2_with fail
    (with_reducible refine (hR.out _).mono ?_)
    rintro e w9 ⟨rfl, hb9⟩
    have hbw9 : Below w.heap.size w w9 := below_call hb9 (by go_grown)
    have z9 := hbw9.size
    have Xh' : HV 29 w9 w2.heap.size n x := (HV.far3 (d := w7.heap.size) Xh (by omega)).over hb9
    have Vh' : HV 29 w9 w3.heap.size n K := (HV.far3 (d := w7.heap.size) Vh (by omega)).over hb9
    have Bh' : HV 29 w9 w5.heap.size n back := (HV.far3 (d := w7.heap.size) Bh (by omega)).over hb9
    have Wh' : HV 29 w9 w7.heap.size n 0 := (HV.set3 Wh n 0).over hb9
    clear Xa Xl Xh
    clear Va Vl Vh
    clear Ba Bl Bh
    clear Wa Wl Wh
    have Xh := Xh'
    clear Xh'
    have Xa := Xh.all
    have Xl := Xh.lt
    have Vh := Vh'
    clear Vh'
    have Va := Vh.all
    have Vl := Vh.lt
    have Bh := Bh'
    clear Bh'
    have Ba := Bh.all
    have Bl := Bh.lt
    have Wh := Wh'
    clear Wh'
    have Wa := Wh.all
    have Wl := Wh.lt
    clear hb9
    clear Xn Xm Vn Vm Bn Bm
    go_wp2_with fail
    (with_reducible refine (hT.out _).mono ?_)
    rintro e w10 ⟨rfl, hb10⟩
    have hbw10 : Below w.heap.size w w10 := below_call hb10 (by go_grown)
    have z10 := hbw10.size
    have Xh' : HV 29 w10 w2.heap.size n x := (Xh.alloc _).over hb10
    have Vh' : HV 29 w10 w3.heap.size n K := (Vh.alloc _).over hb10
    have Bh' : HV 29 w10 w5.heap.size n back := (Bh.alloc _).over hb10
    have Wh' : HV 29 w10 w7.heap.size n 0 := (Wh.alloc _).over hb10
    clear Xa Xl Xh
    clear Va Vl Vh
    clear Ba Bl Bh
    clear Wa Wl Wh
    have Xh := Xh'
    clear Xh'
    have Xa := Xh.all
    have Xl := Xh.lt
    have Vh := Vh'
    clear Vh'
    have Va := Vh.all
    have Vl := Vh.lt
    have Bh := Bh'
    clear Bh'
    have Ba := Bh.all
    have Bl := Bh.lt
    have Wh := Wh'
    clear Wh'
    have Wa := Wh.all
    have Wl := Wh.lt
    have Dh : HV 29 w10 w9.heap.size n sar := (HV.new w9 29 n sar).over hb10
    have Da := Dh.all
    have Dl := Dh.lt
    clear hb10
    go_wp2_with fail
    (with_reducible refine (hR2.out _).mono ?_)
    rintro e w11 ⟨rfl, hb11⟩
    have hbw11 : Below w.heap.size w w11 := below_call hb11 (by go_grown)
    have z11 := hbw11.size
    clear Xa Xl Xh
    clear Va Vl Vh
    have Bh' : HV 29 w11 w5.heap.size n back := (Bh.alloc _).over hb11
    have Wh' : HV 29 w11 w7.heap.size n 0 := (Wh.alloc _).over hb11
    have Dh' : HV 29 w11 w9.heap.size n sar := (Dh.alloc _).over hb11
    clear Ba Bl Bh
    clear Wa Wl Wh
    clear Da Dl Dh
    have Bh := Bh'
    clear Bh'
    have Ba := Bh.all
    have Bl := Bh.lt
    have Wh := Wh'
    clear Wh'
    have Wa := Wh.all
    have Wl := Wh.lt
    have Dh := Dh'
    clear Dh'
    have Da := Dh.all
    have Dl := Dh.lt
    clear hb11
    go_wp2_with fail
    (with_reducible refine (hT2.out _).mono ?_)
    rintro e w12 ⟨rfl, hb12⟩
    have hbw12 : Below w.heap.size w w12 := below_call hb12 (by go_grown)
    have z12 := hbw12.size
    have Bh' : HV 29 w12 w5.heap.size n back := (Bh.alloc _).over hb12
    have Wh' : HV 29 w12 w7.heap.size n 0 := (Wh.alloc _).over hb12
    have Dh' : HV 29 w12 w9.heap.size n sar := (Dh.alloc _).over hb12
    clear Ba Bl Bh
    clear Wa Wl Wh
    clear Da Dl Dh
    have Bh := Bh'
    clear Bh'
    have Ba := Bh.all
    have Bl := Bh.lt
    have Wh := Wh'
    clear Wh'
    have Wa := Wh.all
    have Wl := Wh.lt
    have Dh := Dh'
    clear Dh'
    have Da := Dh.all
    have Dl := Dh.lt
    clear hb12
    go_wp2_with fail
    (with_reducible refine (hE1.out _).mono ?_)
    rintro e w13 ⟨rfl, hb13⟩
    have hbw13 : Below w.heap.size w w13 := below_call hb13 (by go_grown)
    have z13 := hbw13.size
    clear Ba Bl Bh
    clear Wa Wl Wh
    have Dh' : HV 29 w13 w9.heap.size n sar := (Dh.alloc _).over hb13
    clear Da Dl Dh
    have Dh := Dh'
    clear Dh'
    have Da := Dh.all
    have Dl := Dh.lt
    have Sh : HV 29 w13 w12.heap.size n sar := (HV.new w12 29 n sar).over hb13
    have Sa := Sh.all
    have Sl := Sh.lt
    clear hb13
    go_wp2_with fail
    (with_reducible refine (hE2.out _).mono ?_)
    rintro e w14 ⟨rfl, hb14⟩
    have hbw14 : Below w.heap.size w w14 := below_call hb14 hbw13
    go_wp2_with fail
    go_ret
    exact ⟨rfl, hbw14⟩
end Go.Proofs.Ytmpjgdhajjkopaa
