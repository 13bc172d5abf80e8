/-
  The walk of the statement BvSplits.
-/
import Derived.Test.YtmgkidfikikjpaaCd
import Derived.Test.YtmgkidfikikjpaaDa
import Derived.Test.YtmgkidfikikjpaaAw
import Derived.Test.YtmgkidfikikjpaaWq
import Derived.Test.YtmgkidfikikjpaaWx
namespace Go.Proofs.Ytmgkidfikikjpaa
open Go.RowKit
attribute [local go_sem ↓] Go.wp_at_zero Go.wp_at_succ
set_option maxRecDepth 1000000 in
set_option maxHeartbeats 4000000 in
theorem Splits_t (n c k q x lw hg mv : Nat) (at_ r : Int) (A : Option Addr) (f : Nat → Bool) (w : World) (hn : n ≤ 128) (hA : RB w A n f) (hk1 : 1 ≤ k) (hkn : k < n)
    (e1 : at_.tmod ((n : Int) - 1) = r) (r1 : -(n : Int) + 1 < r) (r2 : r < (n : Int) - 1) (e2 : (r + (n : Int) - 1).tmod ((n : Int) - 1) = (q : Int)) (e2' : (r + (n : Int) - 1) % ((n : Int) - 1) = (q : Int)) (e3 : 1 + (q : Int) = (k : Int))
    (hO : ∀ w, RB w A n f → Calls Try.prog 8 #[.slice A n c] w (RV w (vv n x)))
    (hLo : ∀ w, Calls Try.prog 12 #[vv n x, .int .i64 0, .int .i64 (k : Int)] w (RV w (.tuple #[vv k lw, .int .i64 0])))
    (hHi : ∀ w, Calls Try.prog 12 #[vv n x, .int .i64 (k : Int), .int .i64 ((n : Int) - (k : Int))] w (RV w (.tuple #[vv (n - k) hg, .int .i64 0])))
    (hC : ∀ (w : World) (g : Nat), g = w.heap.size → Calls Try.prog 16 #[.slice (some ⟨g, 0, none⟩) 2 2] (w.alloc (.cells #[.int .i64 ((n - k : Nat) : Int), .int .u64 ((lo hg : Nat) : Int), .int .u64 ((hi hg : Nat) : Int), .int .i64 (k : Int), .int .u64 ((lo lw : Nat) : Int), .int .u64 ((hi lw : Nat) : Int)] 28))
      (RV (w.alloc (.cells #[.int .i64 ((n - k : Nat) : Int), .int .u64 ((lo hg : Nat) : Int), .int .u64 ((hi hg : Nat) : Int), .int .i64 (k : Int), .int .u64 ((lo lw : Nat) : Int), .int .u64 ((hi lw : Nat) : Int)] 28)) (.tuple #[vv n x, .int .i64 0])))
    (hP : ∀ w, Calls Try.prog 14 #[vv n x, .int .i64 (k : Int), vv (n - k) hg] w (RV w (.tuple #[vv n x, .int .i64 0])))
    (hX1 : ∀ w, Calls Try.prog 18 #[vv k lw, .int .i64 (n : Int), .bool false] w (RV w (.tuple #[vv n lw, .int .i64 0])))
    (hX2 : ∀ w, Calls Try.prog 18 #[vv (n - k) hg, .int .i64 (n : Int), .bool false] w (RV w (.tuple #[vv n hg, .int .i64 0])))
    (hN : ∀ (w : World) (g : Nat), g = w.heap.size → Calls Try.prog 23 #[.int .i64 (n : Int), .slice (some ⟨g, 0, none⟩) 1 1] (w.alloc (.cells #[.int .u64 (k : Int)] 25)) (RV (w.alloc (.cells #[.int .u64 (k : Int)] 25)) (.tuple #[vv n k, .int .i64 0])))
    (hM : ∀ w, Calls Try.prog 9 #[.int .i64 10, vv n hg, vv n k] w (RV w (.tuple #[vv n mv, .int .i64 0])))
    (hS2 : ∀ w, Calls Try.prog 9 #[.int .i64 8, vv n mv, vv n lw] w (RV w (.tuple #[vv n x, .int .i64 0])))
    (hE : ∀ w, Calls Try.prog 21 #[vv n x, vv n x] w (RV w (.bool true))) :
    Calls Try.prog 5 #[.slice A n c, .int .i64 at_] w (RV w (.bool true)) := by
  have hSh := Lib.hid (fun w => short_le n c A w (by omega))
  have n2 : ¬ (n : Int) < 2 := by omega
  have n128 : decide (128 < (n : Int)) = false := by simp; omega
  have n128' : ¬ 128 < (n : Int) := by omega
  have sub : IntKind.i64.wrap ((n : Int) - (k : Int)) = (n : Int) - (k : Int) := IntWalk.i64_in _ (by omega)
  have nz : ((n : Int) - 1 == 0) = false := by simp; omega
  have nz2 : ¬ (n : Int) - 1 = 0 := by omega
  replace hO := Lib.hid hO
  replace hLo := Lib.hid hLo
  replace hHi := Lib.hid hHi
  replace hC := Lib.hid hC
  replace hP := Lib.hid hP
  replace hX1 := Lib.hid hX1
  replace hX2 := Lib.hid hX2
  replace hN := Lib.hid hN
  replace hM := Lib.hid hM
  replace hS2 := Lib.hid hS2
  replace hE := Lib.hid hE
  replace hA := Lib.hid hA
  go_enter Try.func5, Try.ntmps5
  go_wp2_with fail
  (with_reducible refine (awake_t _).mono ?_)
  rintro e w1 ⟨rfl, hbw1⟩
  go_wp2_with fail
  (with_reducible refine (hSh.out _).mono ?_)
  rintro e w1 ⟨rfl, rfl⟩
  go_wp2_with fail
  (with_reducible refine (hO.out _ (hA.out.keep hbw1)).mono ?_)
  rintro e w2 ⟨rfl, hb2⟩
  have hbw2 : Below w.heap.size w w2 := below_call hb2 hbw1
  have z2 := hbw2.size
  clear hb2 hbw1
  go_wp2_with fail
  (with_reducible refine (hLo.out _).mono ?_)
  rintro e w3 ⟨rfl, hb3⟩
  have hbw3 : Below w.heap.size w w3 := below_call hb3 (by go_grown)
  have z3 := hbw3.size
  have Xh' : HV 28 w3 (w2.heap.size) n x := (HV.new w2 28 n x).over hb3
  have Xh := Xh'
  clear Xh'
  have Xa := Xh.all
  have Xl := Xh.lt
  clear hb3
  go_wp2_with fail
  (with_reducible refine (hHi.out _).mono ?_)
  rintro e w4 ⟨rfl, hb4⟩
  have hbw4 : Below w.heap.size w w4 := below_call hb4 (by go_grown)
  have z4 := hbw4.size
  have Xh' : HV 28 w4 (w2.heap.size) n x := (Xh.alloc _).over hb4
  have Lh' : HV 28 w4 (w3.heap.size) k lw := (HV.new w3 28 k lw).over hb4
  clear Xa Xl Xh
  have Xh := Xh'
  clear Xh'
  have Xa := Xh.all
  have Xl := Xh.lt
  have Lh := Lh'
  clear Lh'
  have La := Lh.all
  have Ll := Lh.lt
  clear hb4
  go_wp2_with fail
  (with_reducible refine (hC.out _ _ (by simp)).mono ?_)
  rintro e w5 ⟨rfl, hb5⟩
  have hbw5 : Below w.heap.size w w5 := below_call hb5 (by go_grown)
  have z5 := hbw5.size
  have Xh' : HV 28 w5 (w2.heap.size) n x := ((Xh.alloc _).alloc _).over hb5
  have Lh' : HV 28 w5 (w3.heap.size) k lw := ((Lh.alloc _).alloc _).over hb5
  have Hh' : HV 28 w5 (w4.heap.size) (n - k) hg := ((HV.new w4 28 (n - k) hg).alloc _).over hb5
  clear Xa Xl Xh
  clear La Ll Lh
  have Xh := Xh'
  clear Xh'
  have Xa := Xh.all
  have Xl := Xh.lt
  have Lh := Lh'
  clear Lh'
  have La := Lh.all
  have Ll := Lh.lt
  have Hh := Hh'
  clear Hh'
  have Ha := Hh.all
  have Hl := Hh.lt
  clear hb5
  go_wp2_with fail
  (with_reducible refine (hP.out _).mono ?_)
  rintro e w6 ⟨rfl, hb6⟩
  have hbw6 : Below w.heap.size w w6 := below_call hb6 (by go_grown)
  have z6 := hbw6.size
  have Xh' : HV 28 w6 (w2.heap.size) n x := (Xh.alloc _).over hb6
  have Lh' : HV 28 w6 (w3.heap.size) k lw := (Lh.alloc _).over hb6
  have Hh' : HV 28 w6 (w4.heap.size) (n - k) hg := (Hh.alloc _).over hb6
  have Ch' : HV 28 w6 (w5.heap.size) n x := (HV.new w5 28 n x).over hb6
  clear Xa Xl Xh
  clear La Ll Lh
  clear Ha Hl Hh
  have Xh := Xh'
  clear Xh'
  have Xa := Xh.all
  have Xl := Xh.lt
  have Lh := Lh'
  clear Lh'
  have La := Lh.all
  have Ll := Lh.lt
  have Hh := Hh'
  clear Hh'
  have Ha := Hh.all
  have Hl := Hh.lt
  have Ch := Ch'
  clear Ch'
  have Ca := Ch.all
  have Cl := Ch.lt
  clear hb6
  go_wp2_with fail
  (with_reducible refine (hX1.out _).mono ?_)
  rintro e w7 ⟨rfl, hb7⟩
  have hbw7 : Below w.heap.size w w7 := below_call hb7 (by go_grown)
  have z7 := hbw7.size
  have Xh' : HV 28 w7 (w2.heap.size) n x := (Xh.alloc _).over hb7
  have Lh' : HV 28 w7 (w3.heap.size) k lw := (Lh.alloc _).over hb7
  have Hh' : HV 28 w7 (w4.heap.size) (n - k) hg := (Hh.alloc _).over hb7
  have Ch' : HV 28 w7 (w5.heap.size) n x := (Ch.alloc _).over hb7
  have Ph' : HV 28 w7 (w6.heap.size) n x := (HV.new w6 28 n x).over hb7
  clear Xa Xl Xh
  clear La Ll Lh
  clear Ha Hl Hh
  clear Ca Cl Ch
  have Xh := Xh'
  clear Xh'
  have Xa := Xh.all
  have Xl := Xh.lt
  have Lh := Lh'
  clear Lh'
  have La := Lh.all
  have Ll := Lh.lt
  have Hh := Hh'
  clear Hh'
  have Ha := Hh.all
  have Hl := Hh.lt
  have Ch := Ch'
  clear Ch'
  have Ca := Ch.all
  have Cl := Ch.lt
  have Ph := Ph'
  clear Ph'
  have Pa := Ph.all
  have Pl := Ph.lt
  clear hb7
  go_wp2_with fail
  (with_reducible refine (hX2.out _).mono ?_)
  rintro e w8 ⟨rfl, hb8⟩
  have hbw8 : Below w.heap.size w w8 := below_call hb8 (by go_grown)
  have z8 := hbw8.size
  have Xh' : HV 28 w8 (w2.heap.size) n x := (Xh.alloc _).over hb8
  have Lh' : HV 28 w8 (w3.heap.size) k lw := (Lh.alloc _).over hb8
  have Hh' : HV 28 w8 (w4.heap.size) (n - k) hg := (Hh.alloc _).over hb8
  have Ch' : HV 28 w8 (w5.heap.size) n x := (Ch.alloc _).over hb8
  have Ph' : HV 28 w8 (w6.heap.size) n x := (Ph.alloc _).over hb8
  have Wh' : HV 28 w8 (w7.heap.size) n lw := (HV.new w7 28 n lw).over hb8
  clear Xa Xl Xh
  clear La Ll Lh
  clear Ha Hl Hh
  clear Ca Cl Ch
  clear Pa Pl Ph
  have Xh := Xh'
  clear Xh'
  have Xa := Xh.all
  have Xl := Xh.lt
  have Lh := Lh'
  clear Lh'
  have La := Lh.all
  have Ll := Lh.lt
  have Hh := Hh'
  clear Hh'
  have Ha := Hh.all
  have Hl := Hh.lt
  have Ch := Ch'
  clear Ch'
  have Ca := Ch.all
  have Cl := Ch.lt
  have Ph := Ph'
  clear Ph'
  have Pa := Ph.all
  have Pl := Ph.lt
  have Wh := Wh'
  clear Wh'
  have Wa := Wh.all
  have Wl := Wh.lt
  clear hb8
  clear La Ll Lh
  clear Ha Hl Hh
  go_wp2_with fail
  (with_reducible refine (hN.out _ _ (by simp)).mono ?_)
  rintro e w9 ⟨rfl, hb9⟩
  have hbw9 : Below w.heap.size w w9 := below_call hb9 (by go_grown)
  have z9 := hbw9.size
  have Xh' : HV 28 w9 (w2.heap.size) n x := ((Xh.alloc _).alloc _).over hb9
  have Ch' : HV 28 w9 (w5.heap.size) n x := ((Ch.alloc _).alloc _).over hb9
  have Ph' : HV 28 w9 (w6.heap.size) n x := ((Ph.alloc _).alloc _).over hb9
  have Wh' : HV 28 w9 (w7.heap.size) n lw := ((Wh.alloc _).alloc _).over hb9
  have Uh' : HV 28 w9 (w8.heap.size) n hg := ((HV.new w8 28 n hg).alloc _).over hb9
  clear Xa Xl Xh
  clear Ca Cl Ch
  clear Pa Pl Ph
  clear Wa Wl Wh
  have Xh := Xh'
  clear Xh'
  have Xa := Xh.all
  have Xl := Xh.lt
  have Ch := Ch'
  clear Ch'
  have Ca := Ch.all
  have Cl := Ch.lt
  have Ph := Ph'
  clear Ph'
  have Pa := Ph.all
  have Pl := Ph.lt
  have Wh := Wh'
  clear Wh'
  have Wa := Wh.all
  have Wl := Wh.lt
  have Uh := Uh'
  clear Uh'
  have Ua := Uh.all
  have Ul := Uh.lt
  clear hb9
  go_wp2_with fail
  (with_reducible refine (hM.out _).mono ?_)
  rintro e w10 ⟨rfl, hb10⟩
  have hbw10 : Below w.heap.size w w10 := below_call hb10 (by go_grown)
  have z10 := hbw10.size
  have Xh' : HV 28 w10 (w2.heap.size) n x := (Xh.alloc _).over hb10
  have Ch' : HV 28 w10 (w5.heap.size) n x := (Ch.alloc _).over hb10
  have Ph' : HV 28 w10 (w6.heap.size) n x := (Ph.alloc _).over hb10
  have Wh' : HV 28 w10 (w7.heap.size) n lw := (Wh.alloc _).over hb10
  have Uh' : HV 28 w10 (w8.heap.size) n hg := (Uh.alloc _).over hb10
  have Nh' : HV 28 w10 (w9.heap.size) n k := (HV.new w9 28 n k).over hb10
  clear Xa Xl Xh
  clear Ca Cl Ch
  clear Pa Pl Ph
  clear Wa Wl Wh
  clear Ua Ul Uh
  have Xh := Xh'
  clear Xh'
  have Xa := Xh.all
  have Xl := Xh.lt
  have Ch := Ch'
  clear Ch'
  have Ca := Ch.all
  have Cl := Ch.lt
  have Ph := Ph'
  clear Ph'
  have Pa := Ph.all
  have Pl := Ph.lt
  have Wh := Wh'
  clear Wh'
  have Wa := Wh.all
  have Wl := Wh.lt
  have Uh := Uh'
  clear Uh'
  have Ua := Uh.all
  have Ul := Uh.lt
  have Nh := Nh'
  clear Nh'
  have Na := Nh.all
  have Nl := Nh.lt
  clear hb10
  clear Ua Ul Uh
  clear Na Nl Nh
  go_wp2_with fail
  (with_reducible refine (hS2.out _).mono ?_)
  rintro e w11 ⟨rfl, hb11⟩
  have hbw11 : Below w.heap.size w w11 := below_call hb11 (by go_grown)
  have z11 := hbw11.size
  have Xh' : HV 28 w11 (w2.heap.size) n x := (Xh.alloc _).over hb11
  have Ch' : HV 28 w11 (w5.heap.size) n x := (Ch.alloc _).over hb11
  have Ph' : HV 28 w11 (w6.heap.size) n x := (Ph.alloc _).over hb11
  have Wh' : HV 28 w11 (w7.heap.size) n lw := (Wh.alloc _).over hb11
  have Mh' : HV 28 w11 (w10.heap.size) n mv := (HV.new w10 28 n mv).over hb11
  clear Xa Xl Xh
  clear Ca Cl Ch
  clear Pa Pl Ph
  clear Wa Wl Wh
  have Xh := Xh'
  clear Xh'
  have Xa := Xh.all
  have Xl := Xh.lt
  have Ch := Ch'
  clear Ch'
  have Ca := Ch.all
  have Cl := Ch.lt
  have Ph := Ph'
  clear Ph'
  have Pa := Ph.all
  have Pl := Ph.lt
  have Wh := Wh'
  clear Wh'
  have Wa := Wh.all
  have Wl := Wh.lt
  have Mh := Mh'
  clear Mh'
  have Ma := Mh.all
  have Ml := Mh.lt
  clear hb11
  clear Ma Ml Mh
  clear Wa Wl Wh
  go_wp2_with fail
  (with_reducible refine (hE.out _).mono ?_)
  rintro e w12 ⟨rfl, hb12⟩
  have hbw12 : Below w.heap.size w w12 := below_call hb12 (by go_grown)
  have z12 := hbw12.size
  have Xh' : HV 28 w12 (w2.heap.size) n x := (Xh.alloc _).over hb12
  have Ch' : HV 28 w12 (w5.heap.size) n x := (Ch.alloc _).over hb12
  have Ph' : HV 28 w12 (w6.heap.size) n x := (Ph.alloc _).over hb12
  have Sh' : HV 28 w12 (w11.heap.size) n x := (HV.new w11 28 n x).over hb12
  clear Xa Xl Xh
  clear Ca Cl Ch
  clear Pa Pl Ph
  have Xh := Xh'
  clear Xh'
  have Xa := Xh.all
  have Xl := Xh.lt
  have Ch := Ch'
  clear Ch'
  have Ca := Ch.all
  have Cl := Ch.lt
  have Ph := Ph'
  clear Ph'
  have Pa := Ph.all
  have Pl := Ph.lt
  have Sh := Sh'
  clear Sh'
  have Sa := Sh.all
  have Sl := Sh.lt
  clear hb12
  go_wp2_with fail
  (with_reducible refine (hE.out _).mono ?_)
  rintro e w13 ⟨rfl, hb13⟩
  have hbw13 : Below w.heap.size w w13 := below_call hb13 (by go_grown)
  have z13 := hbw13.size
  have Xh' : HV 28 w13 (w2.heap.size) n x := Xh.over hb13
  have Ch' : HV 28 w13 (w5.heap.size) n x := Ch.over hb13
  have Ph' : HV 28 w13 (w6.heap.size) n x := Ph.over hb13
  have Sh' : HV 28 w13 (w11.heap.size) n x := Sh.over hb13
  clear Xa Xl Xh
  clear Ca Cl Ch
  clear Pa Pl Ph
  clear Sa Sl Sh
  have Xh := Xh'
  clear Xh'
  have Xa := Xh.all
  have Xl := Xh.lt
  have Ch := Ch'
  clear Ch'
  have Ca := Ch.all
  have Cl := Ch.lt
  have Ph := Ph'
  clear Ph'
  have Pa := Ph.all
  have Pl := Ph.lt
  have Sh := Sh'
  clear Sh'
  have Sa := Sh.all
  have Sl := Sh.lt
  clear hb13
  go_wp2_with fail
  (with_reducible refine (hE.out _).mono ?_)
  rintro e w14 ⟨rfl, hb14⟩
  have hbw14 : Below w.heap.size w w14 := below_call hb14 (by go_grown)
  have z14 := hbw14.size
  have Xh' : HV 28 w14 (w2.heap.size) n x := Xh.over hb14
  have Ch' : HV 28 w14 (w5.heap.size) n x := Ch.over hb14
  have Ph' : HV 28 w14 (w6.heap.size) n x := Ph.over hb14
  have Sh' : HV 28 w14 (w11.heap.size) n x := Sh.over hb14
  clear Xa Xl Xh
  clear Ca Cl Ch
  clear Pa Pl Ph
  clear Sa Sl Sh
  have Xh := Xh'
  clear Xh'
  have Xa := Xh.all
  have Xl := Xh.lt
  have Ch := Ch'
  clear Ch'
  have Ca := Ch.all
  have Cl := Ch.lt
  have Ph := Ph'
  clear Ph'
  have Pa := Ph.all
  have Pl := Ph.lt
  have Sh := Sh'
  clear Sh'
  have Sa := Sh.all
  have Sl := Sh.lt
  clear hb14
  go_wp2_with fail
  go_ret
  exact ⟨rfl, hbw14⟩
end Go.Proofs.Ytmgkidfikikjpaa
