/-
  The walk of the statement LitUnlike.
-/
import Derived.Test.YtalmhopbnaeamaaGreatDoorGm
namespace Go.Proofs.YtalmhopbnaeamaaGreatDoor
open Go.RowKit Go.Lib
set_option maxRecDepth 100000 in
set_option maxHeartbeats 6400000 in
theorem unlike_a (na nb ca cb ma mb x y : Nat) (A B : Option Addr) (ga za gb zb : Bool) (bb : Bool) (w : World)
    (hA : ∀ w1, Below w.heap.size w w1 → Calls Tryz.prog 8 #[] w1 (RV w1 (.bool true)))
    (hOa : ∀ w1, Below w.heap.size w w1 → Calls Tryz.prog 15 #[.agg #[.slice A na ca, .bool ga, .bool za]] w1 (RV w1 (.tuple #[.agg #[.int .i64 (ma : Int), .int .u64 ((lo x : Nat) : Int), .int .u64 ((hi x : Nat) : Int), .bool ga, .bool za], .bool false])))
    (hOb : ∀ w1, Below w.heap.size w w1 → Calls Tryz.prog 15 #[.agg #[.slice B nb cb, .bool gb, .bool zb]] w1 (RV w1 (.tuple #[.agg #[.int .i64 (mb : Int), .int .u64 ((lo y : Nat) : Int), .int .u64 ((hi y : Nat) : Int), .bool gb, .bool zb], .bool bb]))) :
    Calls Tryz.prog 6 #[.agg #[.slice A na ca, .bool ga, .bool za], .agg #[.slice B nb cb, .bool gb, .bool zb]] w (RV w (.bool true)) := by
  replace hA := Lib.hid hA
  replace hOa := Lib.hid hOa
  replace hOb := Lib.hid hOb
  go_enter Tryz.func6, Tryz.ntmps6
  go_wp2_with fail
  have XA0 := (H3.new w 34 (.slice A na ca) (.bool ga) (.bool za)).alloc (.cells #[.slice B nb cb, .bool gb, .bool zb] 34)
  have XB0 := H3.new (w.alloc (.cells #[.slice A na ca, .bool ga, .bool za] 34)) 34 (.slice B nb cb) (.bool gb) (.bool zb)
  rw [World.size_alloc] at XB0
  have hB0 : Below w.heap.size w ((w.alloc (.cells #[.slice A na ca, .bool ga, .bool za] 34)).alloc (.cells #[.slice B nb cb, .bool gb, .bool zb] 34)) := by go_grown
  (with_reducible refine (hA.out _ hB0).mono ?_)
  rintro e w1 ⟨rfl, hb1⟩
  have XA1 := XA0.over hb1
  have XB1 := XB0.over hb1
  have xa := XA1.all
  have xal := XA1.lt
  have hbw1 : Below w.heap.size w w1 := below_call hb1 hB0
  have z1 := hbw1.size
  clear hb1 hA XA0 XB0 hB0
  go_wp2_with fail
  (with_reducible refine (hOa.out _ hbw1).mono ?_)
  rintro e w2 ⟨rfl, hb2⟩
  have XA2 := (XA1.over hb2).alloc (.cells #[.int .i64 (ma : Int), .int .u64 ((lo x : Nat) : Int), .int .u64 ((hi x : Nat) : Int), .bool ga, .bool za] 28)
  have XB2 := (XB1.over hb2).alloc (.cells #[.int .i64 (ma : Int), .int .u64 ((lo x : Nat) : Int), .int .u64 ((hi x : Nat) : Int), .bool ga, .bool za] 28)
  have XL2 := H5.new w2 28 (.int .i64 (ma : Int)) (.int .u64 ((lo x : Nat) : Int)) (.int .u64 ((hi x : Nat) : Int)) (.bool ga) (.bool za)
  have hbw2 : Below w.heap.size w (w2.alloc (.cells #[.int .i64 (ma : Int), .int .u64 ((lo x : Nat) : Int), .int .u64 ((hi x : Nat) : Int), .bool ga, .bool za] 28)) := (below_call hb2 hbw1).alloc (below_call hb2 hbw1).size _
  have z2 := hbw2.size
  have s2 : w.heap.size ≤ w2.heap.size := (below_call hb2 hbw1).size
  have xb := XB2.all
  have xbl := XB2.lt
  clear hb2 hOa XA1 XB1 xa xal
  go_wp2_with fail
  (with_reducible refine (hOb.out _ hbw2).mono ?_)
  rintro e w3 ⟨rfl, hb3⟩
  have XA3 := (XA2.over hb3).alloc (.cells #[.int .i64 (mb : Int), .int .u64 ((lo y : Nat) : Int), .int .u64 ((hi y : Nat) : Int), .bool gb, .bool zb] 28)
  have XB3 := (XB2.over hb3).alloc (.cells #[.int .i64 (mb : Int), .int .u64 ((lo y : Nat) : Int), .int .u64 ((hi y : Nat) : Int), .bool gb, .bool zb] 28)
  have XL3 := (XL2.over hb3).alloc (.cells #[.int .i64 (mb : Int), .int .u64 ((lo y : Nat) : Int), .int .u64 ((hi y : Nat) : Int), .bool gb, .bool zb] 28)
  have YL3 := H5.new w3 28 (.int .i64 (mb : Int)) (.int .u64 ((lo y : Nat) : Int)) (.int .u64 ((hi y : Nat) : Int)) (.bool gb) (.bool zb)
  have hbw3' : Below w.heap.size w w3 := below_call hb3 hbw2
  have hbw3 : Below w.heap.size w (w3.alloc (.cells #[.int .i64 (mb : Int), .int .u64 ((lo y : Nat) : Int), .int .u64 ((hi y : Nat) : Int), .bool gb, .bool zb] 28)) := hbw3'.alloc hbw3'.size _
  clear hb3 hOb XA2 XB2 XL2 xb xbl
  go_wp2_with fail
  go_ret
  exact ⟨rfl, hbw3⟩
set_option maxRecDepth 100000 in
set_option maxHeartbeats 6400000 in
theorem unlike_b (na nb ca cb ma mb x y : Nat) (A B : Option Addr) (ga za gb zb : Bool) (w : World)
    (hA : ∀ w1, Below w.heap.size w w1 → Calls Tryz.prog 8 #[] w1 (RV w1 (.bool true)))
    (hOa : ∀ w1, Below w.heap.size w w1 → Calls Tryz.prog 15 #[.agg #[.slice A na ca, .bool ga, .bool za]] w1 (RV w1 (.tuple #[.agg #[.int .i64 (ma : Int), .int .u64 ((lo x : Nat) : Int), .int .u64 ((hi x : Nat) : Int), .bool ga, .bool za], .bool true])))
    (hOb : ∀ w1, Below w.heap.size w w1 → Calls Tryz.prog 15 #[.agg #[.slice B nb cb, .bool gb, .bool zb]] w1 (RV w1 (.tuple #[.agg #[.int .i64 (mb : Int), .int .u64 ((lo y : Nat) : Int), .int .u64 ((hi y : Nat) : Int), .bool gb, .bool zb], .bool false]))) :
    Calls Tryz.prog 6 #[.agg #[.slice A na ca, .bool ga, .bool za], .agg #[.slice B nb cb, .bool gb, .bool zb]] w (RV w (.bool true)) := by
  replace hA := Lib.hid hA
  replace hOa := Lib.hid hOa
  replace hOb := Lib.hid hOb
  go_enter Tryz.func6, Tryz.ntmps6
  go_wp2_with fail
  have XA0 := (H3.new w 34 (.slice A na ca) (.bool ga) (.bool za)).alloc (.cells #[.slice B nb cb, .bool gb, .bool zb] 34)
  have XB0 := H3.new (w.alloc (.cells #[.slice A na ca, .bool ga, .bool za] 34)) 34 (.slice B nb cb) (.bool gb) (.bool zb)
  rw [World.size_alloc] at XB0
  have hB0 : Below w.heap.size w ((w.alloc (.cells #[.slice A na ca, .bool ga, .bool za] 34)).alloc (.cells #[.slice B nb cb, .bool gb, .bool zb] 34)) := by go_grown
  (with_reducible refine (hA.out _ hB0).mono ?_)
  rintro e w1 ⟨rfl, hb1⟩
  have XA1 := XA0.over hb1
  have XB1 := XB0.over hb1
  have xa := XA1.all
  have xal := XA1.lt
  have hbw1 : Below w.heap.size w w1 := below_call hb1 hB0
  have z1 := hbw1.size
  clear hb1 hA XA0 XB0 hB0
  go_wp2_with fail
  (with_reducible refine (hOa.out _ hbw1).mono ?_)
  rintro e w2 ⟨rfl, hb2⟩
  have XA2 := (XA1.over hb2).alloc (.cells #[.int .i64 (ma : Int), .int .u64 ((lo x : Nat) : Int), .int .u64 ((hi x : Nat) : Int), .bool ga, .bool za] 28)
  have XB2 := (XB1.over hb2).alloc (.cells #[.int .i64 (ma : Int), .int .u64 ((lo x : Nat) : Int), .int .u64 ((hi x : Nat) : Int), .bool ga, .bool za] 28)
  have XL2 := H5.new w2 28 (.int .i64 (ma : Int)) (.int .u64 ((lo x : Nat) : Int)) (.int .u64 ((hi x : Nat) : Int)) (.bool ga) (.bool za)
  have hbw2 : Below w.heap.size w (w2.alloc (.cells #[.int .i64 (ma : Int), .int .u64 ((lo x : Nat) : Int), .int .u64 ((hi x : Nat) : Int), .bool ga, .bool za] 28)) := (below_call hb2 hbw1).alloc (below_call hb2 hbw1).size _
  have z2 := hbw2.size
  have s2 : w.heap.size ≤ w2.heap.size := (below_call hb2 hbw1).size
  have xb := XB2.all
  have xbl := XB2.lt
  clear hb2 hOa XA1 XB1 xa xal
  go_wp2_with fail
  (with_reducible refine (hOb.out _ hbw2).mono ?_)
  rintro e w3 ⟨rfl, hb3⟩
  have XA3 := (XA2.over hb3).alloc (.cells #[.int .i64 (mb : Int), .int .u64 ((lo y : Nat) : Int), .int .u64 ((hi y : Nat) : Int), .bool gb, .bool zb] 28)
  have XB3 := (XB2.over hb3).alloc (.cells #[.int .i64 (mb : Int), .int .u64 ((lo y : Nat) : Int), .int .u64 ((hi y : Nat) : Int), .bool gb, .bool zb] 28)
  have XL3 := (XL2.over hb3).alloc (.cells #[.int .i64 (mb : Int), .int .u64 ((lo y : Nat) : Int), .int .u64 ((hi y : Nat) : Int), .bool gb, .bool zb] 28)
  have YL3 := H5.new w3 28 (.int .i64 (mb : Int)) (.int .u64 ((lo y : Nat) : Int)) (.int .u64 ((hi y : Nat) : Int)) (.bool gb) (.bool zb)
  have hbw3' : Below w.heap.size w w3 := below_call hb3 hbw2
  have hbw3 : Below w.heap.size w (w3.alloc (.cells #[.int .i64 (mb : Int), .int .u64 ((lo y : Nat) : Int), .int .u64 ((hi y : Nat) : Int), .bool gb, .bool zb] 28)) := hbw3'.alloc hbw3'.size _
  clear hb3 hOb XA2 XB2 XL2 xb xbl
  go_wp2_with fail
  go_ret
  exact ⟨rfl, hbw3⟩
set_option maxRecDepth 100000 in
set_option maxHeartbeats 6400000 in
theorem unlike_c (na nb ca cb ma mb x y : Nat) (A B : Option Addr) (ga za gb zb : Bool) (w : World)
    (hA : ∀ w1, Below w.heap.size w w1 → Calls Tryz.prog 8 #[] w1 (RV w1 (.bool true)))
    (hOa : ∀ w1, Below w.heap.size w w1 → Calls Tryz.prog 15 #[.agg #[.slice A na ca, .bool ga, .bool za]] w1 (RV w1 (.tuple #[.agg #[.int .i64 (ma : Int), .int .u64 ((lo x : Nat) : Int), .int .u64 ((hi x : Nat) : Int), .bool ga, .bool za], .bool true])))
    (hOb : ∀ w1, Below w.heap.size w w1 → Calls Tryz.prog 15 #[.agg #[.slice B nb cb, .bool gb, .bool zb]] w1 (RV w1 (.tuple #[.agg #[.int .i64 (mb : Int), .int .u64 ((lo y : Nat) : Int), .int .u64 ((hi y : Nat) : Int), .bool gb, .bool zb], .bool true]))) (DX : ByteArray)
    (hX : ∀ w1, Below w.heap.size w w1 → Calls Tryz.prog 13 #[.agg #[.int .i64 (ma : Int), .int .u64 ((lo x : Nat) : Int), .int .u64 ((hi x : Nat) : Int), .bool ga, .bool za]] w1 (RV w1 (.string DX))) (hD : DX.size = 0) :
    Calls Tryz.prog 6 #[.agg #[.slice A na ca, .bool ga, .bool za], .agg #[.slice B nb cb, .bool gb, .bool zb]] w (RV w (.bool true)) := by
  obtain ⟨m1, m2⟩ := emp DX hD
  clear hD
  replace hX := Lib.hid hX
  replace hA := Lib.hid hA
  replace hOa := Lib.hid hOa
  replace hOb := Lib.hid hOb
  go_enter Tryz.func6, Tryz.ntmps6
  go_wp2_with fail
  have XA0 := (H3.new w 34 (.slice A na ca) (.bool ga) (.bool za)).alloc (.cells #[.slice B nb cb, .bool gb, .bool zb] 34)
  have XB0 := H3.new (w.alloc (.cells #[.slice A na ca, .bool ga, .bool za] 34)) 34 (.slice B nb cb) (.bool gb) (.bool zb)
  rw [World.size_alloc] at XB0
  have hB0 : Below w.heap.size w ((w.alloc (.cells #[.slice A na ca, .bool ga, .bool za] 34)).alloc (.cells #[.slice B nb cb, .bool gb, .bool zb] 34)) := by go_grown
  (with_reducible refine (hA.out _ hB0).mono ?_)
  rintro e w1 ⟨rfl, hb1⟩
  have XA1 := XA0.over hb1
  have XB1 := XB0.over hb1
  have xa := XA1.all
  have xal := XA1.lt
  have hbw1 : Below w.heap.size w w1 := below_call hb1 hB0
  have z1 := hbw1.size
  clear hb1 hA XA0 XB0 hB0
  go_wp2_with fail
  (with_reducible refine (hOa.out _ hbw1).mono ?_)
  rintro e w2 ⟨rfl, hb2⟩
  have XA2 := (XA1.over hb2).alloc (.cells #[.int .i64 (ma : Int), .int .u64 ((lo x : Nat) : Int), .int .u64 ((hi x : Nat) : Int), .bool ga, .bool za] 28)
  have XB2 := (XB1.over hb2).alloc (.cells #[.int .i64 (ma : Int), .int .u64 ((lo x : Nat) : Int), .int .u64 ((hi x : Nat) : Int), .bool ga, .bool za] 28)
  have XL2 := H5.new w2 28 (.int .i64 (ma : Int)) (.int .u64 ((lo x : Nat) : Int)) (.int .u64 ((hi x : Nat) : Int)) (.bool ga) (.bool za)
  have hbw2 : Below w.heap.size w (w2.alloc (.cells #[.int .i64 (ma : Int), .int .u64 ((lo x : Nat) : Int), .int .u64 ((hi x : Nat) : Int), .bool ga, .bool za] 28)) := (below_call hb2 hbw1).alloc (below_call hb2 hbw1).size _
  have z2 := hbw2.size
  have s2 : w.heap.size ≤ w2.heap.size := (below_call hb2 hbw1).size
  have xb := XB2.all
  have xbl := XB2.lt
  clear hb2 hOa XA1 XB1 xa xal
  go_wp2_with fail
  (with_reducible refine (hOb.out _ hbw2).mono ?_)
  rintro e w3 ⟨rfl, hb3⟩
  have XA3 := (XA2.over hb3).alloc (.cells #[.int .i64 (mb : Int), .int .u64 ((lo y : Nat) : Int), .int .u64 ((hi y : Nat) : Int), .bool gb, .bool zb] 28)
  have XB3 := (XB2.over hb3).alloc (.cells #[.int .i64 (mb : Int), .int .u64 ((lo y : Nat) : Int), .int .u64 ((hi y : Nat) : Int), .bool gb, .bool zb] 28)
  have XL3 := (XL2.over hb3).alloc (.cells #[.int .i64 (mb : Int), .int .u64 ((lo y : Nat) : Int), .int .u64 ((hi y : Nat) : Int), .bool gb, .bool zb] 28)
  have YL3 := H5.new w3 28 (.int .i64 (mb : Int)) (.int .u64 ((lo y : Nat) : Int)) (.int .u64 ((hi y : Nat) : Int)) (.bool gb) (.bool zb)
  have hbw3' : Below w.heap.size w w3 := below_call hb3 hbw2
  have hbw3 : Below w.heap.size w (w3.alloc (.cells #[.int .i64 (mb : Int), .int .u64 ((lo y : Nat) : Int), .int .u64 ((hi y : Nat) : Int), .bool gb, .bool zb] 28)) := hbw3'.alloc hbw3'.size _
  clear hb3 hOb XA2 XB2 XL2 xb xbl
  have xl := XL3.all
  have xll := XL3.lt
  go_wp2_with fail
  (with_reducible refine (hX.out _ hbw3).mono ?_)
  rintro e w4 ⟨rfl, hb4⟩
  have hbw4 : Below w.heap.size w w4 := below_call hb4 hbw3
  clear hb4
  go_wp2_with fail
  go_ret
  exact ⟨rfl, hbw4⟩
set_option maxRecDepth 100000 in
set_option maxHeartbeats 6400000 in
theorem unlike_d (na nb ca cb ma mb x y : Nat) (A B : Option Addr) (ga za gb zb : Bool) (w : World)
    (hA : ∀ w1, Below w.heap.size w w1 → Calls Tryz.prog 8 #[] w1 (RV w1 (.bool true)))
    (hOa : ∀ w1, Below w.heap.size w w1 → Calls Tryz.prog 15 #[.agg #[.slice A na ca, .bool ga, .bool za]] w1 (RV w1 (.tuple #[.agg #[.int .i64 (ma : Int), .int .u64 ((lo x : Nat) : Int), .int .u64 ((hi x : Nat) : Int), .bool ga, .bool za], .bool true])))
    (hOb : ∀ w1, Below w.heap.size w w1 → Calls Tryz.prog 15 #[.agg #[.slice B nb cb, .bool gb, .bool zb]] w1 (RV w1 (.tuple #[.agg #[.int .i64 (mb : Int), .int .u64 ((lo y : Nat) : Int), .int .u64 ((hi y : Nat) : Int), .bool gb, .bool zb], .bool true]))) (DX DY : ByteArray)
    (hX : ∀ w1, Below w.heap.size w w1 → Calls Tryz.prog 13 #[.agg #[.int .i64 (ma : Int), .int .u64 ((lo x : Nat) : Int), .int .u64 ((hi x : Nat) : Int), .bool ga, .bool za]] w1 (RV w1 (.string DX)))
    (hY : ∀ w1, Below w.heap.size w w1 → Calls Tryz.prog 13 #[.agg #[.int .i64 (mb : Int), .int .u64 ((lo y : Nat) : Int), .int .u64 ((hi y : Nat) : Int), .bool gb, .bool zb]] w1 (RV w1 (.string DY))) (hD : 0 < DX.size) (hE : DY.size = 0) :
    Calls Tryz.prog 6 #[.agg #[.slice A na ca, .bool ga, .bool za], .agg #[.slice B nb cb, .bool gb, .bool zb]] w (RV w (.bool true)) := by
  obtain ⟨m1, m2⟩ := nemp DX hD
  obtain ⟨n1, n2⟩ := emp DY hE
  clear hD hE
  replace hX := Lib.hid hX
  replace hY := Lib.hid hY
  replace hA := Lib.hid hA
  replace hOa := Lib.hid hOa
  replace hOb := Lib.hid hOb
  go_enter Tryz.func6, Tryz.ntmps6
  go_wp2_with fail
  have XA0 := (H3.new w 34 (.slice A na ca) (.bool ga) (.bool za)).alloc (.cells #[.slice B nb cb, .bool gb, .bool zb] 34)
  have XB0 := H3.new (w.alloc (.cells #[.slice A na ca, .bool ga, .bool za] 34)) 34 (.slice B nb cb) (.bool gb) (.bool zb)
  rw [World.size_alloc] at XB0
  have hB0 : Below w.heap.size w ((w.alloc (.cells #[.slice A na ca, .bool ga, .bool za] 34)).alloc (.cells #[.slice B nb cb, .bool gb, .bool zb] 34)) := by go_grown
  (with_reducible refine (hA.out _ hB0).mono ?_)
  rintro e w1 ⟨rfl, hb1⟩
  have XA1 := XA0.over hb1
  have XB1 := XB0.over hb1
  have xa := XA1.all
  have xal := XA1.lt
  have hbw1 : Below w.heap.size w w1 := below_call hb1 hB0
  have z1 := hbw1.size
  clear hb1 hA XA0 XB0 hB0
  go_wp2_with fail
  (with_reducible refine (hOa.out _ hbw1).mono ?_)
  rintro e w2 ⟨rfl, hb2⟩
  have XA2 := (XA1.over hb2).alloc (.cells #[.int .i64 (ma : Int), .int .u64 ((lo x : Nat) : Int), .int .u64 ((hi x : Nat) : Int), .bool ga, .bool za] 28)
  have XB2 := (XB1.over hb2).alloc (.cells #[.int .i64 (ma : Int), .int .u64 ((lo x : Nat) : Int), .int .u64 ((hi x : Nat) : Int), .bool ga, .bool za] 28)
  have XL2 := H5.new w2 28 (.int .i64 (ma : Int)) (.int .u64 ((lo x : Nat) : Int)) (.int .u64 ((hi x : Nat) : Int)) (.bool ga) (.bool za)
  have hbw2 : Below w.heap.size w (w2.alloc (.cells #[.int .i64 (ma : Int), .int .u64 ((lo x : Nat) : Int), .int .u64 ((hi x : Nat) : Int), .bool ga, .bool za] 28)) := (below_call hb2 hbw1).alloc (below_call hb2 hbw1).size _
  have z2 := hbw2.size
  have s2 : w.heap.size ≤ w2.heap.size := (below_call hb2 hbw1).size
  have xb := XB2.all
  have xbl := XB2.lt
  clear hb2 hOa XA1 XB1 xa xal
  go_wp2_with fail
  (with_reducible refine (hOb.out _ hbw2).mono ?_)
  rintro e w3 ⟨rfl, hb3⟩
  have XA3 := (XA2.over hb3).alloc (.cells #[.int .i64 (mb : Int), .int .u64 ((lo y : Nat) : Int), .int .u64 ((hi y : Nat) : Int), .bool gb, .bool zb] 28)
  have XB3 := (XB2.over hb3).alloc (.cells #[.int .i64 (mb : Int), .int .u64 ((lo y : Nat) : Int), .int .u64 ((hi y : Nat) : Int), .bool gb, .bool zb] 28)
  have XL3 := (XL2.over hb3).alloc (.cells #[.int .i64 (mb : Int), .int .u64 ((lo y : Nat) : Int), .int .u64 ((hi y : Nat) : Int), .bool gb, .bool zb] 28)
  have YL3 := H5.new w3 28 (.int .i64 (mb : Int)) (.int .u64 ((lo y : Nat) : Int)) (.int .u64 ((hi y : Nat) : Int)) (.bool gb) (.bool zb)
  have hbw3' : Below w.heap.size w w3 := below_call hb3 hbw2
  have hbw3 : Below w.heap.size w (w3.alloc (.cells #[.int .i64 (mb : Int), .int .u64 ((lo y : Nat) : Int), .int .u64 ((hi y : Nat) : Int), .bool gb, .bool zb] 28)) := hbw3'.alloc hbw3'.size _
  clear hb3 hOb XA2 XB2 XL2 xb xbl
  have xl := XL3.all
  have xll := XL3.lt
  go_wp2_with fail
  (with_reducible refine (hX.out _ hbw3).mono ?_)
  rintro e w4 ⟨rfl, hb4⟩
  have XA4 := XA3.over hb4
  have XB4 := XB3.over hb4
  have XL4 := XL3.over hb4
  have YL4 := YL3.over hb4
  have hbw4 : Below w.heap.size w w4 := below_call hb4 hbw3
  have yl4 := YL4.all
  have yll4 := YL4.lt
  clear xl xll XA3 XB3 XL3 YL3 hb4
  go_wp2_with fail
  (with_reducible refine (hY.out _ hbw4).mono ?_)
  rintro e w5 ⟨rfl, hb5⟩
  have hbw5 : Below w.heap.size w w5 := below_call hb5 hbw4
  clear hb5
  go_wp2_with fail
  go_ret
  exact ⟨rfl, hbw5⟩
set_option maxRecDepth 100000 in
set_option maxHeartbeats 6400000 in
theorem unlike_e (na nb ca cb ma mb x y : Nat) (A B : Option Addr) (ga za gb zb : Bool) (w : World)
    (hA : ∀ w1, Below w.heap.size w w1 → Calls Tryz.prog 8 #[] w1 (RV w1 (.bool true)))
    (hOa : ∀ w1, Below w.heap.size w w1 → Calls Tryz.prog 15 #[.agg #[.slice A na ca, .bool ga, .bool za]] w1 (RV w1 (.tuple #[.agg #[.int .i64 (ma : Int), .int .u64 ((lo x : Nat) : Int), .int .u64 ((hi x : Nat) : Int), .bool ga, .bool za], .bool true])))
    (hOb : ∀ w1, Below w.heap.size w w1 → Calls Tryz.prog 15 #[.agg #[.slice B nb cb, .bool gb, .bool zb]] w1 (RV w1 (.tuple #[.agg #[.int .i64 (mb : Int), .int .u64 ((lo y : Nat) : Int), .int .u64 ((hi y : Nat) : Int), .bool gb, .bool zb], .bool true]))) (DX DY : ByteArray)
    (hX : ∀ w1, Below w.heap.size w w1 → Calls Tryz.prog 13 #[.agg #[.int .i64 (ma : Int), .int .u64 ((lo x : Nat) : Int), .int .u64 ((hi x : Nat) : Int), .bool ga, .bool za]] w1 (RV w1 (.string DX)))
    (hY : ∀ w1, Below w.heap.size w w1 → Calls Tryz.prog 13 #[.agg #[.int .i64 (mb : Int), .int .u64 ((lo y : Nat) : Int), .int .u64 ((hi y : Nat) : Int), .bool gb, .bool zb]] w1 (RV w1 (.string DY)))
    (hS : ∀ w1, Below w.heap.size w w1 → Calls Tryz.prog 11 #[.agg #[.slice A na ca, .bool ga, .bool za], .agg #[.slice B nb cb, .bool gb, .bool zb]] w1 (RV w1 (.bool (DX.toList == DY.toList)))) (hD : 0 < DX.size) (hE : 0 < DY.size) :
    Calls Tryz.prog 6 #[.agg #[.slice A na ca, .bool ga, .bool za], .agg #[.slice B nb cb, .bool gb, .bool zb]] w (RV w (.bool true)) := by
  obtain ⟨m1, m2⟩ := nemp DX hD
  obtain ⟨n1, n2⟩ := nemp DY hE
  have tt : ((DX.toList == DY.toList) == (DX.toList == DY.toList)) = true := by simp
  clear hD hE
  replace hX := Lib.hid hX
  replace hY := Lib.hid hY
  replace hS := Lib.hid hS
  replace hA := Lib.hid hA
  replace hOa := Lib.hid hOa
  replace hOb := Lib.hid hOb
  go_enter Tryz.func6, Tryz.ntmps6
  go_wp2_with fail
  have XA0 := (H3.new w 34 (.slice A na ca) (.bool ga) (.bool za)).alloc (.cells #[.slice B nb cb, .bool gb, .bool zb] 34)
  have XB0 := H3.new (w.alloc (.cells #[.slice A na ca, .bool ga, .bool za] 34)) 34 (.slice B nb cb) (.bool gb) (.bool zb)
  rw [World.size_alloc] at XB0
  have hB0 : Below w.heap.size w ((w.alloc (.cells #[.slice A na ca, .bool ga, .bool za] 34)).alloc (.cells #[.slice B nb cb, .bool gb, .bool zb] 34)) := by go_grown
  (with_reducible refine (hA.out _ hB0).mono ?_)
  rintro e w1 ⟨rfl, hb1⟩
  have XA1 := XA0.over hb1
  have XB1 := XB0.over hb1
  have xa := XA1.all
  have xal := XA1.lt
  have hbw1 : Below w.heap.size w w1 := below_call hb1 hB0
  have z1 := hbw1.size
  clear hb1 hA XA0 XB0 hB0
  go_wp2_with fail
  (with_reducible refine (hOa.out _ hbw1).mono ?_)
  rintro e w2 ⟨rfl, hb2⟩
  have XA2 := (XA1.over hb2).alloc (.cells #[.int .i64 (ma : Int), .int .u64 ((lo x : Nat) : Int), .int .u64 ((hi x : Nat) : Int), .bool ga, .bool za] 28)
  have XB2 := (XB1.over hb2).alloc (.cells #[.int .i64 (ma : Int), .int .u64 ((lo x : Nat) : Int), .int .u64 ((hi x : Nat) : Int), .bool ga, .bool za] 28)
  have XL2 := H5.new w2 28 (.int .i64 (ma : Int)) (.int .u64 ((lo x : Nat) : Int)) (.int .u64 ((hi x : Nat) : Int)) (.bool ga) (.bool za)
  have hbw2 : Below w.heap.size w (w2.alloc (.cells #[.int .i64 (ma : Int), .int .u64 ((lo x : Nat) : Int), .int .u64 ((hi x : Nat) : Int), .bool ga, .bool za] 28)) := (below_call hb2 hbw1).alloc (below_call hb2 hbw1).size _
  have z2 := hbw2.size
  have s2 : w.heap.size ≤ w2.heap.size := (below_call hb2 hbw1).size
  have xb := XB2.all
  have xbl := XB2.lt
  clear hb2 hOa XA1 XB1 xa xal
  go_wp2_with fail
  (with_reducible refine (hOb.out _ hbw2).mono ?_)
  rintro e w3 ⟨rfl, hb3⟩
  have XA3 := (XA2.over hb3).alloc (.cells #[.int .i64 (mb : Int), .int .u64 ((lo y : Nat) : Int), .int .u64 ((hi y : Nat) : Int), .bool gb, .bool zb] 28)
  have XB3 := (XB2.over hb3).alloc (.cells #[.int .i64 (mb : Int), .int .u64 ((lo y : Nat) : Int), .int .u64 ((hi y : Nat) : Int), .bool gb, .bool zb] 28)
  have XL3 := (XL2.over hb3).alloc (.cells #[.int .i64 (mb : Int), .int .u64 ((lo y : Nat) : Int), .int .u64 ((hi y : Nat) : Int), .bool gb, .bool zb] 28)
  have YL3 := H5.new w3 28 (.int .i64 (mb : Int)) (.int .u64 ((lo y : Nat) : Int)) (.int .u64 ((hi y : Nat) : Int)) (.bool gb) (.bool zb)
  have hbw3' : Below w.heap.size w w3 := below_call hb3 hbw2
  have hbw3 : Below w.heap.size w (w3.alloc (.cells #[.int .i64 (mb : Int), .int .u64 ((lo y : Nat) : Int), .int .u64 ((hi y : Nat) : Int), .bool gb, .bool zb] 28)) := hbw3'.alloc hbw3'.size _
  clear hb3 hOb XA2 XB2 XL2 xb xbl
  have xl := XL3.all
  have xll := XL3.lt
  go_wp2_with fail
  (with_reducible refine (hX.out _ hbw3).mono ?_)
  rintro e w4 ⟨rfl, hb4⟩
  have XA4 := XA3.over hb4
  have XB4 := XB3.over hb4
  have XL4 := XL3.over hb4
  have YL4 := YL3.over hb4
  have hbw4 : Below w.heap.size w w4 := below_call hb4 hbw3
  have yl4 := YL4.all
  have yll4 := YL4.lt
  clear xl xll XA3 XB3 XL3 YL3 hb4
  go_wp2_with fail
  (with_reducible refine (hY.out _ hbw4).mono ?_)
  rintro e w5 ⟨rfl, hb5⟩
  have XA5 := XA4.over hb5
  have XB5 := XB4.over hb5
  have XL5 := XL4.over hb5
  have YL5 := YL4.over hb5
  have hbw5 : Below w.heap.size w w5 := below_call hb5 hbw4
  clear yl4 yll4 XA4 XB4 XL4 YL4 hb5
  go_wp2_with fail
  obtain ⟨ka, hka⟩ : ∃ ka, w2.heap.size = ka := ⟨_, rfl⟩
  obtain ⟨kb, hkb⟩ : ∃ kb, w3.heap.size = kb := ⟨_, rfl⟩
  simp only [hka, hkb] at XL5 YL5 ⊢
  have XL6 : H5 28 w5.drew ka (.int .i64 (ma : Int)) (.int .u64 ((lo x : Nat) : Int)) (.int .u64 ((hi x : Nat) : Int)) (.bool ga) (.bool za) := XL5
  have YL6 : H5 28 w5.drew kb (.int .i64 (mb : Int)) (.int .u64 ((lo y : Nat) : Int)) (.int .u64 ((hi y : Nat) : Int)) (.bool gb) (.bool zb) := YL5
  have XA6 : H3 34 w5.drew w.heap.size (.slice A na ca) (.bool ga) (.bool za) := XA5
  have XB6 : H3 34 w5.drew (w.heap.size + 1) (.slice B nb cb) (.bool gb) (.bool zb) := XB5
  have hbw6 : Below w.heap.size w w5.drew := hbw5.drew
  clear XL5 YL5 XA5 XB5 hbw4 hbw3 hbw2 hbw1 hbw3' hbw5 m1 m2 n1 n2
  refine region_anyT (n := 9) (S := fun w' => H5 28 w' ka (.int .i64 (ma : Int)) (.int .u64 ((lo x : Nat) : Int)) (.int .u64 ((hi x : Nat) : Int)) (.bool ga) (.bool za) ∧ H5 28 w' kb (.int .i64 (mb : Int)) (.int .u64 ((lo y : Nat) : Int)) (.int .u64 ((hi y : Nat) : Int)) (.bool gb) (.bool zb) ∧ H3 34 w' w.heap.size (.slice A na ca) (.bool ga) (.bool za) ∧ H3 34 w' (w.heap.size + 1) (.slice B nb cb) (.bool gb) (.bool zb)) (by kernel_rfl) ?_
  refine anyT_take (i := 0) (v := .agg #[.int .i64 (ma : Int), .int .u64 ((lo x : Nat) : Int), .int .u64 ((hi x : Nat) : Int), .bool ga, .bool za]) rfl (by kernel_rfl) (by kernel_rfl) (fun _ _ _ h => h) (Or.inl ⟨by rfl, ?_⟩) ⟨XL6, YL6, XA6, XB6⟩ ?_
  · intro w' hw'
    obtain ⟨⟨k1, k2, k3, k4, k5, k6⟩, ⟨j1, j2, j3, j4, j5, j6⟩, ⟨i1, i2, i3, i4⟩, ⟨g1, g2, g3, g4⟩⟩ := And.intro (H5.all hw'.1) (And.intro (H5.all hw'.2.1) (And.intro (H3.all hw'.2.2.1) (H3.all hw'.2.2.2)))
    go_simp
    try with_reducible rfl
  try simp only [Act.put, List.getElem_toArray, List.getElem_cons_zero, List.getElem_cons_succ, List.setIfInBounds_toArray, List.set_cons_zero, List.set_cons_succ]
  refine anyT_take (i := 2) (v := .agg #[.int .i64 (mb : Int), .int .u64 ((lo y : Nat) : Int), .int .u64 ((hi y : Nat) : Int), .bool gb, .bool zb]) rfl (by kernel_rfl) (by kernel_rfl) (fun _ _ _ h => h) (Or.inl ⟨by rfl, ?_⟩) ⟨XL6, YL6, XA6, XB6⟩ ?_
  · intro w' hw'
    obtain ⟨⟨k1, k2, k3, k4, k5, k6⟩, ⟨j1, j2, j3, j4, j5, j6⟩, ⟨i1, i2, i3, i4⟩, ⟨g1, g2, g3, g4⟩⟩ := And.intro (H5.all hw'.1) (And.intro (H5.all hw'.2.1) (And.intro (H3.all hw'.2.2.1) (H3.all hw'.2.2.2)))
    go_simp
    try with_reducible rfl
  try simp only [Act.put, List.getElem_toArray, List.getElem_cons_zero, List.getElem_cons_succ, List.setIfInBounds_toArray, List.set_cons_zero, List.set_cons_succ]
  refine anyT_take (i := 5) (v := .agg #[.slice A na ca, .bool ga, .bool za]) rfl (by kernel_rfl) (by kernel_rfl) (fun _ _ _ h => h) (Or.inl ⟨by rfl, ?_⟩) ⟨XL6, YL6, XA6, XB6⟩ ?_
  · intro w' hw'
    obtain ⟨⟨k1, k2, k3, k4, k5, k6⟩, ⟨j1, j2, j3, j4, j5, j6⟩, ⟨i1, i2, i3, i4⟩, ⟨g1, g2, g3, g4⟩⟩ := And.intro (H5.all hw'.1) (And.intro (H5.all hw'.2.1) (And.intro (H3.all hw'.2.2.1) (H3.all hw'.2.2.2)))
    go_simp
    try with_reducible rfl
  try simp only [Act.put, List.getElem_toArray, List.getElem_cons_zero, List.getElem_cons_succ, List.setIfInBounds_toArray, List.set_cons_zero, List.set_cons_succ]
  refine anyT_take (i := 6) (v := .agg #[.slice B nb cb, .bool gb, .bool zb]) rfl (by kernel_rfl) (by kernel_rfl) (fun _ _ _ h => h) (Or.inl ⟨by rfl, ?_⟩) ⟨XL6, YL6, XA6, XB6⟩ ?_
  · intro w' hw'
    obtain ⟨⟨k1, k2, k3, k4, k5, k6⟩, ⟨j1, j2, j3, j4, j5, j6⟩, ⟨i1, i2, i3, i4⟩, ⟨g1, g2, g3, g4⟩⟩ := And.intro (H5.all hw'.1) (And.intro (H5.all hw'.2.1) (And.intro (H3.all hw'.2.2.1) (H3.all hw'.2.2.2)))
    go_simp
    try with_reducible rfl
  try simp only [Act.put, List.getElem_toArray, List.getElem_cons_zero, List.getElem_cons_succ, List.setIfInBounds_toArray, List.set_cons_zero, List.set_cons_succ]
  refine anyT_one (i := 1) (by kernel_rfl) ?_
  refine wpOp_step rfl (fun K hK => ?_)
  replace hK := Lib.hid hK
  go_simp
  (with_reducible refine (hX.out _ hbw6).mono ?_)
  rintro e w7 ⟨rfl, hb7⟩
  have XA7 := XA6.over hb7
  have XB7 := XB6.over hb7
  have XL7 := XL6.over hb7
  have YL7 := YL6.over hb7
  have hbw7 : Below w.heap.size w w7 := below_call hb7 hbw6
  clear hb7
  refine hK.out _ _ ⟨fun _ => ⟨XL7, YL7, XA7, XB7⟩, ?_⟩
  clear hK K
  try simp only [Act.put, List.getElem_toArray, List.getElem_cons_zero, List.getElem_cons_succ, List.setIfInBounds_toArray, List.set_cons_zero, List.set_cons_succ]
  refine anyT_one (i := 3) (by kernel_rfl) ?_
  refine wpOp_step rfl (fun K hK => ?_)
  replace hK := Lib.hid hK
  go_simp
  (with_reducible refine (hY.out _ hbw7).mono ?_)
  rintro e w8 ⟨rfl, hb8⟩
  have XA8 := XA7.over hb8
  have XB8 := XB7.over hb8
  have XL8 := XL7.over hb8
  have YL8 := YL7.over hb8
  have hbw8 : Below w.heap.size w w8 := below_call hb8 hbw7
  clear hb8
  refine hK.out _ _ ⟨fun _ => ⟨XL8, YL8, XA8, XB8⟩, ?_⟩
  clear hK K
  try simp only [Act.put, List.getElem_toArray, List.getElem_cons_zero, List.getElem_cons_succ, List.setIfInBounds_toArray, List.set_cons_zero, List.set_cons_succ]
  refine anyT_take (i := 4) (v := .bool (DX.toList == DY.toList)) rfl (by kernel_rfl) (by kernel_rfl) (fun _ _ _ h => h) (Or.inl ⟨by rfl, ?_⟩) ⟨XL8, YL8, XA8, XB8⟩ ?_
  · intro w' hw'
    obtain ⟨⟨k1, k2, k3, k4, k5, k6⟩, ⟨j1, j2, j3, j4, j5, j6⟩, ⟨i1, i2, i3, i4⟩, ⟨g1, g2, g3, g4⟩⟩ := And.intro (H5.all hw'.1) (And.intro (H5.all hw'.2.1) (And.intro (H3.all hw'.2.2.1) (H3.all hw'.2.2.2)))
    go_simp
    try with_reducible rfl
  try simp only [Act.put, List.getElem_toArray, List.getElem_cons_zero, List.getElem_cons_succ, List.setIfInBounds_toArray, List.set_cons_zero, List.set_cons_succ]
  refine anyT_one (i := 7) (by kernel_rfl) ?_
  refine wpOp_step rfl (fun K hK => ?_)
  replace hK := Lib.hid hK
  go_simp
  (with_reducible refine (hS.out _ hbw8).mono ?_)
  rintro e w9 ⟨rfl, hb9⟩
  have XA9 := XA8.over hb9
  have XB9 := XB8.over hb9
  have XL9 := XL8.over hb9
  have YL9 := YL8.over hb9
  have hbw9 : Below w.heap.size w w9 := below_call hb9 hbw8
  clear hb9
  refine hK.out _ _ ⟨fun _ => ⟨XL9, YL9, XA9, XB9⟩, ?_⟩
  clear hK K
  try simp only [Act.put, List.getElem_toArray, List.getElem_cons_zero, List.getElem_cons_succ, List.setIfInBounds_toArray, List.set_cons_zero, List.set_cons_succ]
  refine anyT_take (i := 8) (v := .bool true) rfl (by kernel_rfl) (by kernel_rfl) (fun _ _ _ h => h) (Or.inl ⟨by rfl, ?_⟩) ⟨XL9, YL9, XA9, XB9⟩ ?_
  · intro w' hw'
    obtain ⟨⟨k1, k2, k3, k4, k5, k6⟩, ⟨j1, j2, j3, j4, j5, j6⟩, ⟨i1, i2, i3, i4⟩, ⟨g1, g2, g3, g4⟩⟩ := And.intro (H5.all hw'.1) (And.intro (H5.all hw'.2.1) (And.intro (H3.all hw'.2.2.1) (H3.all hw'.2.2.2)))
    go_simp
    try with_reducible rfl
  try simp only [Act.put, List.getElem_toArray, List.getElem_cons_zero, List.getElem_cons_succ, List.setIfInBounds_toArray, List.set_cons_zero, List.set_cons_succ]
  refine anyT_one (i := 9) (by kernel_rfl) ?_
  refine wpOp_step rfl (fun K hK => ?_)
  replace hK := Lib.hid hK
  go_simp
  refine hK.out _ _ ⟨fun h => absurd h (by decide), ?_⟩
  clear hK K
  try simp only [Act.put]
  refine anyT_done (by kernel_rfl) ?_ _
  go_wp2_with fail
  go_ret
  exact ⟨rfl, hbw9⟩
end Go.Proofs.YtalmhopbnaeamaaGreatDoor
