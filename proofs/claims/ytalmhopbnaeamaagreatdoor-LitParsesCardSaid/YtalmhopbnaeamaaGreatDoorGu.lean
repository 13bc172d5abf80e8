/-
  The walk of the statement LitTexts.
-/
import Derived.Test.YtalmhopbnaeamaaGreatDoorGt
namespace Go.Proofs.YtalmhopbnaeamaaGreatDoor
open Go.RowKit Go.Lib
set_option maxRecDepth 100000 in
set_option maxHeartbeats 6400000 in
theorem texts_a (n c m x : Nat) (A : Option Addr) (sg sz : Bool) (w : World)
    (hA : ∀ w1, Below w.heap.size w w1 → Calls Tryz.prog 8 #[] w1 (RV w1 (.bool true)))
    (hO : ∀ w1, Below w.heap.size w w1 → Calls Tryz.prog 15 #[.agg #[.slice A n c, .bool sg, .bool sz]] w1 (RV w1 (.tuple #[.agg #[.int .i64 (m : Int), .int .u64 ((lo x : Nat) : Int), .int .u64 ((hi x : Nat) : Int), .bool sg, .bool sz], .bool false]))) :
    Calls Tryz.prog 4 #[.agg #[.slice A n c, .bool sg, .bool sz]] w (RV w (.bool true)) := by
  replace hA := Lib.hid hA
  replace hO := Lib.hid hO
  go_enter Tryz.func4, Tryz.ntmps4
  go_wp2_with fail
  have hbw0 : Below w.heap.size w (w.alloc (.cells #[.slice A n c, .bool sg, .bool sz] 34)) := by go_grown
  have bh := H3.new w 34 (.slice A n c) (.bool sg) (.bool sz)
  have ba := bh.all
  have bl := bh.lt
  (with_reducible refine (hA.out _ hbw0).mono ?_)
  rintro e w1 ⟨rfl, hb1⟩
  have bh' := (bh.over hb1)
  clear bh ba bl
  have bh := bh'
  clear bh'
  have ba := bh.all
  have bl := bh.lt
  have hbw1 : Below w.heap.size w w1 := below_call hb1 hbw0
  have zw1 := hbw1.size
  clear hb1
  go_wp2_with fail
  (with_reducible refine (hO.out _ hbw1).mono ?_)
  rintro e w2 ⟨rfl, hb2⟩
  have bh' := (bh.over hb2).alloc (.cells #[.int .i64 (m : Int), .int .u64 ((lo x : Nat) : Int), .int .u64 ((hi x : Nat) : Int), .bool sg, .bool sz] 28)
  clear bh ba bl
  have bh := bh'
  clear bh'
  have ba := bh.all
  have bl := bh.lt
  have hbv2 : Below w.heap.size w w2 := below_call hb2 hbw1
  have zv2 := hbv2.size
  have hbw2 : Below w.heap.size w (w2.alloc (.cells #[.int .i64 (m : Int), .int .u64 ((lo x : Nat) : Int), .int .u64 ((hi x : Nat) : Int), .bool sg, .bool sz] 28)) := hbv2.alloc hbv2.size _
  have lh := H5.new w2 28 (.int .i64 (m : Int)) (.int .u64 ((lo x : Nat) : Int)) (.int .u64 ((hi x : Nat) : Int)) (.bool sg) (.bool sz)
  have la := lh.all
  have ll := lh.lt
  have zw2 := hbw2.size
  clear hb2
  go_wp2_with fail
  go_ret
  exact ⟨rfl, hbw2⟩
set_option maxRecDepth 100000 in
set_option maxHeartbeats 6400000 in
theorem texts_b (n c m x : Nat) (A : Option Addr) (sg sz : Bool) (w : World)
    (hA : ∀ w1, Below w.heap.size w w1 → Calls Tryz.prog 8 #[] w1 (RV w1 (.bool true)))
    (hO : ∀ w1, Below w.heap.size w w1 → Calls Tryz.prog 15 #[.agg #[.slice A n c, .bool sg, .bool sz]] w1 (RV w1 (.tuple #[.agg #[.int .i64 (m : Int), .int .u64 ((lo x : Nat) : Int), .int .u64 ((hi x : Nat) : Int), .bool sg, .bool sz], .bool true])))
    (D : ByteArray) (i0 e0 : Int)
    (hX : ∀ w1, Below w.heap.size w w1 → Calls Tryz.prog 13 #[.agg #[.int .i64 (m : Int), .int .u64 ((lo x : Nat) : Int), .int .u64 ((hi x : Nat) : Int), .bool sg, .bool sz]] w1 (RV w1 (.string D)))
    (hR : ∀ w1, Below w.heap.size w w1 → Calls Tryz.prog 14 #[.agg #[.slice A n c, .bool sg, .bool sz]] w1 (RV w1 (.string D)))
    (hI : ∀ w1, Calls Tryz.prog 16 #[.agg #[.int .i64 (m : Int), .int .u64 ((lo x : Nat) : Int), .int .u64 ((hi x : Nat) : Int), .bool sg, .bool sz]] w1 (RV w1 (.tuple #[.int .i64 i0, .int .i64 e0])))
    (hJ : ∀ w1, Below w.heap.size w w1 → Calls Tryz.prog 17 #[.agg #[.slice A n c, .bool sg, .bool sz]] w1 (RV w1 (.tuple #[.int .i64 i0, .int .i64 e0]))) (hD : D.size = 0) (hn : n = 0) :
    Calls Tryz.prog 4 #[.agg #[.slice A n c, .bool sg, .bool sz]] w (RV w (.bool true)) := by
  obtain ⟨m1, m2⟩ := emp D hD
  have d1 : (D.toList != D.toList) = false := by simp
  have d2 : (D.toList == D.toList) = true := by simp
  have d3 : (i0 != i0) = false := by simp
  have d4 : (e0 != e0) = false := by simp
  have d5 : (i0 == i0) = true := by simp
  have d6 : (e0 == e0) = true := by simp
  have nz : ((n : Int) == 0) = true := by simp; omega
  clear hD hn
  replace hA := Lib.hid hA
  replace hO := Lib.hid hO
  replace hX := Lib.hid hX
  replace hR := Lib.hid hR
  replace hI := Lib.hid hI
  replace hJ := Lib.hid hJ
  go_enter Tryz.func4, Tryz.ntmps4
  go_wp2_with fail
  have hbw0 : Below w.heap.size w (w.alloc (.cells #[.slice A n c, .bool sg, .bool sz] 34)) := by go_grown
  have bh := H3.new w 34 (.slice A n c) (.bool sg) (.bool sz)
  have ba := bh.all
  have bl := bh.lt
  (with_reducible refine (hA.out _ hbw0).mono ?_)
  rintro e w1 ⟨rfl, hb1⟩
  have bh' := (bh.over hb1)
  clear bh ba bl
  have bh := bh'
  clear bh'
  have ba := bh.all
  have bl := bh.lt
  have hbw1 : Below w.heap.size w w1 := below_call hb1 hbw0
  have zw1 := hbw1.size
  clear hb1
  go_wp2_with fail
  (with_reducible refine (hO.out _ hbw1).mono ?_)
  rintro e w2 ⟨rfl, hb2⟩
  have bh' := (bh.over hb2).alloc (.cells #[.int .i64 (m : Int), .int .u64 ((lo x : Nat) : Int), .int .u64 ((hi x : Nat) : Int), .bool sg, .bool sz] 28)
  clear bh ba bl
  have bh := bh'
  clear bh'
  have ba := bh.all
  have bl := bh.lt
  have hbv2 : Below w.heap.size w w2 := below_call hb2 hbw1
  have zv2 := hbv2.size
  have hbw2 : Below w.heap.size w (w2.alloc (.cells #[.int .i64 (m : Int), .int .u64 ((lo x : Nat) : Int), .int .u64 ((hi x : Nat) : Int), .bool sg, .bool sz] 28)) := hbv2.alloc hbv2.size _
  have lh := H5.new w2 28 (.int .i64 (m : Int)) (.int .u64 ((lo x : Nat) : Int)) (.int .u64 ((hi x : Nat) : Int)) (.bool sg) (.bool sz)
  have la := lh.all
  have ll := lh.lt
  have zw2 := hbw2.size
  clear hb2
  go_wp2_with fail
  (with_reducible refine (hX.out _ hbw2).mono ?_)
  rintro e w3 ⟨rfl, hb3⟩
  have bh' := (bh.over hb3)
  have lh' := (lh.over hb3)
  clear bh ba bl
  clear lh la ll
  have bh := bh'
  clear bh'
  have ba := bh.all
  have bl := bh.lt
  have lh := lh'
  clear lh'
  have la := lh.all
  have ll := lh.lt
  have hbw3 : Below w.heap.size w w3 := below_call hb3 hbw2
  have zw3 := hbw3.size
  clear hb3
  go_wp2_with fail
  (with_reducible refine (hR.out _ hbw3).mono ?_)
  rintro e w4 ⟨rfl, hb4⟩
  have bh' := (bh.over hb4)
  have lh' := (lh.over hb4)
  clear bh ba bl
  clear lh la ll
  have bh := bh'
  clear bh'
  have ba := bh.all
  have bl := bh.lt
  have lh := lh'
  clear lh'
  have la := lh.all
  have ll := lh.lt
  have hbw4 : Below w.heap.size w w4 := below_call hb4 hbw3
  have zw4 := hbw4.size
  clear hb4
  go_wp2_with fail
  (with_reducible refine (hI.out _).mono ?_)
  rintro e w5 ⟨rfl, hb5⟩
  have bh' := (bh.over hb5)
  have lh' := (lh.over hb5)
  clear bh ba bl
  clear lh la ll
  have bh := bh'
  clear bh'
  have ba := bh.all
  have bl := bh.lt
  have lh := lh'
  clear lh'
  have la := lh.all
  have ll := lh.lt
  have hbw5 : Below w.heap.size w w5 := below_call hb5 hbw4
  have zw5 := hbw5.size
  clear hb5
  go_wp2_with fail
  (with_reducible refine (hJ.out _ hbw5).mono ?_)
  rintro e w6 ⟨rfl, hb6⟩
  clear lh la ll
  have bh' := (bh.over hb6)
  clear bh ba bl
  have bh := bh'
  clear bh'
  have ba := bh.all
  have bl := bh.lt
  have hbw6 : Below w.heap.size w w6 := below_call hb6 hbw5
  have zw6 := hbw6.size
  clear hb6
  go_wp2_with fail
  go_ret
  exact ⟨rfl, hbw6⟩
set_option maxRecDepth 100000 in
set_option maxHeartbeats 6400000 in
theorem texts_c (n c m x : Nat) (A : Option Addr) (sg sz : Bool) (w : World)
    (hA : ∀ w1, Below w.heap.size w w1 → Calls Tryz.prog 8 #[] w1 (RV w1 (.bool true)))
    (hO : ∀ w1, Below w.heap.size w w1 → Calls Tryz.prog 15 #[.agg #[.slice A n c, .bool sg, .bool sz]] w1 (RV w1 (.tuple #[.agg #[.int .i64 (m : Int), .int .u64 ((lo x : Nat) : Int), .int .u64 ((hi x : Nat) : Int), .bool sg, .bool sz], .bool true])))
    (D : ByteArray) (i0 e0 : Int)
    (hX : ∀ w1, Below w.heap.size w w1 → Calls Tryz.prog 13 #[.agg #[.int .i64 (m : Int), .int .u64 ((lo x : Nat) : Int), .int .u64 ((hi x : Nat) : Int), .bool sg, .bool sz]] w1 (RV w1 (.string D)))
    (hR : ∀ w1, Below w.heap.size w w1 → Calls Tryz.prog 14 #[.agg #[.slice A n c, .bool sg, .bool sz]] w1 (RV w1 (.string D)))
    (hI : ∀ w1, Calls Tryz.prog 16 #[.agg #[.int .i64 (m : Int), .int .u64 ((lo x : Nat) : Int), .int .u64 ((hi x : Nat) : Int), .bool sg, .bool sz]] w1 (RV w1 (.tuple #[.int .i64 i0, .int .i64 e0])))
    (hJ : ∀ w1, Below w.heap.size w w1 → Calls Tryz.prog 17 #[.agg #[.slice A n c, .bool sg, .bool sz]] w1 (RV w1 (.tuple #[.int .i64 i0, .int .i64 e0]))) (hD : D.size = 0) (hz : sz = false) (hn : n ≠ 0) (h32 : n ≠ 32) :
    Calls Tryz.prog 4 #[.agg #[.slice A n c, .bool sg, .bool sz]] w (RV w (.bool true)) := by
  obtain ⟨m1, m2⟩ := emp D hD
  have d1 : (D.toList != D.toList) = false := by simp
  have d2 : (D.toList == D.toList) = true := by simp
  have d3 : (i0 != i0) = false := by simp
  have d4 : (e0 != e0) = false := by simp
  have d5 : (i0 == i0) = true := by simp
  have d6 : (e0 == e0) = true := by simp
  have nz : ((n : Int) == 0) = false := by simp; omega
  have n2 : ((n : Int) != 32) = true := by simp; omega
  have n3 : ((n : Int) == 32) = false := by simp; omega
  subst hz
  clear hD hn h32
  replace hA := Lib.hid hA
  replace hO := Lib.hid hO
  replace hX := Lib.hid hX
  replace hR := Lib.hid hR
  replace hI := Lib.hid hI
  replace hJ := Lib.hid hJ
  go_enter Tryz.func4, Tryz.ntmps4
  go_wp2_with fail
  have hbw0 : Below w.heap.size w (w.alloc (.cells #[.slice A n c, .bool sg, .bool false] 34)) := by go_grown
  have bh := H3.new w 34 (.slice A n c) (.bool sg) (.bool false)
  have ba := bh.all
  have bl := bh.lt
  (with_reducible refine (hA.out _ hbw0).mono ?_)
  rintro e w1 ⟨rfl, hb1⟩
  have bh' := (bh.over hb1)
  clear bh ba bl
  have bh := bh'
  clear bh'
  have ba := bh.all
  have bl := bh.lt
  have hbw1 : Below w.heap.size w w1 := below_call hb1 hbw0
  have zw1 := hbw1.size
  clear hb1
  go_wp2_with fail
  (with_reducible refine (hO.out _ hbw1).mono ?_)
  rintro e w2 ⟨rfl, hb2⟩
  have bh' := (bh.over hb2).alloc (.cells #[.int .i64 (m : Int), .int .u64 ((lo x : Nat) : Int), .int .u64 ((hi x : Nat) : Int), .bool sg, .bool false] 28)
  clear bh ba bl
  have bh := bh'
  clear bh'
  have ba := bh.all
  have bl := bh.lt
  have hbv2 : Below w.heap.size w w2 := below_call hb2 hbw1
  have zv2 := hbv2.size
  have hbw2 : Below w.heap.size w (w2.alloc (.cells #[.int .i64 (m : Int), .int .u64 ((lo x : Nat) : Int), .int .u64 ((hi x : Nat) : Int), .bool sg, .bool false] 28)) := hbv2.alloc hbv2.size _
  have lh := H5.new w2 28 (.int .i64 (m : Int)) (.int .u64 ((lo x : Nat) : Int)) (.int .u64 ((hi x : Nat) : Int)) (.bool sg) (.bool false)
  have la := lh.all
  have ll := lh.lt
  have zw2 := hbw2.size
  clear hb2
  go_wp2_with fail
  (with_reducible refine (hX.out _ hbw2).mono ?_)
  rintro e w3 ⟨rfl, hb3⟩
  have bh' := (bh.over hb3)
  have lh' := (lh.over hb3)
  clear bh ba bl
  clear lh la ll
  have bh := bh'
  clear bh'
  have ba := bh.all
  have bl := bh.lt
  have lh := lh'
  clear lh'
  have la := lh.all
  have ll := lh.lt
  have hbw3 : Below w.heap.size w w3 := below_call hb3 hbw2
  have zw3 := hbw3.size
  clear hb3
  go_wp2_with fail
  (with_reducible refine (hR.out _ hbw3).mono ?_)
  rintro e w4 ⟨rfl, hb4⟩
  have bh' := (bh.over hb4)
  have lh' := (lh.over hb4)
  clear bh ba bl
  clear lh la ll
  have bh := bh'
  clear bh'
  have ba := bh.all
  have bl := bh.lt
  have lh := lh'
  clear lh'
  have la := lh.all
  have ll := lh.lt
  have hbw4 : Below w.heap.size w w4 := below_call hb4 hbw3
  have zw4 := hbw4.size
  clear hb4
  go_wp2_with fail
  (with_reducible refine (hI.out _).mono ?_)
  rintro e w5 ⟨rfl, hb5⟩
  have bh' := (bh.over hb5)
  have lh' := (lh.over hb5)
  clear bh ba bl
  clear lh la ll
  have bh := bh'
  clear bh'
  have ba := bh.all
  have bl := bh.lt
  have lh := lh'
  clear lh'
  have la := lh.all
  have ll := lh.lt
  have hbw5 : Below w.heap.size w w5 := below_call hb5 hbw4
  have zw5 := hbw5.size
  clear hb5
  go_wp2_with fail
  (with_reducible refine (hJ.out _ hbw5).mono ?_)
  rintro e w6 ⟨rfl, hb6⟩
  clear lh la ll
  have bh' := (bh.over hb6)
  clear bh ba bl
  have bh := bh'
  clear bh'
  have ba := bh.all
  have bl := bh.lt
  have hbw6 : Below w.heap.size w w6 := below_call hb6 hbw5
  have zw6 := hbw6.size
  clear hb6
  go_wp2_with fail
  go_ret
  exact ⟨rfl, hbw6⟩
set_option maxRecDepth 100000 in
set_option maxHeartbeats 6400000 in
theorem texts_d (n c m x : Nat) (A : Option Addr) (sg sz : Bool) (w : World)
    (hA : ∀ w1, Below w.heap.size w w1 → Calls Tryz.prog 8 #[] w1 (RV w1 (.bool true)))
    (hO : ∀ w1, Below w.heap.size w w1 → Calls Tryz.prog 15 #[.agg #[.slice A n c, .bool sg, .bool sz]] w1 (RV w1 (.tuple #[.agg #[.int .i64 (m : Int), .int .u64 ((lo x : Nat) : Int), .int .u64 ((hi x : Nat) : Int), .bool sg, .bool sz], .bool true])))
    (D : ByteArray) (i0 e0 : Int)
    (hX : ∀ w1, Below w.heap.size w w1 → Calls Tryz.prog 13 #[.agg #[.int .i64 (m : Int), .int .u64 ((lo x : Nat) : Int), .int .u64 ((hi x : Nat) : Int), .bool sg, .bool sz]] w1 (RV w1 (.string D)))
    (hR : ∀ w1, Below w.heap.size w w1 → Calls Tryz.prog 14 #[.agg #[.slice A n c, .bool sg, .bool sz]] w1 (RV w1 (.string D)))
    (hI : ∀ w1, Calls Tryz.prog 16 #[.agg #[.int .i64 (m : Int), .int .u64 ((lo x : Nat) : Int), .int .u64 ((hi x : Nat) : Int), .bool sg, .bool sz]] w1 (RV w1 (.tuple #[.int .i64 i0, .int .i64 e0])))
    (hJ : ∀ w1, Below w.heap.size w w1 → Calls Tryz.prog 17 #[.agg #[.slice A n c, .bool sg, .bool sz]] w1 (RV w1 (.tuple #[.int .i64 i0, .int .i64 e0]))) (hD : 0 < D.size)
    (hP : ∀ w1, Calls Tryz.prog 9 #[.string D] w1 (RV w1 (.tuple #[.agg #[.int .i64 (m : Int), .int .u64 ((lo x : Nat) : Int), .int .u64 ((hi x : Nat) : Int), .bool sg, .bool sz], .int .i64 0])))
    (hT : ∀ w1, Calls Tryz.prog 12 #[.agg #[.int .i64 (m : Int), .int .u64 ((lo x : Nat) : Int), .int .u64 ((hi x : Nat) : Int), .bool sg, .bool sz]] w1 (TD w1 m x sg sz))
    (hS : ∀ w1 (g : Nat), Below w.heap.size w w1 → RB w1 (some ⟨g, 0, none⟩) m (tb x) → Calls Tryz.prog 11 #[.agg #[.slice (some ⟨g, 0, none⟩) m m, .bool sg, .bool sz], .agg #[.slice A n c, .bool sg, .bool sz]] w1 (RV w1 (.bool true))) :
    Calls Tryz.prog 4 #[.agg #[.slice A n c, .bool sg, .bool sz]] w (RV w (.bool true)) := by
  obtain ⟨m1, m2⟩ := nemp D hD
  unfold TD at hT
  have d1 : (D.toList != D.toList) = false := by simp
  have d2 : (D.toList == D.toList) = true := by simp
  have d3 : (i0 != i0) = false := by simp
  have d4 : (e0 != e0) = false := by simp
  have d5 : (i0 == i0) = true := by simp
  have d6 : (e0 == e0) = true := by simp
  clear hD
  replace hA := Lib.hid hA
  replace hO := Lib.hid hO
  replace hX := Lib.hid hX
  replace hR := Lib.hid hR
  replace hI := Lib.hid hI
  replace hJ := Lib.hid hJ
  replace hP := Lib.hid hP
  replace hT := Lib.hid hT
  go_enter Tryz.func4, Tryz.ntmps4
  go_wp2_with fail
  have hbw0 : Below w.heap.size w (w.alloc (.cells #[.slice A n c, .bool sg, .bool sz] 34)) := by go_grown
  have bh := H3.new w 34 (.slice A n c) (.bool sg) (.bool sz)
  have ba := bh.all
  have bl := bh.lt
  (with_reducible refine (hA.out _ hbw0).mono ?_)
  rintro e w1 ⟨rfl, hb1⟩
  have bh' := (bh.over hb1)
  clear bh ba bl
  have bh := bh'
  clear bh'
  have ba := bh.all
  have bl := bh.lt
  have hbw1 : Below w.heap.size w w1 := below_call hb1 hbw0
  have zw1 := hbw1.size
  clear hb1
  go_wp2_with fail
  (with_reducible refine (hO.out _ hbw1).mono ?_)
  rintro e w2 ⟨rfl, hb2⟩
  have bh' := (bh.over hb2).alloc (.cells #[.int .i64 (m : Int), .int .u64 ((lo x : Nat) : Int), .int .u64 ((hi x : Nat) : Int), .bool sg, .bool sz] 28)
  clear bh ba bl
  have bh := bh'
  clear bh'
  have ba := bh.all
  have bl := bh.lt
  have hbv2 : Below w.heap.size w w2 := below_call hb2 hbw1
  have zv2 := hbv2.size
  have hbw2 : Below w.heap.size w (w2.alloc (.cells #[.int .i64 (m : Int), .int .u64 ((lo x : Nat) : Int), .int .u64 ((hi x : Nat) : Int), .bool sg, .bool sz] 28)) := hbv2.alloc hbv2.size _
  have lh := H5.new w2 28 (.int .i64 (m : Int)) (.int .u64 ((lo x : Nat) : Int)) (.int .u64 ((hi x : Nat) : Int)) (.bool sg) (.bool sz)
  have la := lh.all
  have ll := lh.lt
  have zw2 := hbw2.size
  clear hb2
  go_wp2_with fail
  (with_reducible refine (hX.out _ hbw2).mono ?_)
  rintro e w3 ⟨rfl, hb3⟩
  have bh' := (bh.over hb3)
  have lh' := (lh.over hb3)
  clear bh ba bl
  clear lh la ll
  have bh := bh'
  clear bh'
  have ba := bh.all
  have bl := bh.lt
  have lh := lh'
  clear lh'
  have la := lh.all
  have ll := lh.lt
  have hbw3 : Below w.heap.size w w3 := below_call hb3 hbw2
  have zw3 := hbw3.size
  clear hb3
  go_wp2_with fail
  (with_reducible refine (hR.out _ hbw3).mono ?_)
  rintro e w4 ⟨rfl, hb4⟩
  have bh' := (bh.over hb4)
  have lh' := (lh.over hb4)
  clear bh ba bl
  clear lh la ll
  have bh := bh'
  clear bh'
  have ba := bh.all
  have bl := bh.lt
  have lh := lh'
  clear lh'
  have la := lh.all
  have ll := lh.lt
  have hbw4 : Below w.heap.size w w4 := below_call hb4 hbw3
  have zw4 := hbw4.size
  clear hb4
  go_wp2_with fail
  (with_reducible refine (hI.out _).mono ?_)
  rintro e w5 ⟨rfl, hb5⟩
  have bh' := (bh.over hb5)
  have lh' := (lh.over hb5)
  clear bh ba bl
  clear lh la ll
  have bh := bh'
  clear bh'
  have ba := bh.all
  have bl := bh.lt
  have lh := lh'
  clear lh'
  have la := lh.all
  have ll := lh.lt
  have hbw5 : Below w.heap.size w w5 := below_call hb5 hbw4
  have zw5 := hbw5.size
  clear hb5
  go_wp2_with fail
  (with_reducible refine (hJ.out _ hbw5).mono ?_)
  rintro e w6 ⟨rfl, hb6⟩
  clear lh la ll
  have bh' := (bh.over hb6)
  clear bh ba bl
  have bh := bh'
  clear bh'
  have ba := bh.all
  have bl := bh.lt
  have hbw6 : Below w.heap.size w w6 := below_call hb6 hbw5
  have zw6 := hbw6.size
  clear hb6
  go_wp2_with fail
  (with_reducible refine (hP.out _).mono ?_)
  rintro e w7 ⟨rfl, hb7⟩
  have bh' := (bh.over hb7).alloc (.cells #[.int .i64 (m : Int), .int .u64 ((lo x : Nat) : Int), .int .u64 ((hi x : Nat) : Int), .bool sg, .bool sz] 28)
  clear bh ba bl
  have bh := bh'
  clear bh'
  have ba := bh.all
  have bl := bh.lt
  have hbv7 : Below w.heap.size w w7 := below_call hb7 hbw6
  have zv7 := hbv7.size
  have hbw7 : Below w.heap.size w (w7.alloc (.cells #[.int .i64 (m : Int), .int .u64 ((lo x : Nat) : Int), .int .u64 ((hi x : Nat) : Int), .bool sg, .bool sz] 28)) := hbv7.alloc hbv7.size _
  have kh := H5.new w7 28 (.int .i64 (m : Int)) (.int .u64 ((lo x : Nat) : Int)) (.int .u64 ((hi x : Nat) : Int)) (.bool sg) (.bool sz)
  have ka := kh.all
  have kl := kh.lt
  have zw7 := hbw7.size
  clear hb7
  go_wp2_with fail
  have hq19 := hbw7
  obtain ⟨kk, hkk⟩ : ∃ kk, w7.heap.size = kk := ⟨_, rfl⟩
  simp only [hkk] at kh ⊢
  obtain ⟨V0, hV0⟩ : ∃ V0, (w7.alloc (.cells #[.int .i64 (m : Int), .int .u64 ((lo x : Nat) : Int), .int .u64 ((hi x : Nat) : Int), .bool sg, .bool sz] 28)) = V0 := ⟨_, rfl⟩
  rw [hV0] at kh bh hq19 ⊢
  have K20 : H5 28 V0.drew kk (.int .i64 (m : Int)) (.int .u64 ((lo x : Nat) : Int)) (.int .u64 ((hi x : Nat) : Int)) (.bool sg) (.bool sz) := kh
  have B20 : H3 34 V0.drew w.heap.size (.slice A n c) (.bool sg) (.bool sz) := bh
  have hq20 : Below w.heap.size w V0.drew := hq19.drew
  clear kh bh ka ba kl bl hq19 hV0 hkk m1 m2
  refine region_anyT (n := 8) (S := fun w' => H5 28 w' kk (.int .i64 (m : Int)) (.int .u64 ((lo x : Nat) : Int)) (.int .u64 ((hi x : Nat) : Int)) (.bool sg) (.bool sz) ∧ H3 34 w' w.heap.size (.slice A n c) (.bool sg) (.bool sz)) (by kernel_rfl) ?_
  refine anyT_take (i := 0) (v := .int .i64 0) rfl (by kernel_rfl) (by kernel_rfl) (fun _ _ _ h => h) (Or.inl ⟨by rfl, ?_⟩) ⟨K20, B20⟩ ?_
  · intro w' hw'
    obtain ⟨⟨k1, k2, k3, k4, k5, k6⟩, ⟨g1, g2, g3, g4⟩⟩ := And.intro (H5.all hw'.1) (H3.all hw'.2)
    go_simp
    try with_reducible rfl
  try simp only [Act.put, List.getElem_toArray, List.getElem_cons_zero, List.getElem_cons_succ, List.setIfInBounds_toArray, List.set_cons_zero, List.set_cons_succ]
  refine anyT_take (i := 1) (v := .bool true) rfl (by kernel_rfl) (by kernel_rfl) (fun _ _ _ h => h) (Or.inl ⟨by rfl, ?_⟩) ⟨K20, B20⟩ ?_
  · intro w' hw'
    obtain ⟨⟨k1, k2, k3, k4, k5, k6⟩, ⟨g1, g2, g3, g4⟩⟩ := And.intro (H5.all hw'.1) (H3.all hw'.2)
    go_simp
    try with_reducible rfl
  try simp only [Act.put, List.getElem_toArray, List.getElem_cons_zero, List.getElem_cons_succ, List.setIfInBounds_toArray, List.set_cons_zero, List.set_cons_succ]
  refine anyT_take (i := 2) (v := .bool true) rfl (by kernel_rfl) (by kernel_rfl) (fun _ _ _ h => h) (Or.inl ⟨by rfl, ?_⟩) ⟨K20, B20⟩ ?_
  · intro w' hw'
    obtain ⟨⟨k1, k2, k3, k4, k5, k6⟩, ⟨g1, g2, g3, g4⟩⟩ := And.intro (H5.all hw'.1) (H3.all hw'.2)
    go_simp
    try with_reducible rfl
  try simp only [Act.put, List.getElem_toArray, List.getElem_cons_zero, List.getElem_cons_succ, List.setIfInBounds_toArray, List.set_cons_zero, List.set_cons_succ]
  refine anyT_take (i := 3) (v := .agg #[.int .i64 (m : Int), .int .u64 ((lo x : Nat) : Int), .int .u64 ((hi x : Nat) : Int), .bool sg, .bool sz]) rfl (by kernel_rfl) (by kernel_rfl) (fun _ _ _ h => h) (Or.inl ⟨by rfl, ?_⟩) ⟨K20, B20⟩ ?_
  · intro w' hw'
    obtain ⟨⟨k1, k2, k3, k4, k5, k6⟩, ⟨g1, g2, g3, g4⟩⟩ := And.intro (H5.all hw'.1) (H3.all hw'.2)
    go_simp
    try with_reducible rfl
  try simp only [Act.put, List.getElem_toArray, List.getElem_cons_zero, List.getElem_cons_succ, List.setIfInBounds_toArray, List.set_cons_zero, List.set_cons_succ]
  refine anyT_take (i := 5) (v := .agg #[.slice A n c, .bool sg, .bool sz]) rfl (by kernel_rfl) (by kernel_rfl) (fun _ _ _ h => h) (Or.inl ⟨by rfl, ?_⟩) ⟨K20, B20⟩ ?_
  · intro w' hw'
    obtain ⟨⟨k1, k2, k3, k4, k5, k6⟩, ⟨g1, g2, g3, g4⟩⟩ := And.intro (H5.all hw'.1) (H3.all hw'.2)
    go_simp
    try with_reducible rfl
  try simp only [Act.put, List.getElem_toArray, List.getElem_cons_zero, List.getElem_cons_succ, List.setIfInBounds_toArray, List.set_cons_zero, List.set_cons_succ]
  refine anyT_one (i := 4) (by kernel_rfl) ?_
  refine wpOp_step rfl (fun K hK => ?_)
  replace hK := Lib.hid hK
  go_simp
  (with_reducible refine (hT.out _).mono ?_)
  rintro e w21 ⟨g, rfl, RBg, hb21⟩
  have K21 := K20.over hb21
  have B21 := B20.over hb21
  have hq21 : Below w.heap.size w w21 := below_call hb21 hq20
  clear hb21
  have hS2 := Lib.hid (hS w21 g hq21 RBg)
  clear RBg
  refine hK.out _ _ ⟨fun _ => ⟨K21, B21⟩, ?_⟩
  clear hK K
  try simp only [Act.put, List.getElem_toArray, List.getElem_cons_zero, List.getElem_cons_succ, List.setIfInBounds_toArray, List.set_cons_zero, List.set_cons_succ]
  refine anyT_one (i := 6) (by kernel_rfl) ?_
  refine wpOp_step rfl (fun K hK => ?_)
  replace hK := Lib.hid hK
  go_simp
  (with_reducible refine (hS2.out).mono ?_)
  rintro e w22 ⟨rfl, hb22⟩
  have K22 := K21.over hb22
  have B22 := B21.over hb22
  have hq22 : Below w.heap.size w w22 := below_call hb22 hq21
  clear hb22
  refine hK.out _ _ ⟨fun _ => ⟨K22, B22⟩, ?_⟩
  clear hK K
  try simp only [Act.put, List.getElem_toArray, List.getElem_cons_zero, List.getElem_cons_succ, List.setIfInBounds_toArray, List.set_cons_zero, List.set_cons_succ]
  refine anyT_take (i := 7) (v := .bool true) rfl (by kernel_rfl) (by kernel_rfl) (fun _ _ _ h => h) (Or.inl ⟨by rfl, ?_⟩) ⟨K22, B22⟩ ?_
  · intro w' hw'
    obtain ⟨⟨k1, k2, k3, k4, k5, k6⟩, ⟨g1, g2, g3, g4⟩⟩ := And.intro (H5.all hw'.1) (H3.all hw'.2)
    go_simp
    try with_reducible rfl
  try simp only [Act.put, List.getElem_toArray, List.getElem_cons_zero, List.getElem_cons_succ, List.setIfInBounds_toArray, List.set_cons_zero, List.set_cons_succ]
  refine anyT_one (i := 8) (by kernel_rfl) ?_
  refine wpOp_step rfl (fun K hK => ?_)
  replace hK := Lib.hid hK
  go_simp
  refine hK.out _ _ ⟨fun h => absurd h (by decide), ?_⟩
  clear hK K
  try simp only [Act.put]
  refine anyT_done (by kernel_rfl) ?_ _
  go_wp2_with fail
  go_ret
  exact ⟨rfl, hq22⟩
end Go.Proofs.YtalmhopbnaeamaaGreatDoor
