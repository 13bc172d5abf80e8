/-
  The walk of the statement SluiceNumbers.
-/
import Derived.Test.YtalmhopbnaeamaaGreatDoorGm
import Derived.Test.YtalmhopbnaeamaaGreatDoorEa
namespace Go.Proofs.YtalmhopbnaeamaaGreatDoor
open Go.RowKit Go.Lib
theorem pa_nine : paV ⟨#[52, 39, 100, 57]⟩ = ⟨4, 9, false, true, 0⟩ := by kernel_rfl
theorem nine_P (n x : Nat) (hn : n = 4) (hx : x = 9) (w : World) : Calls Tryz.prog 9 #[.string ⟨#[52, 39, 100, 57]⟩] w (RV w (.tuple #[lv n x false true, .int .i64 0])) := by
  subst hn; subst hx
  have h := Parse_t ⟨#[52, 39, 100, 57]⟩ w (by decide)
  rw [pa_nine] at h
  exact h
theorem nine_B (n x : Nat) (hn : n = 4) (hx : x = 9) (w : World) : Calls Tryz.prog 21 #[vv n x] w (RV w (.string ⟨#[49, 48, 48, 49]⟩)) := by
  subst hn; subst hx
  have h := Text_v 4 9 w (by decide) (by decide)
  rw [txt_49] at h
  exact h
set_option maxRecDepth 100000 in
set_option maxHeartbeats 12800000 in
theorem sn_a (ca cb cca ccb na nb x y : Nat) (A B : Option Addr) (gx za gy zb ob : Bool) (w : World)
    (hOa : ∀ w1, Below w.heap.size w w1 → Calls Tryz.prog 15 #[.agg #[.slice A ca cca, .bool gx, .bool za]] w1 (RV w1 (.tuple #[.agg #[.int .i64 (na : Int), .int .u64 ((lo x : Nat) : Int), .int .u64 ((hi x : Nat) : Int), .bool gx, .bool za], .bool false])))
    (hOb : ∀ w1, Below w.heap.size w w1 → Calls Tryz.prog 15 #[.agg #[.slice B cb ccb, .bool gy, .bool zb]] w1 (RV w1 (.tuple #[.agg #[.int .i64 (nb : Int), .int .u64 ((lo y : Nat) : Int), .int .u64 ((hi y : Nat) : Int), .bool gy, .bool zb], .bool ob]))) :
    Calls Tryz.prog 7 #[.agg #[.slice A ca cca, .bool gx, .bool za], .agg #[.slice B cb ccb, .bool gy, .bool zb]] w (RV w (.bool true)) := by
  obtain ⟨n4, hn4⟩ : ∃ n : Nat, n = 4 := ⟨_, rfl⟩
  obtain ⟨x9, hx9⟩ : ∃ n : Nat, n = 9 := ⟨_, rfl⟩
  have hP := fun w => nine_P n4 x9 hn4 hx9 w
  have hB := fun w => nine_B n4 x9 hn4 hx9 w
  unfold lv at hP
  clear hn4 hx9
  replace hP := Lib.hid hP
  replace hB := Lib.hid hB
  have hW := Lib.hid (fun w => Width_v na x w)
  have hV := Lib.hid (fun w => Width_v nb y w)
  replace hOa := Lib.hid hOa
  replace hOb := Lib.hid hOb
  go_enter Tryz.func7, Tryz.ntmps7
  go_wp2_with fail
  have hbw0 : Below w.heap.size w ((w.alloc (.cells #[.slice A ca cca, .bool gx, .bool za] 34)).alloc (.cells #[.slice B cb ccb, .bool gy, .bool zb] 34)) := by go_grown
  have bh := H3.new (w.alloc (.cells #[.slice A ca cca, .bool gx, .bool za] 34)) 34 (.slice B cb ccb) (.bool gy) (.bool zb)
  rw [World.size_alloc] at bh
  have ba := bh.all
  have bl := bh.lt
  (with_reducible refine (hOa.out _ hbw0).mono ?_)
  rintro e w1 ⟨rfl, hb1⟩
  have bh' := (bh.over hb1).alloc (.cells #[.int .i64 (na : Int), .int .u64 ((lo x : Nat) : Int), .int .u64 ((hi x : Nat) : Int), .bool gx, .bool za] 28)
  clear bh ba bl
  have bh := bh'
  clear bh'
  have ba := bh.all
  have bl := bh.lt
  have hbv1 : Below w.heap.size w w1 := below_call hb1 hbw0
  have zv1 := hbv1.size
  have hbw1 : Below w.heap.size w (w1.alloc (.cells #[.int .i64 (na : Int), .int .u64 ((lo x : Nat) : Int), .int .u64 ((hi x : Nat) : Int), .bool gx, .bool za] 28)) := hbv1.alloc hbv1.size _
  have xh := H5.new w1 28 (.int .i64 (na : Int)) (.int .u64 ((lo x : Nat) : Int)) (.int .u64 ((hi x : Nat) : Int)) (.bool gx) (.bool za)
  have xa := xh.all
  have xl := xh.lt
  have zw1 := hbw1.size
  clear hb1
  go_wp2_with fail
  (with_reducible refine (hOb.out _ hbw1).mono ?_)
  rintro e w2 ⟨rfl, hb2⟩
  clear bh ba bl
  have xh' := (xh.over hb2).alloc (.cells #[.int .i64 (nb : Int), .int .u64 ((lo y : Nat) : Int), .int .u64 ((hi y : Nat) : Int), .bool gy, .bool zb] 28)
  clear xh xa xl
  have xh := xh'
  clear xh'
  have xa := xh.all
  have xl := xh.lt
  have hbv2 : Below w.heap.size w w2 := below_call hb2 hbw1
  have zv2 := hbv2.size
  have hbw2 : Below w.heap.size w (w2.alloc (.cells #[.int .i64 (nb : Int), .int .u64 ((lo y : Nat) : Int), .int .u64 ((hi y : Nat) : Int), .bool gy, .bool zb] 28)) := hbv2.alloc hbv2.size _
  have yh := H5.new w2 28 (.int .i64 (nb : Int)) (.int .u64 ((lo y : Nat) : Int)) (.int .u64 ((hi y : Nat) : Int)) (.bool gy) (.bool zb)
  have ya := yh.all
  have yl := yh.lt
  have zw2 := hbw2.size
  clear hb2
  go_wp2_with fail
  (with_reducible refine (hW.out _).mono ?_)
  rintro e w3 ⟨rfl, hb3⟩
  have xh' := (xh.over hb3)
  have yh' := (yh.over hb3)
  clear xh xa xl
  clear yh ya yl
  have xh := xh'
  clear xh'
  have xa := xh.all
  have xl := xh.lt
  have yh := yh'
  clear yh'
  have ya := yh.all
  have yl := yh.lt
  have hbw3 : Below w.heap.size w w3 := below_call hb3 hbw2
  have zw3 := hbw3.size
  clear hb3
  go_wp2_with fail
  (with_reducible refine (hP.out _).mono ?_)
  rintro e w4 ⟨rfl, hb4⟩
  clear xh xa xl
  clear yh ya yl
  have hbv4 : Below w.heap.size w w4 := below_call hb4 hbw3
  have zv4 := hbv4.size
  have hbw4 : Below w.heap.size w (w4.alloc (.cells #[.int .i64 (n4 : Int), .int .u64 ((lo x9 : Nat) : Int), .int .u64 ((hi x9 : Nat) : Int), .bool false, .bool true] 28)) := hbv4.alloc hbv4.size _
  have th := H5.new w4 28 (.int .i64 (n4 : Int)) (.int .u64 ((lo x9 : Nat) : Int)) (.int .u64 ((hi x9 : Nat) : Int)) (.bool false) (.bool true)
  have ta := th.all
  have tl := th.lt
  have zw4 := hbw4.size
  clear hb4
  go_wp2_with fail
  (with_reducible refine (hB.out _).mono ?_)
  rintro e w5 ⟨rfl, hb5⟩
  have th' := (th.over hb5)
  clear th ta tl
  have th := th'
  clear th'
  have ta := th.all
  have tl := th.lt
  have hbw5 : Below w.heap.size w w5 := below_call hb5 hbw4
  have zw5 := hbw5.size
  clear hb5
  go_wp2_with fail
  go_ret
  exact ⟨rfl, hbw5⟩
set_option maxRecDepth 100000 in
set_option maxHeartbeats 12800000 in
theorem sn_b (ca cb cca ccb na nb x y : Nat) (A B : Option Addr) (gx za gy zb : Bool) (w : World)
    (hOa : ∀ w1, Below w.heap.size w w1 → Calls Tryz.prog 15 #[.agg #[.slice A ca cca, .bool gx, .bool za]] w1 (RV w1 (.tuple #[.agg #[.int .i64 (na : Int), .int .u64 ((lo x : Nat) : Int), .int .u64 ((hi x : Nat) : Int), .bool gx, .bool za], .bool true])))
    (hOb : ∀ w1, Below w.heap.size w w1 → Calls Tryz.prog 15 #[.agg #[.slice B cb ccb, .bool gy, .bool zb]] w1 (RV w1 (.tuple #[.agg #[.int .i64 (nb : Int), .int .u64 ((lo y : Nat) : Int), .int .u64 ((hi y : Nat) : Int), .bool gy, .bool zb], .bool false]))) :
    Calls Tryz.prog 7 #[.agg #[.slice A ca cca, .bool gx, .bool za], .agg #[.slice B cb ccb, .bool gy, .bool zb]] w (RV w (.bool true)) := by
  obtain ⟨n4, hn4⟩ : ∃ n : Nat, n = 4 := ⟨_, rfl⟩
  obtain ⟨x9, hx9⟩ : ∃ n : Nat, n = 9 := ⟨_, rfl⟩
  have hP := fun w => nine_P n4 x9 hn4 hx9 w
  have hB := fun w => nine_B n4 x9 hn4 hx9 w
  unfold lv at hP
  clear hn4 hx9
  replace hP := Lib.hid hP
  replace hB := Lib.hid hB
  have hW := Lib.hid (fun w => Width_v na x w)
  have hV := Lib.hid (fun w => Width_v nb y w)
  replace hOa := Lib.hid hOa
  replace hOb := Lib.hid hOb
  go_enter Tryz.func7, Tryz.ntmps7
  go_wp2_with fail
  have hbw0 : Below w.heap.size w ((w.alloc (.cells #[.slice A ca cca, .bool gx, .bool za] 34)).alloc (.cells #[.slice B cb ccb, .bool gy, .bool zb] 34)) := by go_grown
  have bh := H3.new (w.alloc (.cells #[.slice A ca cca, .bool gx, .bool za] 34)) 34 (.slice B cb ccb) (.bool gy) (.bool zb)
  rw [World.size_alloc] at bh
  have ba := bh.all
  have bl := bh.lt
  (with_reducible refine (hOa.out _ hbw0).mono ?_)
  rintro e w1 ⟨rfl, hb1⟩
  have bh' := (bh.over hb1).alloc (.cells #[.int .i64 (na : Int), .int .u64 ((lo x : Nat) : Int), .int .u64 ((hi x : Nat) : Int), .bool gx, .bool za] 28)
  clear bh ba bl
  have bh := bh'
  clear bh'
  have ba := bh.all
  have bl := bh.lt
  have hbv1 : Below w.heap.size w w1 := below_call hb1 hbw0
  have zv1 := hbv1.size
  have hbw1 : Below w.heap.size w (w1.alloc (.cells #[.int .i64 (na : Int), .int .u64 ((lo x : Nat) : Int), .int .u64 ((hi x : Nat) : Int), .bool gx, .bool za] 28)) := hbv1.alloc hbv1.size _
  have xh := H5.new w1 28 (.int .i64 (na : Int)) (.int .u64 ((lo x : Nat) : Int)) (.int .u64 ((hi x : Nat) : Int)) (.bool gx) (.bool za)
  have xa := xh.all
  have xl := xh.lt
  have zw1 := hbw1.size
  clear hb1
  go_wp2_with fail
  (with_reducible refine (hOb.out _ hbw1).mono ?_)
  rintro e w2 ⟨rfl, hb2⟩
  clear bh ba bl
  have xh' := (xh.over hb2).alloc (.cells #[.int .i64 (nb : Int), .int .u64 ((lo y : Nat) : Int), .int .u64 ((hi y : Nat) : Int), .bool gy, .bool zb] 28)
  clear xh xa xl
  have xh := xh'
  clear xh'
  have xa := xh.all
  have xl := xh.lt
  have hbv2 : Below w.heap.size w w2 := below_call hb2 hbw1
  have zv2 := hbv2.size
  have hbw2 : Below w.heap.size w (w2.alloc (.cells #[.int .i64 (nb : Int), .int .u64 ((lo y : Nat) : Int), .int .u64 ((hi y : Nat) : Int), .bool gy, .bool zb] 28)) := hbv2.alloc hbv2.size _
  have yh := H5.new w2 28 (.int .i64 (nb : Int)) (.int .u64 ((lo y : Nat) : Int)) (.int .u64 ((hi y : Nat) : Int)) (.bool gy) (.bool zb)
  have ya := yh.all
  have yl := yh.lt
  have zw2 := hbw2.size
  clear hb2
  go_wp2_with fail
  (with_reducible refine (hW.out _).mono ?_)
  rintro e w3 ⟨rfl, hb3⟩
  have xh' := (xh.over hb3)
  have yh' := (yh.over hb3)
  clear xh xa xl
  clear yh ya yl
  have xh := xh'
  clear xh'
  have xa := xh.all
  have xl := xh.lt
  have yh := yh'
  clear yh'
  have ya := yh.all
  have yl := yh.lt
  have hbw3 : Below w.heap.size w w3 := below_call hb3 hbw2
  have zw3 := hbw3.size
  clear hb3
  go_wp2_with fail
  (with_reducible refine (hP.out _).mono ?_)
  rintro e w4 ⟨rfl, hb4⟩
  clear xh xa xl
  clear yh ya yl
  have hbv4 : Below w.heap.size w w4 := below_call hb4 hbw3
  have zv4 := hbv4.size
  have hbw4 : Below w.heap.size w (w4.alloc (.cells #[.int .i64 (n4 : Int), .int .u64 ((lo x9 : Nat) : Int), .int .u64 ((hi x9 : Nat) : Int), .bool false, .bool true] 28)) := hbv4.alloc hbv4.size _
  have th := H5.new w4 28 (.int .i64 (n4 : Int)) (.int .u64 ((lo x9 : Nat) : Int)) (.int .u64 ((hi x9 : Nat) : Int)) (.bool false) (.bool true)
  have ta := th.all
  have tl := th.lt
  have zw4 := hbw4.size
  clear hb4
  go_wp2_with fail
  (with_reducible refine (hB.out _).mono ?_)
  rintro e w5 ⟨rfl, hb5⟩
  have th' := (th.over hb5)
  clear th ta tl
  have th := th'
  clear th'
  have ta := th.all
  have tl := th.lt
  have hbw5 : Below w.heap.size w w5 := below_call hb5 hbw4
  have zw5 := hbw5.size
  clear hb5
  go_wp2_with fail
  go_ret
  exact ⟨rfl, hbw5⟩
set_option maxRecDepth 100000 in
set_option maxHeartbeats 12800000 in
theorem sn_c (ca cb cca ccb na nb x y : Nat) (A B : Option Addr) (gx za gy zb : Bool) (w : World)
    (hOa : ∀ w1, Below w.heap.size w w1 → Calls Tryz.prog 15 #[.agg #[.slice A ca cca, .bool gx, .bool za]] w1 (RV w1 (.tuple #[.agg #[.int .i64 (na : Int), .int .u64 ((lo x : Nat) : Int), .int .u64 ((hi x : Nat) : Int), .bool gx, .bool za], .bool true])))
    (hOb : ∀ w1, Below w.heap.size w w1 → Calls Tryz.prog 15 #[.agg #[.slice B cb ccb, .bool gy, .bool zb]] w1 (RV w1 (.tuple #[.agg #[.int .i64 (nb : Int), .int .u64 ((lo y : Nat) : Int), .int .u64 ((hi y : Nat) : Int), .bool gy, .bool zb], .bool true]))) (e1 : ((na : Int) == 0) = true) :
    Calls Tryz.prog 7 #[.agg #[.slice A ca cca, .bool gx, .bool za], .agg #[.slice B cb ccb, .bool gy, .bool zb]] w (RV w (.bool true)) := by
  obtain ⟨n4, hn4⟩ : ∃ n : Nat, n = 4 := ⟨_, rfl⟩
  obtain ⟨x9, hx9⟩ : ∃ n : Nat, n = 9 := ⟨_, rfl⟩
  have hP := fun w => nine_P n4 x9 hn4 hx9 w
  have hB := fun w => nine_B n4 x9 hn4 hx9 w
  unfold lv at hP
  clear hn4 hx9
  replace hP := Lib.hid hP
  replace hB := Lib.hid hB
  have hW := Lib.hid (fun w => Width_v na x w)
  have hV := Lib.hid (fun w => Width_v nb y w)
  replace hOa := Lib.hid hOa
  replace hOb := Lib.hid hOb
  go_enter Tryz.func7, Tryz.ntmps7
  go_wp2_with fail
  have hbw0 : Below w.heap.size w ((w.alloc (.cells #[.slice A ca cca, .bool gx, .bool za] 34)).alloc (.cells #[.slice B cb ccb, .bool gy, .bool zb] 34)) := by go_grown
  have bh := H3.new (w.alloc (.cells #[.slice A ca cca, .bool gx, .bool za] 34)) 34 (.slice B cb ccb) (.bool gy) (.bool zb)
  rw [World.size_alloc] at bh
  have ba := bh.all
  have bl := bh.lt
  (with_reducible refine (hOa.out _ hbw0).mono ?_)
  rintro e w1 ⟨rfl, hb1⟩
  have bh' := (bh.over hb1).alloc (.cells #[.int .i64 (na : Int), .int .u64 ((lo x : Nat) : Int), .int .u64 ((hi x : Nat) : Int), .bool gx, .bool za] 28)
  clear bh ba bl
  have bh := bh'
  clear bh'
  have ba := bh.all
  have bl := bh.lt
  have hbv1 : Below w.heap.size w w1 := below_call hb1 hbw0
  have zv1 := hbv1.size
  have hbw1 : Below w.heap.size w (w1.alloc (.cells #[.int .i64 (na : Int), .int .u64 ((lo x : Nat) : Int), .int .u64 ((hi x : Nat) : Int), .bool gx, .bool za] 28)) := hbv1.alloc hbv1.size _
  have xh := H5.new w1 28 (.int .i64 (na : Int)) (.int .u64 ((lo x : Nat) : Int)) (.int .u64 ((hi x : Nat) : Int)) (.bool gx) (.bool za)
  have xa := xh.all
  have xl := xh.lt
  have zw1 := hbw1.size
  clear hb1
  go_wp2_with fail
  (with_reducible refine (hOb.out _ hbw1).mono ?_)
  rintro e w2 ⟨rfl, hb2⟩
  clear bh ba bl
  have xh' := (xh.over hb2).alloc (.cells #[.int .i64 (nb : Int), .int .u64 ((lo y : Nat) : Int), .int .u64 ((hi y : Nat) : Int), .bool gy, .bool zb] 28)
  clear xh xa xl
  have xh := xh'
  clear xh'
  have xa := xh.all
  have xl := xh.lt
  have hbv2 : Below w.heap.size w w2 := below_call hb2 hbw1
  have zv2 := hbv2.size
  have hbw2 : Below w.heap.size w (w2.alloc (.cells #[.int .i64 (nb : Int), .int .u64 ((lo y : Nat) : Int), .int .u64 ((hi y : Nat) : Int), .bool gy, .bool zb] 28)) := hbv2.alloc hbv2.size _
  have yh := H5.new w2 28 (.int .i64 (nb : Int)) (.int .u64 ((lo y : Nat) : Int)) (.int .u64 ((hi y : Nat) : Int)) (.bool gy) (.bool zb)
  have ya := yh.all
  have yl := yh.lt
  have zw2 := hbw2.size
  clear hb2
  go_wp2_with fail
  (with_reducible refine (hW.out _).mono ?_)
  rintro e w3 ⟨rfl, hb3⟩
  have xh' := (xh.over hb3)
  have yh' := (yh.over hb3)
  clear xh xa xl
  clear yh ya yl
  have xh := xh'
  clear xh'
  have xa := xh.all
  have xl := xh.lt
  have yh := yh'
  clear yh'
  have ya := yh.all
  have yl := yh.lt
  have hbw3 : Below w.heap.size w w3 := below_call hb3 hbw2
  have zw3 := hbw3.size
  clear hb3
  go_wp2_with fail
  (with_reducible refine (hP.out _).mono ?_)
  rintro e w4 ⟨rfl, hb4⟩
  clear xh xa xl
  clear yh ya yl
  have hbv4 : Below w.heap.size w w4 := below_call hb4 hbw3
  have zv4 := hbv4.size
  have hbw4 : Below w.heap.size w (w4.alloc (.cells #[.int .i64 (n4 : Int), .int .u64 ((lo x9 : Nat) : Int), .int .u64 ((hi x9 : Nat) : Int), .bool false, .bool true] 28)) := hbv4.alloc hbv4.size _
  have th := H5.new w4 28 (.int .i64 (n4 : Int)) (.int .u64 ((lo x9 : Nat) : Int)) (.int .u64 ((hi x9 : Nat) : Int)) (.bool false) (.bool true)
  have ta := th.all
  have tl := th.lt
  have zw4 := hbw4.size
  clear hb4
  go_wp2_with fail
  (with_reducible refine (hB.out _).mono ?_)
  rintro e w5 ⟨rfl, hb5⟩
  have th' := (th.over hb5)
  clear th ta tl
  have th := th'
  clear th'
  have ta := th.all
  have tl := th.lt
  have hbw5 : Below w.heap.size w w5 := below_call hb5 hbw4
  have zw5 := hbw5.size
  clear hb5
  go_wp2_with fail
  go_ret
  exact ⟨rfl, hbw5⟩
set_option maxRecDepth 100000 in
set_option maxHeartbeats 12800000 in
theorem sn_d (ca cb cca ccb na nb x y : Nat) (A B : Option Addr) (gx za gy zb : Bool) (w : World)
    (hOa : ∀ w1, Below w.heap.size w w1 → Calls Tryz.prog 15 #[.agg #[.slice A ca cca, .bool gx, .bool za]] w1 (RV w1 (.tuple #[.agg #[.int .i64 (na : Int), .int .u64 ((lo x : Nat) : Int), .int .u64 ((hi x : Nat) : Int), .bool gx, .bool za], .bool true])))
    (hOb : ∀ w1, Below w.heap.size w w1 → Calls Tryz.prog 15 #[.agg #[.slice B cb ccb, .bool gy, .bool zb]] w1 (RV w1 (.tuple #[.agg #[.int .i64 (nb : Int), .int .u64 ((lo y : Nat) : Int), .int .u64 ((hi y : Nat) : Int), .bool gy, .bool zb], .bool true]))) (e1 : ((na : Int) == 0) = false) (e2 : ((nb : Int) == 0) = true) :
    Calls Tryz.prog 7 #[.agg #[.slice A ca cca, .bool gx, .bool za], .agg #[.slice B cb ccb, .bool gy, .bool zb]] w (RV w (.bool true)) := by
  obtain ⟨n4, hn4⟩ : ∃ n : Nat, n = 4 := ⟨_, rfl⟩
  obtain ⟨x9, hx9⟩ : ∃ n : Nat, n = 9 := ⟨_, rfl⟩
  have hP := fun w => nine_P n4 x9 hn4 hx9 w
  have hB := fun w => nine_B n4 x9 hn4 hx9 w
  unfold lv at hP
  clear hn4 hx9
  replace hP := Lib.hid hP
  replace hB := Lib.hid hB
  have hW := Lib.hid (fun w => Width_v na x w)
  have hV := Lib.hid (fun w => Width_v nb y w)
  replace hOa := Lib.hid hOa
  replace hOb := Lib.hid hOb
  go_enter Tryz.func7, Tryz.ntmps7
  go_wp2_with fail
  have hbw0 : Below w.heap.size w ((w.alloc (.cells #[.slice A ca cca, .bool gx, .bool za] 34)).alloc (.cells #[.slice B cb ccb, .bool gy, .bool zb] 34)) := by go_grown
  have bh := H3.new (w.alloc (.cells #[.slice A ca cca, .bool gx, .bool za] 34)) 34 (.slice B cb ccb) (.bool gy) (.bool zb)
  rw [World.size_alloc] at bh
  have ba := bh.all
  have bl := bh.lt
  (with_reducible refine (hOa.out _ hbw0).mono ?_)
  rintro e w1 ⟨rfl, hb1⟩
  have bh' := (bh.over hb1).alloc (.cells #[.int .i64 (na : Int), .int .u64 ((lo x : Nat) : Int), .int .u64 ((hi x : Nat) : Int), .bool gx, .bool za] 28)
  clear bh ba bl
  have bh := bh'
  clear bh'
  have ba := bh.all
  have bl := bh.lt
  have hbv1 : Below w.heap.size w w1 := below_call hb1 hbw0
  have zv1 := hbv1.size
  have hbw1 : Below w.heap.size w (w1.alloc (.cells #[.int .i64 (na : Int), .int .u64 ((lo x : Nat) : Int), .int .u64 ((hi x : Nat) : Int), .bool gx, .bool za] 28)) := hbv1.alloc hbv1.size _
  have xh := H5.new w1 28 (.int .i64 (na : Int)) (.int .u64 ((lo x : Nat) : Int)) (.int .u64 ((hi x : Nat) : Int)) (.bool gx) (.bool za)
  have xa := xh.all
  have xl := xh.lt
  have zw1 := hbw1.size
  clear hb1
  go_wp2_with fail
  (with_reducible refine (hOb.out _ hbw1).mono ?_)
  rintro e w2 ⟨rfl, hb2⟩
  clear bh ba bl
  have xh' := (xh.over hb2).alloc (.cells #[.int .i64 (nb : Int), .int .u64 ((lo y : Nat) : Int), .int .u64 ((hi y : Nat) : Int), .bool gy, .bool zb] 28)
  clear xh xa xl
  have xh := xh'
  clear xh'
  have xa := xh.all
  have xl := xh.lt
  have hbv2 : Below w.heap.size w w2 := below_call hb2 hbw1
  have zv2 := hbv2.size
  have hbw2 : Below w.heap.size w (w2.alloc (.cells #[.int .i64 (nb : Int), .int .u64 ((lo y : Nat) : Int), .int .u64 ((hi y : Nat) : Int), .bool gy, .bool zb] 28)) := hbv2.alloc hbv2.size _
  have yh := H5.new w2 28 (.int .i64 (nb : Int)) (.int .u64 ((lo y : Nat) : Int)) (.int .u64 ((hi y : Nat) : Int)) (.bool gy) (.bool zb)
  have ya := yh.all
  have yl := yh.lt
  have zw2 := hbw2.size
  clear hb2
  go_wp2_with fail
  (with_reducible refine (hW.out _).mono ?_)
  rintro e w3 ⟨rfl, hb3⟩
  have xh' := (xh.over hb3)
  have yh' := (yh.over hb3)
  clear xh xa xl
  clear yh ya yl
  have xh := xh'
  clear xh'
  have xa := xh.all
  have xl := xh.lt
  have yh := yh'
  clear yh'
  have ya := yh.all
  have yl := yh.lt
  have hbw3 : Below w.heap.size w w3 := below_call hb3 hbw2
  have zw3 := hbw3.size
  clear hb3
  go_wp2_with fail
  (with_reducible refine (hV.out _).mono ?_)
  rintro e w4 ⟨rfl, hb4⟩
  have xh' := (xh.over hb4)
  have yh' := (yh.over hb4)
  clear xh xa xl
  clear yh ya yl
  have xh := xh'
  clear xh'
  have xa := xh.all
  have xl := xh.lt
  have yh := yh'
  clear yh'
  have ya := yh.all
  have yl := yh.lt
  have hbw4 : Below w.heap.size w w4 := below_call hb4 hbw3
  have zw4 := hbw4.size
  clear hb4
  go_wp2_with fail
  (with_reducible refine (hP.out _).mono ?_)
  rintro e w5 ⟨rfl, hb5⟩
  clear xh xa xl
  clear yh ya yl
  have hbv5 : Below w.heap.size w w5 := below_call hb5 hbw4
  have zv5 := hbv5.size
  have hbw5 : Below w.heap.size w (w5.alloc (.cells #[.int .i64 (n4 : Int), .int .u64 ((lo x9 : Nat) : Int), .int .u64 ((hi x9 : Nat) : Int), .bool false, .bool true] 28)) := hbv5.alloc hbv5.size _
  have th := H5.new w5 28 (.int .i64 (n4 : Int)) (.int .u64 ((lo x9 : Nat) : Int)) (.int .u64 ((hi x9 : Nat) : Int)) (.bool false) (.bool true)
  have ta := th.all
  have tl := th.lt
  have zw5 := hbw5.size
  clear hb5
  go_wp2_with fail
  (with_reducible refine (hB.out _).mono ?_)
  rintro e w6 ⟨rfl, hb6⟩
  have th' := (th.over hb6)
  clear th ta tl
  have th := th'
  clear th'
  have ta := th.all
  have tl := th.lt
  have hbw6 : Below w.heap.size w w6 := below_call hb6 hbw5
  have zw6 := hbw6.size
  clear hb6
  go_wp2_with fail
  go_ret
  exact ⟨rfl, hbw6⟩
set_option maxRecDepth 100000 in
set_option maxHeartbeats 12800000 in
theorem sn_main (ca cb cca ccb na nb x y : Nat) (A B : Option Addr) (gx za gy zb : Bool) (w : World)
    (hOa : ∀ w1, Below w.heap.size w w1 → Calls Tryz.prog 15 #[.agg #[.slice A ca cca, .bool gx, .bool za]] w1 (RV w1 (.tuple #[.agg #[.int .i64 (na : Int), .int .u64 ((lo x : Nat) : Int), .int .u64 ((hi x : Nat) : Int), .bool gx, .bool za], .bool true])))
    (hOb : ∀ w1, Below w.heap.size w w1 → Calls Tryz.prog 15 #[.agg #[.slice B cb ccb, .bool gy, .bool zb]] w1 (RV w1 (.tuple #[.agg #[.int .i64 (nb : Int), .int .u64 ((lo y : Nat) : Int), .int .u64 ((hi y : Nat) : Int), .bool gy, .bool zb], .bool true]))) (z u : Nat) (D1 D2 D3 : ByteArray) (i1 i2 i3 r1 r2 r3 : Int) (e1 : ((na : Int) == 0) = false) (e2 : ((nb : Int) == 0) = false)
    (hX : ∀ w1, Calls Tryz.prog 22 #[vv nb y, .int .i64 (na : Int), .bool gy] w1 (RV w1 (.tuple #[vv na z, .int .i64 0])))
    (hS : ∀ w1, Calls Tryz.prog 23 #[.int .i64 0, vv na x, vv na z] w1 (RV w1 (.tuple #[vv na u, .int .i64 0])))
    (hE : ∀ w1, Calls Tryz.prog 24 #[vv na u, vv na u] w1 (RV w1 (.bool true)))
    (hT1 : ∀ w1, Below w.heap.size w w1 → Calls Tryz.prog 13 #[.agg #[.int .i64 (na : Int), .int .u64 ((lo x : Nat) : Int), .int .u64 ((hi x : Nat) : Int), .bool gx, .bool true]] w1 (RV w1 (.string D1)))
    (hP1 : ∀ w1, Calls Tryz.prog 9 #[.string D1] w1 (RV w1 (.tuple #[.agg #[.int .i64 (na : Int), .int .u64 ((lo x : Nat) : Int), .int .u64 ((hi x : Nat) : Int), .bool gx, .bool true], .int .i64 0])))
    (hT2 : ∀ w1, Below w.heap.size w w1 → Calls Tryz.prog 13 #[.agg #[.int .i64 (na : Int), .int .u64 ((lo z : Nat) : Int), .int .u64 ((hi z : Nat) : Int), .bool false, .bool true]] w1 (RV w1 (.string D2)))
    (hP2 : ∀ w1, Calls Tryz.prog 9 #[.string D2] w1 (RV w1 (.tuple #[.agg #[.int .i64 (na : Int), .int .u64 ((lo z : Nat) : Int), .int .u64 ((hi z : Nat) : Int), .bool false, .bool true], .int .i64 0])))
    (hT3 : ∀ w1, Below w.heap.size w w1 → Calls Tryz.prog 13 #[.agg #[.int .i64 (na : Int), .int .u64 ((lo u : Nat) : Int), .int .u64 ((hi u : Nat) : Int), .bool false, .bool true]] w1 (RV w1 (.string D3)))
    (hP3 : ∀ w1, Calls Tryz.prog 9 #[.string D3] w1 (RV w1 (.tuple #[.agg #[.int .i64 (na : Int), .int .u64 ((lo u : Nat) : Int), .int .u64 ((hi u : Nat) : Int), .bool false, .bool true], .int .i64 0])))
    (hI1 : ∀ w1, Calls Tryz.prog 16 #[.agg #[.int .i64 (na : Int), .int .u64 ((lo x : Nat) : Int), .int .u64 ((hi x : Nat) : Int), .bool gx, .bool true]] w1 (RV w1 (.tuple #[.int .i64 i1, .int .i64 r1])))
    (hI2 : ∀ w1, Calls Tryz.prog 16 #[.agg #[.int .i64 (na : Int), .int .u64 ((lo z : Nat) : Int), .int .u64 ((hi z : Nat) : Int), .bool gx, .bool true]] w1 (RV w1 (.tuple #[.int .i64 i2, .int .i64 r2])))
    (hI3 : ∀ w1, Calls Tryz.prog 16 #[.agg #[.int .i64 (na : Int), .int .u64 ((lo u : Nat) : Int), .int .u64 ((hi u : Nat) : Int), .bool gx, .bool true]] w1 (RV w1 (.tuple #[.int .i64 i3, .int .i64 r3])))
    (hF : r1 = 0 → r2 = 0 → r3 = 0 → na ≤ 31 → IntKind.i64.wrap (i1 + i2) = i1 + i2 ∧ IntKind.i64.wrap (i1 + i2 - i3) = i1 + i2 - i3 ∧ (i1 + i2 - i3).tmod (2 ^ na) = 0) :
    Calls Tryz.prog 7 #[.agg #[.slice A ca cca, .bool gx, .bool za], .agg #[.slice B cb ccb, .bool gy, .bool zb]] w (RV w (.bool true)) := by
  have hW := Lib.hid (fun w => Width_v na x w)
  have hV := Lib.hid (fun w => Width_v nb y w)
  replace hOa := Lib.hid hOa
  replace hOb := Lib.hid hOb
  replace hX := Lib.hid hX
  replace hS := Lib.hid hS
  replace hE := Lib.hid hE
  replace hT1 := Lib.hid hT1
  replace hP1 := Lib.hid hP1
  replace hT2 := Lib.hid hT2
  replace hP2 := Lib.hid hP2
  replace hT3 := Lib.hid hT3
  replace hP3 := Lib.hid hP3
  replace hI1 := Lib.hid hI1
  replace hI2 := Lib.hid hI2
  replace hI3 := Lib.hid hI3
  have gg : (gx != gx) = false := by simp
  go_enter Tryz.func7, Tryz.ntmps7
  go_wp2_with fail
  have hbw0 : Below w.heap.size w ((w.alloc (.cells #[.slice A ca cca, .bool gx, .bool za] 34)).alloc (.cells #[.slice B cb ccb, .bool gy, .bool zb] 34)) := by go_grown
  have bh := H3.new (w.alloc (.cells #[.slice A ca cca, .bool gx, .bool za] 34)) 34 (.slice B cb ccb) (.bool gy) (.bool zb)
  rw [World.size_alloc] at bh
  have ba := bh.all
  have bl := bh.lt
  (with_reducible refine (hOa.out _ hbw0).mono ?_)
  rintro e w1 ⟨rfl, hb1⟩
  have bh' := (bh.over hb1).alloc (.cells #[.int .i64 (na : Int), .int .u64 ((lo x : Nat) : Int), .int .u64 ((hi x : Nat) : Int), .bool gx, .bool za] 28)
  clear bh ba bl
  have bh := bh'
  clear bh'
  have ba := bh.all
  have bl := bh.lt
  have hbv1 : Below w.heap.size w w1 := below_call hb1 hbw0
  have zv1 := hbv1.size
  have hbw1 : Below w.heap.size w (w1.alloc (.cells #[.int .i64 (na : Int), .int .u64 ((lo x : Nat) : Int), .int .u64 ((hi x : Nat) : Int), .bool gx, .bool za] 28)) := hbv1.alloc hbv1.size _
  have xh := H5.new w1 28 (.int .i64 (na : Int)) (.int .u64 ((lo x : Nat) : Int)) (.int .u64 ((hi x : Nat) : Int)) (.bool gx) (.bool za)
  have xa := xh.all
  have xl := xh.lt
  have zw1 := hbw1.size
  clear hb1
  go_wp2_with fail
  (with_reducible refine (hOb.out _ hbw1).mono ?_)
  rintro e w2 ⟨rfl, hb2⟩
  clear bh ba bl
  have xh' := (xh.over hb2).alloc (.cells #[.int .i64 (nb : Int), .int .u64 ((lo y : Nat) : Int), .int .u64 ((hi y : Nat) : Int), .bool gy, .bool zb] 28)
  clear xh xa xl
  have xh := xh'
  clear xh'
  have xa := xh.all
  have xl := xh.lt
  have hbv2 : Below w.heap.size w w2 := below_call hb2 hbw1
  have zv2 := hbv2.size
  have hbw2 : Below w.heap.size w (w2.alloc (.cells #[.int .i64 (nb : Int), .int .u64 ((lo y : Nat) : Int), .int .u64 ((hi y : Nat) : Int), .bool gy, .bool zb] 28)) := hbv2.alloc hbv2.size _
  have yh := H5.new w2 28 (.int .i64 (nb : Int)) (.int .u64 ((lo y : Nat) : Int)) (.int .u64 ((hi y : Nat) : Int)) (.bool gy) (.bool zb)
  have ya := yh.all
  have yl := yh.lt
  have zw2 := hbw2.size
  clear hb2
  go_wp2_with fail
  (with_reducible refine (hW.out _).mono ?_)
  rintro e w3 ⟨rfl, hb3⟩
  have xh' := (xh.over hb3)
  have yh' := (yh.over hb3)
  clear xh xa xl
  clear yh ya yl
  have xh := xh'
  clear xh'
  have xa := xh.all
  have xl := xh.lt
  have yh := yh'
  clear yh'
  have ya := yh.all
  have yl := yh.lt
  have hbw3 : Below w.heap.size w w3 := below_call hb3 hbw2
  have zw3 := hbw3.size
  clear hb3
  go_wp2_with fail
  (with_reducible refine (hV.out _).mono ?_)
  rintro e w4 ⟨rfl, hb4⟩
  have xh' := (xh.over hb4)
  have yh' := (yh.over hb4)
  clear xh xa xl
  clear yh ya yl
  have xh := xh'
  clear xh'
  have xa := xh.all
  have xl := xh.lt
  have yh := yh'
  clear yh'
  have ya := yh.all
  have yl := yh.lt
  have hbw4 : Below w.heap.size w w4 := below_call hb4 hbw3
  have zw4 := hbw4.size
  clear hb4
  go_wp2_with fail
  (with_reducible refine (hX.out _).mono ?_)
  rintro e w5 ⟨rfl, hb5⟩
  clear yh ya yl
  have xh' := (xh.over hb5).alloc (.cells (vcs na z) 26)
  clear xh xa xl
  have xh := xh'
  clear xh'
  have xa := xh.all
  have xl := xh.lt
  have hbv5 : Below w.heap.size w w5 := below_call hb5 hbw4
  have zv5 := hbv5.size
  have hbw5 : Below w.heap.size w (w5.alloc (.cells (vcs na z) 26)) := hbv5.alloc hbv5.size _
  have dh := HV.new w5 26 na z
  have da := dh.all
  have dl := dh.lt
  have zw5 := hbw5.size
  clear hb5
  go_wp2_with fail
  (with_reducible refine (hS.out _).mono ?_)
  rintro e w6 ⟨rfl, hb6⟩
  have xh' := (xh.over hb6).alloc (.cells (vcs na u) 26)
  have dh' := (dh.over hb6).alloc (.cells (vcs na u) 26)
  clear xh xa xl
  clear dh da dl
  have xh := xh'
  clear xh'
  have xa := xh.all
  have xl := xh.lt
  have dh := dh'
  clear dh'
  have da := dh.all
  have dl := dh.lt
  have hbv6 : Below w.heap.size w w6 := below_call hb6 hbw5
  have zv6 := hbv6.size
  have hbw6 : Below w.heap.size w (w6.alloc (.cells (vcs na u) 26)) := hbv6.alloc hbv6.size _
  have mh := HV.new w6 26 na u
  have ma := mh.all
  have ml := mh.lt
  have zw6 := hbw6.size
  clear hb6
  go_wp2_with fail
  (with_reducible refine (hT1.out _ hbw6).mono ?_)
  rintro e w7 ⟨rfl, hb7⟩
  have xh' := (xh.over hb7)
  have dh' := (dh.over hb7)
  have mh' := (mh.over hb7)
  clear xh xa xl
  clear dh da dl
  clear mh ma ml
  have xh := xh'
  clear xh'
  have xa := xh.all
  have xl := xh.lt
  have dh := dh'
  clear dh'
  have da := dh.all
  have dl := dh.lt
  have mh := mh'
  clear mh'
  have ma := mh.all
  have ml := mh.lt
  have hbw7 : Below w.heap.size w w7 := below_call hb7 hbw6
  have zw7 := hbw7.size
  clear hb7
  go_wp2_with fail
  (with_reducible refine (hP1.out _).mono ?_)
  rintro e w8 ⟨rfl, hb8⟩
  have xh' := (xh.over hb8).alloc (.cells #[.int .i64 (na : Int), .int .u64 ((lo x : Nat) : Int), .int .u64 ((hi x : Nat) : Int), .bool gx, .bool true] 28)
  have dh' := (dh.over hb8).alloc (.cells #[.int .i64 (na : Int), .int .u64 ((lo x : Nat) : Int), .int .u64 ((hi x : Nat) : Int), .bool gx, .bool true] 28)
  have mh' := (mh.over hb8).alloc (.cells #[.int .i64 (na : Int), .int .u64 ((lo x : Nat) : Int), .int .u64 ((hi x : Nat) : Int), .bool gx, .bool true] 28)
  clear xh xa xl
  clear dh da dl
  clear mh ma ml
  have xh := xh'
  clear xh'
  have xa := xh.all
  have xl := xh.lt
  have dh := dh'
  clear dh'
  have da := dh.all
  have dl := dh.lt
  have mh := mh'
  clear mh'
  have ma := mh.all
  have ml := mh.lt
  have hbv8 : Below w.heap.size w w8 := below_call hb8 hbw7
  have zv8 := hbv8.size
  have hbw8 : Below w.heap.size w (w8.alloc (.cells #[.int .i64 (na : Int), .int .u64 ((lo x : Nat) : Int), .int .u64 ((hi x : Nat) : Int), .bool gx, .bool true] 28)) := hbv8.alloc hbv8.size _
  have ph := H5.new w8 28 (.int .i64 (na : Int)) (.int .u64 ((lo x : Nat) : Int)) (.int .u64 ((hi x : Nat) : Int)) (.bool gx) (.bool true)
  have pa := ph.all
  have pl := ph.lt
  have zw8 := hbw8.size
  clear hb8
  go_wp2_with fail
  (with_reducible refine (hT2.out _ hbw8).mono ?_)
  rintro e w9 ⟨rfl, hb9⟩
  have xh' := (xh.over hb9)
  have dh' := (dh.over hb9)
  have mh' := (mh.over hb9)
  have ph' := (ph.over hb9)
  clear xh xa xl
  clear dh da dl
  clear mh ma ml
  clear ph pa pl
  have xh := xh'
  clear xh'
  have xa := xh.all
  have xl := xh.lt
  have dh := dh'
  clear dh'
  have da := dh.all
  have dl := dh.lt
  have mh := mh'
  clear mh'
  have ma := mh.all
  have ml := mh.lt
  have ph := ph'
  clear ph'
  have pa := ph.all
  have pl := ph.lt
  have hbw9 : Below w.heap.size w w9 := below_call hb9 hbw8
  have zw9 := hbw9.size
  clear hb9
  go_wp2_with fail
  (with_reducible refine (hP2.out _).mono ?_)
  rintro e w10 ⟨rfl, hb10⟩
  have xh' := (xh.over hb10).alloc (.cells #[.int .i64 (na : Int), .int .u64 ((lo z : Nat) : Int), .int .u64 ((hi z : Nat) : Int), .bool false, .bool true] 28)
  have dh' := (dh.over hb10).alloc (.cells #[.int .i64 (na : Int), .int .u64 ((lo z : Nat) : Int), .int .u64 ((hi z : Nat) : Int), .bool false, .bool true] 28)
  have mh' := (mh.over hb10).alloc (.cells #[.int .i64 (na : Int), .int .u64 ((lo z : Nat) : Int), .int .u64 ((hi z : Nat) : Int), .bool false, .bool true] 28)
  have ph' := (ph.over hb10).alloc (.cells #[.int .i64 (na : Int), .int .u64 ((lo z : Nat) : Int), .int .u64 ((hi z : Nat) : Int), .bool false, .bool true] 28)
  clear xh xa xl
  clear dh da dl
  clear mh ma ml
  clear ph pa pl
  have xh := xh'
  clear xh'
  have xa := xh.all
  have xl := xh.lt
  have dh := dh'
  clear dh'
  have da := dh.all
  have dl := dh.lt
  have mh := mh'
  clear mh'
  have ma := mh.all
  have ml := mh.lt
  have ph := ph'
  clear ph'
  have pa := ph.all
  have pl := ph.lt
  have hbv10 : Below w.heap.size w w10 := below_call hb10 hbw9
  have zv10 := hbv10.size
  have hbw10 : Below w.heap.size w (w10.alloc (.cells #[.int .i64 (na : Int), .int .u64 ((lo z : Nat) : Int), .int .u64 ((hi z : Nat) : Int), .bool false, .bool true] 28)) := hbv10.alloc hbv10.size _
  have qh := H5.new w10 28 (.int .i64 (na : Int)) (.int .u64 ((lo z : Nat) : Int)) (.int .u64 ((hi z : Nat) : Int)) (.bool false) (.bool true)
  have qa := qh.all
  have ql := qh.lt
  have zw10 := hbw10.size
  clear hb10
  go_wp2_with fail
  (with_reducible refine (hT3.out _ hbw10).mono ?_)
  rintro e w11 ⟨rfl, hb11⟩
  have xh' := (xh.over hb11)
  have dh' := (dh.over hb11)
  have mh' := (mh.over hb11)
  have ph' := (ph.over hb11)
  have qh' := (qh.over hb11)
  clear xh xa xl
  clear dh da dl
  clear mh ma ml
  clear ph pa pl
  clear qh qa ql
  have xh := xh'
  clear xh'
  have xa := xh.all
  have xl := xh.lt
  have dh := dh'
  clear dh'
  have da := dh.all
  have dl := dh.lt
  have mh := mh'
  clear mh'
  have ma := mh.all
  have ml := mh.lt
  have ph := ph'
  clear ph'
  have pa := ph.all
  have pl := ph.lt
  have qh := qh'
  clear qh'
  have qa := qh.all
  have ql := qh.lt
  have hbw11 : Below w.heap.size w w11 := below_call hb11 hbw10
  have zw11 := hbw11.size
  clear hb11
  go_wp2_with fail
  (with_reducible refine (hP3.out _).mono ?_)
  rintro e w12 ⟨rfl, hb12⟩
  have xh' := (xh.over hb12).alloc (.cells #[.int .i64 (na : Int), .int .u64 ((lo u : Nat) : Int), .int .u64 ((hi u : Nat) : Int), .bool false, .bool true] 28)
  have dh' := (dh.over hb12).alloc (.cells #[.int .i64 (na : Int), .int .u64 ((lo u : Nat) : Int), .int .u64 ((hi u : Nat) : Int), .bool false, .bool true] 28)
  have mh' := (mh.over hb12).alloc (.cells #[.int .i64 (na : Int), .int .u64 ((lo u : Nat) : Int), .int .u64 ((hi u : Nat) : Int), .bool false, .bool true] 28)
  have ph' := (ph.over hb12).alloc (.cells #[.int .i64 (na : Int), .int .u64 ((lo u : Nat) : Int), .int .u64 ((hi u : Nat) : Int), .bool false, .bool true] 28)
  have qh' := (qh.over hb12).alloc (.cells #[.int .i64 (na : Int), .int .u64 ((lo u : Nat) : Int), .int .u64 ((hi u : Nat) : Int), .bool false, .bool true] 28)
  clear xh xa xl
  clear dh da dl
  clear mh ma ml
  clear ph pa pl
  clear qh qa ql
  have xh := xh'
  clear xh'
  have xa := xh.all
  have xl := xh.lt
  have dh := dh'
  clear dh'
  have da := dh.all
  have dl := dh.lt
  have mh := mh'
  clear mh'
  have ma := mh.all
  have ml := mh.lt
  have ph := ph'
  clear ph'
  have pa := ph.all
  have pl := ph.lt
  have qh := qh'
  clear qh'
  have qa := qh.all
  have ql := qh.lt
  have hbv12 : Below w.heap.size w w12 := below_call hb12 hbw11
  have zv12 := hbv12.size
  have hbw12 : Below w.heap.size w (w12.alloc (.cells #[.int .i64 (na : Int), .int .u64 ((lo u : Nat) : Int), .int .u64 ((hi u : Nat) : Int), .bool false, .bool true] 28)) := hbv12.alloc hbv12.size _
  have sh := H5.new w12 28 (.int .i64 (na : Int)) (.int .u64 ((lo u : Nat) : Int)) (.int .u64 ((hi u : Nat) : Int)) (.bool false) (.bool true)
  have sa := sh.all
  have sl := sh.lt
  have zw12 := hbw12.size
  clear hb12
  go_wp2_with fail
  (with_reducible refine (hS.out _).mono ?_)
  rintro e w13 ⟨rfl, hb13⟩
  clear qh qa ql
  have xh' := (xh.over hb13).alloc (.cells (vcs na u) 26)
  have dh' := (dh.over hb13).alloc (.cells (vcs na u) 26)
  have mh' := (mh.over hb13).alloc (.cells (vcs na u) 26)
  have ph' := (ph.over hb13).alloc (.cells (vcs na u) 26)
  have sh' := (sh.over hb13).alloc (.cells (vcs na u) 26)
  clear xh xa xl
  clear dh da dl
  clear mh ma ml
  clear ph pa pl
  clear sh sa sl
  have xh := xh'
  clear xh'
  have xa := xh.all
  have xl := xh.lt
  have dh := dh'
  clear dh'
  have da := dh.all
  have dl := dh.lt
  have mh := mh'
  clear mh'
  have ma := mh.all
  have ml := mh.lt
  have ph := ph'
  clear ph'
  have pa := ph.all
  have pl := ph.lt
  have sh := sh'
  clear sh'
  have sa := sh.all
  have sl := sh.lt
  have hbv13 : Below w.heap.size w w13 := below_call hb13 hbw12
  have zv13 := hbv13.size
  have hbw13 : Below w.heap.size w (w13.alloc (.cells (vcs na u) 26)) := hbv13.alloc hbv13.size _
  have gh := HV.new w13 26 na u
  have ga := gh.all
  have gl := gh.lt
  have zw13 := hbw13.size
  clear hb13
  go_wp2_with fail
  (with_reducible refine (hE.out _).mono ?_)
  rintro e w14 ⟨rfl, hb14⟩
  clear gh ga gl
  have xh' := (xh.over hb14)
  have dh' := (dh.over hb14)
  have mh' := (mh.over hb14)
  have ph' := (ph.over hb14)
  have sh' := (sh.over hb14)
  clear xh xa xl
  clear dh da dl
  clear mh ma ml
  clear ph pa pl
  clear sh sa sl
  have xh := xh'
  clear xh'
  have xa := xh.all
  have xl := xh.lt
  have dh := dh'
  clear dh'
  have da := dh.all
  have dl := dh.lt
  have mh := mh'
  clear mh'
  have ma := mh.all
  have ml := mh.lt
  have ph := ph'
  clear ph'
  have pa := ph.all
  have pl := ph.lt
  have sh := sh'
  clear sh'
  have sa := sh.all
  have sl := sh.lt
  have hbw14 : Below w.heap.size w w14 := below_call hb14 hbw13
  have zw14 := hbw14.size
  clear hb14
  go_wp2_with fail
  (with_reducible refine (hE.out _).mono ?_)
  rintro e w15 ⟨rfl, hb15⟩
  clear sh sa sl
  have xh' := (xh.over hb15)
  have dh' := (dh.over hb15)
  have mh' := (mh.over hb15)
  have ph' := (ph.over hb15)
  clear xh xa xl
  clear dh da dl
  clear mh ma ml
  clear ph pa pl
  have xh := xh'
  clear xh'
  have xa := xh.all
  have xl := xh.lt
  have dh := dh'
  clear dh'
  have da := dh.all
  have dl := dh.lt
  have mh := mh'
  clear mh'
  have ma := mh.all
  have ml := mh.lt
  have ph := ph'
  clear ph'
  have pa := ph.all
  have pl := ph.lt
  have hbw15 : Below w.heap.size w w15 := below_call hb15 hbw14
  have zw15 := hbw15.size
  clear hb15
  go_wp2_with fail
  (with_reducible refine (hI1.out _).mono ?_)
  rintro e w16 ⟨rfl, hb16⟩
  clear ph pa pl
  have xh' := (xh.over hb16)
  have dh' := (dh.over hb16)
  have mh' := (mh.over hb16)
  clear xh xa xl
  clear dh da dl
  clear mh ma ml
  have xh := xh'
  clear xh'
  have xa := xh.all
  have xl := xh.lt
  have dh := dh'
  clear dh'
  have da := dh.all
  have dl := dh.lt
  have mh := mh'
  clear mh'
  have ma := mh.all
  have ml := mh.lt
  have hbw16 : Below w.heap.size w w16 := below_call hb16 hbw15
  have zw16 := hbw16.size
  clear hb16
  go_wp2_with fail
  (with_reducible refine (hI2.out _).mono ?_)
  rintro e w17 ⟨rfl, hb17⟩
  clear dh da dl
  have xh' := (xh.over hb17)
  have mh' := (mh.over hb17)
  clear xh xa xl
  clear mh ma ml
  have xh := xh'
  clear xh'
  have xa := xh.all
  have xl := xh.lt
  have mh := mh'
  clear mh'
  have ma := mh.all
  have ml := mh.lt
  have hbw17 : Below w.heap.size w w17 := below_call hb17 hbw16
  have zw17 := hbw17.size
  clear hb17
  go_wp2_with fail
  (with_reducible refine (hI3.out _).mono ?_)
  rintro e w18 ⟨rfl, hb18⟩
  clear mh ma ml
  clear xh xa xl
  have hbw18 : Below w.heap.size w w18 := below_call hb18 hbw17
  have zw18 := hbw18.size
  clear hb18
  by_cases c1 : r1 = 0
  case neg =>
    have f1 : (r1 != 0) = true := by simpa using c1
    have f1' : (r1 == 0) = false := by simpa using c1
    go_wp2_with fail
    go_ret
    exact ⟨rfl, hbw18⟩
  by_cases c2 : r2 = 0
  case neg =>
    have f1 : (r1 != 0) = false := by simpa using c1
    have f1' : (r1 == 0) = true := by simpa using c1
    have f2 : (r2 != 0) = true := by simpa using c2
    have f2' : (r2 == 0) = false := by simpa using c2
    clear c1
    go_wp2_with fail
    go_ret
    exact ⟨rfl, hbw18⟩
  by_cases c3 : r3 = 0
  case neg =>
    have f1 : (r1 != 0) = false := by simpa using c1
    have f1' : (r1 == 0) = true := by simpa using c1
    have f2 : (r2 != 0) = false := by simpa using c2
    have f2' : (r2 == 0) = true := by simpa using c2
    have f3 : (r3 != 0) = true := by simpa using c3
    have f3' : (r3 == 0) = false := by simpa using c3
    clear c1 c2
    go_wp2_with fail
    go_ret
    exact ⟨rfl, hbw18⟩
  have f1 : (r1 != 0) = false := by simpa using c1
  have f1' : (r1 == 0) = true := by simpa using c1
  have f2 : (r2 != 0) = false := by simpa using c2
  have f2' : (r2 == 0) = true := by simpa using c2
  have f3 : (r3 != 0) = false := by simpa using c3
  have f3' : (r3 == 0) = true := by simpa using c3
  by_cases c4 : 31 < na
  · have f4 : decide (31 < (na : Int)) = true := by simp; omega
    have f4' : decide (31 < na) = true := by simp; omega
    clear c1 c2 c3
    go_wp2_with fail
    go_ret
    exact ⟨rfl, hbw18⟩
  · have f4 : decide (31 < (na : Int)) = false := by simp; omega
    have f4' : decide (31 < na) = false := by simp; omega
    obtain ⟨k1, k2, k3⟩ := hF c1 c2 c3 (by omega)
    obtain ⟨S, hS2⟩ : ∃ S : Int, (2 : Int) ^ na = S := ⟨_, rfl⟩
    have hSb : 1 ≤ S ∧ S ≤ 2147483648 := by
      rw [← hS2]
      have a1 : (2 : Nat) ^ na ≤ 2 ^ 31 := Nat.pow_le_pow_right (by decide) (by omega)
      have a2 := Nat.two_pow_pos na
      have a3 : ((2 : Int) ^ na) = ((2 ^ na : Nat) : Int) := by simp
      rw [a3]
      omega
    rw [hS2] at k3
    have es : IntKind.i64.wrap S = S := IntWalk.i64_in _ (by omega)
    have es2 : RowKit.wrap64 S = S := IntWalk.wrap64_in _ (by omega)
    have sne : (S == 0) = false := by simp; omega
    have sne2 : ¬ S = 0 := by omega
    have q1 : (na : Int) < 64 := by omega
    have q2 : na < 64 := by omega
    have q3 : ¬ (64 : Int) ≤ (na : Int) := by omega
    have q4 : ¬ 64 ≤ na := by omega
    clear c1 c2 c3 hF hSb
    go_wp2_with fail
    go_ret
    exact ⟨rfl, hbw18⟩
end Go.Proofs.YtalmhopbnaeamaaGreatDoor
