/-
  The reference's Eval: operators of two: the parts' errors; sums; comparisons.
-/
import Derived.Test.YtcifljbcoioogaaGreatDoorTt
namespace Go.Proofs.YtcifljbcoioogaaGreatDoor
open Go.RowKit Go.Lib Go.Maps
set_option maxRecDepth 100000 in
set_option maxHeartbeats 3200000 in
theorem rev_b_xerr (k f ln cc : Int) (s : ByteArray) (a a2 : XH) (an ac an2 ac2 : Nat) (A1 A2 : Option Addr) (b o : Nat) (E : Option Addr) (c m ec : Nat) (w : World) (x y : KR) (hk : k = 4) (hx : XC w b o a A1 an ac) (hy : XC w b (o + 6) a2 A2 an2 ac2) (hb : b < w.heap.size) (h0 : x.e ≠ 0)
    (hE : ∀ W, Below w.heap.size w W → Calls Tryz.prog 12 #[xv a A1 an ac, .slice E m ec] W (RE W x))
    (hE2 : ∀ W, Below w.heap.size w W → Calls Tryz.prog 12 #[xv a2 A2 an2 ac2, .slice E m ec] W (RE W y)) :
    Calls Tryz.prog 12 #[xv ⟨k, f, ln, cc, s⟩ (some ⟨b, o, none⟩) 2 c, .slice E m ec] w (RE w (x)) := by
      have hI0 := RI.new w ⟨k, f, ln, cc, s⟩ (some ⟨b, o, none⟩) 2 c
      have hG := fun (m : Int) W => rgood_t ⟨k, f, ln, cc, s⟩ (some ⟨b, o, none⟩) 2 c m W
      have hT := fun (b : Bool) W => rtruth_t b W
      subst hk
      obtain ⟨x0, x1, x2, x3, x4, x5⟩ := hx
      obtain ⟨y0, y1, y2, y3, y4, y5⟩ := hy
      obtain ⟨R, hR⟩ : ∃ R, (x) = R := ⟨_, rfl⟩
      rw [hR]
      unfold RE ov at *
      obtain ⟨b0, b1, b2, b3, b4, b5⟩ := hI0.x.all
      have bl := hI0.x.lt
      replace hE := Lib.hid hE
      replace hE2 := Lib.hid hE2
      replace hI0 := Lib.hid hI0
      replace hG := Lib.hid hG
      replace hT := Lib.hid hT
      replace hR := Lib.hid hR
      have hr := hR.out
      subst hr
      clear hR
      have d1 : (x.e == 0) = false := by simpa using h0
      have d2 : (x.e != 0) = true := by simpa using h0
      have d3 : decide (x.e = 0) = false := by simpa using h0
      replace h0 := Lib.hid h0
      go_enter Tryz.func12, Tryz.ntmps12
      go_wp2_with fail
      (with_reducible refine (hE.out _ hI0.out.k).mono ?_)
      rintro e0 w1 ⟨rfl, hb1⟩
      have hI1 := Lib.hid (hI0.out.over hb1)
      obtain ⟨b10, b11, b12, b13, b14, b15⟩ := hI1.out.x.all
      obtain ⟨o10, o11, o12, o13, o14, o1f, o1l⟩ := hI1.out.o.all
      have b1l := hI1.out.x.lt
      replace hb1 := Lib.hid hb1
      go_wp2_with fail
      have hz := hI1.out.k
      have five := hI1.out.o.five (.int .i64 x.n) (.int .i64 x.f) (.int .i64 x.l) (.int .i64 x.c) (.int .i64 x.e)
      refine bodyPost_ret (v := .agg #[.int .i64 x.n, .int .i64 x.f, .int .i64 x.l, .int .i64 x.c, .int .i64 x.e]) (by simp [results, Tryz.results12, go_sem, five]) rfl ⟨rfl, ?_⟩
      go_grown
set_option maxRecDepth 100000 in
set_option maxHeartbeats 3200000 in
theorem rev_b_yerr (k f ln cc : Int) (s : ByteArray) (a a2 : XH) (an ac an2 ac2 : Nat) (A1 A2 : Option Addr) (b o : Nat) (E : Option Addr) (c m ec : Nat) (w : World) (x y : KR) (hk : k = 4) (hx : XC w b o a A1 an ac) (hy : XC w b (o + 6) a2 A2 an2 ac2) (hb : b < w.heap.size) (h0 : x.e = 0) (hs1 : (s.toList == [38, 38]) = false) (hs2 : (s.toList == [124, 124]) = false) (hg : y.e ≠ 0)
    (hE : ∀ W, Below w.heap.size w W → Calls Tryz.prog 12 #[xv a A1 an ac, .slice E m ec] W (RE W x))
    (hE2 : ∀ W, Below w.heap.size w W → Calls Tryz.prog 12 #[xv a2 A2 an2 ac2, .slice E m ec] W (RE W y)) :
    Calls Tryz.prog 12 #[xv ⟨k, f, ln, cc, s⟩ (some ⟨b, o, none⟩) 2 c, .slice E m ec] w (RE w (y)) := by
      have hI0 := RI.new w ⟨k, f, ln, cc, s⟩ (some ⟨b, o, none⟩) 2 c
      have hG := fun (m : Int) W => rgood_t ⟨k, f, ln, cc, s⟩ (some ⟨b, o, none⟩) 2 c m W
      have hT := fun (b : Bool) W => rtruth_t b W
      subst hk
      obtain ⟨x0, x1, x2, x3, x4, x5⟩ := hx
      obtain ⟨y0, y1, y2, y3, y4, y5⟩ := hy
      obtain ⟨R, hR⟩ : ∃ R, (y) = R := ⟨_, rfl⟩
      rw [hR]
      unfold RE ov at *
      obtain ⟨b0, b1, b2, b3, b4, b5⟩ := hI0.x.all
      have bl := hI0.x.lt
      replace hE := Lib.hid hE
      replace hE2 := Lib.hid hE2
      replace hI0 := Lib.hid hI0
      replace hG := Lib.hid hG
      replace hT := Lib.hid hT
      replace hR := Lib.hid hR
      have hr := hR.out
      subst hr
      clear hR
      replace h0 := Lib.hid h0
      have d1 : (y.e == 0) = false := by simpa using hg
      have d2 : (y.e != 0) = true := by simpa using hg
      have d3 : decide (y.e = 0) = false := by simpa using hg
      replace hg := Lib.hid hg
      go_enter Tryz.func12, Tryz.ntmps12
      go_wp2_with fail
      (with_reducible refine (hE.out _ hI0.out.k).mono ?_)
      rintro e0 w1 ⟨rfl, hb1⟩
      rw [h0.out]
      have hI1 := Lib.hid (hI0.out.over hb1)
      obtain ⟨b10, b11, b12, b13, b14, b15⟩ := hI1.out.x.all
      obtain ⟨o10, o11, o12, o13, o14, o1f, o1l⟩ := hI1.out.o.all
      have b1l := hI1.out.x.lt
      have z0 := (hI1.out.k.cell (p := ⟨b, o + 6, none⟩) hb).trans y0
      have z1 := (hI1.out.k.cell (p := ⟨b, o + 6 + 1, none⟩) hb).trans y1
      have z2 := (hI1.out.k.cell (p := ⟨b, o + 6 + 2, none⟩) hb).trans y2
      have z3 := (hI1.out.k.cell (p := ⟨b, o + 6 + 3, none⟩) hb).trans y3
      have z4 := (hI1.out.k.cell (p := ⟨b, o + 6 + 4, none⟩) hb).trans y4
      have z5 := (hI1.out.k.cell (p := ⟨b, o + 6 + 5, none⟩) hb).trans y5
      have zl : b < w1.heap.size := by have := hI1.out.k.size; omega
      replace hb1 := Lib.hid hb1
      go_wp2_with fail
      (with_reducible refine (hE2.out _ (hI1.out.alloc _).k).mono ?_)
      rintro e0 w2 ⟨rfl, hb2⟩
      have hI2 := Lib.hid ((hI1.out.alloc _).over hb2)
      obtain ⟨b20, b21, b22, b23, b24, b25⟩ := hI2.out.x.all
      obtain ⟨o20, o21, o22, o23, o24, o2f, o2l⟩ := hI2.out.o.all
      have b2l := hI2.out.x.lt
      have hXn := (hb2.block w1.heap.size (by simp)).trans (heap_alloc_new w1 _)
      have xc : w2.cell? ⟨w1.heap.size, 0, none⟩ = some (.int .i64 x.n) := by rw [Lib.cell_of_heap hXn]; rfl
      have xl := lt_of_get hXn
      replace hXn := Lib.hid hXn
      clear hb2
      go_wp2_with fail
      have hz := hI2.out.k
      have five := hI2.out.o.five (.int .i64 y.n) (.int .i64 y.f) (.int .i64 y.l) (.int .i64 y.c) (.int .i64 y.e)
      refine bodyPost_ret (v := .agg #[.int .i64 y.n, .int .i64 y.f, .int .i64 y.l, .int .i64 y.c, .int .i64 y.e]) (by simp [results, Tryz.results12, go_sem, five]) rfl ⟨rfl, ?_⟩
      go_grown
set_option maxRecDepth 100000 in
set_option maxHeartbeats 3200000 in
theorem rev_b_add (k f ln cc : Int) (s : ByteArray) (a a2 : XH) (an ac an2 ac2 : Nat) (A1 A2 : Option Addr) (b o : Nat) (E : Option Addr) (c m ec : Nat) (w : World) (x y : KR) (hk : k = 4) (hx : XC w b o a A1 an ac) (hy : XC w b (o + 6) a2 A2 an2 ac2) (hb : b < w.heap.size) (h0 : x.e = 0) (g0 : y.e = 0) (hi : InR x.n) (hj : InR y.n) (hs : s.toList = [43])
    (hE : ∀ W, Below w.heap.size w W → Calls Tryz.prog 12 #[xv a A1 an ac, .slice E m ec] W (RE W x))
    (hE2 : ∀ W, Below w.heap.size w W → Calls Tryz.prog 12 #[xv a2 A2 an2 ac2, .slice E m ec] W (RE W y)) :
    Calls Tryz.prog 12 #[xv ⟨k, f, ln, cc, s⟩ (some ⟨b, o, none⟩) 2 c, .slice E m ec] w (RE w (chk ⟨k, f, ln, cc, s⟩ (okR (x.n + y.n)))) := by
      have hI0 := RI.new w ⟨k, f, ln, cc, s⟩ (some ⟨b, o, none⟩) 2 c
      have hG := fun (m : Int) W => rgood_t ⟨k, f, ln, cc, s⟩ (some ⟨b, o, none⟩) 2 c m W
      have hT := fun (b : Bool) W => rtruth_t b W
      subst hk
      obtain ⟨x0, x1, x2, x3, x4, x5⟩ := hx
      obtain ⟨y0, y1, y2, y3, y4, y5⟩ := hy
      obtain ⟨R, hR⟩ : ∃ R, (chk ⟨4, f, ln, cc, s⟩ (okR (x.n + y.n))) = R := ⟨_, rfl⟩
      rw [hR]
      unfold RE ov at *
      obtain ⟨b0, b1, b2, b3, b4, b5⟩ := hI0.x.all
      have bl := hI0.x.lt
      replace hE := Lib.hid hE
      replace hE2 := Lib.hid hE2
      replace hI0 := Lib.hid hI0
      replace hG := Lib.hid hG
      replace hT := Lib.hid hT
      replace hR := Lib.hid hR
      unfold InR at hi hj
      replace h0 := Lib.hid h0
      replace g0 := Lib.hid g0
      go_enter Tryz.func12, Tryz.ntmps12
      go_wp2_with fail
      (with_reducible refine (hE.out _ hI0.out.k).mono ?_)
      rintro e0 w1 ⟨rfl, hb1⟩
      rw [h0.out]
      have hI1 := Lib.hid (hI0.out.over hb1)
      obtain ⟨b10, b11, b12, b13, b14, b15⟩ := hI1.out.x.all
      obtain ⟨o10, o11, o12, o13, o14, o1f, o1l⟩ := hI1.out.o.all
      have b1l := hI1.out.x.lt
      have z0 := (hI1.out.k.cell (p := ⟨b, o + 6, none⟩) hb).trans y0
      have z1 := (hI1.out.k.cell (p := ⟨b, o + 6 + 1, none⟩) hb).trans y1
      have z2 := (hI1.out.k.cell (p := ⟨b, o + 6 + 2, none⟩) hb).trans y2
      have z3 := (hI1.out.k.cell (p := ⟨b, o + 6 + 3, none⟩) hb).trans y3
      have z4 := (hI1.out.k.cell (p := ⟨b, o + 6 + 4, none⟩) hb).trans y4
      have z5 := (hI1.out.k.cell (p := ⟨b, o + 6 + 5, none⟩) hb).trans y5
      have zl : b < w1.heap.size := by have := hI1.out.k.size; omega
      replace hb1 := Lib.hid hb1
      go_wp2_with fail
      (with_reducible refine (hE2.out _ (hI1.out.alloc _).k).mono ?_)
      rintro e0 w2 ⟨rfl, hb2⟩
      rw [g0.out]
      have hI2 := Lib.hid ((hI1.out.alloc _).over hb2)
      obtain ⟨b20, b21, b22, b23, b24, b25⟩ := hI2.out.x.all
      obtain ⟨o20, o21, o22, o23, o24, o2f, o2l⟩ := hI2.out.o.all
      have b2l := hI2.out.x.lt
      have hXn := (hb2.block w1.heap.size (by simp)).trans (heap_alloc_new w1 _)
      have xc : w2.cell? ⟨w1.heap.size, 0, none⟩ = some (.int .i64 x.n) := by rw [Lib.cell_of_heap hXn]; rfl
      have xl := lt_of_get hXn
      replace hXn := Lib.hid hXn
      clear hb2
      go_wp2_with fail
      (with_reducible refine (hG.out _ _).mono ?_)
      rintro e0 w3 ⟨rfl, hb3⟩
      have hI3 := Lib.hid ((hI2.out.alloc _).over hb3)
      obtain ⟨b30, b31, b32, b33, b34, b35⟩ := hI3.out.x.all
      obtain ⟨o30, o31, o32, o33, o34, o3f, o3l⟩ := hI3.out.o.all
      have b3l := hI3.out.x.lt
      clear hb3
      rw [hR.out]
      go_wp2_with fail
      have hz := hI3.out.k
      refine bodyPost_ret (v := .agg #[.int .i64 R.n, .int .i64 R.f, .int .i64 R.l, .int .i64 R.c, .int .i64 R.e]) (by simp [results, Tryz.results12, go_sem, o30, o31, o32, o33, o34]) rfl ⟨rfl, ?_⟩
      go_grown
set_option maxRecDepth 100000 in
set_option maxHeartbeats 3200000 in
theorem rev_b_sub (k f ln cc : Int) (s : ByteArray) (a a2 : XH) (an ac an2 ac2 : Nat) (A1 A2 : Option Addr) (b o : Nat) (E : Option Addr) (c m ec : Nat) (w : World) (x y : KR) (hk : k = 4) (hx : XC w b o a A1 an ac) (hy : XC w b (o + 6) a2 A2 an2 ac2) (hb : b < w.heap.size) (h0 : x.e = 0) (g0 : y.e = 0) (hi : InR x.n) (hj : InR y.n) (hs : s.toList = [45])
    (hE : ∀ W, Below w.heap.size w W → Calls Tryz.prog 12 #[xv a A1 an ac, .slice E m ec] W (RE W x))
    (hE2 : ∀ W, Below w.heap.size w W → Calls Tryz.prog 12 #[xv a2 A2 an2 ac2, .slice E m ec] W (RE W y)) :
    Calls Tryz.prog 12 #[xv ⟨k, f, ln, cc, s⟩ (some ⟨b, o, none⟩) 2 c, .slice E m ec] w (RE w (chk ⟨k, f, ln, cc, s⟩ (okR (x.n - y.n)))) := by
      have hI0 := RI.new w ⟨k, f, ln, cc, s⟩ (some ⟨b, o, none⟩) 2 c
      have hG := fun (m : Int) W => rgood_t ⟨k, f, ln, cc, s⟩ (some ⟨b, o, none⟩) 2 c m W
      have hT := fun (b : Bool) W => rtruth_t b W
      subst hk
      obtain ⟨x0, x1, x2, x3, x4, x5⟩ := hx
      obtain ⟨y0, y1, y2, y3, y4, y5⟩ := hy
      obtain ⟨R, hR⟩ : ∃ R, (chk ⟨4, f, ln, cc, s⟩ (okR (x.n - y.n))) = R := ⟨_, rfl⟩
      rw [hR]
      unfold RE ov at *
      obtain ⟨b0, b1, b2, b3, b4, b5⟩ := hI0.x.all
      have bl := hI0.x.lt
      replace hE := Lib.hid hE
      replace hE2 := Lib.hid hE2
      replace hI0 := Lib.hid hI0
      replace hG := Lib.hid hG
      replace hT := Lib.hid hT
      replace hR := Lib.hid hR
      unfold InR at hi hj
      replace h0 := Lib.hid h0
      replace g0 := Lib.hid g0
      go_enter Tryz.func12, Tryz.ntmps12
      go_wp2_with fail
      (with_reducible refine (hE.out _ hI0.out.k).mono ?_)
      rintro e0 w1 ⟨rfl, hb1⟩
      rw [h0.out]
      have hI1 := Lib.hid (hI0.out.over hb1)
      obtain ⟨b10, b11, b12, b13, b14, b15⟩ := hI1.out.x.all
      obtain ⟨o10, o11, o12, o13, o14, o1f, o1l⟩ := hI1.out.o.all
      have b1l := hI1.out.x.lt
      have z0 := (hI1.out.k.cell (p := ⟨b, o + 6, none⟩) hb).trans y0
      have z1 := (hI1.out.k.cell (p := ⟨b, o + 6 + 1, none⟩) hb).trans y1
      have z2 := (hI1.out.k.cell (p := ⟨b, o + 6 + 2, none⟩) hb).trans y2
      have z3 := (hI1.out.k.cell (p := ⟨b, o + 6 + 3, none⟩) hb).trans y3
      have z4 := (hI1.out.k.cell (p := ⟨b, o + 6 + 4, none⟩) hb).trans y4
      have z5 := (hI1.out.k.cell (p := ⟨b, o + 6 + 5, none⟩) hb).trans y5
      have zl : b < w1.heap.size := by have := hI1.out.k.size; omega
      replace hb1 := Lib.hid hb1
      go_wp2_with fail
      (with_reducible refine (hE2.out _ (hI1.out.alloc _).k).mono ?_)
      rintro e0 w2 ⟨rfl, hb2⟩
      rw [g0.out]
      have hI2 := Lib.hid ((hI1.out.alloc _).over hb2)
      obtain ⟨b20, b21, b22, b23, b24, b25⟩ := hI2.out.x.all
      obtain ⟨o20, o21, o22, o23, o24, o2f, o2l⟩ := hI2.out.o.all
      have b2l := hI2.out.x.lt
      have hXn := (hb2.block w1.heap.size (by simp)).trans (heap_alloc_new w1 _)
      have xc : w2.cell? ⟨w1.heap.size, 0, none⟩ = some (.int .i64 x.n) := by rw [Lib.cell_of_heap hXn]; rfl
      have xl := lt_of_get hXn
      replace hXn := Lib.hid hXn
      clear hb2
      go_wp2_with fail
      (with_reducible refine (hG.out _ _).mono ?_)
      rintro e0 w3 ⟨rfl, hb3⟩
      have hI3 := Lib.hid ((hI2.out.alloc _).over hb3)
      obtain ⟨b30, b31, b32, b33, b34, b35⟩ := hI3.out.x.all
      obtain ⟨o30, o31, o32, o33, o34, o3f, o3l⟩ := hI3.out.o.all
      have b3l := hI3.out.x.lt
      clear hb3
      rw [hR.out]
      go_wp2_with fail
      have hz := hI3.out.k
      refine bodyPost_ret (v := .agg #[.int .i64 R.n, .int .i64 R.f, .int .i64 R.l, .int .i64 R.c, .int .i64 R.e]) (by simp [results, Tryz.results12, go_sem, o30, o31, o32, o33, o34]) rfl ⟨rfl, ?_⟩
      go_grown
set_option maxRecDepth 100000 in
set_option maxHeartbeats 3200000 in
theorem rev_b_lt (k f ln cc : Int) (s : ByteArray) (a a2 : XH) (an ac an2 ac2 : Nat) (A1 A2 : Option Addr) (b o : Nat) (E : Option Addr) (c m ec : Nat) (w : World) (x y : KR) (hk : k = 4) (hx : XC w b o a A1 an ac) (hy : XC w b (o + 6) a2 A2 an2 ac2) (hb : b < w.heap.size) (h0 : x.e = 0) (g0 : y.e = 0) (_hi : InR x.n) (_hj : InR y.n) (hs : s.toList = [60])
    (hE : ∀ W, Below w.heap.size w W → Calls Tryz.prog 12 #[xv a A1 an ac, .slice E m ec] W (RE W x))
    (hE2 : ∀ W, Below w.heap.size w W → Calls Tryz.prog 12 #[xv a2 A2 an2 ac2, .slice E m ec] W (RE W y)) :
    Calls Tryz.prog 12 #[xv ⟨k, f, ln, cc, s⟩ (some ⟨b, o, none⟩) 2 c, .slice E m ec] w (RE w (okR (ofB (decide (x.n < y.n))))) := by
      have hI0 := RI.new w ⟨k, f, ln, cc, s⟩ (some ⟨b, o, none⟩) 2 c
      have hG := fun (m : Int) W => rgood_t ⟨k, f, ln, cc, s⟩ (some ⟨b, o, none⟩) 2 c m W
      have hT := fun (b : Bool) W => rtruth_t b W
      subst hk
      obtain ⟨x0, x1, x2, x3, x4, x5⟩ := hx
      obtain ⟨y0, y1, y2, y3, y4, y5⟩ := hy
      obtain ⟨R, hR⟩ : ∃ R, (okR (ofB (decide (x.n < y.n)))) = R := ⟨_, rfl⟩
      rw [hR]
      unfold RE ov at *
      obtain ⟨b0, b1, b2, b3, b4, b5⟩ := hI0.x.all
      have bl := hI0.x.lt
      replace hE := Lib.hid hE
      replace hE2 := Lib.hid hE2
      replace hI0 := Lib.hid hI0
      replace hG := Lib.hid hG
      replace hT := Lib.hid hT
      replace hR := Lib.hid hR
      unfold InR at _hi _hj
      replace h0 := Lib.hid h0
      replace g0 := Lib.hid g0
      go_enter Tryz.func12, Tryz.ntmps12
      go_wp2_with fail
      (with_reducible refine (hE.out _ hI0.out.k).mono ?_)
      rintro e0 w1 ⟨rfl, hb1⟩
      rw [h0.out]
      have hI1 := Lib.hid (hI0.out.over hb1)
      obtain ⟨b10, b11, b12, b13, b14, b15⟩ := hI1.out.x.all
      obtain ⟨o10, o11, o12, o13, o14, o1f, o1l⟩ := hI1.out.o.all
      have b1l := hI1.out.x.lt
      have z0 := (hI1.out.k.cell (p := ⟨b, o + 6, none⟩) hb).trans y0
      have z1 := (hI1.out.k.cell (p := ⟨b, o + 6 + 1, none⟩) hb).trans y1
      have z2 := (hI1.out.k.cell (p := ⟨b, o + 6 + 2, none⟩) hb).trans y2
      have z3 := (hI1.out.k.cell (p := ⟨b, o + 6 + 3, none⟩) hb).trans y3
      have z4 := (hI1.out.k.cell (p := ⟨b, o + 6 + 4, none⟩) hb).trans y4
      have z5 := (hI1.out.k.cell (p := ⟨b, o + 6 + 5, none⟩) hb).trans y5
      have zl : b < w1.heap.size := by have := hI1.out.k.size; omega
      replace hb1 := Lib.hid hb1
      go_wp2_with fail
      (with_reducible refine (hE2.out _ (hI1.out.alloc _).k).mono ?_)
      rintro e0 w2 ⟨rfl, hb2⟩
      rw [g0.out]
      have hI2 := Lib.hid ((hI1.out.alloc _).over hb2)
      obtain ⟨b20, b21, b22, b23, b24, b25⟩ := hI2.out.x.all
      obtain ⟨o20, o21, o22, o23, o24, o2f, o2l⟩ := hI2.out.o.all
      have b2l := hI2.out.x.lt
      have hXn := (hb2.block w1.heap.size (by simp)).trans (heap_alloc_new w1 _)
      have xc : w2.cell? ⟨w1.heap.size, 0, none⟩ = some (.int .i64 x.n) := by rw [Lib.cell_of_heap hXn]; rfl
      have xl := lt_of_get hXn
      replace hXn := Lib.hid hXn
      clear hb2
      go_wp2_with fail
      (with_reducible refine (hT.out _ _).mono ?_)
      rintro e0 w3 ⟨rfl, hw⟩
      subst hw
      have hr := hR.out
      subst hr
      go_wp2_with fail
      have hz := hI2.out.k
      have five := hI2.out.o.five (.int .i64 (ofB (decide (x.n < y.n)))) (.int .i64 0) (.int .i64 0) (.int .i64 0) (.int .i64 0)
      refine bodyPost_ret (v := .agg #[.int .i64 (ofB (decide (x.n < y.n))), .int .i64 0, .int .i64 0, .int .i64 0, .int .i64 0]) (by simp [results, Tryz.results12, go_sem, five]) rfl ⟨by first | rfl | (rw [show (x.n != y.n) = decide (x.n ≠ y.n) by rw [Bool.eq_iff_iff]; simp]; rfl), ?_⟩
      go_grown
set_option maxRecDepth 100000 in
set_option maxHeartbeats 3200000 in
theorem rev_b_le (k f ln cc : Int) (s : ByteArray) (a a2 : XH) (an ac an2 ac2 : Nat) (A1 A2 : Option Addr) (b o : Nat) (E : Option Addr) (c m ec : Nat) (w : World) (x y : KR) (hk : k = 4) (hx : XC w b o a A1 an ac) (hy : XC w b (o + 6) a2 A2 an2 ac2) (hb : b < w.heap.size) (h0 : x.e = 0) (g0 : y.e = 0) (_hi : InR x.n) (_hj : InR y.n) (hs : s.toList = [60, 61])
    (hE : ∀ W, Below w.heap.size w W → Calls Tryz.prog 12 #[xv a A1 an ac, .slice E m ec] W (RE W x))
    (hE2 : ∀ W, Below w.heap.size w W → Calls Tryz.prog 12 #[xv a2 A2 an2 ac2, .slice E m ec] W (RE W y)) :
    Calls Tryz.prog 12 #[xv ⟨k, f, ln, cc, s⟩ (some ⟨b, o, none⟩) 2 c, .slice E m ec] w (RE w (okR (ofB (decide (x.n ≤ y.n))))) := by
      have hI0 := RI.new w ⟨k, f, ln, cc, s⟩ (some ⟨b, o, none⟩) 2 c
      have hG := fun (m : Int) W => rgood_t ⟨k, f, ln, cc, s⟩ (some ⟨b, o, none⟩) 2 c m W
      have hT := fun (b : Bool) W => rtruth_t b W
      subst hk
      obtain ⟨x0, x1, x2, x3, x4, x5⟩ := hx
      obtain ⟨y0, y1, y2, y3, y4, y5⟩ := hy
      obtain ⟨R, hR⟩ : ∃ R, (okR (ofB (decide (x.n ≤ y.n)))) = R := ⟨_, rfl⟩
      rw [hR]
      unfold RE ov at *
      obtain ⟨b0, b1, b2, b3, b4, b5⟩ := hI0.x.all
      have bl := hI0.x.lt
      replace hE := Lib.hid hE
      replace hE2 := Lib.hid hE2
      replace hI0 := Lib.hid hI0
      replace hG := Lib.hid hG
      replace hT := Lib.hid hT
      replace hR := Lib.hid hR
      unfold InR at _hi _hj
      replace h0 := Lib.hid h0
      replace g0 := Lib.hid g0
      go_enter Tryz.func12, Tryz.ntmps12
      go_wp2_with fail
      (with_reducible refine (hE.out _ hI0.out.k).mono ?_)
      rintro e0 w1 ⟨rfl, hb1⟩
      rw [h0.out]
      have hI1 := Lib.hid (hI0.out.over hb1)
      obtain ⟨b10, b11, b12, b13, b14, b15⟩ := hI1.out.x.all
      obtain ⟨o10, o11, o12, o13, o14, o1f, o1l⟩ := hI1.out.o.all
      have b1l := hI1.out.x.lt
      have z0 := (hI1.out.k.cell (p := ⟨b, o + 6, none⟩) hb).trans y0
      have z1 := (hI1.out.k.cell (p := ⟨b, o + 6 + 1, none⟩) hb).trans y1
      have z2 := (hI1.out.k.cell (p := ⟨b, o + 6 + 2, none⟩) hb).trans y2
      have z3 := (hI1.out.k.cell (p := ⟨b, o + 6 + 3, none⟩) hb).trans y3
      have z4 := (hI1.out.k.cell (p := ⟨b, o + 6 + 4, none⟩) hb).trans y4
      have z5 := (hI1.out.k.cell (p := ⟨b, o + 6 + 5, none⟩) hb).trans y5
      have zl : b < w1.heap.size := by have := hI1.out.k.size; omega
      replace hb1 := Lib.hid hb1
      go_wp2_with fail
      (with_reducible refine (hE2.out _ (hI1.out.alloc _).k).mono ?_)
      rintro e0 w2 ⟨rfl, hb2⟩
      rw [g0.out]
      have hI2 := Lib.hid ((hI1.out.alloc _).over hb2)
      obtain ⟨b20, b21, b22, b23, b24, b25⟩ := hI2.out.x.all
      obtain ⟨o20, o21, o22, o23, o24, o2f, o2l⟩ := hI2.out.o.all
      have b2l := hI2.out.x.lt
      have hXn := (hb2.block w1.heap.size (by simp)).trans (heap_alloc_new w1 _)
      have xc : w2.cell? ⟨w1.heap.size, 0, none⟩ = some (.int .i64 x.n) := by rw [Lib.cell_of_heap hXn]; rfl
      have xl := lt_of_get hXn
      replace hXn := Lib.hid hXn
      clear hb2
      go_wp2_with fail
      (with_reducible refine (hT.out _ _).mono ?_)
      rintro e0 w3 ⟨rfl, hw⟩
      subst hw
      have hr := hR.out
      subst hr
      go_wp2_with fail
      have hz := hI2.out.k
      have five := hI2.out.o.five (.int .i64 (ofB (decide (x.n ≤ y.n)))) (.int .i64 0) (.int .i64 0) (.int .i64 0) (.int .i64 0)
      refine bodyPost_ret (v := .agg #[.int .i64 (ofB (decide (x.n ≤ y.n))), .int .i64 0, .int .i64 0, .int .i64 0, .int .i64 0]) (by simp [results, Tryz.results12, go_sem, five]) rfl ⟨by first | rfl | (rw [show (x.n != y.n) = decide (x.n ≠ y.n) by rw [Bool.eq_iff_iff]; simp]; rfl), ?_⟩
      go_grown
set_option maxRecDepth 100000 in
set_option maxHeartbeats 3200000 in
theorem rev_b_gt (k f ln cc : Int) (s : ByteArray) (a a2 : XH) (an ac an2 ac2 : Nat) (A1 A2 : Option Addr) (b o : Nat) (E : Option Addr) (c m ec : Nat) (w : World) (x y : KR) (hk : k = 4) (hx : XC w b o a A1 an ac) (hy : XC w b (o + 6) a2 A2 an2 ac2) (hb : b < w.heap.size) (h0 : x.e = 0) (g0 : y.e = 0) (_hi : InR x.n) (_hj : InR y.n) (hs : s.toList = [62])
    (hE : ∀ W, Below w.heap.size w W → Calls Tryz.prog 12 #[xv a A1 an ac, .slice E m ec] W (RE W x))
    (hE2 : ∀ W, Below w.heap.size w W → Calls Tryz.prog 12 #[xv a2 A2 an2 ac2, .slice E m ec] W (RE W y)) :
    Calls Tryz.prog 12 #[xv ⟨k, f, ln, cc, s⟩ (some ⟨b, o, none⟩) 2 c, .slice E m ec] w (RE w (okR (ofB (decide (y.n < x.n))))) := by
      have hI0 := RI.new w ⟨k, f, ln, cc, s⟩ (some ⟨b, o, none⟩) 2 c
      have hG := fun (m : Int) W => rgood_t ⟨k, f, ln, cc, s⟩ (some ⟨b, o, none⟩) 2 c m W
      have hT := fun (b : Bool) W => rtruth_t b W
      subst hk
      obtain ⟨x0, x1, x2, x3, x4, x5⟩ := hx
      obtain ⟨y0, y1, y2, y3, y4, y5⟩ := hy
      obtain ⟨R, hR⟩ : ∃ R, (okR (ofB (decide (y.n < x.n)))) = R := ⟨_, rfl⟩
      rw [hR]
      unfold RE ov at *
      obtain ⟨b0, b1, b2, b3, b4, b5⟩ := hI0.x.all
      have bl := hI0.x.lt
      replace hE := Lib.hid hE
      replace hE2 := Lib.hid hE2
      replace hI0 := Lib.hid hI0
      replace hG := Lib.hid hG
      replace hT := Lib.hid hT
      replace hR := Lib.hid hR
      unfold InR at _hi _hj
      replace h0 := Lib.hid h0
      replace g0 := Lib.hid g0
      go_enter Tryz.func12, Tryz.ntmps12
      go_wp2_with fail
      (with_reducible refine (hE.out _ hI0.out.k).mono ?_)
      rintro e0 w1 ⟨rfl, hb1⟩
      rw [h0.out]
      have hI1 := Lib.hid (hI0.out.over hb1)
      obtain ⟨b10, b11, b12, b13, b14, b15⟩ := hI1.out.x.all
      obtain ⟨o10, o11, o12, o13, o14, o1f, o1l⟩ := hI1.out.o.all
      have b1l := hI1.out.x.lt
      have z0 := (hI1.out.k.cell (p := ⟨b, o + 6, none⟩) hb).trans y0
      have z1 := (hI1.out.k.cell (p := ⟨b, o + 6 + 1, none⟩) hb).trans y1
      have z2 := (hI1.out.k.cell (p := ⟨b, o + 6 + 2, none⟩) hb).trans y2
      have z3 := (hI1.out.k.cell (p := ⟨b, o + 6 + 3, none⟩) hb).trans y3
      have z4 := (hI1.out.k.cell (p := ⟨b, o + 6 + 4, none⟩) hb).trans y4
      have z5 := (hI1.out.k.cell (p := ⟨b, o + 6 + 5, none⟩) hb).trans y5
      have zl : b < w1.heap.size := by have := hI1.out.k.size; omega
      replace hb1 := Lib.hid hb1
      go_wp2_with fail
      (with_reducible refine (hE2.out _ (hI1.out.alloc _).k).mono ?_)
      rintro e0 w2 ⟨rfl, hb2⟩
      rw [g0.out]
      have hI2 := Lib.hid ((hI1.out.alloc _).over hb2)
      obtain ⟨b20, b21, b22, b23, b24, b25⟩ := hI2.out.x.all
      obtain ⟨o20, o21, o22, o23, o24, o2f, o2l⟩ := hI2.out.o.all
      have b2l := hI2.out.x.lt
      have hXn := (hb2.block w1.heap.size (by simp)).trans (heap_alloc_new w1 _)
      have xc : w2.cell? ⟨w1.heap.size, 0, none⟩ = some (.int .i64 x.n) := by rw [Lib.cell_of_heap hXn]; rfl
      have xl := lt_of_get hXn
      replace hXn := Lib.hid hXn
      clear hb2
      go_wp2_with fail
      (with_reducible refine (hT.out _ _).mono ?_)
      rintro e0 w3 ⟨rfl, hw⟩
      subst hw
      have hr := hR.out
      subst hr
      go_wp2_with fail
      have hz := hI2.out.k
      have five := hI2.out.o.five (.int .i64 (ofB (decide (y.n < x.n)))) (.int .i64 0) (.int .i64 0) (.int .i64 0) (.int .i64 0)
      refine bodyPost_ret (v := .agg #[.int .i64 (ofB (decide (y.n < x.n))), .int .i64 0, .int .i64 0, .int .i64 0, .int .i64 0]) (by simp [results, Tryz.results12, go_sem, five]) rfl ⟨by first | rfl | (rw [show (x.n != y.n) = decide (x.n ≠ y.n) by rw [Bool.eq_iff_iff]; simp]; rfl), ?_⟩
      go_grown
set_option maxRecDepth 100000 in
set_option maxHeartbeats 3200000 in
theorem rev_b_ge (k f ln cc : Int) (s : ByteArray) (a a2 : XH) (an ac an2 ac2 : Nat) (A1 A2 : Option Addr) (b o : Nat) (E : Option Addr) (c m ec : Nat) (w : World) (x y : KR) (hk : k = 4) (hx : XC w b o a A1 an ac) (hy : XC w b (o + 6) a2 A2 an2 ac2) (hb : b < w.heap.size) (h0 : x.e = 0) (g0 : y.e = 0) (_hi : InR x.n) (_hj : InR y.n) (hs : s.toList = [62, 61])
    (hE : ∀ W, Below w.heap.size w W → Calls Tryz.prog 12 #[xv a A1 an ac, .slice E m ec] W (RE W x))
    (hE2 : ∀ W, Below w.heap.size w W → Calls Tryz.prog 12 #[xv a2 A2 an2 ac2, .slice E m ec] W (RE W y)) :
    Calls Tryz.prog 12 #[xv ⟨k, f, ln, cc, s⟩ (some ⟨b, o, none⟩) 2 c, .slice E m ec] w (RE w (okR (ofB (decide (y.n ≤ x.n))))) := by
      have hI0 := RI.new w ⟨k, f, ln, cc, s⟩ (some ⟨b, o, none⟩) 2 c
      have hG := fun (m : Int) W => rgood_t ⟨k, f, ln, cc, s⟩ (some ⟨b, o, none⟩) 2 c m W
      have hT := fun (b : Bool) W => rtruth_t b W
      subst hk
      obtain ⟨x0, x1, x2, x3, x4, x5⟩ := hx
      obtain ⟨y0, y1, y2, y3, y4, y5⟩ := hy
      obtain ⟨R, hR⟩ : ∃ R, (okR (ofB (decide (y.n ≤ x.n)))) = R := ⟨_, rfl⟩
      rw [hR]
      unfold RE ov at *
      obtain ⟨b0, b1, b2, b3, b4, b5⟩ := hI0.x.all
      have bl := hI0.x.lt
      replace hE := Lib.hid hE
      replace hE2 := Lib.hid hE2
      replace hI0 := Lib.hid hI0
      replace hG := Lib.hid hG
      replace hT := Lib.hid hT
      replace hR := Lib.hid hR
      unfold InR at _hi _hj
      replace h0 := Lib.hid h0
      replace g0 := Lib.hid g0
      go_enter Tryz.func12, Tryz.ntmps12
      go_wp2_with fail
      (with_reducible refine (hE.out _ hI0.out.k).mono ?_)
      rintro e0 w1 ⟨rfl, hb1⟩
      rw [h0.out]
      have hI1 := Lib.hid (hI0.out.over hb1)
      obtain ⟨b10, b11, b12, b13, b14, b15⟩ := hI1.out.x.all
      obtain ⟨o10, o11, o12, o13, o14, o1f, o1l⟩ := hI1.out.o.all
      have b1l := hI1.out.x.lt
      have z0 := (hI1.out.k.cell (p := ⟨b, o + 6, none⟩) hb).trans y0
      have z1 := (hI1.out.k.cell (p := ⟨b, o + 6 + 1, none⟩) hb).trans y1
      have z2 := (hI1.out.k.cell (p := ⟨b, o + 6 + 2, none⟩) hb).trans y2
      have z3 := (hI1.out.k.cell (p := ⟨b, o + 6 + 3, none⟩) hb).trans y3
      have z4 := (hI1.out.k.cell (p := ⟨b, o + 6 + 4, none⟩) hb).trans y4
      have z5 := (hI1.out.k.cell (p := ⟨b, o + 6 + 5, none⟩) hb).trans y5
      have zl : b < w1.heap.size := by have := hI1.out.k.size; omega
      replace hb1 := Lib.hid hb1
      go_wp2_with fail
      (with_reducible refine (hE2.out _ (hI1.out.alloc _).k).mono ?_)
      rintro e0 w2 ⟨rfl, hb2⟩
      rw [g0.out]
      have hI2 := Lib.hid ((hI1.out.alloc _).over hb2)
      obtain ⟨b20, b21, b22, b23, b24, b25⟩ := hI2.out.x.all
      obtain ⟨o20, o21, o22, o23, o24, o2f, o2l⟩ := hI2.out.o.all
      have b2l := hI2.out.x.lt
      have hXn := (hb2.block w1.heap.size (by simp)).trans (heap_alloc_new w1 _)
      have xc : w2.cell? ⟨w1.heap.size, 0, none⟩ = some (.int .i64 x.n) := by rw [Lib.cell_of_heap hXn]; rfl
      have xl := lt_of_get hXn
      replace hXn := Lib.hid hXn
      clear hb2
      go_wp2_with fail
      (with_reducible refine (hT.out _ _).mono ?_)
      rintro e0 w3 ⟨rfl, hw⟩
      subst hw
      have hr := hR.out
      subst hr
      go_wp2_with fail
      have hz := hI2.out.k
      have five := hI2.out.o.five (.int .i64 (ofB (decide (y.n ≤ x.n)))) (.int .i64 0) (.int .i64 0) (.int .i64 0) (.int .i64 0)
      refine bodyPost_ret (v := .agg #[.int .i64 (ofB (decide (y.n ≤ x.n))), .int .i64 0, .int .i64 0, .int .i64 0, .int .i64 0]) (by simp [results, Tryz.results12, go_sem, five]) rfl ⟨by first | rfl | (rw [show (x.n != y.n) = decide (x.n ≠ y.n) by rw [Bool.eq_iff_iff]; simp]; rfl), ?_⟩
      go_grown
set_option maxRecDepth 100000 in
set_option maxHeartbeats 3200000 in
theorem rev_b_eq (k f ln cc : Int) (s : ByteArray) (a a2 : XH) (an ac an2 ac2 : Nat) (A1 A2 : Option Addr) (b o : Nat) (E : Option Addr) (c m ec : Nat) (w : World) (x y : KR) (hk : k = 4) (hx : XC w b o a A1 an ac) (hy : XC w b (o + 6) a2 A2 an2 ac2) (hb : b < w.heap.size) (h0 : x.e = 0) (g0 : y.e = 0) (_hi : InR x.n) (_hj : InR y.n) (hs : s.toList = [61, 61])
    (hE : ∀ W, Below w.heap.size w W → Calls Tryz.prog 12 #[xv a A1 an ac, .slice E m ec] W (RE W x))
    (hE2 : ∀ W, Below w.heap.size w W → Calls Tryz.prog 12 #[xv a2 A2 an2 ac2, .slice E m ec] W (RE W y)) :
    Calls Tryz.prog 12 #[xv ⟨k, f, ln, cc, s⟩ (some ⟨b, o, none⟩) 2 c, .slice E m ec] w (RE w (okR (ofB (decide (x.n = y.n))))) := by
      have hI0 := RI.new w ⟨k, f, ln, cc, s⟩ (some ⟨b, o, none⟩) 2 c
      have hG := fun (m : Int) W => rgood_t ⟨k, f, ln, cc, s⟩ (some ⟨b, o, none⟩) 2 c m W
      have hT := fun (b : Bool) W => rtruth_t b W
      subst hk
      obtain ⟨x0, x1, x2, x3, x4, x5⟩ := hx
      obtain ⟨y0, y1, y2, y3, y4, y5⟩ := hy
      obtain ⟨R, hR⟩ : ∃ R, (okR (ofB (decide (x.n = y.n)))) = R := ⟨_, rfl⟩
      rw [hR]
      unfold RE ov at *
      obtain ⟨b0, b1, b2, b3, b4, b5⟩ := hI0.x.all
      have bl := hI0.x.lt
      replace hE := Lib.hid hE
      replace hE2 := Lib.hid hE2
      replace hI0 := Lib.hid hI0
      replace hG := Lib.hid hG
      replace hT := Lib.hid hT
      replace hR := Lib.hid hR
      unfold InR at _hi _hj
      replace h0 := Lib.hid h0
      replace g0 := Lib.hid g0
      go_enter Tryz.func12, Tryz.ntmps12
      go_wp2_with fail
      (with_reducible refine (hE.out _ hI0.out.k).mono ?_)
      rintro e0 w1 ⟨rfl, hb1⟩
      rw [h0.out]
      have hI1 := Lib.hid (hI0.out.over hb1)
      obtain ⟨b10, b11, b12, b13, b14, b15⟩ := hI1.out.x.all
      obtain ⟨o10, o11, o12, o13, o14, o1f, o1l⟩ := hI1.out.o.all
      have b1l := hI1.out.x.lt
      have z0 := (hI1.out.k.cell (p := ⟨b, o + 6, none⟩) hb).trans y0
      have z1 := (hI1.out.k.cell (p := ⟨b, o + 6 + 1, none⟩) hb).trans y1
      have z2 := (hI1.out.k.cell (p := ⟨b, o + 6 + 2, none⟩) hb).trans y2
      have z3 := (hI1.out.k.cell (p := ⟨b, o + 6 + 3, none⟩) hb).trans y3
      have z4 := (hI1.out.k.cell (p := ⟨b, o + 6 + 4, none⟩) hb).trans y4
      have z5 := (hI1.out.k.cell (p := ⟨b, o + 6 + 5, none⟩) hb).trans y5
      have zl : b < w1.heap.size := by have := hI1.out.k.size; omega
      replace hb1 := Lib.hid hb1
      go_wp2_with fail
      (with_reducible refine (hE2.out _ (hI1.out.alloc _).k).mono ?_)
      rintro e0 w2 ⟨rfl, hb2⟩
      rw [g0.out]
      have hI2 := Lib.hid ((hI1.out.alloc _).over hb2)
      obtain ⟨b20, b21, b22, b23, b24, b25⟩ := hI2.out.x.all
      obtain ⟨o20, o21, o22, o23, o24, o2f, o2l⟩ := hI2.out.o.all
      have b2l := hI2.out.x.lt
      have hXn := (hb2.block w1.heap.size (by simp)).trans (heap_alloc_new w1 _)
      have xc : w2.cell? ⟨w1.heap.size, 0, none⟩ = some (.int .i64 x.n) := by rw [Lib.cell_of_heap hXn]; rfl
      have xl := lt_of_get hXn
      replace hXn := Lib.hid hXn
      clear hb2
      go_wp2_with fail
      (with_reducible refine (hT.out _ _).mono ?_)
      rintro e0 w3 ⟨rfl, hw⟩
      subst hw
      have hr := hR.out
      subst hr
      go_wp2_with fail
      have hz := hI2.out.k
      have five := hI2.out.o.five (.int .i64 (ofB (x.n == y.n))) (.int .i64 0) (.int .i64 0) (.int .i64 0) (.int .i64 0)
      refine bodyPost_ret (v := .agg #[.int .i64 (ofB (x.n == y.n)), .int .i64 0, .int .i64 0, .int .i64 0, .int .i64 0]) (by simp [results, Tryz.results12, go_sem, five]) rfl ⟨by first | rfl | (rw [show (x.n != y.n) = decide (x.n ≠ y.n) by rw [Bool.eq_iff_iff]; simp]; rfl), ?_⟩
      go_grown
set_option maxRecDepth 100000 in
set_option maxHeartbeats 3200000 in
theorem rev_b_ne (k f ln cc : Int) (s : ByteArray) (a a2 : XH) (an ac an2 ac2 : Nat) (A1 A2 : Option Addr) (b o : Nat) (E : Option Addr) (c m ec : Nat) (w : World) (x y : KR) (hk : k = 4) (hx : XC w b o a A1 an ac) (hy : XC w b (o + 6) a2 A2 an2 ac2) (hb : b < w.heap.size) (h0 : x.e = 0) (g0 : y.e = 0) (_hi : InR x.n) (_hj : InR y.n) (hs : s.toList = [33, 61])
    (hE : ∀ W, Below w.heap.size w W → Calls Tryz.prog 12 #[xv a A1 an ac, .slice E m ec] W (RE W x))
    (hE2 : ∀ W, Below w.heap.size w W → Calls Tryz.prog 12 #[xv a2 A2 an2 ac2, .slice E m ec] W (RE W y)) :
    Calls Tryz.prog 12 #[xv ⟨k, f, ln, cc, s⟩ (some ⟨b, o, none⟩) 2 c, .slice E m ec] w (RE w (okR (ofB (decide (x.n ≠ y.n))))) := by
      have hI0 := RI.new w ⟨k, f, ln, cc, s⟩ (some ⟨b, o, none⟩) 2 c
      have hG := fun (m : Int) W => rgood_t ⟨k, f, ln, cc, s⟩ (some ⟨b, o, none⟩) 2 c m W
      have hT := fun (b : Bool) W => rtruth_t b W
      subst hk
      obtain ⟨x0, x1, x2, x3, x4, x5⟩ := hx
      obtain ⟨y0, y1, y2, y3, y4, y5⟩ := hy
      obtain ⟨R, hR⟩ : ∃ R, (okR (ofB (decide (x.n ≠ y.n)))) = R := ⟨_, rfl⟩
      rw [hR]
      unfold RE ov at *
      obtain ⟨b0, b1, b2, b3, b4, b5⟩ := hI0.x.all
      have bl := hI0.x.lt
      replace hE := Lib.hid hE
      replace hE2 := Lib.hid hE2
      replace hI0 := Lib.hid hI0
      replace hG := Lib.hid hG
      replace hT := Lib.hid hT
      replace hR := Lib.hid hR
      unfold InR at _hi _hj
      replace h0 := Lib.hid h0
      replace g0 := Lib.hid g0
      go_enter Tryz.func12, Tryz.ntmps12
      go_wp2_with fail
      (with_reducible refine (hE.out _ hI0.out.k).mono ?_)
      rintro e0 w1 ⟨rfl, hb1⟩
      rw [h0.out]
      have hI1 := Lib.hid (hI0.out.over hb1)
      obtain ⟨b10, b11, b12, b13, b14, b15⟩ := hI1.out.x.all
      obtain ⟨o10, o11, o12, o13, o14, o1f, o1l⟩ := hI1.out.o.all
      have b1l := hI1.out.x.lt
      have z0 := (hI1.out.k.cell (p := ⟨b, o + 6, none⟩) hb).trans y0
      have z1 := (hI1.out.k.cell (p := ⟨b, o + 6 + 1, none⟩) hb).trans y1
      have z2 := (hI1.out.k.cell (p := ⟨b, o + 6 + 2, none⟩) hb).trans y2
      have z3 := (hI1.out.k.cell (p := ⟨b, o + 6 + 3, none⟩) hb).trans y3
      have z4 := (hI1.out.k.cell (p := ⟨b, o + 6 + 4, none⟩) hb).trans y4
      have z5 := (hI1.out.k.cell (p := ⟨b, o + 6 + 5, none⟩) hb).trans y5
      have zl : b < w1.heap.size := by have := hI1.out.k.size; omega
      replace hb1 := Lib.hid hb1
      go_wp2_with fail
      (with_reducible refine (hE2.out _ (hI1.out.alloc _).k).mono ?_)
      rintro e0 w2 ⟨rfl, hb2⟩
      rw [g0.out]
      have hI2 := Lib.hid ((hI1.out.alloc _).over hb2)
      obtain ⟨b20, b21, b22, b23, b24, b25⟩ := hI2.out.x.all
      obtain ⟨o20, o21, o22, o23, o24, o2f, o2l⟩ := hI2.out.o.all
      have b2l := hI2.out.x.lt
      have hXn := (hb2.block w1.heap.size (by simp)).trans (heap_alloc_new w1 _)
      have xc : w2.cell? ⟨w1.heap.size, 0, none⟩ = some (.int .i64 x.n) := by rw [Lib.cell_of_heap hXn]; rfl
      have xl := lt_of_get hXn
      replace hXn := Lib.hid hXn
      clear hb2
      go_wp2_with fail
      (with_reducible refine (hT.out _ _).mono ?_)
      rintro e0 w3 ⟨rfl, hw⟩
      subst hw
      have hr := hR.out
      subst hr
      go_wp2_with fail
      have hz := hI2.out.k
      have five := hI2.out.o.five (.int .i64 (ofB (x.n != y.n))) (.int .i64 0) (.int .i64 0) (.int .i64 0) (.int .i64 0)
      refine bodyPost_ret (v := .agg #[.int .i64 (ofB (x.n != y.n)), .int .i64 0, .int .i64 0, .int .i64 0, .int .i64 0]) (by simp [results, Tryz.results12, go_sem, five]) rfl ⟨by first | rfl | (rw [show (x.n != y.n) = decide (x.n ≠ y.n) by rw [Bool.eq_iff_iff]; simp]; rfl), ?_⟩
      go_grown
end Go.Proofs.YtcifljbcoioogaaGreatDoor
