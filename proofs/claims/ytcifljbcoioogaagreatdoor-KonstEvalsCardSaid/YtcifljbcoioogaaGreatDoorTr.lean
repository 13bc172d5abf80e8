/-
  The reference's Eval: products, bits, shifts, and what is wrong of a second operand; the short ways.
-/
import Derived.Test.YtcifljbcoioogaaGreatDoorTs
import Derived.Test.YtcifljbcoioogaaGreatDoorRt
namespace Go.Proofs.YtcifljbcoioogaaGreatDoor
open Go.RowKit Go.Lib Go.Maps
theorem OZ.five0 {w : World} {g : Nat} (h : OZ w g) (u0 u1 u2 u3 u4 : Value) : (((((w.setCell ⟨g, 0, none⟩ u0).setCell ⟨g, 1, none⟩ u1).setCell ⟨g, 2, none⟩ u2).setCell ⟨g, 3, none⟩ u3).setCell ⟨g, 4, none⟩ u4).cell? ⟨g, 0, none⟩ = some u0 ∧ (((((w.setCell ⟨g, 0, none⟩ u0).setCell ⟨g, 1, none⟩ u1).setCell ⟨g, 2, none⟩ u2).setCell ⟨g, 3, none⟩ u3).setCell ⟨g, 4, none⟩ u4).cell? ⟨g, 1, none⟩ = some u1 ∧ (((((w.setCell ⟨g, 0, none⟩ u0).setCell ⟨g, 1, none⟩ u1).setCell ⟨g, 2, none⟩ u2).setCell ⟨g, 3, none⟩ u3).setCell ⟨g, 4, none⟩ u4).cell? ⟨g, 2, none⟩ = some u2 ∧ (((((w.setCell ⟨g, 0, none⟩ u0).setCell ⟨g, 1, none⟩ u1).setCell ⟨g, 2, none⟩ u2).setCell ⟨g, 3, none⟩ u3).setCell ⟨g, 4, none⟩ u4).cell? ⟨g, 3, none⟩ = some u3 ∧ (((((w.setCell ⟨g, 0, none⟩ u0).setCell ⟨g, 1, none⟩ u1).setCell ⟨g, 2, none⟩ u2).setCell ⟨g, 3, none⟩ u3).setCell ⟨g, 4, none⟩ u4).cell? ⟨g, 4, none⟩ = some u4 := by
  have h5 := heap_set _ g 4 _ _ u4 (heap_set _ g 3 _ _ u3 (heap_set _ g 2 _ _ u2 (heap_set _ g 1 _ _ u1 (heap_set _ g 0 _ _ u0 h))))
  refine ⟨?_, ?_, ?_, ?_, ?_⟩ <;> rw [Lib.cell_of_heap h5] <;> simp
theorem mul_inT {a b A B : Int} (ha : -A ≤ a ∧ a ≤ A) (hb : -B ≤ b ∧ b ≤ B) : -(A * B) ≤ a * b ∧ a * b ≤ A * B := by
  have h := Nat.mul_le_mul (show a.natAbs ≤ A.natAbs by omega) (show b.natAbs ≤ B.natAbs by omega)
  rw [← Int.natAbs_mul, ← Int.natAbs_mul] at h
  have hAB : 0 ≤ A * B := Int.mul_nonneg (by omega) (by omega)
  omega
theorem pow_inT (n : Nat) (h : n ≤ 31) : (1 : Int) ≤ 2 ^ n ∧ (2 : Int) ^ n ≤ 2147483648 := by
  have h1 : 2 ^ n ≤ 2 ^ 31 := Nat.pow_le_pow_right (by decide) h
  have h2 : 1 ≤ 2 ^ n := Nat.one_le_two_pow
  have e : ((2 ^ n : Nat) : Int) = (2 : Int) ^ n := by simp
  omega
set_option maxRecDepth 100000 in
set_option maxHeartbeats 3200000 in
theorem rev_b_mul (k f ln cc : Int) (s : ByteArray) (a a2 : XH) (an ac an2 ac2 : Nat) (A1 A2 : Option Addr) (b o : Nat) (E : Option Addr) (c m ec : Nat) (w : World) (x y : KR) (hk : k = 4) (hx : XC w b o a A1 an ac) (hy : XC w b (o + 6) a2 A2 an2 ac2) (hb : b < w.heap.size) (h0 : x.e = 0) (g0 : y.e = 0) (hi : InR x.n) (hj : InR y.n) (hs : s.toList = [42]) 
    (hE : ∀ W, Below w.heap.size w W → Calls Tryz.prog 12 #[xv a A1 an ac, .slice E m ec] W (RE W x))
    (hE2 : ∀ W, Below w.heap.size w W → Calls Tryz.prog 12 #[xv a2 A2 an2 ac2, .slice E m ec] W (RE W y)) :
    Calls Tryz.prog 12 #[xv ⟨k, f, ln, cc, s⟩ (some ⟨b, o, none⟩) 2 c, .slice E m ec] w (RE w (chk ⟨k, f, ln, cc, s⟩ (okR (x.n * y.n)))) := by
      have hI0 := RI.new w ⟨k, f, ln, cc, s⟩ (some ⟨b, o, none⟩) 2 c
      have hG := fun (m : Int) W => rgood_t ⟨k, f, ln, cc, s⟩ (some ⟨b, o, none⟩) 2 c m W
      have hT := fun (b : Bool) W => rtruth_t b W
      subst hk
      obtain ⟨x0, x1, x2, x3, x4, x5⟩ := hx
      obtain ⟨y0, y1, y2, y3, y4, y5⟩ := hy
      obtain ⟨R, hR⟩ : ∃ R, (chk ⟨4, f, ln, cc, s⟩ (okR (x.n * y.n))) = R := ⟨_, rfl⟩
      rw [hR]
      unfold RE ov at *
      obtain ⟨b0, b1, b2, b3, b4, b5⟩ := hI0.x.all
      have bl := hI0.x.lt
      replace hE := Lib.hid hE
      replace hE2 := Lib.hid hE2
      replace hI0 := Lib.hid hI0
      replace hG := Lib.hid hG
      replace hT := Lib.hid hT
      replace hR := Lib.hid hR
      unfold InR at hi hj
      replace h0 := Lib.hid h0
      replace g0 := Lib.hid g0
      have hmi := mul_inT (A := 2147483648) (B := 2147483648) (a := x.n) (b := y.n) ⟨by omega, by omega⟩ ⟨by omega, by omega⟩
      have hmw : IntKind.i64.wrap (x.n * y.n) = x.n * y.n := IntWalk.i64_in _ (by omega)
      replace hmi := Lib.hid hmi
      go_enter Tryz.func12, Tryz.ntmps12
      go_wp2_with fail
      (with_reducible refine (hE.out _ hI0.out.k).mono ?_)
      rintro e0 w1 ⟨rfl, hb1⟩
      rw [h0.out]
      have hI1 := Lib.hid (hI0.out.over hb1)
      obtain ⟨b10, b11, b12, b13, b14, b15⟩ := hI1.out.x.all
      obtain ⟨o10, o11, o12, o13, o14, o1f, o1l⟩ := hI1.out.o.all
      have b1l := hI1.out.x.lt
      have z0 := (hI1.out.k.cell (p := ⟨b, o + 6, none⟩) hb).trans y0
      have z1 := (hI1.out.k.cell (p := ⟨b, o + 6 + 1, none⟩) hb).trans y1
      have z2 := (hI1.out.k.cell (p := ⟨b, o + 6 + 2, none⟩) hb).trans y2
      have z3 := (hI1.out.k.cell (p := ⟨b, o + 6 + 3, none⟩) hb).trans y3
      have z4 := (hI1.out.k.cell (p := ⟨b, o + 6 + 4, none⟩) hb).trans y4
      have z5 := (hI1.out.k.cell (p := ⟨b, o + 6 + 5, none⟩) hb).trans y5
      have zl : b < w1.heap.size := by have := hI1.out.k.size; omega
      replace hb1 := Lib.hid hb1
      go_wp2_with fail
      (with_reducible refine (hE2.out _ (hI1.out.alloc _).k).mono ?_)
      rintro e0 w2 ⟨rfl, hb2⟩
      rw [g0.out]
      have hI2 := Lib.hid ((hI1.out.alloc _).over hb2)
      obtain ⟨b20, b21, b22, b23, b24, b25⟩ := hI2.out.x.all
      obtain ⟨o20, o21, o22, o23, o24, o2f, o2l⟩ := hI2.out.o.all
      have b2l := hI2.out.x.lt
      have hXn := (hb2.block w1.heap.size (by simp)).trans (heap_alloc_new w1 _)
      have xc : w2.cell? ⟨w1.heap.size, 0, none⟩ = some (.int .i64 x.n) := by rw [Lib.cell_of_heap hXn]; rfl
      have xl := lt_of_get hXn
      replace hXn := Lib.hid hXn
      clear hb2
      go_wp2_with fail
      (with_reducible refine (hG.out _ _).mono ?_)
      rintro e0 w3 ⟨rfl, hb3⟩
      have hI3 := Lib.hid ((hI2.out.alloc _).over hb3)
      obtain ⟨b30, b31, b32, b33, b34, b35⟩ := hI3.out.x.all
      obtain ⟨o30, o31, o32, o33, o34, o3f, o3l⟩ := hI3.out.o.all
      have b3l := hI3.out.x.lt
      clear hb3
      rw [hR.out]
      go_wp2_with fail
      have hz := hI3.out.k
      refine bodyPost_ret (v := .agg #[.int .i64 R.n, .int .i64 R.f, .int .i64 R.l, .int .i64 R.c, .int .i64 R.e]) (by simp [results, Tryz.results12, go_sem, o30, o31, o32, o33, o34]) rfl ⟨rfl, ?_⟩
      go_grown
set_option maxRecDepth 100000 in
set_option maxHeartbeats 3200000 in
theorem rev_b_div0 (k f ln cc : Int) (s : ByteArray) (a a2 : XH) (an ac an2 ac2 : Nat) (A1 A2 : Option Addr) (b o : Nat) (E : Option Addr) (c m ec : Nat) (w : World) (x y : KR) (hk : k = 4) (hx : XC w b o a A1 an ac) (hy : XC w b (o + 6) a2 A2 an2 ac2) (hb : b < w.heap.size) (h0 : x.e = 0) (g0 : y.e = 0) (_hi : InR x.n) (_hj : InR y.n) (hs : s.toList = [47]) (hz0 : y.n = 0)
    (hE : ∀ W, Below w.heap.size w W → Calls Tryz.prog 12 #[xv a A1 an ac, .slice E m ec] W (RE W x))
    (hE2 : ∀ W, Below w.heap.size w W → Calls Tryz.prog 12 #[xv a2 A2 an2 ac2, .slice E m ec] W (RE W y)) :
    Calls Tryz.prog 12 #[xv ⟨k, f, ln, cc, s⟩ (some ⟨b, o, none⟩) 2 c, .slice E m ec] w (RE w (badR ⟨k, f, ln, cc, s⟩ 3)) := by
      have hI0 := RI.new w ⟨k, f, ln, cc, s⟩ (some ⟨b, o, none⟩) 2 c
      have hG := fun (m : Int) W => rgood_t ⟨k, f, ln, cc, s⟩ (some ⟨b, o, none⟩) 2 c m W
      have hT := fun (b : Bool) W => rtruth_t b W
      subst hk
      obtain ⟨x0, x1, x2, x3, x4, x5⟩ := hx
      obtain ⟨y0, y1, y2, y3, y4, y5⟩ := hy
      obtain ⟨R, hR⟩ : ∃ R, (badR ⟨4, f, ln, cc, s⟩ 3) = R := ⟨_, rfl⟩
      rw [hR]
      unfold RE ov at *
      obtain ⟨b0, b1, b2, b3, b4, b5⟩ := hI0.x.all
      have bl := hI0.x.lt
      replace hE := Lib.hid hE
      replace hE2 := Lib.hid hE2
      replace hI0 := Lib.hid hI0
      replace hG := Lib.hid hG
      replace hT := Lib.hid hT
      replace hR := Lib.hid hR
      unfold InR at _hi _hj
      replace h0 := Lib.hid h0
      replace g0 := Lib.hid g0
      have hBd := fun W => rbad_t ⟨4, f, ln, cc, s⟩ (some ⟨b, o, none⟩) 2 c 3 W
      unfold ov at hBd
      rw [hR.out] at hBd
      replace hBd := Lib.hid hBd
      have d1 : (y.n == 0) = true := by simpa using hz0
      have d2 : decide (y.n = 0) = true := by simpa using hz0
      replace hz0 := Lib.hid hz0
      go_enter Tryz.func12, Tryz.ntmps12
      go_wp2_with fail
      (with_reducible refine (hE.out _ hI0.out.k).mono ?_)
      rintro e0 w1 ⟨rfl, hb1⟩
      rw [h0.out]
      have hI1 := Lib.hid (hI0.out.over hb1)
      obtain ⟨b10, b11, b12, b13, b14, b15⟩ := hI1.out.x.all
      obtain ⟨o10, o11, o12, o13, o14, o1f, o1l⟩ := hI1.out.o.all
      have b1l := hI1.out.x.lt
      have z0 := (hI1.out.k.cell (p := ⟨b, o + 6, none⟩) hb).trans y0
      have z1 := (hI1.out.k.cell (p := ⟨b, o + 6 + 1, none⟩) hb).trans y1
      have z2 := (hI1.out.k.cell (p := ⟨b, o + 6 + 2, none⟩) hb).trans y2
      have z3 := (hI1.out.k.cell (p := ⟨b, o + 6 + 3, none⟩) hb).trans y3
      have z4 := (hI1.out.k.cell (p := ⟨b, o + 6 + 4, none⟩) hb).trans y4
      have z5 := (hI1.out.k.cell (p := ⟨b, o + 6 + 5, none⟩) hb).trans y5
      have zl : b < w1.heap.size := by have := hI1.out.k.size; omega
      replace hb1 := Lib.hid hb1
      go_wp2_with fail
      (with_reducible refine (hE2.out _ (hI1.out.alloc _).k).mono ?_)
      rintro e0 w2 ⟨rfl, hb2⟩
      rw [g0.out]
      have hI2 := Lib.hid ((hI1.out.alloc _).over hb2)
      obtain ⟨b20, b21, b22, b23, b24, b25⟩ := hI2.out.x.all
      obtain ⟨o20, o21, o22, o23, o24, o2f, o2l⟩ := hI2.out.o.all
      have b2l := hI2.out.x.lt
      have hXn := (hb2.block w1.heap.size (by simp)).trans (heap_alloc_new w1 _)
      have xc : w2.cell? ⟨w1.heap.size, 0, none⟩ = some (.int .i64 x.n) := by rw [Lib.cell_of_heap hXn]; rfl
      have xl := lt_of_get hXn
      replace hXn := Lib.hid hXn
      clear hb2
      go_wp2_with fail
      (with_reducible refine (hBd.out _).mono ?_)
      rintro e0 w3 ⟨rfl, hb3⟩
      have hI3 := Lib.hid ((hI2.out.alloc _).over hb3)
      obtain ⟨b30, b31, b32, b33, b34, b35⟩ := hI3.out.x.all
      obtain ⟨o30, o31, o32, o33, o34, o3f, o3l⟩ := hI3.out.o.all
      have b3l := hI3.out.x.lt
      clear hb3
      go_wp2_with fail
      have hz := hI3.out.k
      refine bodyPost_ret (v := .agg #[.int .i64 R.n, .int .i64 R.f, .int .i64 R.l, .int .i64 R.c, .int .i64 R.e]) (by simp [results, Tryz.results12, go_sem, o30, o31, o32, o33, o34]) rfl ⟨rfl, ?_⟩
      go_grown
set_option maxRecDepth 100000 in
set_option maxHeartbeats 3200000 in
theorem rev_b_mod0 (k f ln cc : Int) (s : ByteArray) (a a2 : XH) (an ac an2 ac2 : Nat) (A1 A2 : Option Addr) (b o : Nat) (E : Option Addr) (c m ec : Nat) (w : World) (x y : KR) (hk : k = 4) (hx : XC w b o a A1 an ac) (hy : XC w b (o + 6) a2 A2 an2 ac2) (hb : b < w.heap.size) (h0 : x.e = 0) (g0 : y.e = 0) (_hi : InR x.n) (_hj : InR y.n) (hs : s.toList = [37]) (hz0 : y.n = 0)
    (hE : ∀ W, Below w.heap.size w W → Calls Tryz.prog 12 #[xv a A1 an ac, .slice E m ec] W (RE W x))
    (hE2 : ∀ W, Below w.heap.size w W → Calls Tryz.prog 12 #[xv a2 A2 an2 ac2, .slice E m ec] W (RE W y)) :
    Calls Tryz.prog 12 #[xv ⟨k, f, ln, cc, s⟩ (some ⟨b, o, none⟩) 2 c, .slice E m ec] w (RE w (badR ⟨k, f, ln, cc, s⟩ 3)) := by
      have hI0 := RI.new w ⟨k, f, ln, cc, s⟩ (some ⟨b, o, none⟩) 2 c
      have hG := fun (m : Int) W => rgood_t ⟨k, f, ln, cc, s⟩ (some ⟨b, o, none⟩) 2 c m W
      have hT := fun (b : Bool) W => rtruth_t b W
      subst hk
      obtain ⟨x0, x1, x2, x3, x4, x5⟩ := hx
      obtain ⟨y0, y1, y2, y3, y4, y5⟩ := hy
      obtain ⟨R, hR⟩ : ∃ R, (badR ⟨4, f, ln, cc, s⟩ 3) = R := ⟨_, rfl⟩
      rw [hR]
      unfold RE ov at *
      obtain ⟨b0, b1, b2, b3, b4, b5⟩ := hI0.x.all
      have bl := hI0.x.lt
      replace hE := Lib.hid hE
      replace hE2 := Lib.hid hE2
      replace hI0 := Lib.hid hI0
      replace hG := Lib.hid hG
      replace hT := Lib.hid hT
      replace hR := Lib.hid hR
      unfold InR at _hi _hj
      replace h0 := Lib.hid h0
      replace g0 := Lib.hid g0
      have hBd := fun W => rbad_t ⟨4, f, ln, cc, s⟩ (some ⟨b, o, none⟩) 2 c 3 W
      unfold ov at hBd
      rw [hR.out] at hBd
      replace hBd := Lib.hid hBd
      have d1 : (y.n == 0) = true := by simpa using hz0
      have d2 : decide (y.n = 0) = true := by simpa using hz0
      replace hz0 := Lib.hid hz0
      go_enter Tryz.func12, Tryz.ntmps12
      go_wp2_with fail
      (with_reducible refine (hE.out _ hI0.out.k).mono ?_)
      rintro e0 w1 ⟨rfl, hb1⟩
      rw [h0.out]
      have hI1 := Lib.hid (hI0.out.over hb1)
      obtain ⟨b10, b11, b12, b13, b14, b15⟩ := hI1.out.x.all
      obtain ⟨o10, o11, o12, o13, o14, o1f, o1l⟩ := hI1.out.o.all
      have b1l := hI1.out.x.lt
      have z0 := (hI1.out.k.cell (p := ⟨b, o + 6, none⟩) hb).trans y0
      have z1 := (hI1.out.k.cell (p := ⟨b, o + 6 + 1, none⟩) hb).trans y1
      have z2 := (hI1.out.k.cell (p := ⟨b, o + 6 + 2, none⟩) hb).trans y2
      have z3 := (hI1.out.k.cell (p := ⟨b, o + 6 + 3, none⟩) hb).trans y3
      have z4 := (hI1.out.k.cell (p := ⟨b, o + 6 + 4, none⟩) hb).trans y4
      have z5 := (hI1.out.k.cell (p := ⟨b, o + 6 + 5, none⟩) hb).trans y5
      have zl : b < w1.heap.size := by have := hI1.out.k.size; omega
      replace hb1 := Lib.hid hb1
      go_wp2_with fail
      (with_reducible refine (hE2.out _ (hI1.out.alloc _).k).mono ?_)
      rintro e0 w2 ⟨rfl, hb2⟩
      rw [g0.out]
      have hI2 := Lib.hid ((hI1.out.alloc _).over hb2)
      obtain ⟨b20, b21, b22, b23, b24, b25⟩ := hI2.out.x.all
      obtain ⟨o20, o21, o22, o23, o24, o2f, o2l⟩ := hI2.out.o.all
      have b2l := hI2.out.x.lt
      have hXn := (hb2.block w1.heap.size (by simp)).trans (heap_alloc_new w1 _)
      have xc : w2.cell? ⟨w1.heap.size, 0, none⟩ = some (.int .i64 x.n) := by rw [Lib.cell_of_heap hXn]; rfl
      have xl := lt_of_get hXn
      replace hXn := Lib.hid hXn
      clear hb2
      go_wp2_with fail
      (with_reducible refine (hBd.out _).mono ?_)
      rintro e0 w3 ⟨rfl, hb3⟩
      have hI3 := Lib.hid ((hI2.out.alloc _).over hb3)
      obtain ⟨b30, b31, b32, b33, b34, b35⟩ := hI3.out.x.all
      obtain ⟨o30, o31, o32, o33, o34, o3f, o3l⟩ := hI3.out.o.all
      have b3l := hI3.out.x.lt
      clear hb3
      go_wp2_with fail
      have hz := hI3.out.k
      refine bodyPost_ret (v := .agg #[.int .i64 R.n, .int .i64 R.f, .int .i64 R.l, .int .i64 R.c, .int .i64 R.e]) (by simp [results, Tryz.results12, go_sem, o30, o31, o32, o33, o34]) rfl ⟨rfl, ?_⟩
      go_grown
set_option maxRecDepth 100000 in
set_option maxHeartbeats 3200000 in
theorem rev_b_shl_neg (k f ln cc : Int) (s : ByteArray) (a a2 : XH) (an ac an2 ac2 : Nat) (A1 A2 : Option Addr) (b o : Nat) (E : Option Addr) (c m ec : Nat) (w : World) (x y : KR) (hk : k = 4) (hx : XC w b o a A1 an ac) (hy : XC w b (o + 6) a2 A2 an2 ac2) (hb : b < w.heap.size) (h0 : x.e = 0) (g0 : y.e = 0) (_hi : InR x.n) (_hj : InR y.n) (hs : s.toList = [60, 60]) (hz0 : y.n < 0)
    (hE : ∀ W, Below w.heap.size w W → Calls Tryz.prog 12 #[xv a A1 an ac, .slice E m ec] W (RE W x))
    (hE2 : ∀ W, Below w.heap.size w W → Calls Tryz.prog 12 #[xv a2 A2 an2 ac2, .slice E m ec] W (RE W y)) :
    Calls Tryz.prog 12 #[xv ⟨k, f, ln, cc, s⟩ (some ⟨b, o, none⟩) 2 c, .slice E m ec] w (RE w (badR ⟨k, f, ln, cc, s⟩ 3)) := by
      have hI0 := RI.new w ⟨k, f, ln, cc, s⟩ (some ⟨b, o, none⟩) 2 c
      have hG := fun (m : Int) W => rgood_t ⟨k, f, ln, cc, s⟩ (some ⟨b, o, none⟩) 2 c m W
      have hT := fun (b : Bool) W => rtruth_t b W
      subst hk
      obtain ⟨x0, x1, x2, x3, x4, x5⟩ := hx
      obtain ⟨y0, y1, y2, y3, y4, y5⟩ := hy
      obtain ⟨R, hR⟩ : ∃ R, (badR ⟨4, f, ln, cc, s⟩ 3) = R := ⟨_, rfl⟩
      rw [hR]
      unfold RE ov at *
      obtain ⟨b0, b1, b2, b3, b4, b5⟩ := hI0.x.all
      have bl := hI0.x.lt
      replace hE := Lib.hid hE
      replace hE2 := Lib.hid hE2
      replace hI0 := Lib.hid hI0
      replace hG := Lib.hid hG
      replace hT := Lib.hid hT
      replace hR := Lib.hid hR
      unfold InR at _hi _hj
      replace h0 := Lib.hid h0
      replace g0 := Lib.hid g0
      have hBd := fun W => rbad_t ⟨4, f, ln, cc, s⟩ (some ⟨b, o, none⟩) 2 c 3 W
      unfold ov at hBd
      rw [hR.out] at hBd
      replace hBd := Lib.hid hBd
      have d1 : decide (y.n < 0) = true := by simpa using hz0
      go_enter Tryz.func12, Tryz.ntmps12
      go_wp2_with fail
      (with_reducible refine (hE.out _ hI0.out.k).mono ?_)
      rintro e0 w1 ⟨rfl, hb1⟩
      rw [h0.out]
      have hI1 := Lib.hid (hI0.out.over hb1)
      obtain ⟨b10, b11, b12, b13, b14, b15⟩ := hI1.out.x.all
      obtain ⟨o10, o11, o12, o13, o14, o1f, o1l⟩ := hI1.out.o.all
      have b1l := hI1.out.x.lt
      have z0 := (hI1.out.k.cell (p := ⟨b, o + 6, none⟩) hb).trans y0
      have z1 := (hI1.out.k.cell (p := ⟨b, o + 6 + 1, none⟩) hb).trans y1
      have z2 := (hI1.out.k.cell (p := ⟨b, o + 6 + 2, none⟩) hb).trans y2
      have z3 := (hI1.out.k.cell (p := ⟨b, o + 6 + 3, none⟩) hb).trans y3
      have z4 := (hI1.out.k.cell (p := ⟨b, o + 6 + 4, none⟩) hb).trans y4
      have z5 := (hI1.out.k.cell (p := ⟨b, o + 6 + 5, none⟩) hb).trans y5
      have zl : b < w1.heap.size := by have := hI1.out.k.size; omega
      replace hb1 := Lib.hid hb1
      go_wp2_with fail
      (with_reducible refine (hE2.out _ (hI1.out.alloc _).k).mono ?_)
      rintro e0 w2 ⟨rfl, hb2⟩
      rw [g0.out]
      have hI2 := Lib.hid ((hI1.out.alloc _).over hb2)
      obtain ⟨b20, b21, b22, b23, b24, b25⟩ := hI2.out.x.all
      obtain ⟨o20, o21, o22, o23, o24, o2f, o2l⟩ := hI2.out.o.all
      have b2l := hI2.out.x.lt
      have hXn := (hb2.block w1.heap.size (by simp)).trans (heap_alloc_new w1 _)
      have xc : w2.cell? ⟨w1.heap.size, 0, none⟩ = some (.int .i64 x.n) := by rw [Lib.cell_of_heap hXn]; rfl
      have xl := lt_of_get hXn
      replace hXn := Lib.hid hXn
      clear hb2
      go_wp2_with fail
      (with_reducible refine (hBd.out _).mono ?_)
      rintro e0 w3 ⟨rfl, hb3⟩
      have hI3 := Lib.hid ((hI2.out.alloc _).over hb3)
      obtain ⟨b30, b31, b32, b33, b34, b35⟩ := hI3.out.x.all
      obtain ⟨o30, o31, o32, o33, o34, o3f, o3l⟩ := hI3.out.o.all
      have b3l := hI3.out.x.lt
      clear hb3
      go_wp2_with fail
      have hz := hI3.out.k
      refine bodyPost_ret (v := .agg #[.int .i64 R.n, .int .i64 R.f, .int .i64 R.l, .int .i64 R.c, .int .i64 R.e]) (by simp [results, Tryz.results12, go_sem, o30, o31, o32, o33, o34]) rfl ⟨rfl, ?_⟩
      go_grown
set_option maxRecDepth 100000 in
set_option maxHeartbeats 3200000 in
theorem rev_b_shl_big (k f ln cc : Int) (s : ByteArray) (a a2 : XH) (an ac an2 ac2 : Nat) (A1 A2 : Option Addr) (b o : Nat) (E : Option Addr) (c m ec : Nat) (w : World) (x y : KR) (hk : k = 4) (hx : XC w b o a A1 an ac) (hy : XC w b (o + 6) a2 A2 an2 ac2) (hb : b < w.heap.size) (h0 : x.e = 0) (g0 : y.e = 0) (_hi : InR x.n) (hj : InR y.n) (hs : s.toList = [60, 60]) (hz0 : 31 < y.n)
    (hE : ∀ W, Below w.heap.size w W → Calls Tryz.prog 12 #[xv a A1 an ac, .slice E m ec] W (RE W x))
    (hE2 : ∀ W, Below w.heap.size w W → Calls Tryz.prog 12 #[xv a2 A2 an2 ac2, .slice E m ec] W (RE W y)) :
    Calls Tryz.prog 12 #[xv ⟨k, f, ln, cc, s⟩ (some ⟨b, o, none⟩) 2 c, .slice E m ec] w (RE w (badR ⟨k, f, ln, cc, s⟩ 3)) := by
      have hI0 := RI.new w ⟨k, f, ln, cc, s⟩ (some ⟨b, o, none⟩) 2 c
      have hG := fun (m : Int) W => rgood_t ⟨k, f, ln, cc, s⟩ (some ⟨b, o, none⟩) 2 c m W
      have hT := fun (b : Bool) W => rtruth_t b W
      subst hk
      obtain ⟨x0, x1, x2, x3, x4, x5⟩ := hx
      obtain ⟨y0, y1, y2, y3, y4, y5⟩ := hy
      obtain ⟨R, hR⟩ : ∃ R, (badR ⟨4, f, ln, cc, s⟩ 3) = R := ⟨_, rfl⟩
      rw [hR]
      unfold RE ov at *
      obtain ⟨b0, b1, b2, b3, b4, b5⟩ := hI0.x.all
      have bl := hI0.x.lt
      replace hE := Lib.hid hE
      replace hE2 := Lib.hid hE2
      replace hI0 := Lib.hid hI0
      replace hG := Lib.hid hG
      replace hT := Lib.hid hT
      replace hR := Lib.hid hR
      unfold InR at _hi hj
      replace h0 := Lib.hid h0
      replace g0 := Lib.hid g0
      have hBd := fun W => rbad_t ⟨4, f, ln, cc, s⟩ (some ⟨b, o, none⟩) 2 c 3 W
      unfold ov at hBd
      rw [hR.out] at hBd
      replace hBd := Lib.hid hBd
      have d1 : decide (y.n < 0) = false := by simp; omega
      have d2 : decide (31 < y.n) = true := by simpa using hz0
      have d3 : ¬ y.n < 0 := by omega
      go_enter Tryz.func12, Tryz.ntmps12
      go_wp2_with fail
      (with_reducible refine (hE.out _ hI0.out.k).mono ?_)
      rintro e0 w1 ⟨rfl, hb1⟩
      rw [h0.out]
      have hI1 := Lib.hid (hI0.out.over hb1)
      obtain ⟨b10, b11, b12, b13, b14, b15⟩ := hI1.out.x.all
      obtain ⟨o10, o11, o12, o13, o14, o1f, o1l⟩ := hI1.out.o.all
      have b1l := hI1.out.x.lt
      have z0 := (hI1.out.k.cell (p := ⟨b, o + 6, none⟩) hb).trans y0
      have z1 := (hI1.out.k.cell (p := ⟨b, o + 6 + 1, none⟩) hb).trans y1
      have z2 := (hI1.out.k.cell (p := ⟨b, o + 6 + 2, none⟩) hb).trans y2
      have z3 := (hI1.out.k.cell (p := ⟨b, o + 6 + 3, none⟩) hb).trans y3
      have z4 := (hI1.out.k.cell (p := ⟨b, o + 6 + 4, none⟩) hb).trans y4
      have z5 := (hI1.out.k.cell (p := ⟨b, o + 6 + 5, none⟩) hb).trans y5
      have zl : b < w1.heap.size := by have := hI1.out.k.size; omega
      replace hb1 := Lib.hid hb1
      go_wp2_with fail
      (with_reducible refine (hE2.out _ (hI1.out.alloc _).k).mono ?_)
      rintro e0 w2 ⟨rfl, hb2⟩
      rw [g0.out]
      have hI2 := Lib.hid ((hI1.out.alloc _).over hb2)
      obtain ⟨b20, b21, b22, b23, b24, b25⟩ := hI2.out.x.all
      obtain ⟨o20, o21, o22, o23, o24, o2f, o2l⟩ := hI2.out.o.all
      have b2l := hI2.out.x.lt
      have hXn := (hb2.block w1.heap.size (by simp)).trans (heap_alloc_new w1 _)
      have xc : w2.cell? ⟨w1.heap.size, 0, none⟩ = some (.int .i64 x.n) := by rw [Lib.cell_of_heap hXn]; rfl
      have xl := lt_of_get hXn
      replace hXn := Lib.hid hXn
      clear hb2
      go_wp2_with fail
      (with_reducible refine (hBd.out _).mono ?_)
      rintro e0 w3 ⟨rfl, hb3⟩
      have hI3 := Lib.hid ((hI2.out.alloc _).over hb3)
      obtain ⟨b30, b31, b32, b33, b34, b35⟩ := hI3.out.x.all
      obtain ⟨o30, o31, o32, o33, o34, o3f, o3l⟩ := hI3.out.o.all
      have b3l := hI3.out.x.lt
      clear hb3
      go_wp2_with fail
      have hz := hI3.out.k
      refine bodyPost_ret (v := .agg #[.int .i64 R.n, .int .i64 R.f, .int .i64 R.l, .int .i64 R.c, .int .i64 R.e]) (by simp [results, Tryz.results12, go_sem, o30, o31, o32, o33, o34]) rfl ⟨rfl, ?_⟩
      go_grown
set_option maxRecDepth 100000 in
set_option maxHeartbeats 3200000 in
theorem rev_b_shla_neg (k f ln cc : Int) (s : ByteArray) (a a2 : XH) (an ac an2 ac2 : Nat) (A1 A2 : Option Addr) (b o : Nat) (E : Option Addr) (c m ec : Nat) (w : World) (x y : KR) (hk : k = 4) (hx : XC w b o a A1 an ac) (hy : XC w b (o + 6) a2 A2 an2 ac2) (hb : b < w.heap.size) (h0 : x.e = 0) (g0 : y.e = 0) (_hi : InR x.n) (_hj : InR y.n) (hs : s.toList = [60, 60, 60]) (hz0 : y.n < 0)
    (hE : ∀ W, Below w.heap.size w W → Calls Tryz.prog 12 #[xv a A1 an ac, .slice E m ec] W (RE W x))
    (hE2 : ∀ W, Below w.heap.size w W → Calls Tryz.prog 12 #[xv a2 A2 an2 ac2, .slice E m ec] W (RE W y)) :
    Calls Tryz.prog 12 #[xv ⟨k, f, ln, cc, s⟩ (some ⟨b, o, none⟩) 2 c, .slice E m ec] w (RE w (badR ⟨k, f, ln, cc, s⟩ 3)) := by
      have hI0 := RI.new w ⟨k, f, ln, cc, s⟩ (some ⟨b, o, none⟩) 2 c
      have hG := fun (m : Int) W => rgood_t ⟨k, f, ln, cc, s⟩ (some ⟨b, o, none⟩) 2 c m W
      have hT := fun (b : Bool) W => rtruth_t b W
      subst hk
      obtain ⟨x0, x1, x2, x3, x4, x5⟩ := hx
      obtain ⟨y0, y1, y2, y3, y4, y5⟩ := hy
      obtain ⟨R, hR⟩ : ∃ R, (badR ⟨4, f, ln, cc, s⟩ 3) = R := ⟨_, rfl⟩
      rw [hR]
      unfold RE ov at *
      obtain ⟨b0, b1, b2, b3, b4, b5⟩ := hI0.x.all
      have bl := hI0.x.lt
      replace hE := Lib.hid hE
      replace hE2 := Lib.hid hE2
      replace hI0 := Lib.hid hI0
      replace hG := Lib.hid hG
      replace hT := Lib.hid hT
      replace hR := Lib.hid hR
      unfold InR at _hi _hj
      replace h0 := Lib.hid h0
      replace g0 := Lib.hid g0
      have hBd := fun W => rbad_t ⟨4, f, ln, cc, s⟩ (some ⟨b, o, none⟩) 2 c 3 W
      unfold ov at hBd
      rw [hR.out] at hBd
      replace hBd := Lib.hid hBd
      have d1 : decide (y.n < 0) = true := by simpa using hz0
      go_enter Tryz.func12, Tryz.ntmps12
      go_wp2_with fail
      (with_reducible refine (hE.out _ hI0.out.k).mono ?_)
      rintro e0 w1 ⟨rfl, hb1⟩
      rw [h0.out]
      have hI1 := Lib.hid (hI0.out.over hb1)
      obtain ⟨b10, b11, b12, b13, b14, b15⟩ := hI1.out.x.all
      obtain ⟨o10, o11, o12, o13, o14, o1f, o1l⟩ := hI1.out.o.all
      have b1l := hI1.out.x.lt
      have z0 := (hI1.out.k.cell (p := ⟨b, o + 6, none⟩) hb).trans y0
      have z1 := (hI1.out.k.cell (p := ⟨b, o + 6 + 1, none⟩) hb).trans y1
      have z2 := (hI1.out.k.cell (p := ⟨b, o + 6 + 2, none⟩) hb).trans y2
      have z3 := (hI1.out.k.cell (p := ⟨b, o + 6 + 3, none⟩) hb).trans y3
      have z4 := (hI1.out.k.cell (p := ⟨b, o + 6 + 4, none⟩) hb).trans y4
      have z5 := (hI1.out.k.cell (p := ⟨b, o + 6 + 5, none⟩) hb).trans y5
      have zl : b < w1.heap.size := by have := hI1.out.k.size; omega
      replace hb1 := Lib.hid hb1
      go_wp2_with fail
      (with_reducible refine (hE2.out _ (hI1.out.alloc _).k).mono ?_)
      rintro e0 w2 ⟨rfl, hb2⟩
      rw [g0.out]
      have hI2 := Lib.hid ((hI1.out.alloc _).over hb2)
      obtain ⟨b20, b21, b22, b23, b24, b25⟩ := hI2.out.x.all
      obtain ⟨o20, o21, o22, o23, o24, o2f, o2l⟩ := hI2.out.o.all
      have b2l := hI2.out.x.lt
      have hXn := (hb2.block w1.heap.size (by simp)).trans (heap_alloc_new w1 _)
      have xc : w2.cell? ⟨w1.heap.size, 0, none⟩ = some (.int .i64 x.n) := by rw [Lib.cell_of_heap hXn]; rfl
      have xl := lt_of_get hXn
      replace hXn := Lib.hid hXn
      clear hb2
      go_wp2_with fail
      (with_reducible refine (hBd.out _).mono ?_)
      rintro e0 w3 ⟨rfl, hb3⟩
      have hI3 := Lib.hid ((hI2.out.alloc _).over hb3)
      obtain ⟨b30, b31, b32, b33, b34, b35⟩ := hI3.out.x.all
      obtain ⟨o30, o31, o32, o33, o34, o3f, o3l⟩ := hI3.out.o.all
      have b3l := hI3.out.x.lt
      clear hb3
      go_wp2_with fail
      have hz := hI3.out.k
      refine bodyPost_ret (v := .agg #[.int .i64 R.n, .int .i64 R.f, .int .i64 R.l, .int .i64 R.c, .int .i64 R.e]) (by simp [results, Tryz.results12, go_sem, o30, o31, o32, o33, o34]) rfl ⟨rfl, ?_⟩
      go_grown
set_option maxRecDepth 100000 in
set_option maxHeartbeats 3200000 in
theorem rev_b_shla_big (k f ln cc : Int) (s : ByteArray) (a a2 : XH) (an ac an2 ac2 : Nat) (A1 A2 : Option Addr) (b o : Nat) (E : Option Addr) (c m ec : Nat) (w : World) (x y : KR) (hk : k = 4) (hx : XC w b o a A1 an ac) (hy : XC w b (o + 6) a2 A2 an2 ac2) (hb : b < w.heap.size) (h0 : x.e = 0) (g0 : y.e = 0) (_hi : InR x.n) (hj : InR y.n) (hs : s.toList = [60, 60, 60]) (hz0 : 31 < y.n)
    (hE : ∀ W, Below w.heap.size w W → Calls Tryz.prog 12 #[xv a A1 an ac, .slice E m ec] W (RE W x))
    (hE2 : ∀ W, Below w.heap.size w W → Calls Tryz.prog 12 #[xv a2 A2 an2 ac2, .slice E m ec] W (RE W y)) :
    Calls Tryz.prog 12 #[xv ⟨k, f, ln, cc, s⟩ (some ⟨b, o, none⟩) 2 c, .slice E m ec] w (RE w (badR ⟨k, f, ln, cc, s⟩ 3)) := by
      have hI0 := RI.new w ⟨k, f, ln, cc, s⟩ (some ⟨b, o, none⟩) 2 c
      have hG := fun (m : Int) W => rgood_t ⟨k, f, ln, cc, s⟩ (some ⟨b, o, none⟩) 2 c m W
      have hT := fun (b : Bool) W => rtruth_t b W
      subst hk
      obtain ⟨x0, x1, x2, x3, x4, x5⟩ := hx
      obtain ⟨y0, y1, y2, y3, y4, y5⟩ := hy
      obtain ⟨R, hR⟩ : ∃ R, (badR ⟨4, f, ln, cc, s⟩ 3) = R := ⟨_, rfl⟩
      rw [hR]
      unfold RE ov at *
      obtain ⟨b0, b1, b2, b3, b4, b5⟩ := hI0.x.all
      have bl := hI0.x.lt
      replace hE := Lib.hid hE
      replace hE2 := Lib.hid hE2
      replace hI0 := Lib.hid hI0
      replace hG := Lib.hid hG
      replace hT := Lib.hid hT
      replace hR := Lib.hid hR
      unfold InR at _hi hj
      replace h0 := Lib.hid h0
      replace g0 := Lib.hid g0
      have hBd := fun W => rbad_t ⟨4, f, ln, cc, s⟩ (some ⟨b, o, none⟩) 2 c 3 W
      unfold ov at hBd
      rw [hR.out] at hBd
      replace hBd := Lib.hid hBd
      have d1 : decide (y.n < 0) = false := by simp; omega
      have d2 : decide (31 < y.n) = true := by simpa using hz0
      have d3 : ¬ y.n < 0 := by omega
      go_enter Tryz.func12, Tryz.ntmps12
      go_wp2_with fail
      (with_reducible refine (hE.out _ hI0.out.k).mono ?_)
      rintro e0 w1 ⟨rfl, hb1⟩
      rw [h0.out]
      have hI1 := Lib.hid (hI0.out.over hb1)
      obtain ⟨b10, b11, b12, b13, b14, b15⟩ := hI1.out.x.all
      obtain ⟨o10, o11, o12, o13, o14, o1f, o1l⟩ := hI1.out.o.all
      have b1l := hI1.out.x.lt
      have z0 := (hI1.out.k.cell (p := ⟨b, o + 6, none⟩) hb).trans y0
      have z1 := (hI1.out.k.cell (p := ⟨b, o + 6 + 1, none⟩) hb).trans y1
      have z2 := (hI1.out.k.cell (p := ⟨b, o + 6 + 2, none⟩) hb).trans y2
      have z3 := (hI1.out.k.cell (p := ⟨b, o + 6 + 3, none⟩) hb).trans y3
      have z4 := (hI1.out.k.cell (p := ⟨b, o + 6 + 4, none⟩) hb).trans y4
      have z5 := (hI1.out.k.cell (p := ⟨b, o + 6 + 5, none⟩) hb).trans y5
      have zl : b < w1.heap.size := by have := hI1.out.k.size; omega
      replace hb1 := Lib.hid hb1
      go_wp2_with fail
      (with_reducible refine (hE2.out _ (hI1.out.alloc _).k).mono ?_)
      rintro e0 w2 ⟨rfl, hb2⟩
      rw [g0.out]
      have hI2 := Lib.hid ((hI1.out.alloc _).over hb2)
      obtain ⟨b20, b21, b22, b23, b24, b25⟩ := hI2.out.x.all
      obtain ⟨o20, o21, o22, o23, o24, o2f, o2l⟩ := hI2.out.o.all
      have b2l := hI2.out.x.lt
      have hXn := (hb2.block w1.heap.size (by simp)).trans (heap_alloc_new w1 _)
      have xc : w2.cell? ⟨w1.heap.size, 0, none⟩ = some (.int .i64 x.n) := by rw [Lib.cell_of_heap hXn]; rfl
      have xl := lt_of_get hXn
      replace hXn := Lib.hid hXn
      clear hb2
      go_wp2_with fail
      (with_reducible refine (hBd.out _).mono ?_)
      rintro e0 w3 ⟨rfl, hb3⟩
      have hI3 := Lib.hid ((hI2.out.alloc _).over hb3)
      obtain ⟨b30, b31, b32, b33, b34, b35⟩ := hI3.out.x.all
      obtain ⟨o30, o31, o32, o33, o34, o3f, o3l⟩ := hI3.out.o.all
      have b3l := hI3.out.x.lt
      clear hb3
      go_wp2_with fail
      have hz := hI3.out.k
      refine bodyPost_ret (v := .agg #[.int .i64 R.n, .int .i64 R.f, .int .i64 R.l, .int .i64 R.c, .int .i64 R.e]) (by simp [results, Tryz.results12, go_sem, o30, o31, o32, o33, o34]) rfl ⟨rfl, ?_⟩
      go_grown
set_option maxRecDepth 100000 in
set_option maxHeartbeats 3200000 in
theorem rev_b_shr_neg (k f ln cc : Int) (s : ByteArray) (a a2 : XH) (an ac an2 ac2 : Nat) (A1 A2 : Option Addr) (b o : Nat) (E : Option Addr) (c m ec : Nat) (w : World) (x y : KR) (hk : k = 4) (hx : XC w b o a A1 an ac) (hy : XC w b (o + 6) a2 A2 an2 ac2) (hb : b < w.heap.size) (h0 : x.e = 0) (g0 : y.e = 0) (_hi : InR x.n) (_hj : InR y.n) (hs : s.toList = [62, 62]) (hz0 : y.n < 0)
    (hE : ∀ W, Below w.heap.size w W → Calls Tryz.prog 12 #[xv a A1 an ac, .slice E m ec] W (RE W x))
    (hE2 : ∀ W, Below w.heap.size w W → Calls Tryz.prog 12 #[xv a2 A2 an2 ac2, .slice E m ec] W (RE W y)) :
    Calls Tryz.prog 12 #[xv ⟨k, f, ln, cc, s⟩ (some ⟨b, o, none⟩) 2 c, .slice E m ec] w (RE w (badR ⟨k, f, ln, cc, s⟩ 3)) := by
      have hI0 := RI.new w ⟨k, f, ln, cc, s⟩ (some ⟨b, o, none⟩) 2 c
      have hG := fun (m : Int) W => rgood_t ⟨k, f, ln, cc, s⟩ (some ⟨b, o, none⟩) 2 c m W
      have hT := fun (b : Bool) W => rtruth_t b W
      subst hk
      obtain ⟨x0, x1, x2, x3, x4, x5⟩ := hx
      obtain ⟨y0, y1, y2, y3, y4, y5⟩ := hy
      obtain ⟨R, hR⟩ : ∃ R, (badR ⟨4, f, ln, cc, s⟩ 3) = R := ⟨_, rfl⟩
      rw [hR]
      unfold RE ov at *
      obtain ⟨b0, b1, b2, b3, b4, b5⟩ := hI0.x.all
      have bl := hI0.x.lt
      replace hE := Lib.hid hE
      replace hE2 := Lib.hid hE2
      replace hI0 := Lib.hid hI0
      replace hG := Lib.hid hG
      replace hT := Lib.hid hT
      replace hR := Lib.hid hR
      unfold InR at _hi _hj
      replace h0 := Lib.hid h0
      replace g0 := Lib.hid g0
      have hBd := fun W => rbad_t ⟨4, f, ln, cc, s⟩ (some ⟨b, o, none⟩) 2 c 3 W
      unfold ov at hBd
      rw [hR.out] at hBd
      replace hBd := Lib.hid hBd
      have d1 : decide (y.n < 0) = true := by simpa using hz0
      go_enter Tryz.func12, Tryz.ntmps12
      go_wp2_with fail
      (with_reducible refine (hE.out _ hI0.out.k).mono ?_)
      rintro e0 w1 ⟨rfl, hb1⟩
      rw [h0.out]
      have hI1 := Lib.hid (hI0.out.over hb1)
      obtain ⟨b10, b11, b12, b13, b14, b15⟩ := hI1.out.x.all
      obtain ⟨o10, o11, o12, o13, o14, o1f, o1l⟩ := hI1.out.o.all
      have b1l := hI1.out.x.lt
      have z0 := (hI1.out.k.cell (p := ⟨b, o + 6, none⟩) hb).trans y0
      have z1 := (hI1.out.k.cell (p := ⟨b, o + 6 + 1, none⟩) hb).trans y1
      have z2 := (hI1.out.k.cell (p := ⟨b, o + 6 + 2, none⟩) hb).trans y2
      have z3 := (hI1.out.k.cell (p := ⟨b, o + 6 + 3, none⟩) hb).trans y3
      have z4 := (hI1.out.k.cell (p := ⟨b, o + 6 + 4, none⟩) hb).trans y4
      have z5 := (hI1.out.k.cell (p := ⟨b, o + 6 + 5, none⟩) hb).trans y5
      have zl : b < w1.heap.size := by have := hI1.out.k.size; omega
      replace hb1 := Lib.hid hb1
      go_wp2_with fail
      (with_reducible refine (hE2.out _ (hI1.out.alloc _).k).mono ?_)
      rintro e0 w2 ⟨rfl, hb2⟩
      rw [g0.out]
      have hI2 := Lib.hid ((hI1.out.alloc _).over hb2)
      obtain ⟨b20, b21, b22, b23, b24, b25⟩ := hI2.out.x.all
      obtain ⟨o20, o21, o22, o23, o24, o2f, o2l⟩ := hI2.out.o.all
      have b2l := hI2.out.x.lt
      have hXn := (hb2.block w1.heap.size (by simp)).trans (heap_alloc_new w1 _)
      have xc : w2.cell? ⟨w1.heap.size, 0, none⟩ = some (.int .i64 x.n) := by rw [Lib.cell_of_heap hXn]; rfl
      have xl := lt_of_get hXn
      replace hXn := Lib.hid hXn
      clear hb2
      go_wp2_with fail
      (with_reducible refine (hBd.out _).mono ?_)
      rintro e0 w3 ⟨rfl, hb3⟩
      have hI3 := Lib.hid ((hI2.out.alloc _).over hb3)
      obtain ⟨b30, b31, b32, b33, b34, b35⟩ := hI3.out.x.all
      obtain ⟨o30, o31, o32, o33, o34, o3f, o3l⟩ := hI3.out.o.all
      have b3l := hI3.out.x.lt
      clear hb3
      go_wp2_with fail
      have hz := hI3.out.k
      refine bodyPost_ret (v := .agg #[.int .i64 R.n, .int .i64 R.f, .int .i64 R.l, .int .i64 R.c, .int .i64 R.e]) (by simp [results, Tryz.results12, go_sem, o30, o31, o32, o33, o34]) rfl ⟨rfl, ?_⟩
      go_grown
set_option maxRecDepth 100000 in
set_option maxHeartbeats 3200000 in
theorem rev_b_shr_big (k f ln cc : Int) (s : ByteArray) (a a2 : XH) (an ac an2 ac2 : Nat) (A1 A2 : Option Addr) (b o : Nat) (E : Option Addr) (c m ec : Nat) (w : World) (x y : KR) (hk : k = 4) (hx : XC w b o a A1 an ac) (hy : XC w b (o + 6) a2 A2 an2 ac2) (hb : b < w.heap.size) (h0 : x.e = 0) (g0 : y.e = 0) (_hi : InR x.n) (hj : InR y.n) (hs : s.toList = [62, 62]) (hz0 : 31 < y.n)
    (hE : ∀ W, Below w.heap.size w W → Calls Tryz.prog 12 #[xv a A1 an ac, .slice E m ec] W (RE W x))
    (hE2 : ∀ W, Below w.heap.size w W → Calls Tryz.prog 12 #[xv a2 A2 an2 ac2, .slice E m ec] W (RE W y)) :
    Calls Tryz.prog 12 #[xv ⟨k, f, ln, cc, s⟩ (some ⟨b, o, none⟩) 2 c, .slice E m ec] w (RE w (badR ⟨k, f, ln, cc, s⟩ 3)) := by
      have hI0 := RI.new w ⟨k, f, ln, cc, s⟩ (some ⟨b, o, none⟩) 2 c
      have hG := fun (m : Int) W => rgood_t ⟨k, f, ln, cc, s⟩ (some ⟨b, o, none⟩) 2 c m W
      have hT := fun (b : Bool) W => rtruth_t b W
      subst hk
      obtain ⟨x0, x1, x2, x3, x4, x5⟩ := hx
      obtain ⟨y0, y1, y2, y3, y4, y5⟩ := hy
      obtain ⟨R, hR⟩ : ∃ R, (badR ⟨4, f, ln, cc, s⟩ 3) = R := ⟨_, rfl⟩
      rw [hR]
      unfold RE ov at *
      obtain ⟨b0, b1, b2, b3, b4, b5⟩ := hI0.x.all
      have bl := hI0.x.lt
      replace hE := Lib.hid hE
      replace hE2 := Lib.hid hE2
      replace hI0 := Lib.hid hI0
      replace hG := Lib.hid hG
      replace hT := Lib.hid hT
      replace hR := Lib.hid hR
      unfold InR at _hi hj
      replace h0 := Lib.hid h0
      replace g0 := Lib.hid g0
      have hBd := fun W => rbad_t ⟨4, f, ln, cc, s⟩ (some ⟨b, o, none⟩) 2 c 3 W
      unfold ov at hBd
      rw [hR.out] at hBd
      replace hBd := Lib.hid hBd
      have d1 : decide (y.n < 0) = false := by simp; omega
      have d2 : decide (31 < y.n) = true := by simpa using hz0
      have d3 : ¬ y.n < 0 := by omega
      go_enter Tryz.func12, Tryz.ntmps12
      go_wp2_with fail
      (with_reducible refine (hE.out _ hI0.out.k).mono ?_)
      rintro e0 w1 ⟨rfl, hb1⟩
      rw [h0.out]
      have hI1 := Lib.hid (hI0.out.over hb1)
      obtain ⟨b10, b11, b12, b13, b14, b15⟩ := hI1.out.x.all
      obtain ⟨o10, o11, o12, o13, o14, o1f, o1l⟩ := hI1.out.o.all
      have b1l := hI1.out.x.lt
      have z0 := (hI1.out.k.cell (p := ⟨b, o + 6, none⟩) hb).trans y0
      have z1 := (hI1.out.k.cell (p := ⟨b, o + 6 + 1, none⟩) hb).trans y1
      have z2 := (hI1.out.k.cell (p := ⟨b, o + 6 + 2, none⟩) hb).trans y2
      have z3 := (hI1.out.k.cell (p := ⟨b, o + 6 + 3, none⟩) hb).trans y3
      have z4 := (hI1.out.k.cell (p := ⟨b, o + 6 + 4, none⟩) hb).trans y4
      have z5 := (hI1.out.k.cell (p := ⟨b, o + 6 + 5, none⟩) hb).trans y5
      have zl : b < w1.heap.size := by have := hI1.out.k.size; omega
      replace hb1 := Lib.hid hb1
      go_wp2_with fail
      (with_reducible refine (hE2.out _ (hI1.out.alloc _).k).mono ?_)
      rintro e0 w2 ⟨rfl, hb2⟩
      rw [g0.out]
      have hI2 := Lib.hid ((hI1.out.alloc _).over hb2)
      obtain ⟨b20, b21, b22, b23, b24, b25⟩ := hI2.out.x.all
      obtain ⟨o20, o21, o22, o23, o24, o2f, o2l⟩ := hI2.out.o.all
      have b2l := hI2.out.x.lt
      have hXn := (hb2.block w1.heap.size (by simp)).trans (heap_alloc_new w1 _)
      have xc : w2.cell? ⟨w1.heap.size, 0, none⟩ = some (.int .i64 x.n) := by rw [Lib.cell_of_heap hXn]; rfl
      have xl := lt_of_get hXn
      replace hXn := Lib.hid hXn
      clear hb2
      go_wp2_with fail
      (with_reducible refine (hBd.out _).mono ?_)
      rintro e0 w3 ⟨rfl, hb3⟩
      have hI3 := Lib.hid ((hI2.out.alloc _).over hb3)
      obtain ⟨b30, b31, b32, b33, b34, b35⟩ := hI3.out.x.all
      obtain ⟨o30, o31, o32, o33, o34, o3f, o3l⟩ := hI3.out.o.all
      have b3l := hI3.out.x.lt
      clear hb3
      go_wp2_with fail
      have hz := hI3.out.k
      refine bodyPost_ret (v := .agg #[.int .i64 R.n, .int .i64 R.f, .int .i64 R.l, .int .i64 R.c, .int .i64 R.e]) (by simp [results, Tryz.results12, go_sem, o30, o31, o32, o33, o34]) rfl ⟨rfl, ?_⟩
      go_grown
set_option maxRecDepth 100000 in
set_option maxHeartbeats 3200000 in
theorem rev_b_shra_neg (k f ln cc : Int) (s : ByteArray) (a a2 : XH) (an ac an2 ac2 : Nat) (A1 A2 : Option Addr) (b o : Nat) (E : Option Addr) (c m ec : Nat) (w : World) (x y : KR) (hk : k = 4) (hx : XC w b o a A1 an ac) (hy : XC w b (o + 6) a2 A2 an2 ac2) (hb : b < w.heap.size) (h0 : x.e = 0) (g0 : y.e = 0) (_hi : InR x.n) (_hj : InR y.n) (hs : s.toList = [62, 62, 62]) (hz0 : y.n < 0)
    (hE : ∀ W, Below w.heap.size w W → Calls Tryz.prog 12 #[xv a A1 an ac, .slice E m ec] W (RE W x))
    (hE2 : ∀ W, Below w.heap.size w W → Calls Tryz.prog 12 #[xv a2 A2 an2 ac2, .slice E m ec] W (RE W y)) :
    Calls Tryz.prog 12 #[xv ⟨k, f, ln, cc, s⟩ (some ⟨b, o, none⟩) 2 c, .slice E m ec] w (RE w (badR ⟨k, f, ln, cc, s⟩ 3)) := by
      have hI0 := RI.new w ⟨k, f, ln, cc, s⟩ (some ⟨b, o, none⟩) 2 c
      have hG := fun (m : Int) W => rgood_t ⟨k, f, ln, cc, s⟩ (some ⟨b, o, none⟩) 2 c m W
      have hT := fun (b : Bool) W => rtruth_t b W
      subst hk
      obtain ⟨x0, x1, x2, x3, x4, x5⟩ := hx
      obtain ⟨y0, y1, y2, y3, y4, y5⟩ := hy
      obtain ⟨R, hR⟩ : ∃ R, (badR ⟨4, f, ln, cc, s⟩ 3) = R := ⟨_, rfl⟩
      rw [hR]
      unfold RE ov at *
      obtain ⟨b0, b1, b2, b3, b4, b5⟩ := hI0.x.all
      have bl := hI0.x.lt
      replace hE := Lib.hid hE
      replace hE2 := Lib.hid hE2
      replace hI0 := Lib.hid hI0
      replace hG := Lib.hid hG
      replace hT := Lib.hid hT
      replace hR := Lib.hid hR
      unfold InR at _hi _hj
      replace h0 := Lib.hid h0
      replace g0 := Lib.hid g0
      have hBd := fun W => rbad_t ⟨4, f, ln, cc, s⟩ (some ⟨b, o, none⟩) 2 c 3 W
      unfold ov at hBd
      rw [hR.out] at hBd
      replace hBd := Lib.hid hBd
      have d1 : decide (y.n < 0) = true := by simpa using hz0
      go_enter Tryz.func12, Tryz.ntmps12
      go_wp2_with fail
      (with_reducible refine (hE.out _ hI0.out.k).mono ?_)
      rintro e0 w1 ⟨rfl, hb1⟩
      rw [h0.out]
      have hI1 := Lib.hid (hI0.out.over hb1)
      obtain ⟨b10, b11, b12, b13, b14, b15⟩ := hI1.out.x.all
      obtain ⟨o10, o11, o12, o13, o14, o1f, o1l⟩ := hI1.out.o.all
      have b1l := hI1.out.x.lt
      have z0 := (hI1.out.k.cell (p := ⟨b, o + 6, none⟩) hb).trans y0
      have z1 := (hI1.out.k.cell (p := ⟨b, o + 6 + 1, none⟩) hb).trans y1
      have z2 := (hI1.out.k.cell (p := ⟨b, o + 6 + 2, none⟩) hb).trans y2
      have z3 := (hI1.out.k.cell (p := ⟨b, o + 6 + 3, none⟩) hb).trans y3
      have z4 := (hI1.out.k.cell (p := ⟨b, o + 6 + 4, none⟩) hb).trans y4
      have z5 := (hI1.out.k.cell (p := ⟨b, o + 6 + 5, none⟩) hb).trans y5
      have zl : b < w1.heap.size := by have := hI1.out.k.size; omega
      replace hb1 := Lib.hid hb1
      go_wp2_with fail
      (with_reducible refine (hE2.out _ (hI1.out.alloc _).k).mono ?_)
      rintro e0 w2 ⟨rfl, hb2⟩
      rw [g0.out]
      have hI2 := Lib.hid ((hI1.out.alloc _).over hb2)
      obtain ⟨b20, b21, b22, b23, b24, b25⟩ := hI2.out.x.all
      obtain ⟨o20, o21, o22, o23, o24, o2f, o2l⟩ := hI2.out.o.all
      have b2l := hI2.out.x.lt
      have hXn := (hb2.block w1.heap.size (by simp)).trans (heap_alloc_new w1 _)
      have xc : w2.cell? ⟨w1.heap.size, 0, none⟩ = some (.int .i64 x.n) := by rw [Lib.cell_of_heap hXn]; rfl
      have xl := lt_of_get hXn
      replace hXn := Lib.hid hXn
      clear hb2
      go_wp2_with fail
      (with_reducible refine (hBd.out _).mono ?_)
      rintro e0 w3 ⟨rfl, hb3⟩
      have hI3 := Lib.hid ((hI2.out.alloc _).over hb3)
      obtain ⟨b30, b31, b32, b33, b34, b35⟩ := hI3.out.x.all
      obtain ⟨o30, o31, o32, o33, o34, o3f, o3l⟩ := hI3.out.o.all
      have b3l := hI3.out.x.lt
      clear hb3
      go_wp2_with fail
      have hz := hI3.out.k
      refine bodyPost_ret (v := .agg #[.int .i64 R.n, .int .i64 R.f, .int .i64 R.l, .int .i64 R.c, .int .i64 R.e]) (by simp [results, Tryz.results12, go_sem, o30, o31, o32, o33, o34]) rfl ⟨rfl, ?_⟩
      go_grown
set_option maxRecDepth 100000 in
set_option maxHeartbeats 3200000 in
theorem rev_b_shra_big (k f ln cc : Int) (s : ByteArray) (a a2 : XH) (an ac an2 ac2 : Nat) (A1 A2 : Option Addr) (b o : Nat) (E : Option Addr) (c m ec : Nat) (w : World) (x y : KR) (hk : k = 4) (hx : XC w b o a A1 an ac) (hy : XC w b (o + 6) a2 A2 an2 ac2) (hb : b < w.heap.size) (h0 : x.e = 0) (g0 : y.e = 0) (_hi : InR x.n) (hj : InR y.n) (hs : s.toList = [62, 62, 62]) (hz0 : 31 < y.n)
    (hE : ∀ W, Below w.heap.size w W → Calls Tryz.prog 12 #[xv a A1 an ac, .slice E m ec] W (RE W x))
    (hE2 : ∀ W, Below w.heap.size w W → Calls Tryz.prog 12 #[xv a2 A2 an2 ac2, .slice E m ec] W (RE W y)) :
    Calls Tryz.prog 12 #[xv ⟨k, f, ln, cc, s⟩ (some ⟨b, o, none⟩) 2 c, .slice E m ec] w (RE w (badR ⟨k, f, ln, cc, s⟩ 3)) := by
      have hI0 := RI.new w ⟨k, f, ln, cc, s⟩ (some ⟨b, o, none⟩) 2 c
      have hG := fun (m : Int) W => rgood_t ⟨k, f, ln, cc, s⟩ (some ⟨b, o, none⟩) 2 c m W
      have hT := fun (b : Bool) W => rtruth_t b W
      subst hk
      obtain ⟨x0, x1, x2, x3, x4, x5⟩ := hx
      obtain ⟨y0, y1, y2, y3, y4, y5⟩ := hy
      obtain ⟨R, hR⟩ : ∃ R, (badR ⟨4, f, ln, cc, s⟩ 3) = R := ⟨_, rfl⟩
      rw [hR]
      unfold RE ov at *
      obtain ⟨b0, b1, b2, b3, b4, b5⟩ := hI0.x.all
      have bl := hI0.x.lt
      replace hE := Lib.hid hE
      replace hE2 := Lib.hid hE2
      replace hI0 := Lib.hid hI0
      replace hG := Lib.hid hG
      replace hT := Lib.hid hT
      replace hR := Lib.hid hR
      unfold InR at _hi hj
      replace h0 := Lib.hid h0
      replace g0 := Lib.hid g0
      have hBd := fun W => rbad_t ⟨4, f, ln, cc, s⟩ (some ⟨b, o, none⟩) 2 c 3 W
      unfold ov at hBd
      rw [hR.out] at hBd
      replace hBd := Lib.hid hBd
      have d1 : decide (y.n < 0) = false := by simp; omega
      have d2 : decide (31 < y.n) = true := by simpa using hz0
      have d3 : ¬ y.n < 0 := by omega
      go_enter Tryz.func12, Tryz.ntmps12
      go_wp2_with fail
      (with_reducible refine (hE.out _ hI0.out.k).mono ?_)
      rintro e0 w1 ⟨rfl, hb1⟩
      rw [h0.out]
      have hI1 := Lib.hid (hI0.out.over hb1)
      obtain ⟨b10, b11, b12, b13, b14, b15⟩ := hI1.out.x.all
      obtain ⟨o10, o11, o12, o13, o14, o1f, o1l⟩ := hI1.out.o.all
      have b1l := hI1.out.x.lt
      have z0 := (hI1.out.k.cell (p := ⟨b, o + 6, none⟩) hb).trans y0
      have z1 := (hI1.out.k.cell (p := ⟨b, o + 6 + 1, none⟩) hb).trans y1
      have z2 := (hI1.out.k.cell (p := ⟨b, o + 6 + 2, none⟩) hb).trans y2
      have z3 := (hI1.out.k.cell (p := ⟨b, o + 6 + 3, none⟩) hb).trans y3
      have z4 := (hI1.out.k.cell (p := ⟨b, o + 6 + 4, none⟩) hb).trans y4
      have z5 := (hI1.out.k.cell (p := ⟨b, o + 6 + 5, none⟩) hb).trans y5
      have zl : b < w1.heap.size := by have := hI1.out.k.size; omega
      replace hb1 := Lib.hid hb1
      go_wp2_with fail
      (with_reducible refine (hE2.out _ (hI1.out.alloc _).k).mono ?_)
      rintro e0 w2 ⟨rfl, hb2⟩
      rw [g0.out]
      have hI2 := Lib.hid ((hI1.out.alloc _).over hb2)
      obtain ⟨b20, b21, b22, b23, b24, b25⟩ := hI2.out.x.all
      obtain ⟨o20, o21, o22, o23, o24, o2f, o2l⟩ := hI2.out.o.all
      have b2l := hI2.out.x.lt
      have hXn := (hb2.block w1.heap.size (by simp)).trans (heap_alloc_new w1 _)
      have xc : w2.cell? ⟨w1.heap.size, 0, none⟩ = some (.int .i64 x.n) := by rw [Lib.cell_of_heap hXn]; rfl
      have xl := lt_of_get hXn
      replace hXn := Lib.hid hXn
      clear hb2
      go_wp2_with fail
      (with_reducible refine (hBd.out _).mono ?_)
      rintro e0 w3 ⟨rfl, hb3⟩
      have hI3 := Lib.hid ((hI2.out.alloc _).over hb3)
      obtain ⟨b30, b31, b32, b33, b34, b35⟩ := hI3.out.x.all
      obtain ⟨o30, o31, o32, o33, o34, o3f, o3l⟩ := hI3.out.o.all
      have b3l := hI3.out.x.lt
      clear hb3
      go_wp2_with fail
      have hz := hI3.out.k
      refine bodyPost_ret (v := .agg #[.int .i64 R.n, .int .i64 R.f, .int .i64 R.l, .int .i64 R.c, .int .i64 R.e]) (by simp [results, Tryz.results12, go_sem, o30, o31, o32, o33, o34]) rfl ⟨rfl, ?_⟩
      go_grown
set_option maxRecDepth 100000 in
set_option maxHeartbeats 3200000 in
theorem rev_b_and (k f ln cc : Int) (s : ByteArray) (a a2 : XH) (an ac an2 ac2 : Nat) (A1 A2 : Option Addr) (b o : Nat) (E : Option Addr) (c m ec : Nat) (w : World) (x y : KR) (hk : k = 4) (hx : XC w b o a A1 an ac) (hy : XC w b (o + 6) a2 A2 an2 ac2) (hb : b < w.heap.size) (h0 : x.e = 0) (g0 : y.e = 0) (hi : InR x.n) (hj : InR y.n) (hs : s.toList = [38]) 
    (hE : ∀ W, Below w.heap.size w W → Calls Tryz.prog 12 #[xv a A1 an ac, .slice E m ec] W (RE W x))
    (hE2 : ∀ W, Below w.heap.size w W → Calls Tryz.prog 12 #[xv a2 A2 an2 ac2, .slice E m ec] W (RE W y)) :
    Calls Tryz.prog 12 #[xv ⟨k, f, ln, cc, s⟩ (some ⟨b, o, none⟩) 2 c, .slice E m ec] w (RE w (chk ⟨k, f, ln, cc, s⟩ (okR (opV [38] x.n y.n)))) := by
      have hI0 := RI.new w ⟨k, f, ln, cc, s⟩ (some ⟨b, o, none⟩) 2 c
      have hG := fun (m : Int) W => rgood_t ⟨k, f, ln, cc, s⟩ (some ⟨b, o, none⟩) 2 c m W
      have hT := fun (b : Bool) W => rtruth_t b W
      subst hk
      obtain ⟨x0, x1, x2, x3, x4, x5⟩ := hx
      obtain ⟨y0, y1, y2, y3, y4, y5⟩ := hy
      obtain ⟨R, hR⟩ : ∃ R, (chk ⟨4, f, ln, cc, s⟩ (okR (opV [38] x.n y.n))) = R := ⟨_, rfl⟩
      rw [hR]
      unfold RE ov at *
      obtain ⟨b0, b1, b2, b3, b4, b5⟩ := hI0.x.all
      have bl := hI0.x.lt
      replace hE := Lib.hid hE
      replace hE2 := Lib.hid hE2
      replace hI0 := Lib.hid hI0
      replace hG := Lib.hid hG
      replace hT := Lib.hid hT
      replace hR := Lib.hid hR
      replace h0 := Lib.hid h0
      replace g0 := Lib.hid g0
      have hBw := fun W => rbw_0 s x.n y.n hi hj W hs
      obtain ⟨bq, hbq⟩ : ∃ bq, opV [38] x.n y.n = bq := ⟨_, rfl⟩
      rw [hbq] at hBw
      replace hR := hR.out
      rw [hbq] at hR
      replace hR := Lib.hid hR
      unfold RV at hBw
      replace hBw := Lib.hid hBw
      unfold InR at hi hj
      go_enter Tryz.func12, Tryz.ntmps12
      go_wp2_with fail
      (with_reducible refine (hE.out _ hI0.out.k).mono ?_)
      rintro e0 w1 ⟨rfl, hb1⟩
      rw [h0.out]
      have hI1 := Lib.hid (hI0.out.over hb1)
      obtain ⟨b10, b11, b12, b13, b14, b15⟩ := hI1.out.x.all
      obtain ⟨o10, o11, o12, o13, o14, o1f, o1l⟩ := hI1.out.o.all
      have b1l := hI1.out.x.lt
      have z0 := (hI1.out.k.cell (p := ⟨b, o + 6, none⟩) hb).trans y0
      have z1 := (hI1.out.k.cell (p := ⟨b, o + 6 + 1, none⟩) hb).trans y1
      have z2 := (hI1.out.k.cell (p := ⟨b, o + 6 + 2, none⟩) hb).trans y2
      have z3 := (hI1.out.k.cell (p := ⟨b, o + 6 + 3, none⟩) hb).trans y3
      have z4 := (hI1.out.k.cell (p := ⟨b, o + 6 + 4, none⟩) hb).trans y4
      have z5 := (hI1.out.k.cell (p := ⟨b, o + 6 + 5, none⟩) hb).trans y5
      have zl : b < w1.heap.size := by have := hI1.out.k.size; omega
      replace hb1 := Lib.hid hb1
      go_wp2_with fail
      (with_reducible refine (hE2.out _ (hI1.out.alloc _).k).mono ?_)
      rintro e0 w2 ⟨rfl, hb2⟩
      rw [g0.out]
      have hI2 := Lib.hid ((hI1.out.alloc _).over hb2)
      obtain ⟨b20, b21, b22, b23, b24, b25⟩ := hI2.out.x.all
      obtain ⟨o20, o21, o22, o23, o24, o2f, o2l⟩ := hI2.out.o.all
      have b2l := hI2.out.x.lt
      have hXn := (hb2.block w1.heap.size (by simp)).trans (heap_alloc_new w1 _)
      have xc : w2.cell? ⟨w1.heap.size, 0, none⟩ = some (.int .i64 x.n) := by rw [Lib.cell_of_heap hXn]; rfl
      have xl := lt_of_get hXn
      replace hXn := Lib.hid hXn
      clear hb2
      go_wp2_with fail
      have hId := Lib.hid ((hI2.out.alloc (.cells #[.int .i64 y.n, .int .i64 y.f, .int .i64 y.l, .int .i64 y.c, .int .i64 0] 50)).drew)
      obtain ⟨v0, hv0⟩ : ∃ W, (w2.alloc (.cells #[.int .i64 y.n, .int .i64 y.f, .int .i64 y.l, .int .i64 y.c, .int .i64 0] 50)).drew = W := ⟨_, rfl⟩
      rw [hv0] at hId
      have hsd := hId.out.x
      refine region_anyT (n := 7) (S := (fun w' => BX w' w.heap.size 33 ⟨4, f, ln, cc, s⟩ (some ⟨b, o, none⟩) 2 c)) (by kernel_rfl) ?_
      rw [hv0]
      refine anyT_take (i := 0) (v := .agg #[.int .i64 4, .int .i64 f, .int .i64 ln, .int .i64 cc, .string s, .slice (some ⟨b, o, none⟩) 2 c]) rfl (by kernel_rfl) (by kernel_rfl) (fun _ _ _ h => h) (Or.inl ⟨by rfl, ?_⟩) hsd ?_
      · intro w' hw'
        obtain ⟨q0, q1, q2, q3, q4, q5⟩ := BX.all hw'
        clear hw'
        go_simp
        try with_reducible rfl
      try simp only [Act.put, List.getElem_toArray, List.getElem_cons_zero, List.setIfInBounds_toArray, List.set_cons_zero, List.set_cons_succ]
      refine anyT_take (i := 1) (v := .pointer (some ⟨w.heap.size, 4, none⟩)) rfl (by kernel_rfl) (by kernel_rfl) (fun _ _ _ h => h) (Or.inl ⟨by rfl, ?_⟩) hsd ?_
      · intro w' hw'
        obtain ⟨q0, q1, q2, q3, q4, q5⟩ := BX.all hw'
        clear hw'
        go_simp
        try with_reducible rfl
      try simp only [Act.put, List.getElem_toArray, List.getElem_cons_zero, List.getElem_cons_succ, List.setIfInBounds_toArray, List.set_cons_zero, List.set_cons_succ]
      refine anyT_take (i := 2) (v := .string s) rfl (by kernel_rfl) (by kernel_rfl) (fun _ _ _ h => h) (Or.inl ⟨by rfl, ?_⟩) hsd ?_
      · intro w' hw'
        obtain ⟨q0, q1, q2, q3, q4, q5⟩ := BX.all hw'
        clear hw'
        go_simp
        try with_reducible rfl
      try simp only [Act.put, List.getElem_toArray, List.getElem_cons_zero, List.getElem_cons_succ, List.setIfInBounds_toArray, List.set_cons_zero, List.set_cons_succ]
      refine anyT_take (i := 3) (v := .int .i64 x.n) rfl (by kernel_rfl) (by kernel_rfl) (fun _ _ _ h => h) (Or.inl ⟨by rfl, ?_⟩) hsd ?_
      · intro w' hw'
        obtain ⟨q0, q1, q2, q3, q4, q5⟩ := BX.all hw'
        clear hw'
        go_simp
        try with_reducible rfl
      try simp only [Act.put, List.getElem_toArray, List.getElem_cons_zero, List.getElem_cons_succ, List.setIfInBounds_toArray, List.set_cons_zero, List.set_cons_succ]
      refine anyT_take (i := 4) (v := .int .i64 y.n) rfl (by kernel_rfl) (by kernel_rfl) (fun _ _ _ h => h) (Or.inl ⟨by rfl, ?_⟩) hsd ?_
      · intro w' hw'
        obtain ⟨q0, q1, q2, q3, q4, q5⟩ := BX.all hw'
        clear hw'
        go_simp
        try with_reducible rfl
      try simp only [Act.put, List.getElem_toArray, List.getElem_cons_zero, List.getElem_cons_succ, List.setIfInBounds_toArray, List.set_cons_zero, List.set_cons_succ]
      refine anyT_one (i := 5) (by kernel_rfl) ?_
      refine wpOp_step rfl (fun K hK => ?_)
      replace hK := Lib.hid hK
      go_simp
      (with_reducible refine (hBw.out _).mono ?_)
      rintro e0 w4 ⟨rfl, hb4⟩
      have hI4 := Lib.hid (hId.out.over hb4)
      have hs4 := hI4.out.x
      refine hK.out _ _ ⟨fun _ => hs4, ?_⟩
      clear hK K hb4
      try simp only [Act.put, List.getElem_toArray, List.getElem_cons_zero, List.getElem_cons_succ, List.setIfInBounds_toArray, List.set_cons_zero, List.set_cons_succ]
      refine anyT_one (i := 6) (by kernel_rfl) ?_
      refine wpOp_step rfl (fun K hK => ?_)
      replace hK := Lib.hid hK
      go_simp
      (with_reducible refine (hG.out _ _).mono ?_)
      rintro e0 w3 ⟨rfl, hb3⟩
      have hI3 := Lib.hid (hI4.out.over hb3)
      obtain ⟨b30, b31, b32, b33, b34, b35⟩ := hI3.out.x.all
      obtain ⟨o30, o31, o32, o33, o34, o3f, o3l⟩ := hI3.out.o.all
      have b3l := hI3.out.x.lt
      have hs3 := hI3.out.x
      refine hK.out _ _ ⟨fun _ => hs3, ?_⟩
      clear hK K hb3
      rw [hR.out]
      try simp only [Act.put, List.getElem_toArray, List.getElem_cons_zero, List.getElem_cons_succ, List.setIfInBounds_toArray, List.set_cons_zero, List.set_cons_succ]
      refine anyT_one (i := 7) (by kernel_rfl) ?_
      refine wpOp_step rfl (fun K hK => ?_)
      replace hK := Lib.hid hK
      go_simp
      refine hK.out _ _ ⟨fun h => absurd h (by decide), ?_⟩
      clear hK K
      try simp only [Act.put, List.getElem_toArray, List.getElem_cons_zero, List.getElem_cons_succ, List.setIfInBounds_toArray, List.set_cons_zero, List.set_cons_succ]
      refine anyT_done (by kernel_rfl) ?_ _
      go_wp2_with fail
      have hz := hI3.out.k
      have five := OZ.five0 hI3.out.o (.int .i64 R.n) (.int .i64 R.f) (.int .i64 R.l) (.int .i64 R.c) (.int .i64 R.e)
      refine bodyPost_ret (v := .agg #[.int .i64 R.n, .int .i64 R.f, .int .i64 R.l, .int .i64 R.c, .int .i64 R.e]) (by simp [results, Tryz.results12, go_sem, five]) rfl ⟨rfl, ?_⟩
      go_grown
set_option maxRecDepth 100000 in
set_option maxHeartbeats 3200000 in
theorem rev_b_or (k f ln cc : Int) (s : ByteArray) (a a2 : XH) (an ac an2 ac2 : Nat) (A1 A2 : Option Addr) (b o : Nat) (E : Option Addr) (c m ec : Nat) (w : World) (x y : KR) (hk : k = 4) (hx : XC w b o a A1 an ac) (hy : XC w b (o + 6) a2 A2 an2 ac2) (hb : b < w.heap.size) (h0 : x.e = 0) (g0 : y.e = 0) (hi : InR x.n) (hj : InR y.n) (hs : s.toList = [124]) 
    (hE : ∀ W, Below w.heap.size w W → Calls Tryz.prog 12 #[xv a A1 an ac, .slice E m ec] W (RE W x))
    (hE2 : ∀ W, Below w.heap.size w W → Calls Tryz.prog 12 #[xv a2 A2 an2 ac2, .slice E m ec] W (RE W y)) :
    Calls Tryz.prog 12 #[xv ⟨k, f, ln, cc, s⟩ (some ⟨b, o, none⟩) 2 c, .slice E m ec] w (RE w (chk ⟨k, f, ln, cc, s⟩ (okR (opV [124] x.n y.n)))) := by
      have hI0 := RI.new w ⟨k, f, ln, cc, s⟩ (some ⟨b, o, none⟩) 2 c
      have hG := fun (m : Int) W => rgood_t ⟨k, f, ln, cc, s⟩ (some ⟨b, o, none⟩) 2 c m W
      have hT := fun (b : Bool) W => rtruth_t b W
      subst hk
      obtain ⟨x0, x1, x2, x3, x4, x5⟩ := hx
      obtain ⟨y0, y1, y2, y3, y4, y5⟩ := hy
      obtain ⟨R, hR⟩ : ∃ R, (chk ⟨4, f, ln, cc, s⟩ (okR (opV [124] x.n y.n))) = R := ⟨_, rfl⟩
      rw [hR]
      unfold RE ov at *
      obtain ⟨b0, b1, b2, b3, b4, b5⟩ := hI0.x.all
      have bl := hI0.x.lt
      replace hE := Lib.hid hE
      replace hE2 := Lib.hid hE2
      replace hI0 := Lib.hid hI0
      replace hG := Lib.hid hG
      replace hT := Lib.hid hT
      replace hR := Lib.hid hR
      replace h0 := Lib.hid h0
      replace g0 := Lib.hid g0
      have hBw := fun W => rbw_1 s x.n y.n hi hj W hs
      obtain ⟨bq, hbq⟩ : ∃ bq, opV [124] x.n y.n = bq := ⟨_, rfl⟩
      rw [hbq] at hBw
      replace hR := hR.out
      rw [hbq] at hR
      replace hR := Lib.hid hR
      unfold RV at hBw
      replace hBw := Lib.hid hBw
      unfold InR at hi hj
      go_enter Tryz.func12, Tryz.ntmps12
      go_wp2_with fail
      (with_reducible refine (hE.out _ hI0.out.k).mono ?_)
      rintro e0 w1 ⟨rfl, hb1⟩
      rw [h0.out]
      have hI1 := Lib.hid (hI0.out.over hb1)
      obtain ⟨b10, b11, b12, b13, b14, b15⟩ := hI1.out.x.all
      obtain ⟨o10, o11, o12, o13, o14, o1f, o1l⟩ := hI1.out.o.all
      have b1l := hI1.out.x.lt
      have z0 := (hI1.out.k.cell (p := ⟨b, o + 6, none⟩) hb).trans y0
      have z1 := (hI1.out.k.cell (p := ⟨b, o + 6 + 1, none⟩) hb).trans y1
      have z2 := (hI1.out.k.cell (p := ⟨b, o + 6 + 2, none⟩) hb).trans y2
      have z3 := (hI1.out.k.cell (p := ⟨b, o + 6 + 3, none⟩) hb).trans y3
      have z4 := (hI1.out.k.cell (p := ⟨b, o + 6 + 4, none⟩) hb).trans y4
      have z5 := (hI1.out.k.cell (p := ⟨b, o + 6 + 5, none⟩) hb).trans y5
      have zl : b < w1.heap.size := by have := hI1.out.k.size; omega
      replace hb1 := Lib.hid hb1
      go_wp2_with fail
      (with_reducible refine (hE2.out _ (hI1.out.alloc _).k).mono ?_)
      rintro e0 w2 ⟨rfl, hb2⟩
      rw [g0.out]
      have hI2 := Lib.hid ((hI1.out.alloc _).over hb2)
      obtain ⟨b20, b21, b22, b23, b24, b25⟩ := hI2.out.x.all
      obtain ⟨o20, o21, o22, o23, o24, o2f, o2l⟩ := hI2.out.o.all
      have b2l := hI2.out.x.lt
      have hXn := (hb2.block w1.heap.size (by simp)).trans (heap_alloc_new w1 _)
      have xc : w2.cell? ⟨w1.heap.size, 0, none⟩ = some (.int .i64 x.n) := by rw [Lib.cell_of_heap hXn]; rfl
      have xl := lt_of_get hXn
      replace hXn := Lib.hid hXn
      clear hb2
      go_wp2_with fail
      have hId := Lib.hid ((hI2.out.alloc (.cells #[.int .i64 y.n, .int .i64 y.f, .int .i64 y.l, .int .i64 y.c, .int .i64 0] 50)).drew)
      obtain ⟨v0, hv0⟩ : ∃ W, (w2.alloc (.cells #[.int .i64 y.n, .int .i64 y.f, .int .i64 y.l, .int .i64 y.c, .int .i64 0] 50)).drew = W := ⟨_, rfl⟩
      rw [hv0] at hId
      have hsd := hId.out.x
      refine region_anyT (n := 7) (S := (fun w' => BX w' w.heap.size 33 ⟨4, f, ln, cc, s⟩ (some ⟨b, o, none⟩) 2 c)) (by kernel_rfl) ?_
      rw [hv0]
      refine anyT_take (i := 0) (v := .agg #[.int .i64 4, .int .i64 f, .int .i64 ln, .int .i64 cc, .string s, .slice (some ⟨b, o, none⟩) 2 c]) rfl (by kernel_rfl) (by kernel_rfl) (fun _ _ _ h => h) (Or.inl ⟨by rfl, ?_⟩) hsd ?_
      · intro w' hw'
        obtain ⟨q0, q1, q2, q3, q4, q5⟩ := BX.all hw'
        clear hw'
        go_simp
        try with_reducible rfl
      try simp only [Act.put, List.getElem_toArray, List.getElem_cons_zero, List.setIfInBounds_toArray, List.set_cons_zero, List.set_cons_succ]
      refine anyT_take (i := 1) (v := .pointer (some ⟨w.heap.size, 4, none⟩)) rfl (by kernel_rfl) (by kernel_rfl) (fun _ _ _ h => h) (Or.inl ⟨by rfl, ?_⟩) hsd ?_
      · intro w' hw'
        obtain ⟨q0, q1, q2, q3, q4, q5⟩ := BX.all hw'
        clear hw'
        go_simp
        try with_reducible rfl
      try simp only [Act.put, List.getElem_toArray, List.getElem_cons_zero, List.getElem_cons_succ, List.setIfInBounds_toArray, List.set_cons_zero, List.set_cons_succ]
      refine anyT_take (i := 2) (v := .string s) rfl (by kernel_rfl) (by kernel_rfl) (fun _ _ _ h => h) (Or.inl ⟨by rfl, ?_⟩) hsd ?_
      · intro w' hw'
        obtain ⟨q0, q1, q2, q3, q4, q5⟩ := BX.all hw'
        clear hw'
        go_simp
        try with_reducible rfl
      try simp only [Act.put, List.getElem_toArray, List.getElem_cons_zero, List.getElem_cons_succ, List.setIfInBounds_toArray, List.set_cons_zero, List.set_cons_succ]
      refine anyT_take (i := 3) (v := .int .i64 x.n) rfl (by kernel_rfl) (by kernel_rfl) (fun _ _ _ h => h) (Or.inl ⟨by rfl, ?_⟩) hsd ?_
      · intro w' hw'
        obtain ⟨q0, q1, q2, q3, q4, q5⟩ := BX.all hw'
        clear hw'
        go_simp
        try with_reducible rfl
      try simp only [Act.put, List.getElem_toArray, List.getElem_cons_zero, List.getElem_cons_succ, List.setIfInBounds_toArray, List.set_cons_zero, List.set_cons_succ]
      refine anyT_take (i := 4) (v := .int .i64 y.n) rfl (by kernel_rfl) (by kernel_rfl) (fun _ _ _ h => h) (Or.inl ⟨by rfl, ?_⟩) hsd ?_
      · intro w' hw'
        obtain ⟨q0, q1, q2, q3, q4, q5⟩ := BX.all hw'
        clear hw'
        go_simp
        try with_reducible rfl
      try simp only [Act.put, List.getElem_toArray, List.getElem_cons_zero, List.getElem_cons_succ, List.setIfInBounds_toArray, List.set_cons_zero, List.set_cons_succ]
      refine anyT_one (i := 5) (by kernel_rfl) ?_
      refine wpOp_step rfl (fun K hK => ?_)
      replace hK := Lib.hid hK
      go_simp
      (with_reducible refine (hBw.out _).mono ?_)
      rintro e0 w4 ⟨rfl, hb4⟩
      have hI4 := Lib.hid (hId.out.over hb4)
      have hs4 := hI4.out.x
      refine hK.out _ _ ⟨fun _ => hs4, ?_⟩
      clear hK K hb4
      try simp only [Act.put, List.getElem_toArray, List.getElem_cons_zero, List.getElem_cons_succ, List.setIfInBounds_toArray, List.set_cons_zero, List.set_cons_succ]
      refine anyT_one (i := 6) (by kernel_rfl) ?_
      refine wpOp_step rfl (fun K hK => ?_)
      replace hK := Lib.hid hK
      go_simp
      (with_reducible refine (hG.out _ _).mono ?_)
      rintro e0 w3 ⟨rfl, hb3⟩
      have hI3 := Lib.hid (hI4.out.over hb3)
      obtain ⟨b30, b31, b32, b33, b34, b35⟩ := hI3.out.x.all
      obtain ⟨o30, o31, o32, o33, o34, o3f, o3l⟩ := hI3.out.o.all
      have b3l := hI3.out.x.lt
      have hs3 := hI3.out.x
      refine hK.out _ _ ⟨fun _ => hs3, ?_⟩
      clear hK K hb3
      rw [hR.out]
      try simp only [Act.put, List.getElem_toArray, List.getElem_cons_zero, List.getElem_cons_succ, List.setIfInBounds_toArray, List.set_cons_zero, List.set_cons_succ]
      refine anyT_one (i := 7) (by kernel_rfl) ?_
      refine wpOp_step rfl (fun K hK => ?_)
      replace hK := Lib.hid hK
      go_simp
      refine hK.out _ _ ⟨fun h => absurd h (by decide), ?_⟩
      clear hK K
      try simp only [Act.put, List.getElem_toArray, List.getElem_cons_zero, List.getElem_cons_succ, List.setIfInBounds_toArray, List.set_cons_zero, List.set_cons_succ]
      refine anyT_done (by kernel_rfl) ?_ _
      go_wp2_with fail
      have hz := hI3.out.k
      have five := OZ.five0 hI3.out.o (.int .i64 R.n) (.int .i64 R.f) (.int .i64 R.l) (.int .i64 R.c) (.int .i64 R.e)
      refine bodyPost_ret (v := .agg #[.int .i64 R.n, .int .i64 R.f, .int .i64 R.l, .int .i64 R.c, .int .i64 R.e]) (by simp [results, Tryz.results12, go_sem, five]) rfl ⟨rfl, ?_⟩
      go_grown
set_option maxRecDepth 100000 in
set_option maxHeartbeats 3200000 in
theorem rev_b_xor (k f ln cc : Int) (s : ByteArray) (a a2 : XH) (an ac an2 ac2 : Nat) (A1 A2 : Option Addr) (b o : Nat) (E : Option Addr) (c m ec : Nat) (w : World) (x y : KR) (hk : k = 4) (hx : XC w b o a A1 an ac) (hy : XC w b (o + 6) a2 A2 an2 ac2) (hb : b < w.heap.size) (h0 : x.e = 0) (g0 : y.e = 0) (hi : InR x.n) (hj : InR y.n) (hs : s.toList = [94]) 
    (hE : ∀ W, Below w.heap.size w W → Calls Tryz.prog 12 #[xv a A1 an ac, .slice E m ec] W (RE W x))
    (hE2 : ∀ W, Below w.heap.size w W → Calls Tryz.prog 12 #[xv a2 A2 an2 ac2, .slice E m ec] W (RE W y)) :
    Calls Tryz.prog 12 #[xv ⟨k, f, ln, cc, s⟩ (some ⟨b, o, none⟩) 2 c, .slice E m ec] w (RE w (chk ⟨k, f, ln, cc, s⟩ (okR (opV [94] x.n y.n)))) := by
      have hI0 := RI.new w ⟨k, f, ln, cc, s⟩ (some ⟨b, o, none⟩) 2 c
      have hG := fun (m : Int) W => rgood_t ⟨k, f, ln, cc, s⟩ (some ⟨b, o, none⟩) 2 c m W
      have hT := fun (b : Bool) W => rtruth_t b W
      subst hk
      obtain ⟨x0, x1, x2, x3, x4, x5⟩ := hx
      obtain ⟨y0, y1, y2, y3, y4, y5⟩ := hy
      obtain ⟨R, hR⟩ : ∃ R, (chk ⟨4, f, ln, cc, s⟩ (okR (opV [94] x.n y.n))) = R := ⟨_, rfl⟩
      rw [hR]
      unfold RE ov at *
      obtain ⟨b0, b1, b2, b3, b4, b5⟩ := hI0.x.all
      have bl := hI0.x.lt
      replace hE := Lib.hid hE
      replace hE2 := Lib.hid hE2
      replace hI0 := Lib.hid hI0
      replace hG := Lib.hid hG
      replace hT := Lib.hid hT
      replace hR := Lib.hid hR
      replace h0 := Lib.hid h0
      replace g0 := Lib.hid g0
      have hBw := fun W => rbw_2 s x.n y.n hi hj W hs
      obtain ⟨bq, hbq⟩ : ∃ bq, opV [94] x.n y.n = bq := ⟨_, rfl⟩
      rw [hbq] at hBw
      replace hR := hR.out
      rw [hbq] at hR
      replace hR := Lib.hid hR
      unfold RV at hBw
      replace hBw := Lib.hid hBw
      unfold InR at hi hj
      go_enter Tryz.func12, Tryz.ntmps12
      go_wp2_with fail
      (with_reducible refine (hE.out _ hI0.out.k).mono ?_)
      rintro e0 w1 ⟨rfl, hb1⟩
      rw [h0.out]
      have hI1 := Lib.hid (hI0.out.over hb1)
      obtain ⟨b10, b11, b12, b13, b14, b15⟩ := hI1.out.x.all
      obtain ⟨o10, o11, o12, o13, o14, o1f, o1l⟩ := hI1.out.o.all
      have b1l := hI1.out.x.lt
      have z0 := (hI1.out.k.cell (p := ⟨b, o + 6, none⟩) hb).trans y0
      have z1 := (hI1.out.k.cell (p := ⟨b, o + 6 + 1, none⟩) hb).trans y1
      have z2 := (hI1.out.k.cell (p := ⟨b, o + 6 + 2, none⟩) hb).trans y2
      have z3 := (hI1.out.k.cell (p := ⟨b, o + 6 + 3, none⟩) hb).trans y3
      have z4 := (hI1.out.k.cell (p := ⟨b, o + 6 + 4, none⟩) hb).trans y4
      have z5 := (hI1.out.k.cell (p := ⟨b, o + 6 + 5, none⟩) hb).trans y5
      have zl : b < w1.heap.size := by have := hI1.out.k.size; omega
      replace hb1 := Lib.hid hb1
      go_wp2_with fail
      (with_reducible refine (hE2.out _ (hI1.out.alloc _).k).mono ?_)
      rintro e0 w2 ⟨rfl, hb2⟩
      rw [g0.out]
      have hI2 := Lib.hid ((hI1.out.alloc _).over hb2)
      obtain ⟨b20, b21, b22, b23, b24, b25⟩ := hI2.out.x.all
      obtain ⟨o20, o21, o22, o23, o24, o2f, o2l⟩ := hI2.out.o.all
      have b2l := hI2.out.x.lt
      have hXn := (hb2.block w1.heap.size (by simp)).trans (heap_alloc_new w1 _)
      have xc : w2.cell? ⟨w1.heap.size, 0, none⟩ = some (.int .i64 x.n) := by rw [Lib.cell_of_heap hXn]; rfl
      have xl := lt_of_get hXn
      replace hXn := Lib.hid hXn
      clear hb2
      go_wp2_with fail
      have hId := Lib.hid ((hI2.out.alloc (.cells #[.int .i64 y.n, .int .i64 y.f, .int .i64 y.l, .int .i64 y.c, .int .i64 0] 50)).drew)
      obtain ⟨v0, hv0⟩ : ∃ W, (w2.alloc (.cells #[.int .i64 y.n, .int .i64 y.f, .int .i64 y.l, .int .i64 y.c, .int .i64 0] 50)).drew = W := ⟨_, rfl⟩
      rw [hv0] at hId
      have hsd := hId.out.x
      refine region_anyT (n := 7) (S := (fun w' => BX w' w.heap.size 33 ⟨4, f, ln, cc, s⟩ (some ⟨b, o, none⟩) 2 c)) (by kernel_rfl) ?_
      rw [hv0]
      refine anyT_take (i := 0) (v := .agg #[.int .i64 4, .int .i64 f, .int .i64 ln, .int .i64 cc, .string s, .slice (some ⟨b, o, none⟩) 2 c]) rfl (by kernel_rfl) (by kernel_rfl) (fun _ _ _ h => h) (Or.inl ⟨by rfl, ?_⟩) hsd ?_
      · intro w' hw'
        obtain ⟨q0, q1, q2, q3, q4, q5⟩ := BX.all hw'
        clear hw'
        go_simp
        try with_reducible rfl
      try simp only [Act.put, List.getElem_toArray, List.getElem_cons_zero, List.setIfInBounds_toArray, List.set_cons_zero, List.set_cons_succ]
      refine anyT_take (i := 1) (v := .pointer (some ⟨w.heap.size, 4, none⟩)) rfl (by kernel_rfl) (by kernel_rfl) (fun _ _ _ h => h) (Or.inl ⟨by rfl, ?_⟩) hsd ?_
      · intro w' hw'
        obtain ⟨q0, q1, q2, q3, q4, q5⟩ := BX.all hw'
        clear hw'
        go_simp
        try with_reducible rfl
      try simp only [Act.put, List.getElem_toArray, List.getElem_cons_zero, List.getElem_cons_succ, List.setIfInBounds_toArray, List.set_cons_zero, List.set_cons_succ]
      refine anyT_take (i := 2) (v := .string s) rfl (by kernel_rfl) (by kernel_rfl) (fun _ _ _ h => h) (Or.inl ⟨by rfl, ?_⟩) hsd ?_
      · intro w' hw'
        obtain ⟨q0, q1, q2, q3, q4, q5⟩ := BX.all hw'
        clear hw'
        go_simp
        try with_reducible rfl
      try simp only [Act.put, List.getElem_toArray, List.getElem_cons_zero, List.getElem_cons_succ, List.setIfInBounds_toArray, List.set_cons_zero, List.set_cons_succ]
      refine anyT_take (i := 3) (v := .int .i64 x.n) rfl (by kernel_rfl) (by kernel_rfl) (fun _ _ _ h => h) (Or.inl ⟨by rfl, ?_⟩) hsd ?_
      · intro w' hw'
        obtain ⟨q0, q1, q2, q3, q4, q5⟩ := BX.all hw'
        clear hw'
        go_simp
        try with_reducible rfl
      try simp only [Act.put, List.getElem_toArray, List.getElem_cons_zero, List.getElem_cons_succ, List.setIfInBounds_toArray, List.set_cons_zero, List.set_cons_succ]
      refine anyT_take (i := 4) (v := .int .i64 y.n) rfl (by kernel_rfl) (by kernel_rfl) (fun _ _ _ h => h) (Or.inl ⟨by rfl, ?_⟩) hsd ?_
      · intro w' hw'
        obtain ⟨q0, q1, q2, q3, q4, q5⟩ := BX.all hw'
        clear hw'
        go_simp
        try with_reducible rfl
      try simp only [Act.put, List.getElem_toArray, List.getElem_cons_zero, List.getElem_cons_succ, List.setIfInBounds_toArray, List.set_cons_zero, List.set_cons_succ]
      refine anyT_one (i := 5) (by kernel_rfl) ?_
      refine wpOp_step rfl (fun K hK => ?_)
      replace hK := Lib.hid hK
      go_simp
      (with_reducible refine (hBw.out _).mono ?_)
      rintro e0 w4 ⟨rfl, hb4⟩
      have hI4 := Lib.hid (hId.out.over hb4)
      have hs4 := hI4.out.x
      refine hK.out _ _ ⟨fun _ => hs4, ?_⟩
      clear hK K hb4
      try simp only [Act.put, List.getElem_toArray, List.getElem_cons_zero, List.getElem_cons_succ, List.setIfInBounds_toArray, List.set_cons_zero, List.set_cons_succ]
      refine anyT_one (i := 6) (by kernel_rfl) ?_
      refine wpOp_step rfl (fun K hK => ?_)
      replace hK := Lib.hid hK
      go_simp
      (with_reducible refine (hG.out _ _).mono ?_)
      rintro e0 w3 ⟨rfl, hb3⟩
      have hI3 := Lib.hid (hI4.out.over hb3)
      obtain ⟨b30, b31, b32, b33, b34, b35⟩ := hI3.out.x.all
      obtain ⟨o30, o31, o32, o33, o34, o3f, o3l⟩ := hI3.out.o.all
      have b3l := hI3.out.x.lt
      have hs3 := hI3.out.x
      refine hK.out _ _ ⟨fun _ => hs3, ?_⟩
      clear hK K hb3
      rw [hR.out]
      try simp only [Act.put, List.getElem_toArray, List.getElem_cons_zero, List.getElem_cons_succ, List.setIfInBounds_toArray, List.set_cons_zero, List.set_cons_succ]
      refine anyT_one (i := 7) (by kernel_rfl) ?_
      refine wpOp_step rfl (fun K hK => ?_)
      replace hK := Lib.hid hK
      go_simp
      refine hK.out _ _ ⟨fun h => absurd h (by decide), ?_⟩
      clear hK K
      try simp only [Act.put, List.getElem_toArray, List.getElem_cons_zero, List.getElem_cons_succ, List.setIfInBounds_toArray, List.set_cons_zero, List.set_cons_succ]
      refine anyT_done (by kernel_rfl) ?_ _
      go_wp2_with fail
      have hz := hI3.out.k
      have five := OZ.five0 hI3.out.o (.int .i64 R.n) (.int .i64 R.f) (.int .i64 R.l) (.int .i64 R.c) (.int .i64 R.e)
      refine bodyPost_ret (v := .agg #[.int .i64 R.n, .int .i64 R.f, .int .i64 R.l, .int .i64 R.c, .int .i64 R.e]) (by simp [results, Tryz.results12, go_sem, five]) rfl ⟨rfl, ?_⟩
      go_grown
set_option maxRecDepth 100000 in
set_option maxHeartbeats 3200000 in
theorem rev_b_xnor (k f ln cc : Int) (s : ByteArray) (a a2 : XH) (an ac an2 ac2 : Nat) (A1 A2 : Option Addr) (b o : Nat) (E : Option Addr) (c m ec : Nat) (w : World) (x y : KR) (hk : k = 4) (hx : XC w b o a A1 an ac) (hy : XC w b (o + 6) a2 A2 an2 ac2) (hb : b < w.heap.size) (h0 : x.e = 0) (g0 : y.e = 0) (hi : InR x.n) (hj : InR y.n) (hs : s.toList = [126, 94]) 
    (hE : ∀ W, Below w.heap.size w W → Calls Tryz.prog 12 #[xv a A1 an ac, .slice E m ec] W (RE W x))
    (hE2 : ∀ W, Below w.heap.size w W → Calls Tryz.prog 12 #[xv a2 A2 an2 ac2, .slice E m ec] W (RE W y)) :
    Calls Tryz.prog 12 #[xv ⟨k, f, ln, cc, s⟩ (some ⟨b, o, none⟩) 2 c, .slice E m ec] w (RE w (chk ⟨k, f, ln, cc, s⟩ (okR (opV [126, 94] x.n y.n)))) := by
      have hI0 := RI.new w ⟨k, f, ln, cc, s⟩ (some ⟨b, o, none⟩) 2 c
      have hG := fun (m : Int) W => rgood_t ⟨k, f, ln, cc, s⟩ (some ⟨b, o, none⟩) 2 c m W
      have hT := fun (b : Bool) W => rtruth_t b W
      subst hk
      obtain ⟨x0, x1, x2, x3, x4, x5⟩ := hx
      obtain ⟨y0, y1, y2, y3, y4, y5⟩ := hy
      obtain ⟨R, hR⟩ : ∃ R, (chk ⟨4, f, ln, cc, s⟩ (okR (opV [126, 94] x.n y.n))) = R := ⟨_, rfl⟩
      rw [hR]
      unfold RE ov at *
      obtain ⟨b0, b1, b2, b3, b4, b5⟩ := hI0.x.all
      have bl := hI0.x.lt
      replace hE := Lib.hid hE
      replace hE2 := Lib.hid hE2
      replace hI0 := Lib.hid hI0
      replace hG := Lib.hid hG
      replace hT := Lib.hid hT
      replace hR := Lib.hid hR
      replace h0 := Lib.hid h0
      replace g0 := Lib.hid g0
      have hBw := fun W => rbw_3 s x.n y.n hi hj W hs
      obtain ⟨bq, hbq⟩ : ∃ bq, opV [126, 94] x.n y.n = bq := ⟨_, rfl⟩
      rw [hbq] at hBw
      replace hR := hR.out
      rw [hbq] at hR
      replace hR := Lib.hid hR
      unfold RV at hBw
      replace hBw := Lib.hid hBw
      unfold InR at hi hj
      go_enter Tryz.func12, Tryz.ntmps12
      go_wp2_with fail
      (with_reducible refine (hE.out _ hI0.out.k).mono ?_)
      rintro e0 w1 ⟨rfl, hb1⟩
      rw [h0.out]
      have hI1 := Lib.hid (hI0.out.over hb1)
      obtain ⟨b10, b11, b12, b13, b14, b15⟩ := hI1.out.x.all
      obtain ⟨o10, o11, o12, o13, o14, o1f, o1l⟩ := hI1.out.o.all
      have b1l := hI1.out.x.lt
      have z0 := (hI1.out.k.cell (p := ⟨b, o + 6, none⟩) hb).trans y0
      have z1 := (hI1.out.k.cell (p := ⟨b, o + 6 + 1, none⟩) hb).trans y1
      have z2 := (hI1.out.k.cell (p := ⟨b, o + 6 + 2, none⟩) hb).trans y2
      have z3 := (hI1.out.k.cell (p := ⟨b, o + 6 + 3, none⟩) hb).trans y3
      have z4 := (hI1.out.k.cell (p := ⟨b, o + 6 + 4, none⟩) hb).trans y4
      have z5 := (hI1.out.k.cell (p := ⟨b, o + 6 + 5, none⟩) hb).trans y5
      have zl : b < w1.heap.size := by have := hI1.out.k.size; omega
      replace hb1 := Lib.hid hb1
      go_wp2_with fail
      (with_reducible refine (hE2.out _ (hI1.out.alloc _).k).mono ?_)
      rintro e0 w2 ⟨rfl, hb2⟩
      rw [g0.out]
      have hI2 := Lib.hid ((hI1.out.alloc _).over hb2)
      obtain ⟨b20, b21, b22, b23, b24, b25⟩ := hI2.out.x.all
      obtain ⟨o20, o21, o22, o23, o24, o2f, o2l⟩ := hI2.out.o.all
      have b2l := hI2.out.x.lt
      have hXn := (hb2.block w1.heap.size (by simp)).trans (heap_alloc_new w1 _)
      have xc : w2.cell? ⟨w1.heap.size, 0, none⟩ = some (.int .i64 x.n) := by rw [Lib.cell_of_heap hXn]; rfl
      have xl := lt_of_get hXn
      replace hXn := Lib.hid hXn
      clear hb2
      go_wp2_with fail
      have hId := Lib.hid ((hI2.out.alloc (.cells #[.int .i64 y.n, .int .i64 y.f, .int .i64 y.l, .int .i64 y.c, .int .i64 0] 50)).drew)
      obtain ⟨v0, hv0⟩ : ∃ W, (w2.alloc (.cells #[.int .i64 y.n, .int .i64 y.f, .int .i64 y.l, .int .i64 y.c, .int .i64 0] 50)).drew = W := ⟨_, rfl⟩
      rw [hv0] at hId
      have hsd := hId.out.x
      refine region_anyT (n := 7) (S := (fun w' => BX w' w.heap.size 33 ⟨4, f, ln, cc, s⟩ (some ⟨b, o, none⟩) 2 c)) (by kernel_rfl) ?_
      rw [hv0]
      refine anyT_take (i := 0) (v := .agg #[.int .i64 4, .int .i64 f, .int .i64 ln, .int .i64 cc, .string s, .slice (some ⟨b, o, none⟩) 2 c]) rfl (by kernel_rfl) (by kernel_rfl) (fun _ _ _ h => h) (Or.inl ⟨by rfl, ?_⟩) hsd ?_
      · intro w' hw'
        obtain ⟨q0, q1, q2, q3, q4, q5⟩ := BX.all hw'
        clear hw'
        go_simp
        try with_reducible rfl
      try simp only [Act.put, List.getElem_toArray, List.getElem_cons_zero, List.setIfInBounds_toArray, List.set_cons_zero, List.set_cons_succ]
      refine anyT_take (i := 1) (v := .pointer (some ⟨w.heap.size, 4, none⟩)) rfl (by kernel_rfl) (by kernel_rfl) (fun _ _ _ h => h) (Or.inl ⟨by rfl, ?_⟩) hsd ?_
      · intro w' hw'
        obtain ⟨q0, q1, q2, q3, q4, q5⟩ := BX.all hw'
        clear hw'
        go_simp
        try with_reducible rfl
      try simp only [Act.put, List.getElem_toArray, List.getElem_cons_zero, List.getElem_cons_succ, List.setIfInBounds_toArray, List.set_cons_zero, List.set_cons_succ]
      refine anyT_take (i := 2) (v := .string s) rfl (by kernel_rfl) (by kernel_rfl) (fun _ _ _ h => h) (Or.inl ⟨by rfl, ?_⟩) hsd ?_
      · intro w' hw'
        obtain ⟨q0, q1, q2, q3, q4, q5⟩ := BX.all hw'
        clear hw'
        go_simp
        try with_reducible rfl
      try simp only [Act.put, List.getElem_toArray, List.getElem_cons_zero, List.getElem_cons_succ, List.setIfInBounds_toArray, List.set_cons_zero, List.set_cons_succ]
      refine anyT_take (i := 3) (v := .int .i64 x.n) rfl (by kernel_rfl) (by kernel_rfl) (fun _ _ _ h => h) (Or.inl ⟨by rfl, ?_⟩) hsd ?_
      · intro w' hw'
        obtain ⟨q0, q1, q2, q3, q4, q5⟩ := BX.all hw'
        clear hw'
        go_simp
        try with_reducible rfl
      try simp only [Act.put, List.getElem_toArray, List.getElem_cons_zero, List.getElem_cons_succ, List.setIfInBounds_toArray, List.set_cons_zero, List.set_cons_succ]
      refine anyT_take (i := 4) (v := .int .i64 y.n) rfl (by kernel_rfl) (by kernel_rfl) (fun _ _ _ h => h) (Or.inl ⟨by rfl, ?_⟩) hsd ?_
      · intro w' hw'
        obtain ⟨q0, q1, q2, q3, q4, q5⟩ := BX.all hw'
        clear hw'
        go_simp
        try with_reducible rfl
      try simp only [Act.put, List.getElem_toArray, List.getElem_cons_zero, List.getElem_cons_succ, List.setIfInBounds_toArray, List.set_cons_zero, List.set_cons_succ]
      refine anyT_one (i := 5) (by kernel_rfl) ?_
      refine wpOp_step rfl (fun K hK => ?_)
      replace hK := Lib.hid hK
      go_simp
      (with_reducible refine (hBw.out _).mono ?_)
      rintro e0 w4 ⟨rfl, hb4⟩
      have hI4 := Lib.hid (hId.out.over hb4)
      have hs4 := hI4.out.x
      refine hK.out _ _ ⟨fun _ => hs4, ?_⟩
      clear hK K hb4
      try simp only [Act.put, List.getElem_toArray, List.getElem_cons_zero, List.getElem_cons_succ, List.setIfInBounds_toArray, List.set_cons_zero, List.set_cons_succ]
      refine anyT_one (i := 6) (by kernel_rfl) ?_
      refine wpOp_step rfl (fun K hK => ?_)
      replace hK := Lib.hid hK
      go_simp
      (with_reducible refine (hG.out _ _).mono ?_)
      rintro e0 w3 ⟨rfl, hb3⟩
      have hI3 := Lib.hid (hI4.out.over hb3)
      obtain ⟨b30, b31, b32, b33, b34, b35⟩ := hI3.out.x.all
      obtain ⟨o30, o31, o32, o33, o34, o3f, o3l⟩ := hI3.out.o.all
      have b3l := hI3.out.x.lt
      have hs3 := hI3.out.x
      refine hK.out _ _ ⟨fun _ => hs3, ?_⟩
      clear hK K hb3
      rw [hR.out]
      try simp only [Act.put, List.getElem_toArray, List.getElem_cons_zero, List.getElem_cons_succ, List.setIfInBounds_toArray, List.set_cons_zero, List.set_cons_succ]
      refine anyT_one (i := 7) (by kernel_rfl) ?_
      refine wpOp_step rfl (fun K hK => ?_)
      replace hK := Lib.hid hK
      go_simp
      refine hK.out _ _ ⟨fun h => absurd h (by decide), ?_⟩
      clear hK K
      try simp only [Act.put, List.getElem_toArray, List.getElem_cons_zero, List.getElem_cons_succ, List.setIfInBounds_toArray, List.set_cons_zero, List.set_cons_succ]
      refine anyT_done (by kernel_rfl) ?_ _
      go_wp2_with fail
      have hz := hI3.out.k
      have five := OZ.five0 hI3.out.o (.int .i64 R.n) (.int .i64 R.f) (.int .i64 R.l) (.int .i64 R.c) (.int .i64 R.e)
      refine bodyPost_ret (v := .agg #[.int .i64 R.n, .int .i64 R.f, .int .i64 R.l, .int .i64 R.c, .int .i64 R.e]) (by simp [results, Tryz.results12, go_sem, five]) rfl ⟨rfl, ?_⟩
      go_grown
set_option maxRecDepth 100000 in
set_option maxHeartbeats 3200000 in
theorem rev_b_shl (k f ln cc : Int) (s : ByteArray) (a a2 : XH) (an ac an2 ac2 : Nat) (A1 A2 : Option Addr) (b o : Nat) (E : Option Addr) (c m ec : Nat) (w : World) (x y : KR) (hk : k = 4) (hx : XC w b o a A1 an ac) (hy : XC w b (o + 6) a2 A2 an2 ac2) (hb : b < w.heap.size) (h0 : x.e = 0) (g0 : y.e = 0) (hi : InR x.n) (hj : InR y.n) (hs : s.toList = [60, 60]) (hz0 : 0 ≤ y.n ∧ y.n ≤ 31)
    (hE : ∀ W, Below w.heap.size w W → Calls Tryz.prog 12 #[xv a A1 an ac, .slice E m ec] W (RE W x))
    (hE2 : ∀ W, Below w.heap.size w W → Calls Tryz.prog 12 #[xv a2 A2 an2 ac2, .slice E m ec] W (RE W y)) :
    Calls Tryz.prog 12 #[xv ⟨k, f, ln, cc, s⟩ (some ⟨b, o, none⟩) 2 c, .slice E m ec] w (RE w (chk ⟨k, f, ln, cc, s⟩ (okR (x.n * 2 ^ y.n.toNat)))) := by
      have hI0 := RI.new w ⟨k, f, ln, cc, s⟩ (some ⟨b, o, none⟩) 2 c
      have hG := fun (m : Int) W => rgood_t ⟨k, f, ln, cc, s⟩ (some ⟨b, o, none⟩) 2 c m W
      have hT := fun (b : Bool) W => rtruth_t b W
      subst hk
      obtain ⟨x0, x1, x2, x3, x4, x5⟩ := hx
      obtain ⟨y0, y1, y2, y3, y4, y5⟩ := hy
      obtain ⟨R, hR⟩ : ∃ R, (chk ⟨4, f, ln, cc, s⟩ (okR (x.n * 2 ^ y.n.toNat))) = R := ⟨_, rfl⟩
      rw [hR]
      unfold RE ov at *
      obtain ⟨b0, b1, b2, b3, b4, b5⟩ := hI0.x.all
      have bl := hI0.x.lt
      replace hE := Lib.hid hE
      replace hE2 := Lib.hid hE2
      replace hI0 := Lib.hid hI0
      replace hG := Lib.hid hG
      replace hT := Lib.hid hT
      replace hR := Lib.hid hR
      unfold InR at hi hj
      replace h0 := Lib.hid h0
      replace g0 := Lib.hid g0
      have hPw := fun W => rpower_t y.n.toNat (by omega) W
      have hpi := pow_inT y.n.toNat (by omega)
      rw [Int.toNat_of_nonneg hz0.1] at hPw
      obtain ⟨Q, hQ⟩ : ∃ Q : Int, 2 ^ y.n.toNat = Q := ⟨_, rfl⟩
      rw [hQ] at hPw hpi
      replace hR := hR.out
      rw [hQ] at hR
      replace hR := Lib.hid hR
      have hmi := mul_inT (A := 2147483648) (B := 2147483648) (a := x.n) (b := Q) ⟨by omega, by omega⟩ ⟨by omega, by omega⟩
      have hmw : IntKind.i64.wrap (x.n * Q) = x.n * Q := IntWalk.i64_in _ (by omega)
      have d1 : decide (y.n < 0) = false := by simp; omega
      have d2 : decide (31 < y.n) = false := by simp; omega
      have d3 : ¬ y.n < 0 := by omega
      have d4 : ¬ 31 < y.n := by omega
      replace hmi := Lib.hid hmi
      replace hPw := Lib.hid hPw
      clear hQ
      go_enter Tryz.func12, Tryz.ntmps12
      go_wp2_with fail
      (with_reducible refine (hE.out _ hI0.out.k).mono ?_)
      rintro e0 w1 ⟨rfl, hb1⟩
      rw [h0.out]
      have hI1 := Lib.hid (hI0.out.over hb1)
      obtain ⟨b10, b11, b12, b13, b14, b15⟩ := hI1.out.x.all
      obtain ⟨o10, o11, o12, o13, o14, o1f, o1l⟩ := hI1.out.o.all
      have b1l := hI1.out.x.lt
      have z0 := (hI1.out.k.cell (p := ⟨b, o + 6, none⟩) hb).trans y0
      have z1 := (hI1.out.k.cell (p := ⟨b, o + 6 + 1, none⟩) hb).trans y1
      have z2 := (hI1.out.k.cell (p := ⟨b, o + 6 + 2, none⟩) hb).trans y2
      have z3 := (hI1.out.k.cell (p := ⟨b, o + 6 + 3, none⟩) hb).trans y3
      have z4 := (hI1.out.k.cell (p := ⟨b, o + 6 + 4, none⟩) hb).trans y4
      have z5 := (hI1.out.k.cell (p := ⟨b, o + 6 + 5, none⟩) hb).trans y5
      have zl : b < w1.heap.size := by have := hI1.out.k.size; omega
      replace hb1 := Lib.hid hb1
      go_wp2_with fail
      (with_reducible refine (hE2.out _ (hI1.out.alloc _).k).mono ?_)
      rintro e0 w2 ⟨rfl, hb2⟩
      rw [g0.out]
      have hI2 := Lib.hid ((hI1.out.alloc _).over hb2)
      obtain ⟨b20, b21, b22, b23, b24, b25⟩ := hI2.out.x.all
      obtain ⟨o20, o21, o22, o23, o24, o2f, o2l⟩ := hI2.out.o.all
      have b2l := hI2.out.x.lt
      have hXn := (hb2.block w1.heap.size (by simp)).trans (heap_alloc_new w1 _)
      have xc : w2.cell? ⟨w1.heap.size, 0, none⟩ = some (.int .i64 x.n) := by rw [Lib.cell_of_heap hXn]; rfl
      have xl := lt_of_get hXn
      replace hXn := Lib.hid hXn
      clear hb2
      go_wp2_with fail
      have hId := Lib.hid ((hI2.out.alloc (.cells #[.int .i64 y.n, .int .i64 y.f, .int .i64 y.l, .int .i64 y.c, .int .i64 0] 50)).drew)
      obtain ⟨v0, hv0⟩ : ∃ W, (w2.alloc (.cells #[.int .i64 y.n, .int .i64 y.f, .int .i64 y.l, .int .i64 y.c, .int .i64 0] 50)).drew = W := ⟨_, rfl⟩
      rw [hv0] at hId
      have hsd := hId.out.x
      refine region_anyT (n := 6) (S := (fun w' => BX w' w.heap.size 33 ⟨4, f, ln, cc, s⟩ (some ⟨b, o, none⟩) 2 c)) (by kernel_rfl) ?_
      rw [hv0]
      refine anyT_take (i := 0) (v := .agg #[.int .i64 4, .int .i64 f, .int .i64 ln, .int .i64 cc, .string s, .slice (some ⟨b, o, none⟩) 2 c]) rfl (by kernel_rfl) (by kernel_rfl) (fun _ _ _ h => h) (Or.inl ⟨by rfl, ?_⟩) hsd ?_
      · intro w' hw'
        obtain ⟨q0, q1, q2, q3, q4, q5⟩ := BX.all hw'
        clear hw'
        go_simp
        try with_reducible rfl
      try simp only [Act.put, List.getElem_toArray, List.getElem_cons_zero, List.setIfInBounds_toArray, List.set_cons_zero, List.set_cons_succ]
      refine anyT_take (i := 1) (v := .int .i64 x.n) rfl (by kernel_rfl) (by kernel_rfl) (fun _ _ _ h => h) (Or.inl ⟨by rfl, ?_⟩) hsd ?_
      · intro w' hw'
        obtain ⟨q0, q1, q2, q3, q4, q5⟩ := BX.all hw'
        clear hw'
        go_simp
        try with_reducible rfl
      try simp only [Act.put, List.getElem_toArray, List.getElem_cons_zero, List.getElem_cons_succ, List.setIfInBounds_toArray, List.set_cons_zero, List.set_cons_succ]
      refine anyT_take (i := 2) (v := .int .i64 y.n) rfl (by kernel_rfl) (by kernel_rfl) (fun _ _ _ h => h) (Or.inl ⟨by rfl, ?_⟩) hsd ?_
      · intro w' hw'
        obtain ⟨q0, q1, q2, q3, q4, q5⟩ := BX.all hw'
        clear hw'
        go_simp
        try with_reducible rfl
      try simp only [Act.put, List.getElem_toArray, List.getElem_cons_zero, List.getElem_cons_succ, List.setIfInBounds_toArray, List.set_cons_zero, List.set_cons_succ]
      refine anyT_one (i := 3) (by kernel_rfl) ?_
      refine wpOp_step rfl (fun K hK => ?_)
      replace hK := Lib.hid hK
      go_simp
      (with_reducible refine (hPw.out _).mono ?_)
      rintro e0 w4 ⟨rfl, hw4⟩
      replace hw4 := hw4.symm
      subst hw4
      refine hK.out _ _ ⟨fun _ => hsd, ?_⟩
      clear hK K
      try simp only [Act.put, List.getElem_toArray, List.getElem_cons_zero, List.getElem_cons_succ, List.setIfInBounds_toArray, List.set_cons_zero, List.set_cons_succ]
      refine anyT_take (i := 4) (v := .int .i64 (x.n * Q)) rfl (by kernel_rfl) (by kernel_rfl) (fun _ _ _ h => h) (Or.inl ⟨by rfl, ?_⟩) hsd ?_
      · intro w' hw'
        obtain ⟨q0, q1, q2, q3, q4, q5⟩ := BX.all hw'
        clear hw'
        go_simp
        try with_reducible rfl
      try simp only [Act.put, List.getElem_toArray, List.getElem_cons_zero, List.getElem_cons_succ, List.setIfInBounds_toArray, List.set_cons_zero, List.set_cons_succ]
      refine anyT_one (i := 5) (by kernel_rfl) ?_
      refine wpOp_step rfl (fun K hK => ?_)
      replace hK := Lib.hid hK
      go_simp
      (with_reducible refine (hG.out _ _).mono ?_)
      rintro e0 w3 ⟨rfl, hb3⟩
      have hI3 := Lib.hid (hId.out.over hb3)
      obtain ⟨b30, b31, b32, b33, b34, b35⟩ := hI3.out.x.all
      obtain ⟨o30, o31, o32, o33, o34, o3f, o3l⟩ := hI3.out.o.all
      have b3l := hI3.out.x.lt
      have hs3 := hI3.out.x
      refine hK.out _ _ ⟨fun _ => hs3, ?_⟩
      clear hK K hb3
      rw [hR.out]
      try simp only [Act.put, List.getElem_toArray, List.getElem_cons_zero, List.getElem_cons_succ, List.setIfInBounds_toArray, List.set_cons_zero, List.set_cons_succ]
      refine anyT_one (i := 6) (by kernel_rfl) ?_
      refine wpOp_step rfl (fun K hK => ?_)
      replace hK := Lib.hid hK
      go_simp
      refine hK.out _ _ ⟨fun h => absurd h (by decide), ?_⟩
      clear hK K
      try simp only [Act.put, List.getElem_toArray, List.getElem_cons_zero, List.getElem_cons_succ, List.setIfInBounds_toArray, List.set_cons_zero, List.set_cons_succ]
      refine anyT_done (by kernel_rfl) ?_ _
      go_wp2_with fail
      have hz := hI3.out.k
      have five := OZ.five0 hI3.out.o (.int .i64 R.n) (.int .i64 R.f) (.int .i64 R.l) (.int .i64 R.c) (.int .i64 R.e)
      refine bodyPost_ret (v := .agg #[.int .i64 R.n, .int .i64 R.f, .int .i64 R.l, .int .i64 R.c, .int .i64 R.e]) (by simp [results, Tryz.results12, go_sem, five]) rfl ⟨rfl, ?_⟩
      go_grown
set_option maxRecDepth 100000 in
set_option maxHeartbeats 3200000 in
theorem rev_b_shla (k f ln cc : Int) (s : ByteArray) (a a2 : XH) (an ac an2 ac2 : Nat) (A1 A2 : Option Addr) (b o : Nat) (E : Option Addr) (c m ec : Nat) (w : World) (x y : KR) (hk : k = 4) (hx : XC w b o a A1 an ac) (hy : XC w b (o + 6) a2 A2 an2 ac2) (hb : b < w.heap.size) (h0 : x.e = 0) (g0 : y.e = 0) (hi : InR x.n) (hj : InR y.n) (hs : s.toList = [60, 60, 60]) (hz0 : 0 ≤ y.n ∧ y.n ≤ 31)
    (hE : ∀ W, Below w.heap.size w W → Calls Tryz.prog 12 #[xv a A1 an ac, .slice E m ec] W (RE W x))
    (hE2 : ∀ W, Below w.heap.size w W → Calls Tryz.prog 12 #[xv a2 A2 an2 ac2, .slice E m ec] W (RE W y)) :
    Calls Tryz.prog 12 #[xv ⟨k, f, ln, cc, s⟩ (some ⟨b, o, none⟩) 2 c, .slice E m ec] w (RE w (chk ⟨k, f, ln, cc, s⟩ (okR (x.n * 2 ^ y.n.toNat)))) := by
      have hI0 := RI.new w ⟨k, f, ln, cc, s⟩ (some ⟨b, o, none⟩) 2 c
      have hG := fun (m : Int) W => rgood_t ⟨k, f, ln, cc, s⟩ (some ⟨b, o, none⟩) 2 c m W
      have hT := fun (b : Bool) W => rtruth_t b W
      subst hk
      obtain ⟨x0, x1, x2, x3, x4, x5⟩ := hx
      obtain ⟨y0, y1, y2, y3, y4, y5⟩ := hy
      obtain ⟨R, hR⟩ : ∃ R, (chk ⟨4, f, ln, cc, s⟩ (okR (x.n * 2 ^ y.n.toNat))) = R := ⟨_, rfl⟩
      rw [hR]
      unfold RE ov at *
      obtain ⟨b0, b1, b2, b3, b4, b5⟩ := hI0.x.all
      have bl := hI0.x.lt
      replace hE := Lib.hid hE
      replace hE2 := Lib.hid hE2
      replace hI0 := Lib.hid hI0
      replace hG := Lib.hid hG
      replace hT := Lib.hid hT
      replace hR := Lib.hid hR
      unfold InR at hi hj
      replace h0 := Lib.hid h0
      replace g0 := Lib.hid g0
      have hPw := fun W => rpower_t y.n.toNat (by omega) W
      have hpi := pow_inT y.n.toNat (by omega)
      rw [Int.toNat_of_nonneg hz0.1] at hPw
      obtain ⟨Q, hQ⟩ : ∃ Q : Int, 2 ^ y.n.toNat = Q := ⟨_, rfl⟩
      rw [hQ] at hPw hpi
      replace hR := hR.out
      rw [hQ] at hR
      replace hR := Lib.hid hR
      have hmi := mul_inT (A := 2147483648) (B := 2147483648) (a := x.n) (b := Q) ⟨by omega, by omega⟩ ⟨by omega, by omega⟩
      have hmw : IntKind.i64.wrap (x.n * Q) = x.n * Q := IntWalk.i64_in _ (by omega)
      have d1 : decide (y.n < 0) = false := by simp; omega
      have d2 : decide (31 < y.n) = false := by simp; omega
      have d3 : ¬ y.n < 0 := by omega
      have d4 : ¬ 31 < y.n := by omega
      replace hmi := Lib.hid hmi
      replace hPw := Lib.hid hPw
      clear hQ
      go_enter Tryz.func12, Tryz.ntmps12
      go_wp2_with fail
      (with_reducible refine (hE.out _ hI0.out.k).mono ?_)
      rintro e0 w1 ⟨rfl, hb1⟩
      rw [h0.out]
      have hI1 := Lib.hid (hI0.out.over hb1)
      obtain ⟨b10, b11, b12, b13, b14, b15⟩ := hI1.out.x.all
      obtain ⟨o10, o11, o12, o13, o14, o1f, o1l⟩ := hI1.out.o.all
      have b1l := hI1.out.x.lt
      have z0 := (hI1.out.k.cell (p := ⟨b, o + 6, none⟩) hb).trans y0
      have z1 := (hI1.out.k.cell (p := ⟨b, o + 6 + 1, none⟩) hb).trans y1
      have z2 := (hI1.out.k.cell (p := ⟨b, o + 6 + 2, none⟩) hb).trans y2
      have z3 := (hI1.out.k.cell (p := ⟨b, o + 6 + 3, none⟩) hb).trans y3
      have z4 := (hI1.out.k.cell (p := ⟨b, o + 6 + 4, none⟩) hb).trans y4
      have z5 := (hI1.out.k.cell (p := ⟨b, o + 6 + 5, none⟩) hb).trans y5
      have zl : b < w1.heap.size := by have := hI1.out.k.size; omega
      replace hb1 := Lib.hid hb1
      go_wp2_with fail
      (with_reducible refine (hE2.out _ (hI1.out.alloc _).k).mono ?_)
      rintro e0 w2 ⟨rfl, hb2⟩
      rw [g0.out]
      have hI2 := Lib.hid ((hI1.out.alloc _).over hb2)
      obtain ⟨b20, b21, b22, b23, b24, b25⟩ := hI2.out.x.all
      obtain ⟨o20, o21, o22, o23, o24, o2f, o2l⟩ := hI2.out.o.all
      have b2l := hI2.out.x.lt
      have hXn := (hb2.block w1.heap.size (by simp)).trans (heap_alloc_new w1 _)
      have xc : w2.cell? ⟨w1.heap.size, 0, none⟩ = some (.int .i64 x.n) := by rw [Lib.cell_of_heap hXn]; rfl
      have xl := lt_of_get hXn
      replace hXn := Lib.hid hXn
      clear hb2
      go_wp2_with fail
      have hId := Lib.hid ((hI2.out.alloc (.cells #[.int .i64 y.n, .int .i64 y.f, .int .i64 y.l, .int .i64 y.c, .int .i64 0] 50)).drew)
      obtain ⟨v0, hv0⟩ : ∃ W, (w2.alloc (.cells #[.int .i64 y.n, .int .i64 y.f, .int .i64 y.l, .int .i64 y.c, .int .i64 0] 50)).drew = W := ⟨_, rfl⟩
      rw [hv0] at hId
      have hsd := hId.out.x
      refine region_anyT (n := 6) (S := (fun w' => BX w' w.heap.size 33 ⟨4, f, ln, cc, s⟩ (some ⟨b, o, none⟩) 2 c)) (by kernel_rfl) ?_
      rw [hv0]
      refine anyT_take (i := 0) (v := .agg #[.int .i64 4, .int .i64 f, .int .i64 ln, .int .i64 cc, .string s, .slice (some ⟨b, o, none⟩) 2 c]) rfl (by kernel_rfl) (by kernel_rfl) (fun _ _ _ h => h) (Or.inl ⟨by rfl, ?_⟩) hsd ?_
      · intro w' hw'
        obtain ⟨q0, q1, q2, q3, q4, q5⟩ := BX.all hw'
        clear hw'
        go_simp
        try with_reducible rfl
      try simp only [Act.put, List.getElem_toArray, List.getElem_cons_zero, List.setIfInBounds_toArray, List.set_cons_zero, List.set_cons_succ]
      refine anyT_take (i := 1) (v := .int .i64 x.n) rfl (by kernel_rfl) (by kernel_rfl) (fun _ _ _ h => h) (Or.inl ⟨by rfl, ?_⟩) hsd ?_
      · intro w' hw'
        obtain ⟨q0, q1, q2, q3, q4, q5⟩ := BX.all hw'
        clear hw'
        go_simp
        try with_reducible rfl
      try simp only [Act.put, List.getElem_toArray, List.getElem_cons_zero, List.getElem_cons_succ, List.setIfInBounds_toArray, List.set_cons_zero, List.set_cons_succ]
      refine anyT_take (i := 2) (v := .int .i64 y.n) rfl (by kernel_rfl) (by kernel_rfl) (fun _ _ _ h => h) (Or.inl ⟨by rfl, ?_⟩) hsd ?_
      · intro w' hw'
        obtain ⟨q0, q1, q2, q3, q4, q5⟩ := BX.all hw'
        clear hw'
        go_simp
        try with_reducible rfl
      try simp only [Act.put, List.getElem_toArray, List.getElem_cons_zero, List.getElem_cons_succ, List.setIfInBounds_toArray, List.set_cons_zero, List.set_cons_succ]
      refine anyT_one (i := 3) (by kernel_rfl) ?_
      refine wpOp_step rfl (fun K hK => ?_)
      replace hK := Lib.hid hK
      go_simp
      (with_reducible refine (hPw.out _).mono ?_)
      rintro e0 w4 ⟨rfl, hw4⟩
      replace hw4 := hw4.symm
      subst hw4
      refine hK.out _ _ ⟨fun _ => hsd, ?_⟩
      clear hK K
      try simp only [Act.put, List.getElem_toArray, List.getElem_cons_zero, List.getElem_cons_succ, List.setIfInBounds_toArray, List.set_cons_zero, List.set_cons_succ]
      refine anyT_take (i := 4) (v := .int .i64 (x.n * Q)) rfl (by kernel_rfl) (by kernel_rfl) (fun _ _ _ h => h) (Or.inl ⟨by rfl, ?_⟩) hsd ?_
      · intro w' hw'
        obtain ⟨q0, q1, q2, q3, q4, q5⟩ := BX.all hw'
        clear hw'
        go_simp
        try with_reducible rfl
      try simp only [Act.put, List.getElem_toArray, List.getElem_cons_zero, List.getElem_cons_succ, List.setIfInBounds_toArray, List.set_cons_zero, List.set_cons_succ]
      refine anyT_one (i := 5) (by kernel_rfl) ?_
      refine wpOp_step rfl (fun K hK => ?_)
      replace hK := Lib.hid hK
      go_simp
      (with_reducible refine (hG.out _ _).mono ?_)
      rintro e0 w3 ⟨rfl, hb3⟩
      have hI3 := Lib.hid (hId.out.over hb3)
      obtain ⟨b30, b31, b32, b33, b34, b35⟩ := hI3.out.x.all
      obtain ⟨o30, o31, o32, o33, o34, o3f, o3l⟩ := hI3.out.o.all
      have b3l := hI3.out.x.lt
      have hs3 := hI3.out.x
      refine hK.out _ _ ⟨fun _ => hs3, ?_⟩
      clear hK K hb3
      rw [hR.out]
      try simp only [Act.put, List.getElem_toArray, List.getElem_cons_zero, List.getElem_cons_succ, List.setIfInBounds_toArray, List.set_cons_zero, List.set_cons_succ]
      refine anyT_one (i := 6) (by kernel_rfl) ?_
      refine wpOp_step rfl (fun K hK => ?_)
      replace hK := Lib.hid hK
      go_simp
      refine hK.out _ _ ⟨fun h => absurd h (by decide), ?_⟩
      clear hK K
      try simp only [Act.put, List.getElem_toArray, List.getElem_cons_zero, List.getElem_cons_succ, List.setIfInBounds_toArray, List.set_cons_zero, List.set_cons_succ]
      refine anyT_done (by kernel_rfl) ?_ _
      go_wp2_with fail
      have hz := hI3.out.k
      have five := OZ.five0 hI3.out.o (.int .i64 R.n) (.int .i64 R.f) (.int .i64 R.l) (.int .i64 R.c) (.int .i64 R.e)
      refine bodyPost_ret (v := .agg #[.int .i64 R.n, .int .i64 R.f, .int .i64 R.l, .int .i64 R.c, .int .i64 R.e]) (by simp [results, Tryz.results12, go_sem, five]) rfl ⟨rfl, ?_⟩
      go_grown
end Go.Proofs.YtcifljbcoioogaaGreatDoor
