/-
  The reference's Eval: a choice.
-/
import Derived.Test.YtcifljbcoioogaaGreatDoorTw
namespace Go.Proofs.YtcifljbcoioogaaGreatDoor
open Go.RowKit Go.Lib Go.Maps
set_option maxRecDepth 100000 in
set_option maxHeartbeats 3200000 in
theorem rev_t_err (k f ln cc : Int) (s : ByteArray) (a a2 : XH) (an ac an2 ac2 : Nat) (A1 A2 : Option Addr) (b o : Nat) (E : Option Addr) (c m ec : Nat) (w : World) (x y : KR) (hk : k = 5) (hx : XC w b o a A1 an ac) (hy : XC w b (o + 6) a2 A2 an2 ac2) (hb : b < w.heap.size) (h0 : x.e ≠ 0)
    (hE : ∀ W, Below w.heap.size w W → Calls Tryz.prog 12 #[xv a A1 an ac, .slice E m ec] W (RE W x))
    (hE2 : ∀ W, Below w.heap.size w W → Calls Tryz.prog 12 #[xv a2 A2 an2 ac2, .slice E m ec] W (RE W y)) :
    Calls Tryz.prog 12 #[xv ⟨k, f, ln, cc, s⟩ (some ⟨b, o, none⟩) 3 c, .slice E m ec] w (RE w x) := by
      have hI0 := RI.new w ⟨k, f, ln, cc, s⟩ (some ⟨b, o, none⟩) 3 c
      subst hk
      obtain ⟨x0, x1, x2, x3, x4, x5⟩ := hx
      obtain ⟨y0, y1, y2, y3, y4, y5⟩ := hy
      unfold RE ov at *
      obtain ⟨b0, b1, b2, b3, b4, b5⟩ := hI0.x.all
      have bl := hI0.x.lt
      replace hE := Lib.hid hE
      replace hE2 := Lib.hid hE2
      replace hI0 := Lib.hid hI0
      have d1 : (x.e == 0) = false := by simpa using h0
      have d2 : (x.e != 0) = true := by simpa using h0
      have d3 : decide (x.e = 0) = false := by simpa using h0
      replace h0 := Lib.hid h0
      go_enter Tryz.func12, Tryz.ntmps12
      go_wp2_with fail
      (with_reducible refine (hE.out _ hI0.out.k).mono ?_)
      rintro e0 w1 ⟨rfl, hb1⟩
      have hI1 := Lib.hid (hI0.out.over hb1)
      obtain ⟨b10, b11, b12, b13, b14, b15⟩ := hI1.out.x.all
      obtain ⟨o10, o11, o12, o13, o14, o1f, o1l⟩ := hI1.out.o.all
      have b1l := hI1.out.x.lt
      replace hb1 := Lib.hid hb1
      go_wp2_with fail
      have hz := hI1.out.k
      have five := hI1.out.o.five (.int .i64 x.n) (.int .i64 x.f) (.int .i64 x.l) (.int .i64 x.c) (.int .i64 x.e)
      refine bodyPost_ret (v := .agg #[.int .i64 x.n, .int .i64 x.f, .int .i64 x.l, .int .i64 x.c, .int .i64 x.e]) (by simp [results, Tryz.results12, go_sem, five]) rfl ⟨rfl, ?_⟩
      go_grown
set_option maxRecDepth 100000 in
set_option maxHeartbeats 3200000 in
theorem rev_t_then (k f ln cc : Int) (s : ByteArray) (a a2 : XH) (an ac an2 ac2 : Nat) (A1 A2 : Option Addr) (b o : Nat) (E : Option Addr) (c m ec : Nat) (w : World) (x y : KR) (hk : k = 5) (hx : XC w b o a A1 an ac) (hy : XC w b (o + 6) a2 A2 an2 ac2) (hb : b < w.heap.size) (h0 : x.e = 0 ∧ x.n ≠ 0)
    (hE : ∀ W, Below w.heap.size w W → Calls Tryz.prog 12 #[xv a A1 an ac, .slice E m ec] W (RE W x))
    (hE2 : ∀ W, Below w.heap.size w W → Calls Tryz.prog 12 #[xv a2 A2 an2 ac2, .slice E m ec] W (RE W y)) :
    Calls Tryz.prog 12 #[xv ⟨k, f, ln, cc, s⟩ (some ⟨b, o, none⟩) 3 c, .slice E m ec] w (RE w y) := by
      have hI0 := RI.new w ⟨k, f, ln, cc, s⟩ (some ⟨b, o, none⟩) 3 c
      subst hk
      obtain ⟨x0, x1, x2, x3, x4, x5⟩ := hx
      obtain ⟨y0, y1, y2, y3, y4, y5⟩ := hy
      unfold RE ov at *
      obtain ⟨b0, b1, b2, b3, b4, b5⟩ := hI0.x.all
      have bl := hI0.x.lt
      replace hE := Lib.hid hE
      replace hE2 := Lib.hid hE2
      replace hI0 := Lib.hid hI0
      obtain ⟨h0, h1⟩ := h0
      have d1 : (x.n == 0) = false := by simpa using h1
      have d2 : (x.n != 0) = true := by simpa using h1
      have d3 : decide (x.n = 0) = false := by simpa using h1
      replace h1 := Lib.hid h1
      replace h0 := Lib.hid h0
      go_enter Tryz.func12, Tryz.ntmps12
      go_wp2_with fail
      (with_reducible refine (hE.out _ hI0.out.k).mono ?_)
      rintro e0 w1 ⟨rfl, hb1⟩
      rw [h0.out]
      have hI1 := Lib.hid (hI0.out.over hb1)
      obtain ⟨b10, b11, b12, b13, b14, b15⟩ := hI1.out.x.all
      obtain ⟨o10, o11, o12, o13, o14, o1f, o1l⟩ := hI1.out.o.all
      have b1l := hI1.out.x.lt
      have z0 := (hI1.out.k.cell (p := ⟨b, o + 6, none⟩) hb).trans y0
      have z1 := (hI1.out.k.cell (p := ⟨b, o + 6 + 1, none⟩) hb).trans y1
      have z2 := (hI1.out.k.cell (p := ⟨b, o + 6 + 2, none⟩) hb).trans y2
      have z3 := (hI1.out.k.cell (p := ⟨b, o + 6 + 3, none⟩) hb).trans y3
      have z4 := (hI1.out.k.cell (p := ⟨b, o + 6 + 4, none⟩) hb).trans y4
      have z5 := (hI1.out.k.cell (p := ⟨b, o + 6 + 5, none⟩) hb).trans y5
      have zl : b < w1.heap.size := by have := hI1.out.k.size; omega
      replace hb1 := Lib.hid hb1
      go_wp2_with fail
      (with_reducible refine (hE2.out _ (hI1.out.alloc _).k).mono ?_)
      rintro e0 w2 ⟨rfl, hb2⟩
      have hI2 := Lib.hid ((hI1.out.alloc _).over hb2)
      obtain ⟨b20, b21, b22, b23, b24, b25⟩ := hI2.out.x.all
      obtain ⟨o20, o21, o22, o23, o24, o2f, o2l⟩ := hI2.out.o.all
      have b2l := hI2.out.x.lt
      clear hb2
      go_wp2_with fail
      have hz := hI2.out.k
      refine bodyPost_ret (v := .agg #[.int .i64 y.n, .int .i64 y.f, .int .i64 y.l, .int .i64 y.c, .int .i64 y.e]) (by simp [results, Tryz.results12, go_sem, o20, o21, o22, o23, o24]) rfl ⟨rfl, ?_⟩
      go_grown
set_option maxRecDepth 100000 in
set_option maxHeartbeats 3200000 in
theorem rev_t_else (k f ln cc : Int) (s : ByteArray) (a a2 : XH) (an ac an2 ac2 : Nat) (A1 A2 : Option Addr) (b o : Nat) (E : Option Addr) (c m ec : Nat) (w : World) (x y : KR) (hk : k = 5) (hx : XC w b o a A1 an ac) (hy : XC w b (o + 12) a2 A2 an2 ac2) (hb : b < w.heap.size) (h0 : x.e = 0 ∧ x.n = 0)
    (hE : ∀ W, Below w.heap.size w W → Calls Tryz.prog 12 #[xv a A1 an ac, .slice E m ec] W (RE W x))
    (hE2 : ∀ W, Below w.heap.size w W → Calls Tryz.prog 12 #[xv a2 A2 an2 ac2, .slice E m ec] W (RE W y)) :
    Calls Tryz.prog 12 #[xv ⟨k, f, ln, cc, s⟩ (some ⟨b, o, none⟩) 3 c, .slice E m ec] w (RE w y) := by
      have hI0 := RI.new w ⟨k, f, ln, cc, s⟩ (some ⟨b, o, none⟩) 3 c
      subst hk
      obtain ⟨x0, x1, x2, x3, x4, x5⟩ := hx
      obtain ⟨y0, y1, y2, y3, y4, y5⟩ := hy
      unfold RE ov at *
      obtain ⟨b0, b1, b2, b3, b4, b5⟩ := hI0.x.all
      have bl := hI0.x.lt
      replace hE := Lib.hid hE
      replace hE2 := Lib.hid hE2
      replace hI0 := Lib.hid hI0
      obtain ⟨h0, h1⟩ := h0
      replace h0 := Lib.hid h0
      go_enter Tryz.func12, Tryz.ntmps12
      go_wp2_with fail
      (with_reducible refine (hE.out _ hI0.out.k).mono ?_)
      rintro e0 w1 ⟨rfl, hb1⟩
      rw [h0.out]
      have hI1 := Lib.hid (hI0.out.over hb1)
      obtain ⟨b10, b11, b12, b13, b14, b15⟩ := hI1.out.x.all
      obtain ⟨o10, o11, o12, o13, o14, o1f, o1l⟩ := hI1.out.o.all
      have b1l := hI1.out.x.lt
      have z0 := (hI1.out.k.cell (p := ⟨b, o + 12, none⟩) hb).trans y0
      have z1 := (hI1.out.k.cell (p := ⟨b, o + 12 + 1, none⟩) hb).trans y1
      have z2 := (hI1.out.k.cell (p := ⟨b, o + 12 + 2, none⟩) hb).trans y2
      have z3 := (hI1.out.k.cell (p := ⟨b, o + 12 + 3, none⟩) hb).trans y3
      have z4 := (hI1.out.k.cell (p := ⟨b, o + 12 + 4, none⟩) hb).trans y4
      have z5 := (hI1.out.k.cell (p := ⟨b, o + 12 + 5, none⟩) hb).trans y5
      have zl : b < w1.heap.size := by have := hI1.out.k.size; omega
      replace hb1 := Lib.hid hb1
      go_wp2_with fail
      (with_reducible refine (hE2.out _ (hI1.out.alloc _).k).mono ?_)
      rintro e0 w2 ⟨rfl, hb2⟩
      have hI2 := Lib.hid ((hI1.out.alloc _).over hb2)
      obtain ⟨b20, b21, b22, b23, b24, b25⟩ := hI2.out.x.all
      obtain ⟨o20, o21, o22, o23, o24, o2f, o2l⟩ := hI2.out.o.all
      have b2l := hI2.out.x.lt
      clear hb2
      go_wp2_with fail
      have hz := hI2.out.k
      refine bodyPost_ret (v := .agg #[.int .i64 y.n, .int .i64 y.f, .int .i64 y.l, .int .i64 y.c, .int .i64 y.e]) (by simp [results, Tryz.results12, go_sem, o20, o21, o22, o23, o24]) rfl ⟨rfl, ?_⟩
      go_grown
theorem chk_ev (h : XH) (env : ByteArray → Option Int) (t : XT) : chk h (ev env t) = ev env t := by
  by_cases h0 : (ev env t).e = 0
  · have := ev_in env t h0
    unfold InR at this
    unfold chk
    rw [if_neg (by simpa using h0), if_neg (by omega)]
  · unfold chk; rw [if_pos h0]
theorem chk_bad (h h' : XH) (e : Int) (he : e ≠ 0) : chk h (badR h' e) = badR h' e := by
  unfold chk badR; rw [if_pos he]
theorem rev_t (h : XH) (t1 t2 t3 : XT) (E : Option Addr) (l : List NE) (ec : Nat) (A : Option Addr) (c : Nat) (w : World) (hN : NOk w E l) (hX : XAr w w.heap.size (.t h t1 t2 t3) A) (hW : WX (.t h t1 t2 t3)) (hk : h.k = 5)
    (i1 : ROk E l ec t1) (i2 : ROk E l ec t2) (i3 : ROk E l ec t3) :
    Calls Tryz.prog 12 #[xv h A 3 c, .slice E l.length ec] w (RE w (ev (lookN l) (.t h t1 t2 t3))) := by
  have hk2 : (XT.t h t1 t2 t3).h.k = 5 := hk
  obtain ⟨b, o, rfl, hb, ⟨A1, c1, x1, y1⟩, ⟨A2, c2, x2, y2⟩, A3, c3, x3, y3⟩ := hX
  have e1 := fun W (q : Below w.heap.size w W) => i1 A1 c1 W (hN.over q) ((y1.over q).mono q.size) hW.2.1
  have e2 := fun W (q : Below w.heap.size w W) => i2 A2 c2 W (hN.over q) ((y2.over q).mono q.size) hW.2.2.1
  have e3 := fun W (q : Below w.heap.size w W) => i3 A3 c3 W (hN.over q) ((y3.over q).mono q.size) hW.2.2.2
  have hv : ev (lookN l) (.t h t1 t2 t3) = (if (ev (lookN l) t1).e ≠ 0 then ev (lookN l) t1 else if (ev (lookN l) t1).n ≠ 0 then ev (lookN l) t2 else ev (lookN l) t3) := by
    show chk h (rawT h _ _ _) = _
    unfold rawT
    rw [if_pos hk]
    (repeat' split) <;> exact chk_ev h _ _
  rw [hv]
  obtain ⟨k, f, ln, cc, s⟩ := h
  by_cases h0 : (ev (lookN l) t1).e = 0
  · rw [if_neg (by simpa using h0)]
    by_cases h1 : (ev (lookN l) t1).n = 0
    · rw [if_neg (by simpa using h1)]
      exact rev_t_else k f ln cc s _ _ _ _ _ _ _ _ b o E c _ ec w _ _ hk x1 x3 hb ⟨h0, h1⟩ e1 e3
    · rw [if_pos h1]
      exact rev_t_then k f ln cc s _ _ _ _ _ _ _ _ b o E c _ ec w _ _ hk x1 x2 hb ⟨h0, h1⟩ e1 e2
  · rw [if_pos h0]
    exact rev_t_err k f ln cc s _ _ _ _ _ _ _ _ b o E c _ ec w _ _ hk x1 x2 hb h0 e1 e2
end Go.Proofs.YtcifljbcoioogaaGreatDoor
