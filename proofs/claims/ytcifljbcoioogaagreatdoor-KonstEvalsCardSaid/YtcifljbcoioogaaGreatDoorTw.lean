/-
  The reference's Eval: operators of one.
-/
import Derived.Test.YtcifljbcoioogaaGreatDoorTx
namespace Go.Proofs.YtcifljbcoioogaaGreatDoor
open Go.RowKit Go.Lib Go.Maps
/-- What the names must be. -/
structure NOk (w : World) (E : Option Addr) (l : List NE) : Prop where
  e : NL w E l
  m : l.length ≤ 9223372036854775807
  s : ∀ j (hj : j < l.length), l[j].1.size ≤ maxLen
  r : ∀ j (hj : j < l.length), InR l[j].2
theorem NOk.over {w w' : World} {E : Option Addr} {l : List NE} (h : NOk w E l) (k : Below w.heap.size w w') : NOk w' E l := ⟨h.e.over k, h.m, h.s, h.r⟩
/-- The reference's Eval does on t what it should. -/
def ROk (E : Option Addr) (l : List NE) (ec : Nat) (t : XT) : Prop := ∀ (A : Option Addr) (c : Nat) (w : World), NOk w E l → XAr w w.heap.size t A → WX t →
  Calls Tryz.prog 12 #[xv t.h A t.args.length c, .slice E l.length ec] w (RE w (ev (lookN l) t))
theorem OZ.five {w : World} {g : Nat} (h : OZ w g) (u0 u1 u2 u3 u4 : Value) : ∀ o : Obj, (((((((w.setCell ⟨g, 0, none⟩ u0).setCell ⟨g, 1, none⟩ u1).setCell ⟨g, 2, none⟩ u2).setCell ⟨g, 3, none⟩ u3).setCell ⟨g, 4, none⟩ u4).alloc o).cell? ⟨g, 0, none⟩ = some u0) ∧ (((((((w.setCell ⟨g, 0, none⟩ u0).setCell ⟨g, 1, none⟩ u1).setCell ⟨g, 2, none⟩ u2).setCell ⟨g, 3, none⟩ u3).setCell ⟨g, 4, none⟩ u4).alloc o).cell? ⟨g, 1, none⟩ = some u1) ∧
    (((((((w.setCell ⟨g, 0, none⟩ u0).setCell ⟨g, 1, none⟩ u1).setCell ⟨g, 2, none⟩ u2).setCell ⟨g, 3, none⟩ u3).setCell ⟨g, 4, none⟩ u4).alloc o).cell? ⟨g, 2, none⟩ = some u2) ∧ (((((((w.setCell ⟨g, 0, none⟩ u0).setCell ⟨g, 1, none⟩ u1).setCell ⟨g, 2, none⟩ u2).setCell ⟨g, 3, none⟩ u3).setCell ⟨g, 4, none⟩ u4).alloc o).cell? ⟨g, 3, none⟩ = some u3) ∧ (((((((w.setCell ⟨g, 0, none⟩ u0).setCell ⟨g, 1, none⟩ u1).setCell ⟨g, 2, none⟩ u2).setCell ⟨g, 3, none⟩ u3).setCell ⟨g, 4, none⟩ u4).alloc o).cell? ⟨g, 4, none⟩ = some u4) := by
  intro o
  have hs := heap_set _ g 4 _ _ u4 (heap_set _ g 3 _ _ u3 (heap_set _ g 2 _ _ u2 (heap_set _ g 1 _ _ u1 (heap_set _ g 0 _ _ u0 h))))
  obtain ⟨W, hW⟩ : ∃ W, (((((w.setCell ⟨g, 0, none⟩ u0).setCell ⟨g, 1, none⟩ u1).setCell ⟨g, 2, none⟩ u2).setCell ⟨g, 3, none⟩ u3).setCell ⟨g, 4, none⟩ u4) = W := ⟨_, rfl⟩
  rw [hW] at hs ⊢
  have hs2 := (((Below.refl W.heap.size W).alloc (Nat.le_refl _) o).block g (lt_of_get hs)).trans hs
  refine ⟨?_, ?_, ?_, ?_, ?_⟩ <;> rw [Lib.cell_of_heap hs2] <;> rfl
set_option maxRecDepth 100000 in
set_option maxHeartbeats 3200000 in
theorem rev_un_neg (k f ln cc : Int) (s : ByteArray) (a : XH) (an ac : Nat) (A1 : Option Addr) (b o : Nat) (E : Option Addr) (c m ec : Nat) (w : World) (x : KR) (hk : k = 3) (hs : s.toList = [45]) (hx : XC w b o a A1 an ac) (hb : b < w.heap.size) (hin : InR x.n)
    (hE : ∀ W, Below w.heap.size w W → Calls Tryz.prog 12 #[xv a A1 an ac, .slice E m ec] W (RE W x)) :
    Calls Tryz.prog 12 #[xv ⟨k, f, ln, cc, s⟩ (some ⟨b, o, none⟩) 1 c, .slice E m ec] w (RE w (if x.e ≠ 0 then x else chk ⟨k, f, ln, cc, s⟩ (okR (-x.n)))) := by
    have hG := fun (m : Int) W => rgood_t ⟨3, f, ln, cc, s⟩ (some ⟨b, o, none⟩) 1 c m W
    have hT := fun (b : Bool) W => rtruth_t b W
    have hI0 := RI.new w ⟨k, f, ln, cc, s⟩ (some ⟨b, o, none⟩) 1 c
    subst hk
    obtain ⟨R, hR⟩ : ∃ R, (if x.e ≠ 0 then x else chk ⟨3, f, ln, cc, s⟩ (okR (-x.n))) = R := ⟨_, rfl⟩
    rw [hR]
    obtain ⟨x0, x1, x2, x3, x4, x5⟩ := hx
    unfold RE ov at *
    obtain ⟨b0, b1, b2, b3, b4, b5⟩ := hI0.x.all
    have bl := hI0.x.lt
    unfold InR at hin
    replace hG := Lib.hid hG
    replace hT := Lib.hid hT
    replace hE := Lib.hid hE
    replace hI0 := Lib.hid hI0
    by_cases h0 : x.e = 0
    · rw [if_neg (by simpa using h0)] at hR
      go_enter Tryz.func12, Tryz.ntmps12
      go_wp2_with fail
      (with_reducible refine (hE.out _ hI0.out.k).mono ?_)
      rintro e0 w1 ⟨rfl, hb1⟩
      rw [h0]
      have hI1 := Lib.hid (hI0.out.over hb1)
      obtain ⟨b10, b11, b12, b13, b14, b15⟩ := hI1.out.x.all
      obtain ⟨o10, o11, o12, o13, o14, o1f, o1l⟩ := hI1.out.o.all
      have b1l := hI1.out.x.lt
      replace hb1 := Lib.hid hb1
      replace h0 := Lib.hid h0
      go_wp2_with fail
      (with_reducible refine (hG.out _ _).mono ?_)
      rintro e0 w2 ⟨rfl, hb2⟩
      have hI2 := Lib.hid ((hI1.out.alloc _).over hb2)
      obtain ⟨b20, b21, b22, b23, b24, b25⟩ := hI2.out.x.all
      obtain ⟨o20, o21, o22, o23, o24, o2f, o2l⟩ := hI2.out.o.all
      have b2l := hI2.out.x.lt
      clear hb2
      rw [hR]
      go_wp2_with fail
      have hz := hI2.out.k
      refine bodyPost_ret (v := .agg #[.int .i64 R.n, .int .i64 R.f, .int .i64 R.l, .int .i64 R.c, .int .i64 R.e]) (by simp [results, Tryz.results12, go_sem, o20, o21, o22, o23, o24]) rfl ⟨rfl, ?_⟩
      go_grown
    · rw [if_pos h0] at hR
      subst hR
      have d1 : (x.e == 0) = false := by simpa using h0
      have d2 : (x.e != 0) = true := by simpa using h0
      have d3 : decide (x.e = 0) = false := by simpa using h0
      replace h0 := Lib.hid h0
      go_enter Tryz.func12, Tryz.ntmps12
      go_wp2_with fail
      (with_reducible refine (hE.out _ hI0.out.k).mono ?_)
      rintro e0 w1 ⟨rfl, hb1⟩
      have hI1 := Lib.hid (hI0.out.over hb1)
      obtain ⟨b10, b11, b12, b13, b14, b15⟩ := hI1.out.x.all
      obtain ⟨o10, o11, o12, o13, o14, o1f, o1l⟩ := hI1.out.o.all
      have b1l := hI1.out.x.lt
      replace hb1 := Lib.hid hb1
      go_wp2_with fail
      have hz := hI1.out.k
      have five := hI1.out.o.five (.int .i64 x.n) (.int .i64 x.f) (.int .i64 x.l) (.int .i64 x.c) (.int .i64 x.e)
      refine bodyPost_ret (v := .agg #[.int .i64 x.n, .int .i64 x.f, .int .i64 x.l, .int .i64 x.c, .int .i64 x.e]) (by simp [results, Tryz.results12, go_sem, five]) rfl ⟨rfl, ?_⟩
      go_grown
set_option maxRecDepth 100000 in
set_option maxHeartbeats 3200000 in
theorem rev_un_not (k f ln cc : Int) (s : ByteArray) (a : XH) (an ac : Nat) (A1 : Option Addr) (b o : Nat) (E : Option Addr) (c m ec : Nat) (w : World) (x : KR) (hk : k = 3) (hs : s.toList = [126]) (hx : XC w b o a A1 an ac) (hb : b < w.heap.size) (hin : InR x.n)
    (hE : ∀ W, Below w.heap.size w W → Calls Tryz.prog 12 #[xv a A1 an ac, .slice E m ec] W (RE W x)) :
    Calls Tryz.prog 12 #[xv ⟨k, f, ln, cc, s⟩ (some ⟨b, o, none⟩) 1 c, .slice E m ec] w (RE w (if x.e ≠ 0 then x else chk ⟨k, f, ln, cc, s⟩ (okR (-1 - x.n)))) := by
    have hG := fun (m : Int) W => rgood_t ⟨3, f, ln, cc, s⟩ (some ⟨b, o, none⟩) 1 c m W
    have hT := fun (b : Bool) W => rtruth_t b W
    have hI0 := RI.new w ⟨k, f, ln, cc, s⟩ (some ⟨b, o, none⟩) 1 c
    subst hk
    obtain ⟨R, hR⟩ : ∃ R, (if x.e ≠ 0 then x else chk ⟨3, f, ln, cc, s⟩ (okR (-1 - x.n))) = R := ⟨_, rfl⟩
    rw [hR]
    obtain ⟨x0, x1, x2, x3, x4, x5⟩ := hx
    unfold RE ov at *
    obtain ⟨b0, b1, b2, b3, b4, b5⟩ := hI0.x.all
    have bl := hI0.x.lt
    unfold InR at hin
    replace hG := Lib.hid hG
    replace hT := Lib.hid hT
    replace hE := Lib.hid hE
    replace hI0 := Lib.hid hI0
    by_cases h0 : x.e = 0
    · rw [if_neg (by simpa using h0)] at hR
      go_enter Tryz.func12, Tryz.ntmps12
      go_wp2_with fail
      (with_reducible refine (hE.out _ hI0.out.k).mono ?_)
      rintro e0 w1 ⟨rfl, hb1⟩
      rw [h0]
      have hI1 := Lib.hid (hI0.out.over hb1)
      obtain ⟨b10, b11, b12, b13, b14, b15⟩ := hI1.out.x.all
      obtain ⟨o10, o11, o12, o13, o14, o1f, o1l⟩ := hI1.out.o.all
      have b1l := hI1.out.x.lt
      replace hb1 := Lib.hid hb1
      replace h0 := Lib.hid h0
      go_wp2_with fail
      (with_reducible refine (hG.out _ _).mono ?_)
      rintro e0 w2 ⟨rfl, hb2⟩
      have hI2 := Lib.hid ((hI1.out.alloc _).over hb2)
      obtain ⟨b20, b21, b22, b23, b24, b25⟩ := hI2.out.x.all
      obtain ⟨o20, o21, o22, o23, o24, o2f, o2l⟩ := hI2.out.o.all
      have b2l := hI2.out.x.lt
      clear hb2
      rw [hR]
      go_wp2_with fail
      have hz := hI2.out.k
      refine bodyPost_ret (v := .agg #[.int .i64 R.n, .int .i64 R.f, .int .i64 R.l, .int .i64 R.c, .int .i64 R.e]) (by simp [results, Tryz.results12, go_sem, o20, o21, o22, o23, o24]) rfl ⟨rfl, ?_⟩
      go_grown
    · rw [if_pos h0] at hR
      subst hR
      have d1 : (x.e == 0) = false := by simpa using h0
      have d2 : (x.e != 0) = true := by simpa using h0
      have d3 : decide (x.e = 0) = false := by simpa using h0
      replace h0 := Lib.hid h0
      go_enter Tryz.func12, Tryz.ntmps12
      go_wp2_with fail
      (with_reducible refine (hE.out _ hI0.out.k).mono ?_)
      rintro e0 w1 ⟨rfl, hb1⟩
      have hI1 := Lib.hid (hI0.out.over hb1)
      obtain ⟨b10, b11, b12, b13, b14, b15⟩ := hI1.out.x.all
      obtain ⟨o10, o11, o12, o13, o14, o1f, o1l⟩ := hI1.out.o.all
      have b1l := hI1.out.x.lt
      replace hb1 := Lib.hid hb1
      go_wp2_with fail
      have hz := hI1.out.k
      have five := hI1.out.o.five (.int .i64 x.n) (.int .i64 x.f) (.int .i64 x.l) (.int .i64 x.c) (.int .i64 x.e)
      refine bodyPost_ret (v := .agg #[.int .i64 x.n, .int .i64 x.f, .int .i64 x.l, .int .i64 x.c, .int .i64 x.e]) (by simp [results, Tryz.results12, go_sem, five]) rfl ⟨rfl, ?_⟩
      go_grown
set_option maxRecDepth 100000 in
set_option maxHeartbeats 3200000 in
theorem rev_un_bang (k f ln cc : Int) (s : ByteArray) (a : XH) (an ac : Nat) (A1 : Option Addr) (b o : Nat) (E : Option Addr) (c m ec : Nat) (w : World) (x : KR) (hk : k = 3) (hs : s.toList = [33]) (hx : XC w b o a A1 an ac) (hb : b < w.heap.size) (_hin : InR x.n)
    (hE : ∀ W, Below w.heap.size w W → Calls Tryz.prog 12 #[xv a A1 an ac, .slice E m ec] W (RE W x)) :
    Calls Tryz.prog 12 #[xv ⟨k, f, ln, cc, s⟩ (some ⟨b, o, none⟩) 1 c, .slice E m ec] w (RE w (if x.e ≠ 0 then x else okR (ofB (decide (x.n = 0))))) := by
    have hG := fun (m : Int) W => rgood_t ⟨3, f, ln, cc, s⟩ (some ⟨b, o, none⟩) 1 c m W
    have hT := fun (b : Bool) W => rtruth_t b W
    have hI0 := RI.new w ⟨k, f, ln, cc, s⟩ (some ⟨b, o, none⟩) 1 c
    subst hk
    obtain ⟨R, hR⟩ : ∃ R, (if x.e ≠ 0 then x else okR (ofB (decide (x.n = 0)))) = R := ⟨_, rfl⟩
    rw [hR]
    obtain ⟨x0, x1, x2, x3, x4, x5⟩ := hx
    unfold RE ov at *
    obtain ⟨b0, b1, b2, b3, b4, b5⟩ := hI0.x.all
    have bl := hI0.x.lt
    unfold InR at _hin
    replace hG := Lib.hid hG
    replace hT := Lib.hid hT
    replace hE := Lib.hid hE
    replace hI0 := Lib.hid hI0
    by_cases h0 : x.e = 0
    · rw [if_neg (by simpa using h0)] at hR
      go_enter Tryz.func12, Tryz.ntmps12
      go_wp2_with fail
      (with_reducible refine (hE.out _ hI0.out.k).mono ?_)
      rintro e0 w1 ⟨rfl, hb1⟩
      rw [h0]
      have hI1 := Lib.hid (hI0.out.over hb1)
      obtain ⟨b10, b11, b12, b13, b14, b15⟩ := hI1.out.x.all
      obtain ⟨o10, o11, o12, o13, o14, o1f, o1l⟩ := hI1.out.o.all
      have b1l := hI1.out.x.lt
      replace hb1 := Lib.hid hb1
      replace h0 := Lib.hid h0
      go_wp2_with fail
      (with_reducible refine (hT.out _ _).mono ?_)
      rintro e0 w2 ⟨rfl, hw⟩
      subst hw
      subst hR
      go_wp2_with fail
      have hz := hI1.out.k
      have five := hI1.out.o.five (.int .i64 (ofB (x.n == 0))) (.int .i64 0) (.int .i64 0) (.int .i64 0) (.int .i64 0)
      refine bodyPost_ret (v := .agg #[.int .i64 (ofB (x.n == 0)), .int .i64 0, .int .i64 0, .int .i64 0, .int .i64 0]) (by simp [results, Tryz.results12, go_sem, five]) rfl ⟨rfl, ?_⟩
      go_grown
    · rw [if_pos h0] at hR
      subst hR
      have d1 : (x.e == 0) = false := by simpa using h0
      have d2 : (x.e != 0) = true := by simpa using h0
      have d3 : decide (x.e = 0) = false := by simpa using h0
      replace h0 := Lib.hid h0
      go_enter Tryz.func12, Tryz.ntmps12
      go_wp2_with fail
      (with_reducible refine (hE.out _ hI0.out.k).mono ?_)
      rintro e0 w1 ⟨rfl, hb1⟩
      have hI1 := Lib.hid (hI0.out.over hb1)
      obtain ⟨b10, b11, b12, b13, b14, b15⟩ := hI1.out.x.all
      obtain ⟨o10, o11, o12, o13, o14, o1f, o1l⟩ := hI1.out.o.all
      have b1l := hI1.out.x.lt
      replace hb1 := Lib.hid hb1
      go_wp2_with fail
      have hz := hI1.out.k
      have five := hI1.out.o.five (.int .i64 x.n) (.int .i64 x.f) (.int .i64 x.l) (.int .i64 x.c) (.int .i64 x.e)
      refine bodyPost_ret (v := .agg #[.int .i64 x.n, .int .i64 x.f, .int .i64 x.l, .int .i64 x.c, .int .i64 x.e]) (by simp [results, Tryz.results12, go_sem, five]) rfl ⟨rfl, ?_⟩
      go_grown
end Go.Proofs.YtcifljbcoioogaaGreatDoor
