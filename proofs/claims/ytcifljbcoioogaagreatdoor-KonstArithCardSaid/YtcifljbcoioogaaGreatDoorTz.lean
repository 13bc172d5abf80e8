/-
  The walk of the reference's Int.
  The reference's Eval: the number of a literal.
-/
import Derived.Test.YtcifljbcoioogaaGreatDoorFj
import Derived.Test.YtcifljbcoioogaaGreatDoorYa
import Derived.Test.YtcifljbcoioogaaGreatDoorBa
import Derived.Test.YtcifljbcoioogaaGreatDoorXw
import Derived.Test.YtcifljbcoioogaaGreatDoorXs
namespace Go.Proofs.YtcifljbcoioogaaGreatDoor
open Go.RowKit Go.Lib
set_option maxRecDepth 100000 in
set_option maxHeartbeats 3200000 in
theorem refInt_w0 (n c : Nat) (A : Option Addr) (sg sz : Bool) (w : World) (h0 : n = 0) : Calls Tryz.prog 25 #[.agg #[.slice A n c, .bool sg, .bool sz]] w (RV w (.tuple #[.int .i64 0, .int .i64 2])) := by
  have nz : ((n : Int) == 0) = true := by simp; omega
  clear h0
  go_enter Tryz.func25, Tryz.ntmps25
  go_wp2_with fail
  refine bodyPost_ret (v := .tuple #[.int .i64 0, .int .i64 2]) (by simp [results, Tryz.results25, go_sem]) rfl ⟨rfl, ?_⟩
  go_grown
set_option maxRecDepth 100000 in
set_option maxHeartbeats 3200000 in
theorem refInt_u_big (n c v : Nat) (A : Option Addr) (sz : Bool) (w : World) (h0 : n ≠ 0) (_hn : n ≤ 128) (hb : 2147483648 ≤ v)
    (hM : ∀ w1, Below w.heap.size w w1 → Calls Tryz.prog 38 #[.slice A n c, .int .i64 1099511627776] w1 fun e w' => e = .returned (.int .i64 (v : Int)) ∧ w' = w1) : Calls Tryz.prog 25 #[.agg #[.slice A n c, .bool false, .bool sz]] w (RV w (.tuple #[.int .i64 0, .int .i64 3])) := by
  have nz : ((n : Int) == 0) = false := by simp; omega
  have k1 : decide (2147483648 ≤ (v : Int)) = true := by simp; omega
  have k2 : decide (2147483648 ≤ v) = true := by simp; omega
  replace hM := Lib.hid hM
  clear h0 _hn hb
  go_enter Tryz.func25, Tryz.ntmps25
  go_wp2_with fail
  (with_reducible refine (hM.out _ (by go_grown)).mono ?_)
  rintro e w1 ⟨rfl, rfl⟩
  go_wp2_with fail
  refine bodyPost_ret (v := .tuple #[.int .i64 0, .int .i64 3]) (by simp [results, Tryz.results25, go_sem]) rfl ⟨rfl, ?_⟩
  go_grown
set_option maxRecDepth 100000 in
set_option maxHeartbeats 3200000 in
theorem refInt_u_ok (n c v : Nat) (A : Option Addr) (sz : Bool) (w : World) (h0 : n ≠ 0) (_hn : n ≤ 128) (hb : v < 2147483648)
    (hM : ∀ w1, Below w.heap.size w w1 → Calls Tryz.prog 38 #[.slice A n c, .int .i64 1099511627776] w1 fun e w' => e = .returned (.int .i64 (v : Int)) ∧ w' = w1) : Calls Tryz.prog 25 #[.agg #[.slice A n c, .bool false, .bool sz]] w (RV w (.tuple #[.int .i64 (v : Int), .int .i64 0])) := by
  have nz : ((n : Int) == 0) = false := by simp; omega
  have k1 : decide (2147483648 ≤ (v : Int)) = false := by simp; omega
  have k2 : decide (2147483648 ≤ v) = false := by simp; omega
  replace hM := Lib.hid hM
  clear h0 _hn hb
  go_enter Tryz.func25, Tryz.ntmps25
  go_wp2_with fail
  (with_reducible refine (hM.out _ (by go_grown)).mono ?_)
  rintro e w1 ⟨rfl, rfl⟩
  go_wp2_with fail
  refine bodyPost_ret (v := .tuple #[.int .i64 (v : Int), .int .i64 0]) (by simp [results, Tryz.results25, go_sem]) rfl ⟨rfl, ?_⟩
  go_grown
set_option maxRecDepth 100000 in
set_option maxHeartbeats 3200000 in
theorem refInt_s_big (n c v : Nat) (A : Option Addr) (sz : Bool) (w : World) (h0 : n ≠ 0) (hn : n ≤ 128) (b off q : Nat) (hq : n = q + 1) (hA : A = some ⟨b, off, none⟩) (hl : b < w.heap.size) (hc : w.cell? ⟨b, off + q, none⟩ = some (.bool false)) (hb : 2147483648 ≤ v)
    (hM : ∀ w1, Below w.heap.size w w1 → Calls Tryz.prog 38 #[.slice A n c, .int .i64 1099511627776] w1 fun e w' => e = .returned (.int .i64 (v : Int)) ∧ w' = w1) : Calls Tryz.prog 25 #[.agg #[.slice A n c, .bool true, .bool sz]] w (RV w (.tuple #[.int .i64 0, .int .i64 3])) := by
  have nz : ((n : Int) == 0) = false := by simp; omega
  have k1 : decide (2147483648 ≤ (v : Int)) = true := by simp; omega
  have k2 : decide (2147483648 ≤ v) = true := by simp; omega
  have en : IntKind.i64.wrap ((n : Int) - 1) = (q : Int) := by rw [IntWalk.i64_in _ (by omega)]; omega
  have q1 : (q : Int) < (n : Int) := by omega
  have q2 : q < n := by omega
  subst hA
  replace hM := Lib.hid hM
  clear h0 hn hb hq
  go_enter Tryz.func25, Tryz.ntmps25
  go_wp2_with fail
  (with_reducible refine (hM.out _ (by go_grown)).mono ?_)
  rintro e w1 ⟨rfl, rfl⟩
  go_wp2_with fail
  refine bodyPost_ret (v := .tuple #[.int .i64 0, .int .i64 3]) (by simp [results, Tryz.results25, go_sem]) rfl ⟨rfl, ?_⟩
  go_grown
set_option maxRecDepth 100000 in
set_option maxHeartbeats 3200000 in
theorem refInt_s_ok (n c v : Nat) (A : Option Addr) (sz : Bool) (w : World) (h0 : n ≠ 0) (hn : n ≤ 128) (b off q : Nat) (hq : n = q + 1) (hA : A = some ⟨b, off, none⟩) (hl : b < w.heap.size) (hc : w.cell? ⟨b, off + q, none⟩ = some (.bool false)) (hb : v < 2147483648)
    (hM : ∀ w1, Below w.heap.size w w1 → Calls Tryz.prog 38 #[.slice A n c, .int .i64 1099511627776] w1 fun e w' => e = .returned (.int .i64 (v : Int)) ∧ w' = w1) : Calls Tryz.prog 25 #[.agg #[.slice A n c, .bool true, .bool sz]] w (RV w (.tuple #[.int .i64 (v : Int), .int .i64 0])) := by
  have nz : ((n : Int) == 0) = false := by simp; omega
  have k1 : decide (2147483648 ≤ (v : Int)) = false := by simp; omega
  have k2 : decide (2147483648 ≤ v) = false := by simp; omega
  have en : IntKind.i64.wrap ((n : Int) - 1) = (q : Int) := by rw [IntWalk.i64_in _ (by omega)]; omega
  have q1 : (q : Int) < (n : Int) := by omega
  have q2 : q < n := by omega
  subst hA
  replace hM := Lib.hid hM
  clear h0 hn hb hq
  go_enter Tryz.func25, Tryz.ntmps25
  go_wp2_with fail
  (with_reducible refine (hM.out _ (by go_grown)).mono ?_)
  rintro e w1 ⟨rfl, rfl⟩
  go_wp2_with fail
  refine bodyPost_ret (v := .tuple #[.int .i64 (v : Int), .int .i64 0]) (by simp [results, Tryz.results25, go_sem]) rfl ⟨rfl, ?_⟩
  go_grown
set_option maxRecDepth 100000 in
set_option maxHeartbeats 3200000 in
theorem refInt_n_big (n c v : Nat) (hf : Nat → Bool) (A : Option Addr) (sz : Bool) (w : World) (h0 : n ≠ 0) (hn : n ≤ 128) (b off q : Nat) (hq : n = q + 1) (hA : A = some ⟨b, off, none⟩) (hl : b < w.heap.size) (hc : w.cell? ⟨b, off + q, none⟩ = some (.bool true)) (hb : 2147483648 < v)
    (hN : ∀ w1, Below w.heap.size w w1 → Calls Tryz.prog 39 #[.slice A n c] w1 (GS w1 n hf))
    (hM : ∀ w1 B d, RB w1 B n hf → Calls Tryz.prog 38 #[.slice B n d, .int .i64 1099511627776] w1 fun e w' => e = .returned (.int .i64 (v : Int)) ∧ w' = w1) : Calls Tryz.prog 25 #[.agg #[.slice A n c, .bool true, .bool sz]] w (RV w (.tuple #[.int .i64 0, .int .i64 3])) := by
  have nz : ((n : Int) == 0) = false := by simp; omega
  have k1 : decide (2147483648 < (v : Int)) = true := by simp; omega
  have k2 : decide (2147483648 < v) = true := by simp; omega
  have en : IntKind.i64.wrap ((n : Int) - 1) = (q : Int) := by rw [IntWalk.i64_in _ (by omega)]; omega
  have q1 : (q : Int) < (n : Int) := by omega
  have q2 : q < n := by omega
  have ev : True := by trivial
  subst hA
  replace hN := Lib.hid hN
  replace hM := Lib.hid hM
  clear h0 hn hb hq
  go_enter Tryz.func25, Tryz.ntmps25
  go_wp2_with fail
  (with_reducible refine (hN.out _ (by go_grown)).mono ?_)
  rintro e w1 ⟨B1, d1, rfl, hr, hb1⟩
  have hbw1 : Below w.heap.size w w1 := below_call hb1 (by go_grown)
  clear hb1
  go_wp2_with fail
  (with_reducible refine (hM.out _ _ _ hr).mono ?_)
  rintro e w2 ⟨rfl, rfl⟩
  go_wp2_with fail
  refine bodyPost_ret (v := .tuple #[.int .i64 0, .int .i64 3]) (by simp [results, Tryz.results25, go_sem]) rfl ⟨rfl, ?_⟩
  go_grown
set_option maxRecDepth 100000 in
set_option maxHeartbeats 3200000 in
theorem refInt_n_ok (n c v : Nat) (hf : Nat → Bool) (A : Option Addr) (sz : Bool) (w : World) (h0 : n ≠ 0) (hn : n ≤ 128) (b off q : Nat) (hq : n = q + 1) (hA : A = some ⟨b, off, none⟩) (hl : b < w.heap.size) (hc : w.cell? ⟨b, off + q, none⟩ = some (.bool true)) (hb : v ≤ 2147483648)
    (hN : ∀ w1, Below w.heap.size w w1 → Calls Tryz.prog 39 #[.slice A n c] w1 (GS w1 n hf))
    (hM : ∀ w1 B d, RB w1 B n hf → Calls Tryz.prog 38 #[.slice B n d, .int .i64 1099511627776] w1 fun e w' => e = .returned (.int .i64 (v : Int)) ∧ w' = w1) : Calls Tryz.prog 25 #[.agg #[.slice A n c, .bool true, .bool sz]] w (RV w (.tuple #[.int .i64 (-(v : Int)), .int .i64 0])) := by
  have nz : ((n : Int) == 0) = false := by simp; omega
  have k1 : decide (2147483648 < (v : Int)) = false := by simp; omega
  have k2 : decide (2147483648 < v) = false := by simp; omega
  have en : IntKind.i64.wrap ((n : Int) - 1) = (q : Int) := by rw [IntWalk.i64_in _ (by omega)]; omega
  have q1 : (q : Int) < (n : Int) := by omega
  have q2 : q < n := by omega
  have ev : IntKind.i64.wrap (-(v : Int)) = -(v : Int) := by exact IntWalk.i64_in _ (by omega)
  subst hA
  replace hN := Lib.hid hN
  replace hM := Lib.hid hM
  clear h0 hn hb hq
  go_enter Tryz.func25, Tryz.ntmps25
  go_wp2_with fail
  (with_reducible refine (hN.out _ (by go_grown)).mono ?_)
  rintro e w1 ⟨B1, d1, rfl, hr, hb1⟩
  have hbw1 : Below w.heap.size w w1 := below_call hb1 (by go_grown)
  clear hb1
  go_wp2_with fail
  (with_reducible refine (hM.out _ _ _ hr).mono ?_)
  rintro e w2 ⟨rfl, rfl⟩
  go_wp2_with fail
  refine bodyPost_ret (v := .tuple #[.int .i64 (-(v : Int)), .int .i64 0]) (by simp [results, Tryz.results25, go_sem]) rfl ⟨rfl, ?_⟩
  go_grown
/-- The reference's Int, of any bits. -/
theorem refInt_t (n c : Nat) (A : Option Addr) (f : Nat → Bool) (sg sz : Bool) (w : World) (hn : n ≤ 128) (hA : RB w A n f) :
    Calls Tryz.prog 25 #[.agg #[.slice A n c, .bool sg, .bool sz]] w (RV w (.tuple #[.int .i64 (inV n (valB f n) sg).1, .int .i64 (inV n (valB f n) sg).2])) := by
  unfold inV
  by_cases h0 : n = 0
  · rw [if_pos h0]; exact refInt_w0 n c A sg sz w h0
  rw [if_neg h0]
  have hx := valB_lt f n
  have hM := fun w1 (hb : Below w.heap.size w w1) => refNum_nat n c 1099511627776 (by decide) A f w1 hn (hA.keep hb)
  have few : ∀ (v : Nat) (sz : Bool), (2147483648 ≤ v → 2147483648 ≤ min v 1099511627776) ∧ (v < 2147483648 → min v 1099511627776 = v) := fun v sz => ⟨fun h => by omega, fun h => by omega⟩
  obtain ⟨q, hq⟩ : ∃ q, n = q + 1 := ⟨n - 1, by omega⟩
  obtain ⟨b, off, hAe, hl, hcs⟩ := hA (by omega)
  have hc := hcs q (by omega)
  have ht : (valB f n).testBit (n - 1) = f q := by rw [valB_testBit]; simp [hq]
  cases sg
  · rw [Bool.false_and, if_neg (by decide)]
    by_cases h2 : 2147483648 ≤ valB f n
    · rw [if_pos h2]
      exact refInt_u_big n c _ A sz w h0 hn ((few _ sz).1 h2) hM
    · rw [if_neg h2]
      have e := (few (valB f n) sz).2 (by omega)
      rw [e] at hM
      exact refInt_u_ok n c _ A sz w h0 hn (by omega) hM
  · rw [Bool.true_and, ht]
    cases hfq : f q
    · rw [if_neg (by decide)]
      rw [hfq] at hc
      by_cases h2 : 2147483648 ≤ valB f n
      · rw [if_pos h2]
        exact refInt_s_big n c _ A sz w h0 hn b off q hq hAe hl hc ((few _ sz).1 h2) hM
      · rw [if_neg h2]
        have e := (few (valB f n) sz).2 (by omega)
        rw [e] at hM
        exact refInt_s_ok n c _ A sz w h0 hn b off q hq hAe hl hc (by omega) hM
    · rw [if_pos rfl]
      rw [hfq] at hc
      have hN := fun w1 (hb : Below w.heap.size w w1) => refNeg_ok n c A f w1 (by omega) (hA.keep hb)
      have hM2 := fun w1 B d (h : RB w1 B n (smB (fun j => !f j) (fun _ => false) true)) => refNum_nat n d 1099511627776 (by decide) B _ w1 hn h
      have hv := neg_val f n
      have hx2 : 2 ^ q ≤ valB f n := by
        have hb : (valB f n).testBit q = true := by rw [← hfq, ← ht, hq]; rfl
        exact Nat.ge_two_pow_of_testBit hb
      have hp := Nat.two_pow_pos q
      have hx3 : valB f n ≠ 0 := by omega
      have e : (0 + 2 ^ n - valB f n) % 2 ^ n = 2 ^ n - valB f n := by rw [Nat.zero_add]; exact Nat.mod_eq_of_lt (by omega)
      rw [e] at hv
      generalize 2 ^ n = M at *
      by_cases h2 : 2147483648 ≤ M - 1 - valB f n
      · rw [if_pos h2]
        simp only [hv] at hM2
        exact refInt_n_big n c _ _ A sz w h0 hn b off q hq hAe hl hc (by omega) hN hM2
      · rw [if_neg h2]
        have e3 : min (M - valB f n) 1099511627776 = M - valB f n := by omega
        simp only [hv, e3] at hM2
        have k := refInt_n_ok n c _ _ A sz w h0 hn b off q hq hAe hl hc (by omega) hN hM2
        rw [show (-1 - ((M - 1 - valB f n : Nat) : Int)) = -((M - valB f n : Nat) : Int) by omega]
        exact k
end Go.Proofs.YtcifljbcoioogaaGreatDoor
namespace Go.Proofs.YtcifljbcoioogaaGreatDoor
open Go.RowKit Go.Lib Go.Maps
/-- What the reference's Eval leaves. -/
def RE (w : World) (r : KR) (x : Ending) (w' : World) : Prop := x = .returned (ov r) ∧ Below w.heap.size w w'
/-- A variable of five cells that holds nothing yet. -/
def OZ (w : World) (g : Nat) : Prop := w.heap[g]? = some (.cells #[.int .i64 0, .int .i64 0, .int .i64 0, .int .i64 0, .int .i64 0] 50 (0, 0))
theorem OZ.over {w w' : World} {g : Nat} (h : OZ w g) (k : Below w.heap.size w w') : OZ w' g := (k.block g (lt_of_get h)).trans h
theorem OZ.all {w : World} {g : Nat} (h : OZ w g) : w.cell? ⟨g, 0, none⟩ = some (.int .i64 0) ∧ w.cell? ⟨g, 1, none⟩ = some (.int .i64 0) ∧ w.cell? ⟨g, 2, none⟩ = some (.int .i64 0) ∧ w.cell? ⟨g, 3, none⟩ = some (.int .i64 0) ∧ w.cell? ⟨g, 4, none⟩ = some (.int .i64 0) ∧ (∀ i, w.frozen? ⟨g, i, none⟩ = false) ∧ g < w.heap.size := by
  unfold OZ at h
  refine ⟨?_, ?_, ?_, ?_, ?_, fun i => Lib.frozen_of_heap h i, lt_of_get h⟩ <;> rw [Lib.cell_of_heap h] <;> rfl
/-- Behind the entry: the expression's variable and the answer's. -/
structure RI (w : World) (h : XH) (A : Option Addr) (n c : Nat) (w' : World) : Prop where
  x : BX w' w.heap.size 33 h A n c
  o : OZ w' (w.heap.size + 1)
  k : Below w.heap.size w w'
theorem RI.over {w : World} {h : XH} {A : Option Addr} {n c : Nat} {a b : World} (i : RI w h A n c a) (k : Below a.heap.size a b) : RI w h A n c b :=
  ⟨i.x.over k, i.o.over k, below_call k i.k⟩
theorem RI.alloc {w : World} {h : XH} {A : Option Addr} {n c : Nat} {a : World} (i : RI w h A n c a) (o : Obj) : RI w h A n c (a.alloc o) :=
  i.over ((Below.refl _ a).alloc (Nat.le_refl _) o)
theorem RI.new (w : World) (h : XH) (A : Option Addr) (n c : Nat) : RI w h A n c ((w.alloc (.cells #[.int .i64 h.k, .int .i64 h.f, .int .i64 h.l, .int .i64 h.c, .string h.s, .slice A n c] 33)).alloc (.cells #[.int .i64 0, .int .i64 0, .int .i64 0, .int .i64 0, .int .i64 0] 50)) := by
  refine ⟨(BX.new w 33 h A n c).alloc _, ?_, by go_grown⟩
  have h1 := heap_alloc_new (w.alloc (.cells #[.int .i64 h.k, .int .i64 h.f, .int .i64 h.l, .int .i64 h.c, .string h.s, .slice A n c] 33)) (.cells #[.int .i64 0, .int .i64 0, .int .i64 0, .int .i64 0, .int .i64 0] 50)
  rw [show (w.alloc (.cells #[.int .i64 h.k, .int .i64 h.f, .int .i64 h.l, .int .i64 h.c, .string h.s, .slice A n c] 33)).heap.size = w.heap.size + 1 by simp] at h1
  exact h1
set_option maxRecDepth 100000 in
set_option maxHeartbeats 3200000 in
theorem rev_num_ok (k f ln cc : Int) (s : ByteArray) (A E : Option Addr) (c m ec n x : Nat) (sg sz : Bool) (q e e2 : Int) (w : World) (hk : k = 1)
    (hPt : ∀ (W : World), Calls Tryz.prog 23 #[.string s] W fun e0 w' => ∃ A c, e0 = .returned (.tuple #[.agg #[.slice A n c, .bool sg, .bool sz], .int .i64 e]) ∧ RB w' A n (tb x) ∧ Below W.heap.size W w')
    (hI : ∀ (A : Option Addr) (c : Nat) (W : World), RB W A n (tb x) → Calls Tryz.prog 25 #[.agg #[.slice A n c, .bool sg, .bool sz]] W (RV W (.tuple #[.int .i64 q, .int .i64 e2])))
    (h0 : e = 0) (h2 : e2 = 0) : Calls Tryz.prog 12 #[xv ⟨k, f, ln, cc, s⟩ A 0 c, .slice E m ec] w (RE w (okR q)) := by
    have hB := fun (e : Int) W => rbad_t ⟨k, f, ln, cc, s⟩ A 0 c e W
    have hI0 := RI.new w ⟨k, f, ln, cc, s⟩ A 0 c
    subst hk
    unfold RE ov at *
    try unfold okR
    try unfold badR
    unfold badR at hB
    replace hB := Lib.hid hB
    replace hI := Lib.hid hI
    replace hPt := Lib.hid hPt
    replace hI0 := Lib.hid hI0
    subst h0 h2
    go_enter Tryz.func12, Tryz.ntmps12
    go_wp2_with fail
    (with_reducible refine (hPt.out _).mono ?_)
    rintro e0 w1 ⟨A1, c1, rfl, hA1, hb1⟩
    have hI1 := Lib.hid (hI0.out.over hb1)
    obtain ⟨b10, b11, b12, b13, b14, b15⟩ := hI1.out.x.all
    obtain ⟨o10, o11, o12, o13, o14, o1f, o1l⟩ := hI1.out.o.all
    have b1l := hI1.out.x.lt
    replace hb1 := Lib.hid hb1
    go_wp2_with fail
    (with_reducible refine (hI.out A1 c1 _ (by first | exact hA1 | exact hA1.keep (by go_grown))).mono ?_)
    rintro e0 w2 ⟨rfl, hb2⟩
    have hI2 := Lib.hid ((hI1.out.alloc _).over hb2)
    obtain ⟨b20, b21, b22, b23, b24, b25⟩ := hI2.out.x.all
    obtain ⟨o20, o21, o22, o23, o24, o2f, o2l⟩ := hI2.out.o.all
    have b2l := hI2.out.x.lt
    replace hb2 := Lib.hid hb2
    go_wp2_with fail
    refine bodyPost_ret (v := .agg #[.int .i64 q, .int .i64 0, .int .i64 0, .int .i64 0, .int .i64 0]) (by simp [results, Tryz.results12, go_sem, o20, o21, o22, o23, o24]) rfl ⟨rfl, ?_⟩
    have hz := hI2.out.k
    go_grown
set_option maxRecDepth 100000 in
set_option maxHeartbeats 3200000 in
theorem rev_num_r (k f ln cc : Int) (s : ByteArray) (A E : Option Addr) (c m ec n x : Nat) (sg sz : Bool) (q e e2 : Int) (w : World) (hk : k = 1)
    (hPt : ∀ (W : World), Calls Tryz.prog 23 #[.string s] W fun e0 w' => ∃ A c, e0 = .returned (.tuple #[.agg #[.slice A n c, .bool sg, .bool sz], .int .i64 e]) ∧ RB w' A n (tb x) ∧ Below W.heap.size W w')
    (hI : ∀ (A : Option Addr) (c : Nat) (W : World), RB W A n (tb x) → Calls Tryz.prog 25 #[.agg #[.slice A n c, .bool sg, .bool sz]] W (RV W (.tuple #[.int .i64 q, .int .i64 e2])))
    (h0 : e = 3) : Calls Tryz.prog 12 #[xv ⟨k, f, ln, cc, s⟩ A 0 c, .slice E m ec] w (RE w (badR ⟨k, f, ln, cc, s⟩ 3)) := by
    have hB := fun (e : Int) W => rbad_t ⟨k, f, ln, cc, s⟩ A 0 c e W
    have hI0 := RI.new w ⟨k, f, ln, cc, s⟩ A 0 c
    subst hk
    unfold RE ov at *
    try unfold okR
    try unfold badR
    unfold badR at hB
    replace hB := Lib.hid hB
    replace hI := Lib.hid hI
    replace hPt := Lib.hid hPt
    replace hI0 := Lib.hid hI0
    subst h0
    go_enter Tryz.func12, Tryz.ntmps12
    go_wp2_with fail
    (with_reducible refine (hPt.out _).mono ?_)
    rintro e0 w1 ⟨A1, c1, rfl, hA1, hb1⟩
    have hI1 := Lib.hid (hI0.out.over hb1)
    obtain ⟨b10, b11, b12, b13, b14, b15⟩ := hI1.out.x.all
    obtain ⟨o10, o11, o12, o13, o14, o1f, o1l⟩ := hI1.out.o.all
    have b1l := hI1.out.x.lt
    replace hb1 := Lib.hid hb1
    go_wp2_with fail
    (with_reducible refine (hB.out _ _).mono ?_)
    rintro e0 w2 ⟨rfl, hb2⟩
    have hI2 := Lib.hid ((hI1.out.alloc _).over hb2)
    obtain ⟨b20, b21, b22, b23, b24, b25⟩ := hI2.out.x.all
    obtain ⟨o20, o21, o22, o23, o24, o2f, o2l⟩ := hI2.out.o.all
    have b2l := hI2.out.x.lt
    clear hb2
    go_wp2_with fail
    refine bodyPost_ret (v := .agg #[.int .i64 0, .int .i64 f, .int .i64 ln, .int .i64 cc, .int .i64 3]) (by simp [results, Tryz.results12, go_sem, o20, o21, o22, o23, o24]) rfl ⟨rfl, ?_⟩
    have hz := hI2.out.k
    go_grown
set_option maxRecDepth 100000 in
set_option maxHeartbeats 3200000 in
theorem rev_num_f (k f ln cc : Int) (s : ByteArray) (A E : Option Addr) (c m ec n x : Nat) (sg sz : Bool) (q e e2 : Int) (w : World) (hk : k = 1)
    (hPt : ∀ (W : World), Calls Tryz.prog 23 #[.string s] W fun e0 w' => ∃ A c, e0 = .returned (.tuple #[.agg #[.slice A n c, .bool sg, .bool sz], .int .i64 e]) ∧ RB w' A n (tb x) ∧ Below W.heap.size W w')
    (hI : ∀ (A : Option Addr) (c : Nat) (W : World), RB W A n (tb x) → Calls Tryz.prog 25 #[.agg #[.slice A n c, .bool sg, .bool sz]] W (RV W (.tuple #[.int .i64 q, .int .i64 e2])))
    (h0 : e ≠ 0) (h3 : e ≠ 3) : Calls Tryz.prog 12 #[xv ⟨k, f, ln, cc, s⟩ A 0 c, .slice E m ec] w (RE w (badR ⟨k, f, ln, cc, s⟩ 5)) := by
    have hB := fun (e : Int) W => rbad_t ⟨k, f, ln, cc, s⟩ A 0 c e W
    have hI0 := RI.new w ⟨k, f, ln, cc, s⟩ A 0 c
    subst hk
    unfold RE ov at *
    try unfold okR
    try unfold badR
    unfold badR at hB
    replace hB := Lib.hid hB
    replace hI := Lib.hid hI
    replace hPt := Lib.hid hPt
    replace hI0 := Lib.hid hI0
    have d1 : (e == 0) = false := by simpa using h0
    have d2 : (e == 3) = false := by simpa using h3
    have d3 : (e != 0) = true := by simpa using h0
    have d4 : decide (e = 0) = false := by simpa using h0
    go_enter Tryz.func12, Tryz.ntmps12
    go_wp2_with fail
    (with_reducible refine (hPt.out _).mono ?_)
    rintro e0 w1 ⟨A1, c1, rfl, hA1, hb1⟩
    have hI1 := Lib.hid (hI0.out.over hb1)
    obtain ⟨b10, b11, b12, b13, b14, b15⟩ := hI1.out.x.all
    obtain ⟨o10, o11, o12, o13, o14, o1f, o1l⟩ := hI1.out.o.all
    have b1l := hI1.out.x.lt
    replace hb1 := Lib.hid hb1
    go_wp2_with fail
    (with_reducible refine (hB.out _ _).mono ?_)
    rintro e0 w2 ⟨rfl, hb2⟩
    have hI2 := Lib.hid ((hI1.out.alloc _).over hb2)
    obtain ⟨b20, b21, b22, b23, b24, b25⟩ := hI2.out.x.all
    obtain ⟨o20, o21, o22, o23, o24, o2f, o2l⟩ := hI2.out.o.all
    have b2l := hI2.out.x.lt
    clear hb2
    go_wp2_with fail
    refine bodyPost_ret (v := .agg #[.int .i64 0, .int .i64 f, .int .i64 ln, .int .i64 cc, .int .i64 5]) (by simp [results, Tryz.results12, go_sem, o20, o21, o22, o23, o24]) rfl ⟨rfl, ?_⟩
    have hz := hI2.out.k
    go_grown
set_option maxRecDepth 100000 in
set_option maxHeartbeats 3200000 in
theorem rev_num_i (k f ln cc : Int) (s : ByteArray) (A E : Option Addr) (c m ec n x : Nat) (sg sz : Bool) (q e e2 : Int) (w : World) (hk : k = 1)
    (hPt : ∀ (W : World), Calls Tryz.prog 23 #[.string s] W fun e0 w' => ∃ A c, e0 = .returned (.tuple #[.agg #[.slice A n c, .bool sg, .bool sz], .int .i64 e]) ∧ RB w' A n (tb x) ∧ Below W.heap.size W w')
    (hI : ∀ (A : Option Addr) (c : Nat) (W : World), RB W A n (tb x) → Calls Tryz.prog 25 #[.agg #[.slice A n c, .bool sg, .bool sz]] W (RV W (.tuple #[.int .i64 q, .int .i64 e2])))
    (h0 : e = 0) (h2 : e2 ≠ 0) : Calls Tryz.prog 12 #[xv ⟨k, f, ln, cc, s⟩ A 0 c, .slice E m ec] w (RE w (badR ⟨k, f, ln, cc, s⟩ 3)) := by
    have hB := fun (e : Int) W => rbad_t ⟨k, f, ln, cc, s⟩ A 0 c e W
    have hI0 := RI.new w ⟨k, f, ln, cc, s⟩ A 0 c
    subst hk
    unfold RE ov at *
    try unfold okR
    try unfold badR
    unfold badR at hB
    replace hB := Lib.hid hB
    replace hI := Lib.hid hI
    replace hPt := Lib.hid hPt
    replace hI0 := Lib.hid hI0
    subst h0
    have d1 : (e2 == 0) = false := by simpa using h2
    have d3 : (e2 != 0) = true := by simpa using h2
    have d4 : decide (e2 = 0) = false := by simpa using h2
    go_enter Tryz.func12, Tryz.ntmps12
    go_wp2_with fail
    (with_reducible refine (hPt.out _).mono ?_)
    rintro e0 w1 ⟨A1, c1, rfl, hA1, hb1⟩
    have hI1 := Lib.hid (hI0.out.over hb1)
    obtain ⟨b10, b11, b12, b13, b14, b15⟩ := hI1.out.x.all
    obtain ⟨o10, o11, o12, o13, o14, o1f, o1l⟩ := hI1.out.o.all
    have b1l := hI1.out.x.lt
    replace hb1 := Lib.hid hb1
    go_wp2_with fail
    (with_reducible refine (hI.out A1 c1 _ (by first | exact hA1 | exact hA1.keep (by go_grown))).mono ?_)
    rintro e0 w2 ⟨rfl, hb2⟩
    have hI2 := Lib.hid ((hI1.out.alloc _).over hb2)
    obtain ⟨b20, b21, b22, b23, b24, b25⟩ := hI2.out.x.all
    obtain ⟨o20, o21, o22, o23, o24, o2f, o2l⟩ := hI2.out.o.all
    have b2l := hI2.out.x.lt
    replace hb2 := Lib.hid hb2
    go_wp2_with fail
    (with_reducible refine (hB.out _ _).mono ?_)
    rintro e0 w3 ⟨rfl, hb3⟩
    have hI3 := Lib.hid (hI2.out.over hb3)
    obtain ⟨b30, b31, b32, b33, b34, b35⟩ := hI3.out.x.all
    obtain ⟨o30, o31, o32, o33, o34, o3f, o3l⟩ := hI3.out.o.all
    have b3l := hI3.out.x.lt
    clear hb3
    go_wp2_with fail
    refine bodyPost_ret (v := .agg #[.int .i64 0, .int .i64 f, .int .i64 ln, .int .i64 cc, .int .i64 3]) (by simp [results, Tryz.results12, go_sem, o30, o31, o32, o33, o34]) rfl ⟨rfl, ?_⟩
    have hz := hI3.out.k
    go_grown
theorem inV_in (n x : Nat) (sg : Bool) (hn : n ≠ 0) (_hx : x < 2 ^ n) : ((inV n x sg).2 = 0 → InR (inV n x sg).1) ∧ ((inV n x sg).2 ≠ 0 → (inV n x sg).2 = 3) := by
  unfold inV InR
  rw [if_neg hn]
  split
  · split
    · exact ⟨fun h => (by cases h), fun _ => rfl⟩
    · exact ⟨fun _ => (by dsimp only; omega), fun h => absurd rfl h⟩
  · split
    · exact ⟨fun h => (by cases h), fun _ => rfl⟩
    · exact ⟨fun _ => (by dsimp only; omega), fun h => absurd rfl h⟩
theorem tl_pos (s t : ByteArray) (h : Nat) (sg : Bool) : (tlV s h sg t).e = 0 → (tlV s h sg t).n ≠ 0 := by
  have hb : ∀ e : Int, e ≠ 0 → (badP e).e = 0 → (badP e).n ≠ 0 := fun e he h => absurd h he
  unfold tlV
  split
  · exact hb 6 (by decide)
  split
  · exact hb 5 (by decide)
  split
  · exact hb 6 (by decide)
  split
  · exact hb 5 (by decide)
  split
  · exact fun _ => by show (32 : Nat) ≠ 0; decide
  split
  · rename_i h0; exact fun _ => (by dsimp only; omega)
  · exact hb 2 (by decide)
theorem pa_pos (s : ByteArray) : (paV s).e = 0 → (paV s).n ≠ 0 := by
  have hb : ∀ e : Int, e ≠ 0 → (badP e).e = 0 → (badP e).n ≠ 0 := fun e he h => absurd h he
  unfold paV
  split
  · split
    · exact hb 6 (by decide)
    split
    · exact fun _ => by show (32 : Nat) ≠ 0; decide
    · exact hb 3 (by decide)
  split
  · unfold bhV
    split
    · exact hb 6 (by decide)
    split
    · exact tl_pos _ _ _ _
    · exact tl_pos _ _ _ _
  · exact hb 5 (by decide)
theorem chk_lit (h : XH) : chk h (litR h) = litR h := by
  have hok := paV_ok h.s
  have hp := pa_pos h.s
  unfold litR
  split
  · rename_i h0
    have hin := inV_in (paV h.s).n (paV h.s).x (paV h.s).sg (hp h0) hok.2
    split
    · rename_i h1
      have := hin.1 h1
      unfold chk okR InR at *
      rw [if_neg (by simp), if_neg (by dsimp only; omega)]
    · rename_i h1
      unfold chk badR
      rw [if_pos h1]
  · split
    · unfold chk badR; rw [if_pos (show (3 : Int) ≠ 0 by decide)]
    · unfold chk badR; rw [if_pos (show (5 : Int) ≠ 0 by decide)]
theorem rev_num (h : XH) (A E : Option Addr) (c m ec : Nat) (w : World) (hk : h.k = 1) (hs : h.s.size ≤ maxLen) :
    Calls Tryz.prog 12 #[xv h A 0 c, .slice E m ec] w (RE w (litR h)) := by
  have hok := paV_ok h.s
  have hp := pa_pos h.s
  have hPt := fun W => refParse_t h.s W hs
  unfold litR PL at *
  obtain ⟨n, x, sg, sz, e, hP⟩ : ∃ n x sg sz e, paV h.s = ⟨n, x, sg, sz, e⟩ := ⟨_, _, _, _, _, rfl⟩
  rw [hP] at hPt hok hp ⊢
  obtain ⟨hn, hx⟩ := hok
  have hI := fun (A : Option Addr) (c : Nat) (W : World) (q : RB W A n (tb x)) => refInt_t n c A (tb x) sg sz W hn q
  rw [show valB (tb x) n = x by rw [valB_tb, Nat.mod_eq_of_lt hx]] at hI
  have hin := fun h0 => (inV_in n x sg (hp h0) hx).2
  obtain ⟨q, hm⟩ : ∃ m, (inV n x sg).1 = m := ⟨_, rfl⟩
  obtain ⟨e2, he2⟩ : ∃ e, (inV n x sg).2 = e := ⟨_, rfl⟩
  dsimp only at *
  rw [hm, he2] at hI ⊢
  rw [he2] at hin
  obtain ⟨k, f, ln, cc, s⟩ := h
  by_cases h0 : e = 0
  · rw [if_pos h0]
    by_cases h2 : e2 = 0
    · rw [if_pos h2]
      exact rev_num_ok k f ln cc s A E c m ec n x sg sz q e e2 w hk hPt hI h0 h2
    · rw [if_neg h2, hin h0 h2]
      exact rev_num_i k f ln cc s A E c m ec n x sg sz q e e2 w hk hPt hI h0 h2
  · rw [if_neg h0]
    by_cases h3 : e = 3
    · rw [if_pos h3]
      exact rev_num_r k f ln cc s A E c m ec n x sg sz q e e2 w hk hPt hI h3
    · rw [if_neg h3]
      exact rev_num_f k f ln cc s A E c m ec n x sg sz q e e2 w hk hPt hI h0 h3
end Go.Proofs.YtcifljbcoioogaaGreatDoor
