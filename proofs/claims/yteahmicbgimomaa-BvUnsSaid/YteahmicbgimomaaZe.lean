/-
  The walks of OnesCount64, isOdd, of bv's Un 4 and of Un and Own where they refuse.
-/
import Derived.Test.YteahmicbgimomaaZc
import Derived.Test.YteahmicbgimomaaZd
import Derived.Test.YteahmicbgimomaaYf
namespace Go.Proofs.Yteahmicbgimomaa
open Go.RowKit
set_option maxRecDepth 100000 in
set_option maxHeartbeats 1000000 in
theorem OnesCount64_t (x : Nat) (w : World) (hx : x < 2 ^ 64) : Calls Try.prog 90 #[.int .u64 (x : Int)] w fun e w' => e = .returned (.int .i64 ((pcx x : Nat) : Int)) ∧ w' = w := by
  obtain ⟨l1, l2, l3, l4, l5, l6, hm⟩ := count_all x hx
  have s1 : IntKind.u64.wrap (bits .and .u64 ((x : Int) / 2) 6148914691236517205 + bits .and .u64 (x : Int) 6148914691236517205) = ((a1 x : Nat) : Int) := by
    have h1 : bits .and .u64 ((x / 2 : Nat) : Int) 6148914691236517205 = ((x / 2 &&& 6148914691236517205 : Nat) : Int) := u64_and_nat (x / 2) 6148914691236517205 (by omega) (by decide)
    have h2 : bits .and .u64 (x : Int) 6148914691236517205 = ((x &&& 6148914691236517205 : Nat) : Int) := u64_and_nat x 6148914691236517205 (by omega) (by decide)
    have h0 : (x : Int) / 2 = ((x / 2 : Nat) : Int) := by omega
    have ee : a1 x = (x / 2 &&& 6148914691236517205) + (x &&& 6148914691236517205) := rfl
    rw [h0, h1, h2, ← Int.natCast_add, ← ee, IntWalk.u64_in _ (by omega)]
  generalize a1 x = y1 at l1 l2 l3 l4 l5 l6 hm s1
  have s2 : IntKind.u64.wrap (bits .and .u64 ((y1 : Int) / 4) 3689348814741910323 + bits .and .u64 (y1 : Int) 3689348814741910323) = ((a2 y1 : Nat) : Int) := by
    have h1 : bits .and .u64 ((y1 / 4 : Nat) : Int) 3689348814741910323 = ((y1 / 4 &&& 3689348814741910323 : Nat) : Int) := u64_and_nat (y1 / 4) 3689348814741910323 (by omega) (by decide)
    have h2 : bits .and .u64 (y1 : Int) 3689348814741910323 = ((y1 &&& 3689348814741910323 : Nat) : Int) := u64_and_nat y1 3689348814741910323 (by omega) (by decide)
    have h0 : (y1 : Int) / 4 = ((y1 / 4 : Nat) : Int) := by omega
    have ee : a2 y1 = (y1 / 4 &&& 3689348814741910323) + (y1 &&& 3689348814741910323) := rfl
    rw [h0, h1, h2, ← Int.natCast_add, ← ee, IntWalk.u64_in _ (by omega)]
  generalize a2 y1 = y2 at l2 l3 l4 l5 l6 hm s2
  have s3 : bits .and .u64 (IntKind.u64.wrap ((y2 : Int) / 16 + (y2 : Int))) 1085102592571150095 = ((a3 y2 : Nat) : Int) := by
    have h1 : bits .and .u64 ((y2 / 16 + y2 : Nat) : Int) 1085102592571150095 = (((y2 / 16 + y2) &&& 1085102592571150095 : Nat) : Int) := u64_and_nat (y2 / 16 + y2) 1085102592571150095 (by omega) (by decide)
    have h0 : (y2 : Int) / 16 = ((y2 / 16 : Nat) : Int) := by omega
    have ee : a3 y2 = (y2 / 16 + y2) &&& 1085102592571150095 := rfl
    rw [h0, ← Int.natCast_add, IntWalk.u64_in _ (by omega), h1, ← ee]
  generalize a3 y2 = y3 at l4 l5 l6 hm s3
  have s4 : IntKind.u64.wrap ((y3 : Int) + (y3 : Int) / 256) = ((a4 y3 : Nat) : Int) := by
    have ee : a4 y3 = y3 + y3 / 256 := rfl
    rw [IntWalk.u64_in _ (by omega)]; omega
  generalize a4 y3 = y4 at l4 l5 l6 hm s4
  have s5 : IntKind.u64.wrap ((y4 : Int) + (y4 : Int) / 65536) = ((a5 y4 : Nat) : Int) := by
    have ee : a5 y4 = y4 + y4 / 65536 := rfl
    rw [IntWalk.u64_in _ (by omega)]; omega
  generalize a5 y4 = y5 at l5 l6 hm s5
  have s6 : IntKind.u64.wrap ((y5 : Int) + (y5 : Int) / 4294967296) = ((a6 y5 : Nat) : Int) := by
    have ee : a6 y5 = y5 + y5 / 4294967296 := rfl
    rw [IntWalk.u64_in _ (by omega)]; omega
  generalize a6 y5 = y6 at l6 hm s6
  have s7 : IntKind.i64.wrap (y6 : Int) = (y6 : Int) := IntWalk.i64_in _ (by omega)
  have s8 : bits .and .i64 (y6 : Int) 127 = ((pcx x : Nat) : Int) := by rw [i64_and127]; omega
  clear l1 l2 l3 l4 l5 l6 hm
  generalize pcx x = pc at s8 ⊢
  go_enter Try.func90, Try.ntmps90
  go_wp2
  go_ret
  exact ⟨rfl, rfl⟩
theorem par_eq (x : Nat) : decide ((pcx (lo x) + pcx (hi x)) % 2 = 1) = xrB (fun j => x.testBit j) 128 := by
  have e := xrB_add (fun j => x.testBit j) 64 64
  rw [odd_add, pcx_par, pcx_par]
  refine Eq.trans ?_ e.symm
  rw [xrB_congr (f := fun j => (lo x).testBit j) (g := fun j => x.testBit j) 64 fun j hj => by unfold lo; rw [Nat.testBit_mod_two_pow]; simp [hj], xrB_congr (f := fun j => (hi x).testBit j) (g := fun j => x.testBit (64 + j)) 64 fun j hj => by unfold hi; rw [Nat.testBit_div_two_pow, Nat.add_comm]]
theorem xrB_no : ∀ (k : Nat) (g : Nat → Bool), (∀ j, g j = false) → xrB g k = false
  | 0, _, _ => rfl
  | k + 1, g, hg => by show (xrB g k != g k) = false; rw [xrB_no k g hg, hg]; rfl
theorem par_long (f : Nat → Bool) (n d : Nat) : xrB (fun j => (valB f n).testBit j) (n + d) = xrB f n := by
  rw [xrB_add, xrB_no d (fun j => (valB f n).testBit (n + j)) (fun j => by rw [valB_testBit]; simp; intro h; omega), xrB_congr n fun j hj => bit_row f n j hj]
  simp
theorem par_row (f : Nat → Bool) (n : Nat) (hn : n ≤ 128) : xrB (fun j => (valB f n).testBit j) 128 = xrB f n := by
  have h := par_long f n (128 - n)
  rw [show n + (128 - n) = 128 by omega] at h
  exact h
set_option maxRecDepth 100000 in
set_option maxHeartbeats 1000000 in
theorem isOdd_t (n x : Nat) (w : World) (hx : x < 2 ^ 128) : Calls Try.prog 67 #[vv n x] w (RV w (.bool (xrB (fun j => x.testBit j) 128))) := by
  have hp := par_eq x
  have l1 := pcx_le (lo x)
  have l2 := pcx_le (hi x)
  have c1 := fun w => OnesCount64_t (lo x) w (lo_lt x)
  have c2 := fun w => OnesCount64_t (hi x) w (by unfold hi; exact Nat.div_lt_of_lt_mul (by omega))
  generalize xrB (fun j => x.testBit j) 128 = r at hp ⊢
  generalize pcx (lo x) = p1 at *
  generalize pcx (hi x) = p2 at *
  have r1 : (((p1 : Int) + (p2 : Int)) % 2 == 1) = r := by
    rw [← hp, Bool.eq_iff_iff]
    simp; omega
  have r0 : IntKind.i64.wrap ((p1 : Int) + (p2 : Int)) = (p1 : Int) + (p2 : Int) := IntWalk.i64_in _ (by omega)
  clear hp
  replace c1 := Lib.hid c1
  replace c2 := Lib.hid c2
  have V := HV.new w 29 n x
  have v := V.all
  go_enter Try.func67, Try.ntmps67
  go_wp2_with fail
  refine wp_loop_rounds 3 ?_
  rw [rounds_succ]
  go_wp2_with fail
  (with_reducible refine (c1.out _).mono ?_)
  rintro e w1 ⟨rfl, rfl⟩
  go_wp2_with fail
  rw [rounds_succ]
  go_wp2_with fail
  (with_reducible refine (c2.out _).mono ?_)
  rintro e w1 ⟨rfl, rfl⟩
  go_wp2_with fail
  rw [rounds_succ]
  go_wp2_with fail
  go_ret
  exact ⟨by first | rfl | (rw [← r1]; rfl), by go_grown⟩
set_option maxHeartbeats 800000 in
theorem Un_4 (n x : Nat) (w : World) (h0 : 1 ≤ n) (hx : x < 2 ^ 128) :
    Calls Try.prog 28 #[.int .i64 4, vv n x] w (RV w (.tuple #[vv 1 (xrB (fun j => x.testBit j) 128).toNat, .int .i64 0])) := by
  have hC := fun w => isOdd_t n x w hx
  generalize xrB (fun j => x.testBit j) 128 = b at *
  replace hC := Lib.hid hC
  have hT := Lib.hid (fun w => truth_v b w)
  clear hx
  go_enter Try.func28, Try.ntmps28
  go_wp2_with (first
    | (go_at_call 67; (with_reducible refine (hC.out _).mono ?_); rintro e w1 ⟨rfl, hb1⟩; obtain ⟨hc1, hf1⟩ := bcell hb1; have hz1 := less2 (size_le hb1 (w.heap.size + 2) (by go_size)))
    | (go_at_call 52; (with_reducible refine (hT.out _).mono ?_); rintro e w2 ⟨rfl, hb2⟩; obtain ⟨hc2, hf2⟩ := bcell hb2))
  have hbw1 : Below w.heap.size w w1 := below_call hb1 (by go_grown)
  have hbw : Below w.heap.size w w2 := below_call hb2 (by go_grown)
  refine bodyPost_ret (v := .tuple #[vv 1 b.toNat, .int .i64 0]) (by simp [results, Try.results28, go_sem, hc1, hc2, hz1]) rfl ⟨rfl, ?_⟩
  clear hb1 hc1 hf1 hb2 hc2 hf2
  go_grown
set_option maxHeartbeats 800000 in
theorem Un_bad (op : Int) (n x : Nat) (w : World) (ho : op < 0 ∨ 5 < op) :
    Calls Try.prog 28 #[.int .i64 op, vv n x] w (RV w (.tuple #[vv 0 0, .int .i64 1])) := by
  rcases ho with ho | ho
  · go_enter Try.func28, Try.ntmps28
    go_wp2
    refine bodyPost_ret (v := .tuple #[.agg #[.int .i64 0, .int .u64 0, .int .u64 0], .int .i64 1]) (by simp [results, Try.results28, go_sem]) rfl ⟨rfl, ?_⟩
    go_grown
  · have h1 : decide (op < 0) = false := by simp; omega
    have h2 : decide (5 < op) = true := by simp; omega
    go_enter Try.func28, Try.ntmps28
    go_wp2
    refine bodyPost_ret (v := .tuple #[.agg #[.int .i64 0, .int .u64 0, .int .u64 0], .int .i64 1]) (by simp [results, Try.results28, go_sem]) rfl ⟨rfl, ?_⟩
    go_grown
set_option maxHeartbeats 800000 in
theorem Un_none (op : Int) (x : Nat) (w : World) (h0 : 0 ≤ op) (h5 : op ≤ 5) :
    Calls Try.prog 28 #[.int .i64 op, vv 0 x] w (RV w (.tuple #[vv 0 0, .int .i64 2])) := by
  have h1 : decide (op < 0) = false := by simp; omega
  have h2 : decide (5 < op) = false := by simp; omega
  go_enter Try.func28, Try.ntmps28
  go_wp2
  refine bodyPost_ret (v := .tuple #[.agg #[.int .i64 0, .int .u64 0, .int .u64 0], .int .i64 2]) (by simp [results, Try.results28, go_sem]) rfl ⟨rfl, ?_⟩
  go_grown
set_option maxHeartbeats 800000 in
theorem Own_bad (n c : Nat) (A : Option Addr) (w : World) (h : n < 1 ∨ 128 < n) :
    Calls Try.prog 25 #[.slice A n c] w (RV w (vv 0 0)) := by
  have hC := Lib.hid (fun w => Of_bad n c A w h)
  clear h
  go_enter Try.func25, Try.ntmps25
  go_wp2_with (go_at_call 18; (with_reducible refine (hC.out _).mono ?_); rintro e w1 ⟨rfl, hb1⟩; have Z1 := ((HV.zero w 29).over hb1); have hbw1 : Below w.heap.size w w1 := below_call hb1 (by go_grown); have z1 := Z1.all; have l1 := Z1.lt; have s1 := hbw1.size; clear hb1)
  refine bodyPost_ret (v := vv 0 0) (by simp [results, Try.results25, go_sem, z1, l1]) rfl ⟨rfl, ?_⟩
  go_grown
end Go.Proofs.Yteahmicbgimomaa
