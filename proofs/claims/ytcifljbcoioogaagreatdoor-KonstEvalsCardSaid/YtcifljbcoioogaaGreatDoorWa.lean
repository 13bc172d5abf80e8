/-
  The walks of the smallest functions of bv: lowBits, fits, trimmed. What each call returns and what it does to memory, for every argument in the ranges that stand in each theorem.
  The walks of small functions of bv over a vector: resized, Bit, isNegative, isZero, Equal, bitOf, truth: what each returns, for every vector whose bits beyond the width are 0.
  Equality of two vectors as the program computes it: isZero, Equal, and the operator on the type itself.
  The walk of bv's Text: the digits of a vector, the most significant first.
  The walks of the bitwise functions of bv: bitwise with each of its functions, and what is made of it: invert, ones.
  The walks of math/bits.Mul64 and of bv's sum, difference, negate, product.
  The walks of bv's difference, negate, product, shiftUp, shiftDown.
  The walk of bv's New: a vector made of words.
  The walks of bv's arithmetic (sum, difference, product), logic, and of Bin for these operations.
  The walk of awake: the fixed fact that the statements of layer 1 begin with holds.
  The walks of bv's Of, and of the statements' own short and Own: a vector made of bits.
  The walks of the statements' own short and Own; a vector made of no words.
  The walks of bv's shiftUp, shiftDown.
  The walk of bv's shiftDown.
  The walks of bv's less, lessSigned, magnitude, contains.
  The walk of bv's lessSigned.
  The walks of bv's contains, Slice, Ext and of Un where it turns all bits or negates.
  The walks of bv's Num, of shift and of Bin for shifts.
  The walks of bv's holds, and of Bin for shifts and comparisons.
  The walks of the statements' own fit, and of the closures of BvRing and BvOrders.
  The walk of bv's divide: long division.
  The walk of bv's divide where the divisor is not 0.
  The walk of bv's divideSigned.
  The walks of bv's divideSigned, arithmetic and Bin for the divisions.
-/
import Derived.Test.YtcifljbcoioogaaGreatDoorProg
import Derived.Test.YtcifljbcoioogaaGreatDoorM
import Derived.WalkKit
import Derived.WalkSpells
import Derived.WalkLawsBesides
import Derived.StillTailTactics
import Derived.BigQuiet
import Derived.Deep.QuietTactic
import Derived.Lib.Hide
import Derived.Handy
import Derived.ChangeKeysEq
import Derived.Laws.BytesString
import Derived.Deep.RegionWith
import Derived.Laws.CopyOwn
import Derived.Deep.RegionHeld3
import Derived.Deep.DeepCutAuto
import Derived.Test.YtcifljbcoioogaaGreatDoorRt
import Derived.Deep.Light
import Derived.RegionTactic
namespace Go.Proofs.YtcifljbcoioogaaGreatDoor
open Go.RowKit

set_option maxHeartbeats 400000 in
theorem lowBits_t (k : Int) (w : World) (h0 : -1000 ≤ k) (h1 : k ≤ 1000) :
    Calls Tryz.prog 115 #[.int .i64 k] w fun e w' => e = .returned (.int .u64 ((mask k : Nat) : Int)) ∧ w' = w := by
  have hm := Lib.hid (wrap_mask k)
  have hn := Lib.hid (mask_neg k)
  go_enter Tryz.func115, Tryz.ntmps115
  go_wp2
  all_goals go_ret
  · have h : k < 0 := by assumption
    exact ⟨by rw [hn.out h]; rfl, rfl⟩
  · exact ⟨by rw [← hm.out]; rfl, rfl⟩
def fitsB (k : Int) : Bool := decide (1 ≤ k ∧ k ≤ 128)
set_option maxHeartbeats 400000 in
theorem fits_t (k : Int) (w : World)  :
    Calls Tryz.prog 106 #[.int .i64 k] w fun e w' => e = .returned (.bool (fitsB k)) ∧ w' = w := by
  by_cases a : 1 ≤ k
  · have hd := Lib.hid (show fitsB k = decide (k ≤ 128) from by unfold fitsB; simp [a])
    go_enter Tryz.func106, Tryz.ntmps106
    go_wp2
    go_ret
    exact ⟨by rw [hd.out]; rfl, rfl⟩
  · have hd := Lib.hid (show fitsB k = false from by unfold fitsB; simp [a])
    go_enter Tryz.func106, Tryz.ntmps106
    go_wp2
    go_ret
    exact ⟨by rw [hd.out]; rfl, rfl⟩
set_option maxRecDepth 100000 in
set_option maxHeartbeats 800000 in
theorem trimmed_t (n x0 x1 : Nat) (w : World) (hn : n ≤ 128) :
    Calls Tryz.prog 107 #[.agg #[.int .i64 (n : Int), .int .u64 (x0 : Int), .int .u64 (x1 : Int)]] w fun e w' =>
      e = .returned (.agg #[.int .i64 (n : Int), .int .u64 (bits .and .u64 (x0 : Int) ((mask (n : Int) : Nat) : Int)), .int .u64 (bits .and .u64 (x1 : Int) ((mask ((n : Int) - 64) : Nat) : Int))]) ∧ Below w.heap.size w w' := by
  have e0 : IntKind.i64.wrap 0 = 0 := by decide
  have e64 : IntKind.i64.wrap 64 = 64 := by decide
  have en : IntKind.i64.wrap (n : Int) = (n : Int) := IntWalk.i64_in _ (by omega)
  have en64 : IntKind.i64.wrap ((n : Int) - 64) = (n : Int) - 64 := IntWalk.i64_in _ (by omega)
  go_enter Tryz.func107, Tryz.ntmps107
  go_wp2
  refine wp_loop_rounds 3 ?_
  rw [rounds_succ]
  go_wp2
  refine wp_region_still_tail 13 (by kernel_rfl) (by kernel_rfl) ?_
  simp only [List.take_succ_cons, List.take_zero, List.drop_succ_cons, List.drop_zero]
  change wpStill _ _ (World.drew _) _ _ _
  repeat still_step
  still_call (lowBits_t _ _ (by omega) (by omega))
  repeat still_step
  refine wpStill_nil ?_
  change wpList _ _ _ _ _ (World.drew _)
  go_wp2
  rw [rounds_succ]
  go_wp2
  refine wp_region_still_tail 13 (by kernel_rfl) (by kernel_rfl) ?_
  simp only [List.take_succ_cons, List.take_zero, List.drop_succ_cons, List.drop_zero]
  change wpStill _ _ (World.drew _) _ _ _
  repeat still_step
  still_call (lowBits_t _ _ (by omega) (by omega))
  repeat still_step
  refine wpStill_nil ?_
  change wpList _ _ _ _ _ (World.drew _)
  go_wp2
  rw [rounds_succ]
  go_wp2
  go_returns
  exact ⟨rfl, by go_grown⟩
/-- What a call that returns v and touches nothing that was there leaves. -/
def RV (w : World) (v : Value) (e : Ending) (w' : World) : Prop := e = .returned v ∧ Below w.heap.size w w'
theorem trimmed_w (n x0 x1 : Nat) (w : World) (hn : n ≤ 128) (h0 : x0 < 2 ^ 64) (h1 : x1 < 2 ^ 64) :
    Calls Tryz.prog 107 #[.agg #[.int .i64 (n : Int), .int .u64 (x0 : Int), .int .u64 (x1 : Int)]] w (RV w (vv n (trimN n x0 x1))) := by
  refine (trimmed_t n x0 x1 w hn).mono ?_
  rintro e w' ⟨rfl, hb⟩
  refine ⟨?_, hb⟩
  rw [bits_and_mask x0 _ h0, bits_and_mask x1 _ h1, ← lo_trim n x0 x1, ← hi_trim n x0 x1 h0 hn]
theorem bcell {W w1 : World} (hb : Below W.heap.size W w1) : (∀ b o, b < W.heap.size → w1.cell? ⟨b, o, none⟩ = W.cell? ⟨b, o, none⟩) ∧ (∀ b o, b < W.heap.size → w1.frozen? ⟨b, o, none⟩ = W.frozen? ⟨b, o, none⟩) :=
  ⟨fun b o h => hb.cell (p := ⟨b, o, none⟩) h, fun b o h => hb.frozen (p := ⟨b, o, none⟩) h⟩
theorem below_call {w W w1 : World} (h : Below W.heap.size W w1) (h0 : Below w.heap.size w W) : Below w.heap.size w w1 := h0.trans (h.mono h0.size)
end Go.Proofs.YtcifljbcoioogaaGreatDoor
namespace Go.Proofs.YtcifljbcoioogaaGreatDoor
open Go.RowKit

set_option maxHeartbeats 800000 in
theorem Bit_lo (n i x0 x1 : Nat) (w : World) (hi : i < n) (h : i < 64) :
    Calls Tryz.prog 69 #[.agg #[.int .i64 (n : Int), .int .u64 (x0 : Int), .int .u64 (x1 : Int)], .int .i64 (i : Int)] w (RV w (.bool (bits .and .u64 ((x0 : Int) / 2 ^ i) 1 == 1))) := by
  have hd : ((i : Int) / 64) = 0 := by omega
  have hm : ((i : Int) % 64) = (i : Int) := by omega
  go_enter Tryz.func69, Tryz.ntmps69
  go_wp2
  go_returns
  exact ⟨rfl, by go_grown⟩
set_option maxHeartbeats 800000 in
theorem Bit_hi (n i x0 x1 : Nat) (w : World) (hn : n ≤ 128) (hi : 64 + i < n) :
    Calls Tryz.prog 69 #[.agg #[.int .i64 (n : Int), .int .u64 (x0 : Int), .int .u64 (x1 : Int)], .int .i64 (64 + (i : Int))] w (RV w (.bool (bits .and .u64 ((x1 : Int) / 2 ^ i) 1 == 1))) := by
  have hd : ((64 + (i : Int)) / 64) = 1 := by omega
  have hm : ((64 + (i : Int)) % 64) = (i : Int) := by omega
  go_enter Tryz.func69, Tryz.ntmps69
  go_wp2
  go_returns
  exact ⟨rfl, by go_grown⟩
set_option maxHeartbeats 800000 in
theorem Bit_out (n x0 x1 : Nat) (i : Int) (w : World) (hn : n ≤ 128) (hi : i < 0 ∨ n ≤ i) :
    Calls Tryz.prog 69 #[.agg #[.int .i64 (n : Int), .int .u64 (x0 : Int), .int .u64 (x1 : Int)], .int .i64 i] w (RV w (.bool false)) := by
  rcases hi with hi | hi
  · go_enter Tryz.func69, Tryz.ntmps69
    go_wp2
    go_returns
    exact ⟨rfl, by go_grown⟩
  · have h0 : ¬ i < 0 := by omega
    go_enter Tryz.func69, Tryz.ntmps69
    go_wp2
    go_returns
    exact ⟨rfl, by go_grown⟩
theorem Bit_v (n x : Nat) (i : Int) (w : World) (hn : n ≤ 128) (hx : x < 2 ^ n) :
    Calls Tryz.prog 69 #[vv n x, .int .i64 i] w (RV w (.bool (bitI n x i))) := by
  by_cases h : 0 ≤ i ∧ i < n
  · obtain ⟨k, rfl⟩ := Int.eq_ofNat_of_zero_le h.1
    have e : bitI n x (k : Int) = x.testBit k := by unfold bitI; simp [h]
    rw [e]
    by_cases hk : k < 64
    · rw [← testBit_lo x k hk, ← testBit_word _ _ (lo_lt x)]
      exact Bit_lo n k (lo x) (hi x) w (by omega) hk
    · obtain ⟨j, rfl⟩ : ∃ j, k = 64 + j := ⟨k - 64, by omega⟩
      rw [← testBit_hi x j, ← testBit_word _ _ (hi_lt hx hn)]
      exact Bit_hi n j (lo x) (hi x) w hn (by omega)
  · have e : bitI n x i = false := by unfold bitI; simp [h]
    rw [e]
    exact Bit_out n (lo x) (hi x) i w hn (by omega)
end Go.Proofs.YtcifljbcoioogaaGreatDoor
namespace Go.Proofs.YtcifljbcoioogaaGreatDoor
open Go.RowKit
end Go.Proofs.YtcifljbcoioogaaGreatDoor
namespace Go.Proofs.YtcifljbcoioogaaGreatDoor
open Go.RowKit
def dgt (n x j : Nat) : Int := if x.testBit (n - 1 - j) then 49 else 48
def dig (n x k j : Nat) : Value := .int .u8 (if n ≤ j + k then dgt n x j else 0)
def txt (n x : Nat) : ByteArray := ((List.range n).map (dgt n x)).foldl (fun r n => r.push (UInt8.ofNat n.toNat)) ByteArray.empty
theorem txt_49 : txt 4 9 = ⟨#[49, 48, 48, 49]⟩ := by decide
theorem txt_41 : txt 4 1 = ⟨#[48, 48, 48, 49]⟩ := by decide
theorem info_u8 : (Tryz.prog.info? 5).map (fun i => (i.zero, i.size, i.bytes)) = some (some (.int .u8 0), 1, 1) := by kernel_rfl
theorem conv_txt (n x g : Nat) (w : World) (h : w.rowIs g 5 n (dig n x n)) :
    (convert 22 9 (.slice (some ⟨g, 0, none⟩) n n)).run Tryz.prog w = .ok (.string (txt n x)) w := by
  rw [run_convert_bytes_string w _ _ 5 _ _ _ Tryz.underlying22 Tryz.underlying5 Tryz.underlying9]
  refine run_bytesToString w _ _ _ ((List.range n).map (dgt n x)) ?_
  have hl := run_loadCells_list (P := Tryz.prog) w ⟨g, 0, none⟩ (((List.range n).map (dgt n x)).map (Value.int .u8)) (fun j v hv => by
    rw [List.getElem?_map, List.getElem?_map, Option.map_map, Option.map_eq_some_iff] at hv
    obtain ⟨i, hi, rfl⟩ := hv
    have hj : j < n := by
      rcases Nat.lt_or_ge j n with h' | h'
      · exact h'
      · rw [List.getElem?_eq_none (by simpa using h')] at hi; cases hi
    rw [List.getElem?_eq_getElem (by simpa using hj)] at hi
    simp only [List.getElem_range, Option.some.injEq] at hi
    subst hi
    have hadd : (⟨g, 0, none⟩ : Addr).add j = ⟨g, j, none⟩ := by unfold Addr.add; split <;> simp_all
    rw [hadd, World.rowIs.cell h hj]
    simp [dig])
  simpa using hl
end Go.Proofs.YtcifljbcoioogaaGreatDoor
namespace Go.Proofs.YtcifljbcoioogaaGreatDoor
open Go.RowKit

set_option maxHeartbeats 400000 in
theorem inv_f (x y : Nat) (w : World) : Calls Tryz.prog 121 #[.int .u64 (x : Int), .int .u64 (y : Int)] w fun e w' => e = .returned (.int .u64 (bits .xor .u64 IntKind.u64.max (x : Int))) ∧ w' = w := by
  go_enter Tryz.func121, Tryz.ntmps121
  go_wp2
  go_ret
  exact ⟨rfl, rfl⟩
set_option maxRecDepth 100000 in
set_option maxHeartbeats 1000000 in
theorem bitwise_w (K : FuncId) (n m : Nat) (x0 x1 y0 y1 g0 g1 : Nat) (w : World) (hn : n ≤ 128) (hg0 : g0 < 2 ^ 64) (hg1 : g1 < 2 ^ 64)
    (hcall : ∀ args w, (callFunc K args).run Tryz.prog w = .ok (.enter K args) w)
    (hf0 : ∀ w, Calls Tryz.prog K #[.int .u64 (x0 : Int), .int .u64 (y0 : Int)] w fun e w' => e = .returned (.int .u64 (g0 : Int)) ∧ w' = w)
    (hf1 : ∀ w, Calls Tryz.prog K #[.int .u64 (x1 : Int), .int .u64 (y1 : Int)] w fun e w' => e = .returned (.int .u64 (g1 : Int)) ∧ w' = w) :
    Calls Tryz.prog 120 #[.agg #[.int .i64 (n : Int), .int .u64 (x0 : Int), .int .u64 (x1 : Int)], .agg #[.int .i64 (m : Int), .int .u64 (y0 : Int), .int .u64 (y1 : Int)], .func (.func K) #[] #[]] w (RV w (vv n (trimN n g0 g1))) := by
  have hF0 := Lib.hid hf0
  have hF1 := Lib.hid hf1
  clear hf0 hf1
  go_enter Tryz.func120, Tryz.ntmps120
  go_wp2
  refine wp_loop_rounds 3 ?_
  rw [rounds_succ]
  go_wp2
  refine wp_region_still_tail 13 (by kernel_rfl) (by kernel_rfl) ?_
  simp only [List.take_succ_cons, List.take_zero, List.drop_succ_cons, List.drop_zero]
  change wpStill _ _ (World.drew _) _ _ _
  repeat still_step
  still_call (hF0.out _)
  repeat still_step
  refine wpStill_nil ?_
  change wpList _ _ _ _ _ (World.drew _)
  go_wp2
  rw [rounds_succ]
  go_wp2
  refine wp_region_still_tail 13 (by kernel_rfl) (by kernel_rfl) ?_
  simp only [List.take_succ_cons, List.take_zero, List.drop_succ_cons, List.drop_zero]
  change wpStill _ _ (World.drew _) _ _ _
  repeat still_step
  still_call (hF1.out _)
  repeat still_step
  refine wpStill_nil ?_
  change wpList _ _ _ _ _ (World.drew _)
  go_wp2
  rw [rounds_succ]
  go_wp2_with (go_at_call 107; refine (trimmed_w n g0 g1 _ hn hg0 hg1).mono ?_; rintro e w1 ⟨rfl, hb1⟩; obtain ⟨hc1, hf1⟩ := bcell hb1)
  have hbw : Below w.heap.size w w1 := below_call hb1 (by go_grown)
  refine bodyPost_ret (v := vv n (trimN n g0 g1)) (by simp [results, Tryz.results120, go_sem, hc1]) rfl ⟨rfl, ?_⟩
  clear hb1 hc1 hf1
  go_grown
theorem call_inv : ∀ args w, (callFunc 121 args).run Tryz.prog w = .ok (.enter 121 args) w := fun _ _ => by kernel_rfl
set_option maxHeartbeats 400000 in
/-- invert: all bits turned. -/
theorem invert_v (n x : Nat) (w : World) (hn : n ≤ 128) (hx : x < 2 ^ n) : Calls Tryz.prog 109 #[vv n x] w (RV w (vv n (2 ^ n - 1 - x))) := by
  have hx' : x < 2 ^ 128 := Nat.lt_of_lt_of_le hx (Nat.pow_le_pow_right (by decide) hn)
  have h := fun w => bitwise_w 121 n n (lo x) (hi x) (lo x) (hi x) (lo (2 ^ 128 - 1 - x)) (hi (2 ^ 128 - 1 - x)) w hn (lo_lt _) (hi_lt (w := 128) (by omega) (by decide)) call_inv
    (fun w => (inv_f _ _ w).mono fun e w' h => by rw [u64_max_xor _ (lo_lt x), ← lo_not x hx'] at h; exact h)
    (fun w => (inv_f _ _ w).mono fun e w' h => by rw [u64_max_xor _ (hi_lt hx hn), ← hi_not x hx'] at h; exact h)
  rw [trim_not n x hn hx] at h
  have h := Lib.hid h
  go_enter Tryz.func109, Tryz.ntmps109
  go_wp2_with (go_at_call 120; refine (h.out _).mono ?_; rintro e w1 ⟨rfl, hb1⟩; obtain ⟨hc1, hf1⟩ := bcell hb1)
  have hbw : Below w.heap.size w w1 := below_call hb1 (by go_grown)
  refine bodyPost_ret (v := vv n (2 ^ n - 1 - x)) (by simp [results, Tryz.results109, go_sem, hc1]) rfl ⟨rfl, ?_⟩
  clear hb1 hc1 hf1
  go_grown
end Go.Proofs.YtcifljbcoioogaaGreatDoor
namespace Go.Proofs.YtcifljbcoioogaaGreatDoor
open Go.RowKit
set_option maxHeartbeats 800000 in
theorem mul64_t (x y : Nat) (w : World) (hx : x < 2 ^ 64) (hy : y < 2 ^ 64) : Calls Tryz.prog 137 #[.int .u64 (x : Int), .int .u64 (y : Int)] w fun e w' => e = .returned (.tuple #[.int .u64 ((mulHi x y : Nat) : Int), .int .u64 ((mulLo x y : Nat) : Int)]) ∧ w' = w := by
  have hh := Lib.hid (mul64_form x y hx hy)
  have hl := Lib.hid (mulLo_form x y)
  clear hx hy
  go_enter Tryz.func137, Tryz.ntmps137
  go_wp2
  go_ret2
  exact ⟨by rw [← hh.out, ← hl.out]; rfl, rfl⟩
theorem call_add (x y c : Nat) (hc : c ≤ 1) (w : World) : (callFunc 136 #[.int .u64 (x : Int), .int .u64 (y : Int), .int .u64 (c : Int)]).run Tryz.prog w = .ok (.value (.tuple #[.int .u64 ((sumLo x y c : Nat) : Int), .int .u64 ((carryN x y c : Nat) : Int)])) w := by
  rw [run_callFunc_extern Tryz.func136 (by kernel_rfl) (by kernel_rfl) (by kernel_rfl) (e := add64Entry) (by kernel_rfl), run_add64 x y c (by omega) (by omega) (by omega) (by omega)]
  simp only [Result.andThen, sumLo, carryN]
  congr 5
set_option maxRecDepth 100000 in
set_option maxHeartbeats 1000000 in
theorem sum_w (n m : Nat) (x0 x1 y0 y1 c : Nat) (w : World) (hn : n ≤ 128) (hx0 : x0 < 2 ^ 64) (hy0 : y0 < 2 ^ 64) (hc : c ≤ 1) :
    Calls Tryz.prog 124 #[.agg #[.int .i64 (n : Int), .int .u64 (x0 : Int), .int .u64 (x1 : Int)], .agg #[.int .i64 (m : Int), .int .u64 (y0 : Int), .int .u64 (y1 : Int)], .int .u64 (c : Int)] w (RV w (vv n (trimN n (sumLo x0 y0 c) (sumLo x1 y1 (carryN x0 y0 c))))) := by
  have h1 := call_add x0 y0 c hc
  have h2 := call_add x1 y1 (carryN x0 y0 c) (carryN_le x0 y0 c hx0 hy0 hc)
  clear hx0 hy0 hc
  go_enter Tryz.func124, Tryz.ntmps124
  go_wp2
  refine wp_loop_rounds 3 ?_
  rw [rounds_succ]
  go_wp2
  go_region_with (fail)
  all_goals
    go_wp2
    rw [rounds_succ]
    go_wp2
    go_region_with (fail)
  all_goals
    go_wp2
    rw [rounds_succ]
    go_wp2_with (go_at_call 107; refine (trimmed_w n _ _ _ hn (sumLo_lt _ _ _) (sumLo_lt _ _ _)).mono ?_; rintro e w1 ⟨rfl, hb1⟩; obtain ⟨hc1, hf1⟩ := bcell hb1)
    have hbw : Below w.heap.size w w1 := below_call hb1 (by go_grown)
    refine bodyPost_ret (v := vv n (trimN n (sumLo x0 y0 c) (sumLo x1 y1 (carryN x0 y0 c)))) (by simp [results, Tryz.results124, go_sem, hc1]) rfl ⟨rfl, ?_⟩
    clear hb1 hc1 hf1
    go_grown
theorem sum_v (n x y c : Nat) (w : World) (hn : n ≤ 128) (hc : c ≤ 1) :
    Calls Tryz.prog 124 #[vv n x, vv n y, .int .u64 (c : Int)] w (RV w (vv n ((x + y + c) % 2 ^ n))) := by
  have h := sum_w n n (lo x) (hi x) (lo y) (hi y) c w hn (lo_lt _) (lo_lt _) hc
  rw [sum_eq n x y c hn] at h
  exact h
end Go.Proofs.YtcifljbcoioogaaGreatDoor
namespace Go.Proofs.YtcifljbcoioogaaGreatDoor
open Go.RowKit
set_option maxHeartbeats 1000000 in
theorem product_v (n x y : Nat) (w : World) (hn : n ≤ 128) :
    Calls Tryz.prog 125 #[vv n x, vv n y] w (RV w (vv n (x * y % 2 ^ n))) := by
  have hp := prod_eq n x y hn
  have hm := Lib.hid (fun w => mul64_t (lo x) (lo y) w (lo_lt _) (lo_lt _))
  have ht := fun w => trimmed_w n (mulLo (lo x) (lo y)) (prodHi (lo x) (hi x) (lo y) (hi y)) w hn (Nat.mod_lt _ (by decide)) (Nat.mod_lt _ (by decide))
  rw [hp, ← prodHi_form] at ht
  have ht := Lib.hid ht
  clear hp
  go_enter Tryz.func125, Tryz.ntmps125
  go_wp2_with (first | (go_at_call 137; refine (hm.out _).mono ?_; rintro e w0 ⟨rfl, rfl⟩) | (go_at_call 107; refine (ht.out _).mono ?_; rintro e w1 ⟨rfl, hb1⟩; obtain ⟨hc1, hf1⟩ := bcell hb1))
  have hbw : Below w.heap.size w w1 := below_call hb1 (by go_grown)
  refine bodyPost_ret (v := vv n (x * y % 2 ^ n)) (by simp [results, Tryz.results125, go_sem, hc1]) rfl ⟨rfl, ?_⟩
  clear hb1 hc1 hf1
  go_grown
end Go.Proofs.YtcifljbcoioogaaGreatDoor
namespace Go.Proofs.YtcifljbcoioogaaGreatDoor
open Go.RowKit
/-- A slice of words that came in: m words, f j the word number j. -/
def RU (w : World) (A : Option Addr) (m : Nat) (f : Nat → Nat) : Prop := 0 < m → ∃ ad : Addr, A = some ad ∧ ad.block < w.heap.size ∧ ∀ j, j < m → w.cell? (ad.add j) = some (.int .u64 ((f j : Nat) : Int))
def wd (f : Nat → Nat) (m j : Nat) : Nat := if j < m then f j else 0
def wcs (f : Nat → Nat) (m : Nat) : List Value := (List.range (min m 2)).map fun j => .int .u64 ((f j : Nat) : Int)
theorem wcs_len (f : Nat → Nat) (m : Nat) : (wcs f m).length = min m 2 := by simp [wcs]
theorem wcs_get (f : Nat → Nat) (m j : Nat) (v : Value) (h : (wcs f m)[j]? = some v) : j < m ∧ v = .int .u64 ((f j : Nat) : Int) := by
  have hj : j < (wcs f m).length := by
    rcases Nat.lt_or_ge j (wcs f m).length with h' | h'
    · exact h'
    · rw [List.getElem?_eq_none h'] at h; cases h
  have hj2 := hj
  rw [wcs_len] at hj2
  rw [List.getElem?_eq_getElem hj] at h
  simp only [wcs, List.getElem_map, List.getElem_range, Option.some.injEq] at h
  exact ⟨by omega, h.symm⟩
theorem wcs_one (f : Nat → Nat) (m : Nat) : ∀ v ∈ wcs f m, v.oneCell' = true := by
  intro v hv
  simp only [wcs, List.mem_map] at hv
  obtain ⟨j, _, rfl⟩ := hv
  rfl
theorem block_add (a : Addr) (n : Nat) : (a.add n).block = a.block := by unfold Addr.add; split <;> rfl
theorem RU.keep {w w' : World} {A : Option Addr} {m : Nat} {f : Nat → Nat} (h : RU w A m f) (hb : Below w.heap.size w w') : RU w' A m f := fun hm => by
  obtain ⟨ad, e, hl, hc⟩ := h hm
  exact ⟨ad, e, Nat.lt_of_lt_of_le hl hb.size, fun j hj => (hb.cell (p := ad.add j) (by rw [block_add]; exact hl)).trans (hc j hj)⟩
theorem RU.src {w W : World} {A : Option Addr} {m : Nat} {f : Nat → Nat} (h : RU w A m f) (hb : Below w.heap.size w W) :
    0 < (wcs f m).length → ∃ ad, A = some ad ∧ ∀ (j : Nat) (v : Value), (wcs f m)[j]? = some v → W.cell? (ad.add j) = some v := fun hl => by
  rw [wcs_len] at hl
  obtain ⟨ad, e, _, hc⟩ := h.keep hb (by omega)
  exact ⟨ad, e, fun j v hj => by obtain ⟨hjm, rfl⟩ := wcs_get f m j v hj; exact hc j hjm⟩
theorem wcs_splice (f : Nat → Nat) (m n : Nat) : splice [.int .i64 (n : Int), .int .u64 0, .int .u64 0] 1 (wcs f m) = [.int .i64 (n : Int), .int .u64 ((wd f m 0 : Nat) : Int), .int .u64 ((wd f m 1 : Nat) : Int)] := by
  unfold wcs wd
  match m with
  | 0 => simp [splice]
  | 1 => simp [splice]
  | m + 2 => rw [show min (m + 2) 2 = 2 from by omega]; simp [splice, List.range, List.range.loop]
theorem info_u64 : (Tryz.prog.info? 87).map (·.size) = some 1 := by kernel_rfl
set_option maxRecDepth 100000 in
set_option maxHeartbeats 400000 in
theorem New_ok (n m c : Nat) (A : Option Addr) (f : Nat → Nat) (w : World) (h1 : 1 ≤ n) (hn : n ≤ 128) (hA : RU w A m f) (hf : ∀ j, j < m → f j < 2 ^ 64) :
    Calls Tryz.prog 94 #[.int .i64 (n : Int), .slice A m c] w (RV w (.tuple #[vv n (trimN n (wd f m 0) (wd f m 1)), .int .i64 0])) := by
  have hF := fun w => fits_t (n : Int) w
  have e : fitsB (n : Int) = true := by unfold fitsB; simp; omega
  rw [e] at hF
  clear e
  replace hF := Lib.hid hF
  have hw : ∀ j, wd f m j < 2 ^ 64 := fun j => by unfold wd; split; exact hf j (by assumption); decide
  have hT := Lib.hid (fun w => trimmed_w n (wd f m 0) (wd f m 1) w hn (hw 0) (hw 1))
  clear hf hw
  replace hA := Lib.hid hA
  go_enter Tryz.func94, Tryz.ntmps94
  go_wp2_with (first
    | (go_at_call 106; (with_reducible refine (hF.out _).mono ?_); rintro e w0 ⟨rfl, rfl⟩)
    | (with_reducible refine wpList_copy_splice rfl (.tmp 14) (.tmp 15) 88 88 rfl 87 Tryz.underlying88 info_u64 (some ⟨w.heap.size + 1, 1, none⟩) A 2 2 m c rfl rfl (w.heap.size + 1) 1 [.int .i64 (n : Int), .int .u64 0, .int .u64 0] 100 ?g1 (wcs f m) ?g2 ?g3 ?g4 ?g5 (w.heap.size + 1) _ (Below.refl _ _) (Nat.le_refl _) ?g6))
  case g1 => exact heap_alloc2_new _ _ _
  case g2 => exact wcs_len f m
  case g3 => exact fun h => hA.out.src (by go_grown) h
  case g4 => rw [wcs_len]; simp; omega
  case g5 => exact wcs_one f m
  case g6 =>
    intro w2 hg hb2
    have hbw2 : Below w.heap.size w w2 := Below.trans (b := (w.alloc (.cells #[.int .i64 0, .int .u64 0, .int .u64 0] 100)).alloc (.cells #[.int .i64 (n : Int), .int .u64 0, .int .u64 0] 100)) (by go_grown) (hb2.mono (by omega))
    have hc := fun i => cell_of_row w2 (w.heap.size + 1) i _ _ _ hg.out
    rw [wcs_splice] at hc
    have z0 : HV 100 w2 w.heap.size 0 0 := World.rowIs.of_block ((HV.zero w 100).alloc (.cells #[.int .i64 (n : Int), .int .u64 0, .int .u64 0] 100)) (hb2.block w.heap.size (by omega))
    have z := z0.all
    clear hb2 hg
    go_wp2_with (go_at_call 107; (with_reducible refine (hT.out _).mono ?_); rintro e w3 ⟨rfl, hb3⟩; have z3 := (z0.over hb3).all; have hbw3 : Below w.heap.size w w3 := below_call hb3 hbw2; clear z hc z0 hb3)
    refine bodyPost_ret (v := .tuple #[vv n (trimN n (wd f m 0) (wd f m 1)), .int .i64 0]) (by simp [results, Tryz.results94, go_sem, z3]) rfl ⟨rfl, ?_⟩
    go_grown
set_option maxHeartbeats 400000 in
theorem New_bad (n : Int) (m c : Nat) (A : Option Addr) (w : World) (h : n < 1 ∨ 128 < n) :
    Calls Tryz.prog 94 #[.int .i64 n, .slice A m c] w (RV w (.tuple #[vv 0 0, .int .i64 2])) := by
  have hF := fun w => fits_t n w
  have e : fitsB n = false := by unfold fitsB; simp; omega
  rw [e] at hF
  clear e h
  replace hF := Lib.hid hF
  go_enter Tryz.func94, Tryz.ntmps94
  go_wp2_with (go_at_call 106; (with_reducible refine (hF.out _).mono ?_); rintro e w0 ⟨rfl, rfl⟩)
  refine bodyPost_ret (v := .tuple #[.agg #[.int .i64 0, .int .u64 0, .int .u64 0], .int .i64 2]) (by simp [results, Tryz.results94, go_sem]) rfl ⟨rfl, ?_⟩
  go_grown
end Go.Proofs.YtcifljbcoioogaaGreatDoor
namespace Go.Proofs.YtcifljbcoioogaaGreatDoor
open Go.RowKit

theorem sum_v0 (n x y : Nat) (w : World) (hn : n ≤ 128) : Calls Tryz.prog 124 #[vv n x, vv n y, .int .u64 0] w (RV w (vv n ((x + y) % 2 ^ n))) := sum_v n x y 0 w hn (by decide)
set_option maxHeartbeats 400000 in
theorem arith_0 (n x y : Nat) (w : World) (hn : n ≤ 128) :
    Calls Tryz.prog 116 #[.int .i64 0, vv n x, vv n y] w (RV w (vv n ((x + y) % 2 ^ n))) := by
  have hC := fun w => sum_v0 n x y w hn
  replace hC := Lib.hid hC
  go_enter Tryz.func116, Tryz.ntmps116
  go_wp2_with (go_at_call 124; (with_reducible refine (hC.out _).mono ?_); rintro e w1 ⟨rfl, hb1⟩; obtain ⟨hc1, hf1⟩ := bcell hb1)
  have hbw : Below w.heap.size w w1 := below_call hb1 (by go_grown)
  refine bodyPost_ret (v := vv n ((x + y) % 2 ^ n)) (by simp [results, Tryz.results116, go_sem, hc1]) rfl ⟨rfl, ?_⟩
  clear hb1 hc1 hf1
  go_grown
set_option maxHeartbeats 400000 in
theorem arith_2 (n x y : Nat) (w : World) (hn : n ≤ 128) :
    Calls Tryz.prog 116 #[.int .i64 2, vv n x, vv n y] w (RV w (vv n (x * y % 2 ^ n))) := by
  have hC := fun w => product_v n x y w hn
  replace hC := Lib.hid hC
  go_enter Tryz.func116, Tryz.ntmps116
  go_wp2_with (go_at_call 125; (with_reducible refine (hC.out _).mono ?_); rintro e w1 ⟨rfl, hb1⟩; obtain ⟨hc1, hf1⟩ := bcell hb1)
  have hbw : Below w.heap.size w w1 := below_call hb1 (by go_grown)
  refine bodyPost_ret (v := vv n (x * y % 2 ^ n)) (by simp [results, Tryz.results116, go_sem, hc1]) rfl ⟨rfl, ?_⟩
  clear hb1 hc1 hf1
  go_grown
set_option maxHeartbeats 400000 in
theorem Bin_0 (n x y : Nat) (w : World) (h0 : 1 ≤ n) (hn : n ≤ 128) :
    Calls Tryz.prog 108 #[.int .i64 0, vv n x, vv n y] w (RV w (.tuple #[vv n ((x + y) % 2 ^ n), .int .i64 0])) := by
  have hC := fun w => arith_0 n x y w hn
  replace hC := Lib.hid hC
  go_enter Tryz.func108, Tryz.ntmps108
  go_wp2_with (go_at_call 116; (with_reducible refine (hC.out _).mono ?_); rintro e w1 ⟨rfl, hb1⟩; obtain ⟨hc1, hf1⟩ := bcell hb1)
  have hbw : Below w.heap.size w w1 := below_call hb1 (by go_grown)
  refine bodyPost_ret (v := .tuple #[vv n ((x + y) % 2 ^ n), .int .i64 0]) (by simp [results, Tryz.results108, go_sem, hc1]) rfl ⟨rfl, ?_⟩
  clear hb1 hc1 hf1
  go_grown
set_option maxHeartbeats 400000 in
theorem Bin_2 (n x y : Nat) (w : World) (h0 : 1 ≤ n) (hn : n ≤ 128) :
    Calls Tryz.prog 108 #[.int .i64 2, vv n x, vv n y] w (RV w (.tuple #[vv n (x * y % 2 ^ n), .int .i64 0])) := by
  have hC := fun w => arith_2 n x y w hn
  replace hC := Lib.hid hC
  go_enter Tryz.func108, Tryz.ntmps108
  go_wp2_with (go_at_call 116; (with_reducible refine (hC.out _).mono ?_); rintro e w1 ⟨rfl, hb1⟩; obtain ⟨hc1, hf1⟩ := bcell hb1)
  have hbw : Below w.heap.size w w1 := below_call hb1 (by go_grown)
  refine bodyPost_ret (v := .tuple #[vv n (x * y % 2 ^ n), .int .i64 0]) (by simp [results, Tryz.results108, go_sem, hc1]) rfl ⟨rfl, ?_⟩
  clear hb1 hc1 hf1
  go_grown
end Go.Proofs.YtcifljbcoioogaaGreatDoor
namespace Go.Proofs.YtcifljbcoioogaaGreatDoor
open Go.RowKit
theorem RU_one (w : World) (v : Nat) : RU (w.alloc (.cells #[.int .u64 (v : Int)] 87)) (some ⟨w.heap.size, 0, none⟩) 1 (fun _ => v) := fun _ =>
  ⟨⟨w.heap.size, 0, none⟩, rfl, by simp, fun j hj => by
    obtain rfl : j = 0 := by omega
    exact World.cell?_alloc_new w _ _ 0⟩
theorem New_one (n v : Nat) (w : World) (g : Nat) (hg : g = w.heap.size) (h1 : 1 ≤ n) (hn : n ≤ 128) (hv : v < 2 ^ 64) :
    Calls Tryz.prog 94 #[.int .i64 (n : Int), .slice (some ⟨g, 0, none⟩) 1 1] (w.alloc (.cells #[.int .u64 (v : Int)] 87))
      (RV (w.alloc (.cells #[.int .u64 (v : Int)] 87)) (.tuple #[vv n (v % 2 ^ n), .int .i64 0])) := by
  subst hg
  have h := New_ok n 1 1 (some ⟨w.heap.size, 0, none⟩) (fun _ => v) _ h1 hn (RU_one w v) (fun _ _ => hv)
  have e : trimN n (wd (fun _ => v) 1 0) (wd (fun _ => v) 1 1) = v % 2 ^ n := by unfold trimN wd; simp
  rw [e] at h
  exact h
end Go.Proofs.YtcifljbcoioogaaGreatDoor
namespace Go.Proofs.YtcifljbcoioogaaGreatDoor
open Go.RowKit
/-- A slice of bits that came in: n bits, f j the bit number j. -/
def RB (w : World) (A : Option Addr) (n : Nat) (f : Nat → Bool) : Prop := 0 < n → ∃ b off : Nat, A = some ⟨b, off, none⟩ ∧ b < w.heap.size ∧ ∀ j, j < n → w.cell? ⟨b, off + j, none⟩ = some (.bool (f j))
theorem RB.keep {w w' : World} {A : Option Addr} {n : Nat} {f : Nat → Bool} (h : RB w A n f) (hb : Below w.heap.size w w') : RB w' A n f := fun hn => by
  obtain ⟨b, off, e, hl, hc⟩ := h hn
  exact ⟨b, off, e, Nat.lt_of_lt_of_le hl hb.size, fun j hj => (hb.cell (p := ⟨b, off + j, none⟩) hl).trans (hc j hj)⟩
/-- The number whose bits are f 0, f 1 .. -/
def valB (f : Nat → Bool) : Nat → Nat
  | 0 => 0
  | k + 1 => valB f k + (f k).toNat * 2 ^ k
theorem valB_lt (f : Nat → Bool) : ∀ k, valB f k < 2 ^ k
  | 0 => by simp [valB]
  | k + 1 => by
    have h := valB_lt f k
    rw [valB, Nat.pow_succ]
    cases f k <;> simp <;> omega
theorem valB_no (f : Nat → Bool) (k : Nat) (hf : f k = false) : valB f (k + 1) = valB f k := by rw [valB, hf]; simp
end Go.Proofs.YtcifljbcoioogaaGreatDoor
namespace Go.Proofs.YtcifljbcoioogaaGreatDoor
open Go.RowKit
theorem New_none (n : Nat) (w : World) (h1 : 1 ≤ n) (hn : n ≤ 128) :
    Calls Tryz.prog 94 #[.int .i64 (n : Int), .slice none 0 0] w (RV w (.tuple #[vv n 0, .int .i64 0])) := by
  have h := New_ok n 0 0 none (fun _ => 0) w h1 hn (fun h => absurd h (by omega)) (fun j h => absurd h (by omega))
  have e : trimN n (wd (fun _ => 0) 0 0) (wd (fun _ => 0) 0 1) = 0 := by unfold trimN wd; simp
  rw [e] at h
  exact h
end Go.Proofs.YtcifljbcoioogaaGreatDoor
namespace Go.Proofs.YtcifljbcoioogaaGreatDoor
open Go.RowKit
end Go.Proofs.YtcifljbcoioogaaGreatDoor
namespace Go.Proofs.YtcifljbcoioogaaGreatDoor
open Go.RowKit
end Go.Proofs.YtcifljbcoioogaaGreatDoor
namespace Go.Proofs.YtcifljbcoioogaaGreatDoor
open Go.RowKit
end Go.Proofs.YtcifljbcoioogaaGreatDoor
namespace Go.Proofs.YtcifljbcoioogaaGreatDoor
open Go.RowKit
end Go.Proofs.YtcifljbcoioogaaGreatDoor
namespace Go.Proofs.YtcifljbcoioogaaGreatDoor
open Go.RowKit
set_option maxHeartbeats 400000 in
theorem Un_0 (n x : Nat) (w : World) (h0 : 1 ≤ n) (hn : n ≤ 128) (hx : x < 2 ^ n) :
    Calls Tryz.prog 97 #[.int .i64 0, vv n x] w (RV w (.tuple #[vv n (2 ^ n - 1 - x), .int .i64 0])) := by
  have hC := Lib.hid (fun w => invert_v n x w hn hx)
  go_enter Tryz.func97, Tryz.ntmps97
  go_wp2_with (go_at_call 109; (with_reducible refine (hC.out _).mono ?_); rintro e w1 ⟨rfl, hb1⟩; obtain ⟨hc1, hf1⟩ := bcell hb1)
  have hbw : Below w.heap.size w w1 := below_call hb1 (by go_grown)
  refine bodyPost_ret (v := .tuple #[vv n (2 ^ n - 1 - x), .int .i64 0]) (by simp [results, Tryz.results97, go_sem, hc1]) rfl ⟨rfl, ?_⟩
  clear hb1 hc1 hf1
  go_grown
end Go.Proofs.YtcifljbcoioogaaGreatDoor
namespace Go.Proofs.YtcifljbcoioogaaGreatDoor
open Go.RowKit
theorem lo_small {x : Nat} (h : hi x = 0) : lo x = x := by have := lo_hi x; rw [h] at this; omega
theorem hi_big {x : Nat} (h : hi x ≠ 0) : 2 ^ 64 ≤ x := by have := lo_hi x; omega
set_option maxHeartbeats 400000 in
theorem Num_v (n x m : Nat) (w : World) (hm : m < 2 ^ 63) :
    Calls Tryz.prog 71 #[vv n x, .int .i64 (m : Int)] w (RV w (.int .i64 ((min x m : Nat) : Int))) := by
  by_cases hh : hi x = 0
  · have hl := Lib.hid (lo_small hh)
    have h1 : (((hi x : Nat) : Int) != 0) = false := by simp [hh]
    go_enter Tryz.func71, Tryz.ntmps71
    go_wp2
    all_goals
      refine wp_loop_rounds 2 ?_
      rw [rounds_succ]
      go_wp2
      all_goals
        rw [rounds_succ]
        go_wp2
        all_goals
          go_ret
          refine ⟨?_, by go_grown⟩
          first
            | (have h : m < lo x := by assumption
               rw [hl.out] at h
               rw [Nat.min_eq_right (by omega)]; rfl)
            | (have h : ¬ m < lo x := by assumption
               rw [hl.out] at h
               rw [show min x m = lo x from by rw [hl.out]; exact Nat.min_eq_left (by omega)]; rfl)
  · have hb := Lib.hid (hi_big hh)
    have h1 : (((hi x : Nat) : Int) != 0) = true := by simp; omega
    clear hh
    go_enter Tryz.func71, Tryz.ntmps71
    go_wp2
    all_goals
      refine wp_loop_rounds 2 ?_
      rw [rounds_succ]
      go_wp2
      go_ret
      refine ⟨?_, by go_grown⟩
      have := hb.out
      rw [Nat.min_eq_right (by omega)]; rfl
end Go.Proofs.YtcifljbcoioogaaGreatDoor
namespace Go.Proofs.YtcifljbcoioogaaGreatDoor
open Go.RowKit

end Go.Proofs.YtcifljbcoioogaaGreatDoor
namespace Go.Proofs.YtcifljbcoioogaaGreatDoor
open Go.RowKit
theorem info_bool : (Tryz.prog.info? 4).map (fun i => (i.zero, i.size, i.bytes)) = some (some (.bool false), 1, 1) := by kernel_rfl
end Go.Proofs.YtcifljbcoioogaaGreatDoor
namespace Go.Proofs.YtcifljbcoioogaaGreatDoor
open Go.RowKit
end Go.Proofs.YtcifljbcoioogaaGreatDoor
namespace Go.Proofs.YtcifljbcoioogaaGreatDoor
open Go.RowKit
end Go.Proofs.YtcifljbcoioogaaGreatDoor
namespace Go.Proofs.YtcifljbcoioogaaGreatDoor
open Go.RowKit
end Go.Proofs.YtcifljbcoioogaaGreatDoor
namespace Go.Proofs.YtcifljbcoioogaaGreatDoor
open Go.RowKit
end Go.Proofs.YtcifljbcoioogaaGreatDoor
