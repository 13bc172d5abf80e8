/-
  vector: the vector with these digits.
-/
import Derived.Test.YtbmdnmjgijblpaaDoorE4
import Derived.Laws.MakeOwn
import Derived.OwnWalk
import Derived.Test.YtbmdnmjgijblpaaDoorWu
namespace Go.Proofs.YtbmdnmjgijblpaaDoor
open Go Go.RowKit Go.Lib
/-- The bits that digits say. -/
def dgs (ds : List UInt8) (k : Nat) : Bool := ds.reverse.getD k 0 == 49
theorem dgs_at (ds : List UInt8) (k : Nat) (h : k < ds.length) : dgs ds (ds.length - 1 - k) = (ds[k] == 49) := by
  unfold dgs
  rw [List.getD_eq_getElem?_getD, List.getElem?_reverse (by omega), show ds.length - 1 - (ds.length - 1 - k) = k by omega, List.getElem?_eq_getElem h]
  rfl
theorem dgs_out (ds : List UInt8) (k : Nat) (h : ds.length ≤ k) : dgs ds k = false := by
  unfold dgs
  rw [List.getD_eq_getElem?_getD, List.getElem?_eq_none (by rw [List.length_reverse]; omega)]
  rfl
/-- The slice of bits when k digits have been looked at. -/
def VB (w1 : World) (b n : Nat) (ds : List UInt8) (k : Nat) (wr : World) : Prop := ∃ cs : Array Value, CV wr b cs 4 ∧ cs.size = n ∧ (∀ j, j < n → cs[j]? = some (.bool (decide (ds.length ≤ j + k) && dgs ds j))) ∧ KV b w1 wr
theorem VB.start {w : World} {b n : Nat} {ds : List UInt8} {cs : Array Value} (hc : CV w b cs 4) (hs : cs.size = n) (hz : ∀ j, j < n → cs[j]? = some (.bool false)) : VB w b n ds 0 w := by
  refine ⟨cs, hc, hs, fun j hj => ?_, KV.refl _ _⟩
  rw [hz j hj]
  rcases Nat.lt_or_ge j ds.length with h | h
  · rw [decide_eq_false (by omega), Bool.false_and]
  · rw [dgs_out ds j h, Bool.and_false]
theorem VB.next {w1 wr : World} {b n k : Nat} {ds : List UInt8} (h : VB w1 b n ds k wr) (hk : k < ds.length) : VB w1 b n ds (k + 1) (wr.setCell ⟨b, ds.length - 1 - k, none⟩ (.bool (ds[k] == 49))) := by
  obtain ⟨cs, h1, h2, h3, h4⟩ := h
  refine ⟨_, h1.set (ds.length - 1 - k) (.bool (ds[k] == 49)), by simpa using h2, fun j hj => ?_, h4.trans (KV.set _ _ _ _)⟩
  rw [Array.getElem?_setIfInBounds]
  by_cases e : ds.length - 1 - k = j
  · rw [if_pos e, if_pos (by omega), ← e, dgs_at ds k hk, decide_eq_true (by omega), Bool.true_and]
  · rw [if_neg e, h3 j hj, show decide (ds.length ≤ j + (k + 1)) = decide (ds.length ≤ j + k) from decide_eq_decide.2 (by omega)]
theorem VB.ends {w1 wr : World} {b n : Nat} {ds : List UInt8} (h : VB w1 b n ds ds.length wr) : RB wr (some ⟨b, 0, none⟩) n (dgs ds) := fun _ => by
  obtain ⟨cs, h1, h2, h3, h4⟩ := h
  refine ⟨b, 0, rfl, h1.lt, fun j hj => ?_⟩
  rw [Nat.zero_add, h1.c j, h3 j hj, decide_eq_true (by omega), Bool.true_and]
theorem VB.cell {w1 wr : World} {b n k j : Nat} {ds : List UInt8} (h : VB w1 b n ds k wr) (hj : j < n) : (∃ x, wr.cell? ⟨b, j, none⟩ = some (.bool x)) ∧ b < wr.heap.size ∧ ∀ i, wr.frozen? ⟨b, i, none⟩ = false := by
  obtain ⟨cs, h1, h2, h3, h4⟩ := h
  exact ⟨⟨_, (h1.c j).trans (h3 j hj)⟩, h1.lt, h1.fz⟩
theorem info_bool : (Tryd.prog.info? 4).map (fun i => (i.zero, i.size, i.bytes)) = some (some (.bool false), 1, 1) := by kernel_rfl
theorem byte_49 (c : UInt8) : ((c.toNat : Int) == 49) = (c == 49) := by
  rw [Bool.eq_iff_iff, beq_iff_eq, beq_iff_eq]
  constructor
  · intro h
    apply UInt8.toNat_inj.1
    show c.toNat = 49
    omega
  · intro h
    rw [h]
    rfl
theorem made_b (n : Nat) : madeCells (Value.bool false).cells ((n : Int).toNat * 1) = Array.replicate n (.bool false) := by
  rw [show (Value.bool false).cells = #[.bool false] from rfl]
  apply Array.ext_getElem?
  intro i
  by_cases h : i < n
  · rw [Array.getElem?_replicate, if_pos h]
    simp [madeCells, Nat.mod_one]
    exact ⟨i, by rw [Array.getElem?_eq_getElem (by simp; omega)]; simp⟩
  · rw [Array.getElem?_eq_none (by simp [madeCells]; omega), Array.getElem?_eq_none (by simp; omega)]
theorem mk_bits (W : World) (n : Nat) (h : n ≤ 128) : (Instr.makeSlice 98 (.int .i64 (n : Int)) (.int .i64 (n : Int))).run Tryd.prog W = .ok (.slice (some ⟨W.heap.size, 0, none⟩) n n) (W.alloc (.cells (Array.replicate n (.bool false)) 4)) := by
  obtain ⟨i0, hi, hz0, hz1, hz2⟩ := info_parts info_bool
  have h := run_make (P := Tryd.prog) W 98 4 i0 (.bool false) Tryd.underlying98 hi hz0 .i64 .i64 (n : Int) (n : Int) (by omega) (by omega) (by rw [hz2]; omega) (by omega)
  rw [hz1, made_b] at h
  rw [h]
  rfl
set_option maxRecDepth 100000 in
set_option maxHeartbeats 3200000 in
theorem vector_t (n : Nat) (ds : List UInt8) (w : World) (h1 : 1 ≤ n) (hn : n ≤ 128) (hl : ds.length ≤ n) : Calls Tryd.prog 62 #[iz (n : Int), .string (bt ds)] w fun e w' => e = .returned (vv n (valB (dgs ds) n)) ∧ Below w.heap.size w w' := by
  have hmk := fun W => mk_bits W n hn
  have hOf := fun W b (h : RB W (some ⟨b, 0, none⟩) n (dgs ds)) => Of_ok n n _ (dgs ds) W h1 hn h
  unfold RV at hOf
  obtain ⟨w1, hw1⟩ : ∃ W, w.alloc (.cells #[iz 0, .int .u64 0, .int .u64 0] 34) = W := ⟨_, rfl⟩
  have hb1 : Below w.heap.size w w1 := by rw [← hw1]; exact vnew w _
  have hg1 : CV w1 w.heap.size #[iz 0, .int .u64 0, .int .u64 0] 34 := by rw [← hw1]; unfold CV; exact Array.getElem?_push_size ..
  have hs1 : w1.heap.size = w.heap.size + 1 := by rw [← hw1]; simp
  obtain ⟨w2, hw2⟩ : ∃ W, w1.alloc (.cells (Array.replicate n (.bool false)) 4) = W := ⟨_, rfl⟩
  have hb2 : Below w1.heap.size w1 w2 := by rw [← hw2]; exact vnew w1 _
  have hg2 := hg1.over hb2
  have hc2 : CV w2 w1.heap.size (Array.replicate n (.bool false)) 4 := by rw [← hw2]; unfold CV; exact Array.getElem?_push_size ..
  have hV0 : VB w2 w1.heap.size n ds 0 w2 := VB.start hc2 (by simp) (fun j hj => by rw [Array.getElem?_replicate, if_pos hj])
  have hb02 : Below w.heap.size w w2 := ⟨hb2.os.trans hb1.os, hb2.tape.trans hb1.tape, hb2.output.trans hb1.output, Nat.le_trans hb1.size hb2.size, fun k hk => (hb2.block k (by omega)).trans (hb1.block k hk)⟩
  obtain ⟨g, hg⟩ : ∃ g, w.heap.size = g := ⟨_, rfl⟩
  obtain ⟨b, hb⟩ : ∃ b, w1.heap.size = b := ⟨_, rfl⟩
  rw [hb] at hV0 hs1
  rw [hg] at hg2 hs1
  have hgb : g ≠ b := by omega
  have hk : ∀ wr k, VB w2 b n ds k wr → KV b w wr ∧ CV wr g #[iz 0, .int .u64 0, .int .u64 0] 34 := fun wr k h => by
    obtain ⟨_, _, _, _, h4⟩ := h
    exact ⟨(KV.below hb02).trans h4, h4.keep hg2 hgb⟩
  have hfin : ∀ W (x : Nat), KV b w W → Below w.heap.size w ((((W.setCell ⟨g, 0, none⟩ (iz (n : Int))).setCell ⟨g, 1, none⟩ (.int .u64 ((lo x : Nat) : Int))).setCell ⟨g, 2, none⟩ (.int .u64 ((hi x : Nat) : Int))).alloc (.cells #[iz (n : Int), .int .u64 ((lo x : Nat) : Int), .int .u64 ((hi x : Nat) : Int)] 34)) := fun W x h => by
    have hge : w.heap.size ≤ g := Nat.le_of_eq hg
    exact ((((h.far hge _).far hge _).far hge _).alloc _).toBelow (by omega) (Nat.le_refl _)
  have hbb : w.heap.size + 1 = b := by omega
  obtain ⟨len, hlen⟩ : ∃ k, ds.length = k := ⟨_, rfl⟩
  obtain ⟨S, hS⟩ : ∃ S, bt ds = S := ⟨_, rfl⟩
  have hsz : S.size = len := by rw [← hS, ← hlen]; rfl
  have hnx : ∀ wr k, VB w2 b n ds k wr → ∀ (h : k < S.size), VB w2 b n ds (k + 1) (wr.setCell ⟨b, len - 1 - k, none⟩ (.bool (((S[k]).toNat : Int) == 49))) := fun wr k hv h => by
    subst hS
    subst hlen
    rw [byte_49]
    exact hv.next (show k < ds.length from h)
  have hcl : ∀ wr k, VB w2 b n ds k wr → k < S.size → (∃ x, wr.cell? ⟨b, len - 1 - k, none⟩ = some (.bool x)) ∧ b < wr.heap.size ∧ ∀ i, wr.frozen? ⟨b, i, none⟩ = false := fun wr k hv h => hv.cell (by omega)
  have hen : ∀ wr, VB w2 b n ds len wr → RB wr (some ⟨b, 0, none⟩) n (dgs ds) := fun wr hv => VB.ends (by rw [hlen]; exact hv)
  obtain ⟨X, hX⟩ : ∃ X, valB (dgs ds) n = X := ⟨_, rfl⟩
  rw [hX] at hOf ⊢
  rw [hlen] at hl
  rw [hS]
  replace hV0 := Lib.hid hV0
  replace hk := Lib.hid hk
  replace hfin := Lib.hid hfin
  replace hnx := Lib.hid hnx
  replace hcl := Lib.hid hcl
  replace hen := Lib.hid hen
  replace hOf := Lib.hid hOf
  have hsz' := Lib.hid hsz
  have hlm : S.size ≤ 128 := by omega
  have hln : S.size ≤ n := by omega
  clear hlen hS hX hb1 hg1 hb2 hg2 hc2 hb02 hs1
  replace hw1 := Lib.hid hw1
  replace hw2 := Lib.hid hw2
  replace hbb := Lib.hid hbb
  replace hg := Lib.hid hg
  replace hb := Lib.hid hb
  go_enter Tryd.func62, Tryd.ntmps62
  go_wp2_with fail
  have hst : w1 = w.alloc (.cells #[.int .i64 0, .int .u64 0, .int .u64 0] 34) := hw1.out.symm
  rw [show (w.alloc (.cells #[.int .i64 0, .int .u64 0, .int .u64 0] 34)).alloc (.cells (Array.replicate n (.bool false)) 4) = w2 by rw [← hst]; exact hw2.out]
  rw [hbb.out, hg.out]
  clear hst hw1 hw2 hbb hg hb hmk
  go_loopw [13] (fun i wr => ∃ k : Nat, k ≤ S.size ∧ i = .int .i64 (k : Int) ∧ Hid (VB w2 b n ds k wr)) (fun i _ => S.size - (RowKit.intOf i).toNat)
  case atStart => exact ⟨0, Nat.zero_le _, rfl, hV0⟩
  case round =>
    obtain ⟨k, hk2, rfl, hI⟩ := hrel
    by_cases hlt : k < S.size
    · obtain ⟨⟨x0, c0⟩, cl, cf⟩ := hcl.out wr k hI.out hlt
      have hn2 := Lib.hid (hnx.out wr k hI.out hlt)
      clear hI
      go_wp2_with fail
      go_roundw
      case rel => exact ⟨k + 1, by omega, by go_num, hn2⟩
      case measure => simp [RowKit.intOf]; omega
    · obtain rfl : k = S.size := by omega
      have hI2 : VB w2 b n ds len wr := by rw [← hsz'.out]; exact hI.out
      have hO := Lib.hid (hOf.out wr b (hen.out wr hI2))
      obtain ⟨hk3, hg3⟩ := hk.out wr _ hI2
      replace hk3 := Lib.hid hk3
      replace hg3 := Lib.hid hg3
      clear hI hI2 hnx hcl hen hV0
      go_wp2_with fail
      (with_reducible refine hO.out.mono ?_)
      rintro e w5 ⟨rfl, hb5⟩
      have hg5 := hg3.out.over hb5
      have v0 : w5.cell? ⟨g, 0, none⟩ = some (iz 0) := hg5.c 0
      have v1 : w5.cell? ⟨g, 1, none⟩ = some (.int .u64 0) := hg5.c 1
      have v2 : w5.cell? ⟨g, 2, none⟩ = some (.int .u64 0) := hg5.c 2
      have vl := hg5.lt
      have vf0 := hg5.fz 0
      have vf1 := hg5.fz 1
      have vf2 := hg5.fz 2
      have hF := Lib.hid (hfin.out w5 X (hk3.out.trans (KV.below hb5)))
      clear hO hb5 hg5 hg3 hk3 hk hfin
      go_wp2_with fail
      exact bodyPost_ret (v := vv n X) (by simp [results, Tryd.results62, go_sem, v0, v1, v2, vl]) rfl ⟨rfl, hF.out⟩
end Go.Proofs.YtbmdnmjgijblpaaDoor
