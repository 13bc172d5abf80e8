/-
  The walks of the statements' own fit, and of the closures of BvRing and BvOrders.
-/
import Derived.Test.YteahmicbgimomaaWx
import Derived.Test.YteahmicbgimomaaWv
import Derived.Test.YteahmicbgimomaaWq
namespace Go.Proofs.Yteahmicbgimomaa
open Go.RowKit
/-- What fit leaves: a new slice of n bits, those of f and no more. -/
def FV (w : World) (n m : Nat) (f : Nat → Bool) (e : Ending) (w' : World) : Prop := ∃ g : Nat, e = .returned (.slice (some ⟨g, 0, none⟩) n n) ∧ RB w' (some ⟨g, 0, none⟩) n (fun j => decide (j < m) && f j) ∧ Below w.heap.size w w'
def bcs (f : Nat → Bool) (k : Nat) : List Value := (List.range k).map fun j => .bool (f j)
theorem bcs_len (f : Nat → Bool) (k : Nat) : (bcs f k).length = k := by simp [bcs]
theorem bcs_get (f : Nat → Bool) (k j : Nat) (h : j < k) : (bcs f k)[j]? = some (.bool (f j)) := by simp [bcs, h]
theorem bcs_one (f : Nat → Bool) (k : Nat) : ∀ v ∈ bcs f k, v.oneCell' = true := by
  intro v hv
  simp only [bcs, List.mem_map] at hv
  obtain ⟨j, _, rfl⟩ := hv
  rfl
theorem info_bool : (Try.prog.info? 4).map (fun i => (i.zero, i.size, i.bytes)) = some (some (.bool false), 1, 1) := by kernel_rfl
theorem size_bool : (Try.prog.info? 4).map (·.size) = some 1 := by kernel_rfl
theorem splice_get (f : Nat → Bool) (m n j : Nat) (hj : j < n) : (splice (List.replicate n (Value.bool false)) 0 (bcs f (min m n)))[j]? = some (.bool (decide (j < m) && f j)) := by
  unfold splice
  simp only [List.take_zero, List.nil_append, Nat.zero_add]
  by_cases h : j < m
  · rw [List.getElem?_append_left (by rw [bcs_len]; omega), bcs_get f _ j (by omega)]
    simp [h]
  · rw [List.getElem?_append_right (by rw [bcs_len]; omega), bcs_len, List.getElem?_drop, List.getElem?_replicate, if_pos (by omega)]
    simp [h]
set_option maxRecDepth 100000 in
set_option maxHeartbeats 400000 in
theorem fit_ok (n m c : Nat) (A : Option Addr) (f : Nat → Bool) (w : World) (hn : n ≤ 128) (hA : RB w A m f) :
    Calls Try.prog 40 #[.slice A m c, .int .i64 (n : Int)] w (FV w n m f) := by
  have hmk := run_make_row' 23 4 (.bool false) 1 Try.underlying23 info_bool rfl .i64 .i64 n (by omega) (by omega)
  replace hA := Lib.hid hA
  have hcs : (madeCells #[Value.bool false] n) = (List.replicate n (Value.bool false)).toArray := by
    apply Array.ext_getElem?
    intro i
    by_cases hi : i < n
    · simp [madeCells, hi, Nat.mod_one]
    · rw [Array.getElem?_eq_none (by rw [size_madeCells]; omega), Array.getElem?_eq_none (by simp; omega)]
  rw [hcs] at hmk
  go_enter Try.func40, Try.ntmps40
  go_wp2_with (with_reducible refine wpList_copy_splice rfl (.tmp 8) (.tmp 9) 23 23 rfl 4 Try.underlying23 size_bool (some ⟨w.heap.size, 0, none⟩) A n n m c rfl rfl w.heap.size 0 (List.replicate n (Value.bool false)) 4 ?g1 (bcs f (min m n)) ?g2 ?g3 ?g4 ?g5 w.heap.size _ (Below.refl _ _) (Nat.le_refl _) ?g6)
  case g1 => rw [heap_alloc_new]; simp
  case g2 => exact bcs_len _ _
  case g3 =>
    intro hl
    rw [bcs_len] at hl
    obtain ⟨b, off, rfl, hb, hc⟩ := hA.out (by omega)
    refine ⟨_, rfl, fun j v hj => ?_⟩
    have hjm : j < min m n := by
      rcases Nat.lt_or_ge j (min m n) with h' | h'
      · exact h'
      · rw [List.getElem?_eq_none (by rw [bcs_len]; exact h')] at hj; cases hj
    rw [bcs_get f _ j hjm] at hj
    have hadd : (⟨b, off, none⟩ : Addr).add j = ⟨b, off + j, none⟩ := by unfold Addr.add; split <;> simp_all
    rw [hadd, World.cell?_alloc_lt w _ ⟨b, off + j, none⟩ hb, hc j (by omega)]
    exact hj
  case g4 => rw [bcs_len]; simp; omega
  case g5 => exact bcs_one f _
  case g6 =>
    intro w2 hg hb2
    have hbw : Below w.heap.size w w2 := Below.trans (b := w.alloc (.cells (Array.replicate n (Value.bool false)) 4)) (by go_grown) hb2
    have hz := hb2.size
    rw [World.size_alloc] at hz
    have hR : RB w2 (some ⟨w.heap.size, 0, none⟩) n (fun j => decide (j < m) && f j) := fun _ => ⟨w.heap.size, 0, rfl, by omega, fun j hj => by
      rw [Nat.zero_add, cell_of_row w2 w.heap.size j _ _ _ hg.out]
      have := splice_get f m n j hj
      simpa using this⟩
    replace hR := Lib.hid hR
    clear hb2 hg
    go_wp2
    go_ret
    exact ⟨w.heap.size, rfl, hR.out, hbw⟩
/-- The closure of BvRing: one operation. -/
theorem ring_op (op : Int) (n x y z : Nat) (w : World)
    (hC : ∀ w, Calls Try.prog 26 #[.int .i64 op, vv n x, vv n y] w (RV w (.tuple #[vv n z, .int .i64 0]))) :
    Calls Try.prog 41 #[.int .i64 op, vv n x, vv n y] w (RV w (vv n z)) := by
  replace hC := Lib.hid hC
  go_enter Try.func41, Try.ntmps41
  go_wp2_with (go_at_call 26; (with_reducible refine (hC.out _).mono ?_); rintro e w1 ⟨rfl, hb1⟩; have Z1 := (HV.zero ((w.alloc (.cells (vcs n x) 29)).alloc (.cells (vcs n y) 29)) 29).over hb1; simp only [World.size_alloc] at Z1; have hbw1 : Below w.heap.size w w1 := below_call hb1 (by go_grown); have z1 := Z1.all; have l1 := Z1.lt; have s1 := hbw1.size; clear hb1)
  refine bodyPost_ret (v := vv n z) (by simp [results, Try.results41, go_sem, z1, l1]) rfl ⟨rfl, ?_⟩
  go_grown
end Go.Proofs.Yteahmicbgimomaa
