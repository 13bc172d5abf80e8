/-
  The walks of bv's Of, and of the statements' own short and Own: a vector made of bits.
-/
import Derived.Test.YtbmdnmjgijblpaaDoorWe
import Derived.Test.YtbmdnmjgijblpaaDoorM2
import Derived.Deep.RegionWith
namespace Go.Proofs.YtbmdnmjgijblpaaDoor
open Go.RowKit
/-- A slice of bits that came in: n bits, f j the bit number j. -/
def RB (w : World) (A : Option Addr) (n : Nat) (f : Nat → Bool) : Prop := 0 < n → ∃ b off : Nat, A = some ⟨b, off, none⟩ ∧ b < w.heap.size ∧ ∀ j, j < n → w.cell? ⟨b, off + j, none⟩ = some (.bool (f j))
theorem RB.keep {w w' : World} {A : Option Addr} {n : Nat} {f : Nat → Bool} (h : RB w A n f) (hb : Below w.heap.size w w') : RB w' A n f := fun hn => by
  obtain ⟨b, off, e, hl, hc⟩ := h hn
  exact ⟨b, off, e, Nat.lt_of_lt_of_le hl hb.size, fun j hj => (hb.cell (p := ⟨b, off + j, none⟩) hl).trans (hc j hj)⟩
/-- The number whose bits are f 0, f 1 .. -/
def valB (f : Nat → Bool) : Nat → Nat
  | 0 => 0
  | k + 1 => valB f k + (f k).toNat * 2 ^ k
theorem valB_lt (f : Nat → Bool) : ∀ k, valB f k < 2 ^ k
  | 0 => by simp [valB]
  | k + 1 => by
    have h := valB_lt f k
    rw [valB, Nat.pow_succ]
    cases f k <;> simp <;> omega
theorem wrap_pow (k : Nat) (h : k < 64) : IntKind.u64.wrap ((2 : Int) ^ k) = ((2 ^ k : Nat) : Int) := by
  have hp : 2 ^ (k + 1) ≤ 2 ^ 64 := Nat.pow_le_pow_right (by decide) (by omega)
  rw [Nat.pow_succ] at hp
  have h0 : 0 < 2 ^ k := Nat.pow_pos (by decide)
  rw [pow_cast, IntKind.wrap_u64]
  generalize 2 ^ k = a at *
  omega
theorem HV.set2 {t : TypeId} {w : World} {b n x : Nat} (h : HV t w b n x) (y : Nat) (hy : lo x = lo y) : HV t (w.setCell ⟨b, 2, none⟩ (.int .u64 ((hi y : Nat) : Int))) b n y := by
  refine World.rowIs.congr (World.rowIs.set h 2 _) fun i hi => ?_
  match i, hi with
  | 0, _ => rfl
  | 1, _ => simp [vcell, hy]
  | 2, _ => rfl
theorem valB_lo (f : Nat → Bool) (k : Nat) (h : k < 64) (hf : f k = true) : bits .or .u64 ((lo (valB f k) : Nat) : Int) (IntKind.u64.wrap ((2 : Int) ^ k)) = ((lo (valB f (k + 1)) : Nat) : Int) ∧ hi (valB f k) = hi (valB f (k + 1)) := by
  have hl := valB_lt f k
  have hp : 2 ^ (k + 1) ≤ 2 ^ 64 := Nat.pow_le_pow_right (by decide) (by omega)
  rw [Nat.pow_succ] at hp
  have e1 : lo (valB f k) = valB f k := Nat.mod_eq_of_lt (by omega)
  have e2 : valB f (k + 1) = valB f k + 2 ^ k := by rw [valB, hf]; simp
  have e3 : lo (valB f (k + 1)) = valB f k + 2 ^ k := by rw [e2]; exact Nat.mod_eq_of_lt (by omega)
  refine ⟨?_, ?_⟩
  · rw [wrap_pow k h, u64_or_nat _ _ (lo_lt _) (by omega), e1, e3, Nat.or_comm, nat_join k _ _ (Nat.mod_self _) hl, Nat.add_comm]
  · unfold hi; rw [e2, Nat.div_eq_of_lt (by omega), Nat.div_eq_of_lt (by omega)]
theorem valB_hi (f : Nat → Bool) (j : Nat) (h : j < 64) (hf : f (64 + j) = true) : bits .or .u64 ((hi (valB f (64 + j)) : Nat) : Int) (IntKind.u64.wrap ((2 : Int) ^ j)) = ((hi (valB f (64 + j + 1)) : Nat) : Int) ∧ lo (valB f (64 + j)) = lo (valB f (64 + j + 1)) := by
  have hl := valB_lt f (64 + j)
  have hp : 2 ^ (j + 1) ≤ 2 ^ 64 := Nat.pow_le_pow_right (by decide) (by omega)
  rw [Nat.pow_succ] at hp
  have hp2 : 2 ^ (64 + j) = 2 ^ 64 * 2 ^ j := Nat.pow_add _ _ _
  have e2 : valB f (64 + j + 1) = valB f (64 + j) + 2 ^ 64 * 2 ^ j := by rw [valB, hf, hp2]; simp
  have h0 : 0 < 2 ^ j := Nat.pow_pos (by decide)
  have hh : hi (valB f (64 + j)) < 2 ^ j := by unfold hi; rw [Nat.div_lt_iff_lt_mul (by decide), Nat.mul_comm, ← hp2]; exact hl
  have e3 : hi (valB f (64 + j + 1)) = hi (valB f (64 + j)) + 2 ^ j := by unfold hi; rw [e2, Nat.add_mul_div_left _ _ (by decide)]
  refine ⟨?_, ?_⟩
  · rw [wrap_pow j h, u64_or_nat _ _ (by omega) (by omega), e3, Nat.or_comm, nat_join j _ _ (Nat.mod_self _) hh, Nat.add_comm]
  · unfold lo; rw [e2, Nat.add_mul_mod_self_left]
theorem valB_no (f : Nat → Bool) (k : Nat) (hf : f k = false) : valB f (k + 1) = valB f k := by rw [valB, hf]; simp
set_option maxRecDepth 100000 in
set_option maxHeartbeats 1000000 in
theorem Of_ok (n c : Nat) (A : Option Addr) (f : Nat → Bool) (w : World) (h1 : 1 ≤ n) (hn : n ≤ 128) (hA : RB w A n f) :
    Calls Tryd.prog 70 #[.slice A n c] w (RV w (.tuple #[vv n (valB f n), .int .i64 0])) := by
  have hF := fun w => fits_t (n : Int) w
  have e : fitsB (n : Int) = true := by unfold fitsB; simp; omega
  rw [e] at hF
  clear e
  replace hF := Lib.hid hF
  obtain ⟨b, off, rfl, hb, hc⟩ := hA (by omega)
  replace hc := Lib.hid hc
  go_enter Tryd.func70, Tryd.ntmps70
  go_wp2_with (go_at_call 10; (with_reducible refine (hF.out _).mono ?_); rintro e w0 ⟨rfl, rfl⟩)
  go_loopw [17] (fun i wr => ∃ k : Nat, k ≤ n ∧ i = .int .i64 (k : Int) ∧ HV 34 wr w.heap.size 0 0 ∧ HV 34 wr (w.heap.size + 1) n (valB f k) ∧ Below w.heap.size w wr) (fun i _ => n - (intOf i).toNat)
  case atStart =>
    refine ⟨0, Nat.zero_le _, rfl, (HV.zero w 34).alloc _, ?_, by go_grown⟩
    have h := HV.new (w.alloc (.cells zcs 34)) 34 n 0
    rw [World.size_alloc] at h
    exact h
  case round =>
    obtain ⟨k, hk, rfl, Z, V, hbw⟩ := hrel
    have v := V.all
    have z := Z.all
    by_cases hlt : k < n
    · have hck : wr.cell? ⟨b, off + k, none⟩ = some (.bool (f k)) := (hbw.cell (p := ⟨b, off + k, none⟩) hb).trans (hc.out k hlt)
      cases hfk : f k with
      | false =>
        rw [hfk] at hck
        have hno := Lib.hid (valB_no f k hfk)
        clear hfk
        go_wp2
        go_roundw
        case rel => exact ⟨k + 1, by omega, by go_num, Z, by rw [hno.out]; exact V, hbw⟩
        case measure => simp [intOf]; omega
      | true =>
        rw [hfk] at hck
        by_cases h64 : k < 64
        · obtain ⟨q1, q2⟩ := valB_lo f k h64 hfk
          replace q2 := Lib.hid q2
          clear hfk
          have d1 : ((k : Int) / 64) = 0 := by omega
          have d2 : ((k : Int) % 64) = (k : Int) := by omega
          have d3 : (k : Int).tmod 64 = (k : Int) := by rw [Int.tmod_eq_emod_of_nonneg (by omega)]; omega
          have d4 : IntKind.i64.wrap 0 = 0 := by decide
          go_wp2
          refine wp_region_still_tail 11 (by kernel_rfl) (by kernel_rfl) ?_
          simp only [List.take_succ_cons, List.take_zero, List.drop_succ_cons, List.drop_zero]
          change wpStill _ _ (World.drew _) _ _ _
          repeat still_step
          refine wpStill_nil ?_
          change wpList _ _ _ _ _ (World.drew _)
          go_wp2
          go_roundw
          case rel => exact ⟨k + 1, by omega, by go_num, (Z.far (p := ⟨w.heap.size + 1, 1, none⟩) (by simp) _).drew, (V.set1 (valB f (k + 1)) q2.out).drew, (hbw.setCell (by simp) _).drew⟩
          case measure => simp [intOf]; omega
        · obtain ⟨j, hj⟩ : ∃ j, k = 64 + j := ⟨k - 64, by omega⟩
          obtain ⟨q1, q2⟩ := valB_hi f j (by omega) (by rw [← hj]; exact hfk)
          rw [← hj] at q1 q2
          replace q2 := Lib.hid q2
          have d1 : ((k : Int) / 64) = 1 := by omega
          have d2 : ((k : Int) % 64) = (j : Int) := by omega
          have d3 : (k : Int).tmod 64 = (j : Int) := by rw [Int.tmod_eq_emod_of_nonneg (by omega)]; omega
          have d4 : IntKind.i64.wrap 1 = 1 := by decide
          have d5 : j < 64 := by omega
          clear hfk hj
          go_wp2
          refine wp_region_still_tail 11 (by kernel_rfl) (by kernel_rfl) ?_
          simp only [List.take_succ_cons, List.take_zero, List.drop_succ_cons, List.drop_zero]
          change wpStill _ _ (World.drew _) _ _ _
          repeat still_step
          refine wpStill_nil ?_
          change wpList _ _ _ _ _ (World.drew _)
          go_wp2
          go_roundw
          case rel => exact ⟨k + 1, by omega, by go_num, (Z.far (p := ⟨w.heap.size + 1, 2, none⟩) (by simp) _).drew, (V.set2 (valB f (k + 1)) q2.out).drew, (hbw.setCell (by simp) _).drew⟩
          case measure => simp [intOf]; omega
    · obtain rfl : k = n := by omega
      go_wp2
      refine bodyPost_ret (v := .tuple #[vv k (valB f k), .int .i64 0]) (by simp [results, Tryd.results70, go_sem, z]) rfl ⟨rfl, ?_⟩
      go_grown
end Go.Proofs.YtbmdnmjgijblpaaDoor
