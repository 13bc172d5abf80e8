/-
  The walks of bv's Width, Bits and Words, and of the reference's Text and Words.
-/
import Derived.Test.YtmgkidfikikjpaaYa
import Derived.Test.YtmgkidfikikjpaaWy
namespace Go.Proofs.Ytmgkidfikikjpaa
open Go.RowKit
set_option maxHeartbeats 400000 in
theorem Width_v (n x : Nat) (w : World) : Calls Try.prog 20 #[vv n x] w (RV w (.int .i64 (n : Int))) := by
  go_enter Try.func20, Try.ntmps20
  go_wp2
  go_ret
  exact ⟨rfl, by go_grown⟩
/-- A new slice of the bits of a number. -/
def BS (w : World) (n x : Nat) (e : Ending) (w' : World) : Prop := ∃ g : Nat, e = .returned (.slice (some ⟨g, 0, none⟩) n n) ∧ w'.rowIs g 4 n (fun j => .bool (x.testBit j)) ∧ Below w.heap.size w w'
def bitC (x k j : Nat) : Value := .bool (decide (j < k) && x.testBit j)
set_option maxRecDepth 100000 in
set_option maxHeartbeats 1000000 in
theorem Bits_v (n x : Nat) (w : World) (hn : n ≤ 128) (hx : x < 2 ^ n) : Calls Try.prog 43 #[vv n x] w (BS w n x) := by
  have hB := Lib.hid (fun (i : Int) w => Bit_v n x i w hn hx)
  have hmk := run_make_row' 22 4 (.bool false) 1 Try.underlying22 info_bool rfl .i64 .i64 n (by omega) (by omega)
  have V0 := Lib.hid ((HV.new w 28 n x).alloc (.cells (madeCells #[.bool false] n) 4))
  have R0 := World.rowIs_made (w.alloc (.cells (vcs n x) 28)) (.bool false) n 4
  rw [World.size_alloc] at R0
  replace R0 := Lib.hid R0
  clear hx
  go_enter Try.func43, Try.ntmps43
  go_wp2
  go_loopw [10] (fun i wr => ∃ k : Nat, k ≤ n ∧ i = .int .i64 (k : Int) ∧ HV 28 wr w.heap.size n x ∧ wr.rowIs (w.heap.size + 1) 4 n (bitC x k) ∧ Below w.heap.size w wr) (fun i _ => n - (intOf i).toNat)
  case atStart => exact ⟨0, Nat.zero_le _, rfl, V0.out, World.rowIs.congr R0.out fun j hj => by unfold bitC; simp, by go_grown⟩
  case round =>
    obtain ⟨k, hk, rfl, V, R, hbw⟩ := hrel
    clear V0 R0 hmk
    have v := V.all
    by_cases hlt : k < n
    · have hc : wr.cell? ⟨w.heap.size + 1, k, none⟩ = some (.bool false) := by rw [World.rowIs.cell R hlt]; unfold bitC; simp
      have hf := World.rowIs.frozen R
      have hb := fun w => hB.out (k : Int) w
      have hbk : bitI n x (k : Int) = x.testBit k := by unfold bitI; simp; omega
      rw [hbk] at hb
      replace hb := Lib.hid hb
      clear hbk
      go_wp2_with (go_at_call 46; (with_reducible refine (hb.out _).mono ?_); rintro e w1 ⟨rfl, hb1⟩; have V1 := V.over hb1; have R1 := World.rowIs.of_block R (hb1.block _ (World.rowIs.lt R)); have hbw1 : Below w.heap.size w w1 := below_call hb1 hbw; have hc1 := World.rowIs.cell R1 (i := k) hlt; have hf1 := World.rowIs.frozen R1; clear hb1 v hc hf V R hbw)
      go_roundw
      case rel =>
        clear hf1 hc1
        refine ⟨k + 1, by omega, by go_num, V1.far (p := ⟨w.heap.size + 1, k, none⟩) (by simp) _, World.rowIs.congr (World.rowIs.set R1 k _) fun j hj => ?_, hbw1.setCell (by simp) _⟩
        by_cases hj1 : j = k
        · subst hj1
          rw [if_pos rfl]; unfold bitC; simp
        · rw [if_neg hj1]; unfold bitC
          congr 2
          rw [Bool.eq_iff_iff]; simp; omega
      case measure => simp [intOf]; omega
    · obtain rfl : k = n := by omega
      go_wp2
      go_ret
      exact ⟨w.heap.size + 1, rfl, World.rowIs.congr R fun j hj => by unfold bitC; simp [hj], hbw⟩
set_option maxRecDepth 100000 in
set_option maxHeartbeats 800000 in
theorem refText_t (n c : Nat) (A : Option Addr) (f : Nat → Bool) (w : World) (hn : n ≤ 128) (hA : RB w A n f) :
    Calls Try.prog 42 #[.slice A n c] w fun e w' => e = .returned (.string (rtx f n)) ∧ w' = w := by
  have hz := Lib.hid (rtx_size f)
  replace hA := Lib.hid hA
  go_enter Try.func42, Try.ntmps42
  go_wp2
  go_loop [3, 4] (fun s i => ∃ (k : Nat) (J : ByteArray), k ≤ n ∧ i = .int .i64 (k : Int) ∧ s = .string J ∧ J = rtx f k) (fun _ i => n - (intOf i).toNat)
  case atStart => exact ⟨0, ⟨#[]⟩, Nat.zero_le _, rfl, rfl, rfl⟩
  case round =>
    obtain ⟨k, J, hk, rfl, rfl, hJ⟩ := hrel
    have hs : J.size ≤ 128 := by rw [hJ, hz.out]; omega
    by_cases hlt : k < n
    · obtain ⟨b, off, rfl, hb, hc⟩ := hA.out (by omega)
      have hck := hc k hlt
      clear hc
      cases hfk : f k with
      | true =>
        rw [hfk] at hck
        have e := Lib.hid (show ⟨#[49]⟩ ++ J = rtx f (k + 1) by rw [hJ, rtx, hfk]; rfl)
        clear hJ hfk
        go_wp2
        go_round
        case rel => exact ⟨k + 1, _, by omega, by go_num, rfl, e.out⟩
        case measure => simp [intOf]; omega
      | false =>
        rw [hfk] at hck
        have e := Lib.hid (show ⟨#[48]⟩ ++ J = rtx f (k + 1) by rw [hJ, rtx, hfk]; rfl)
        clear hJ hfk
        go_wp2
        go_round
        case rel => exact ⟨k + 1, _, by omega, by go_num, rfl, e.out⟩
        case measure => simp [intOf]; omega
    · obtain rfl : k = n := by omega
      replace hJ := Lib.hid hJ
      go_wp2
      go_ret
      exact ⟨by rw [← hJ.out]; rfl, rfl⟩
end Go.Proofs.Ytmgkidfikikjpaa
