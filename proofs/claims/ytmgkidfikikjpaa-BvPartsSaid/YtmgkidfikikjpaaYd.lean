/-
  The walk of the statements' own Is: a vector and a list of the same bits.
-/
import Derived.Test.YtmgkidfikikjpaaYc
import Derived.Deep.RegionHeld3
import Derived.Deep.DrawnRows
namespace Go.Proofs.Ytmgkidfikikjpaa
open Go.RowKit
attribute [local go_sem ↓] Go.wp_at_zero Go.wp_at_succ
theorem bit_row (f : Nat → Bool) (n k : Nat) (h : k < n) : (valB f n).testBit k = f k := by rw [valB_testBit]; simp [h]
theorem bitI_row (f : Nat → Bool) (n k : Nat) (h : k < n) : bitI n (valB f n) (k : Int) = f k := by unfold bitI; simp [h, bit_row]
theorem bitI_neg (n x : Nat) : bitI n x (-1) = false := by unfold bitI; simp
theorem bitI_out (n x : Nat) : bitI n x (n : Int) = false := by unfold bitI; simp
theorem keepI {w : World} {B n x b : Nat} {o : Nat} {v : Bool} (V : HV 28 w B n x) (hc : w.cell? ⟨b, o, none⟩ = some (.bool v)) : (w.cell? ⟨B, 0, none⟩ = some (.int .i64 (n : Int)) ∧ w.cell? ⟨B, 1, none⟩ = some (.int .u64 ((lo x : Nat) : Int)) ∧ w.cell? ⟨B, 2, none⟩ = some (.int .u64 ((hi x : Nat) : Int))) ∧ w.cell? ⟨b, o, none⟩ = some (.bool v) := ⟨V.keep3, hc⟩
theorem cellB {w w' : World} {a : Addr} {v : Value} (h : w.cell? a = some v) (hb : Below w.heap.size w w') : w'.cell? a = some v := (hb.cell (World.block_lt_of_cell? w a h)).trans h
set_option maxRecDepth 100000 in
set_option maxHeartbeats 2000000 in
theorem Is_ok (n c : Nat) (A : Option Addr) (f : Nat → Bool) (w : World) (hn : n ≤ 128) (hA : RB w A n f) :
    Calls Try.prog 11 #[vv n (valB f n), .slice A n c] w (RV w (.bool true)) := by
  have hx := valB_lt f n
  have hW := Lib.hid (fun w => Width_v n (valB f n) w)
  have hT := fun w => Text_v n (valB f n) w hn hx
  rw [txt_rtx] at hT
  have hRT := fun w (h : RB w A n f) => refText_t n c A f w hn h
  obtain ⟨TT, hTT⟩ : ∃ TT, rtx f n = TT := ⟨_, rfl⟩
  rw [hTT] at hT hRT
  replace hT := Lib.hid hT
  replace hRT := Lib.hid hRT
  have hBi := Lib.hid (fun w => Bits_v n (valB f n) w hn hx)
  have hWo := Lib.hid (fun w => Words_v n (valB f n) w hn)
  have hRW := Lib.hid (fun w (h : RB w A n f) => refWords_t n c A f w hn h)
  have hB := fun (i : Int) w => Bit_v n (valB f n) i w hn hx
  have hB1 := fun w => hB (-1) w
  have hB2 := fun w => hB (n : Int) w
  have hBk : ∀ k w, k < n → Calls Try.prog 46 #[vv n (valB f n), .int .i64 (k : Int)] w (RV w (.bool (f k))) := fun k w hk => by
    have h := hB (k : Int) w
    rw [bitI_row f n k hk] at h
    exact h
  rw [bitI_neg] at hB1
  rw [bitI_out] at hB2
  have hrow : ∀ k, k < n → (valB f n).testBit k = f k := fun k hk => bit_row f n k hk
  have hm2 : wN n ≤ 2 := wN_le hn
  have hwl : ∀ j, wordN (valB f n) j < 2 ^ 64 := fun j => by unfold wordN; split; exact lo_lt _; exact hi_lt hx hn
  clear hB hTT
  generalize valB f n = x at *
  replace hB1 := Lib.hid hB1
  replace hB2 := Lib.hid hB2
  replace hBk := Lib.hid hBk
  replace hrow := Lib.hid hrow
  replace hA := Lib.hid hA
  replace hwl := Lib.hid hwl
  clear hx
  go_enter Try.func11, Try.ntmps11
  go_wp2_with fail
  (with_reducible refine (hW.out _).mono ?_)
  rintro e w1 ⟨rfl, hb1⟩
  have V1 := (HV.new w 28 n x).over hb1
  have hbw1 : Below w.heap.size w w1 := below_call hb1 (by go_grown)
  have v1 := V1.all
  clear hb1
  go_wp2_with fail
  (with_reducible refine (hT.out _).mono ?_)
  rintro e w2 ⟨rfl, hb2⟩
  have V2 := V1.over hb2
  have hbw2 : Below w.heap.size w w2 := below_call hb2 hbw1
  have v2 := V2.all
  clear hb2 hbw1 V1 v1
  go_wp2_with fail
  (with_reducible refine (hRT.out _ (hA.out.keep hbw2)).mono ?_)
  rintro e w3 ⟨rfl, rfl⟩
  go_wp2_with fail
  (with_reducible refine (hBi.out _).mono ?_)
  rintro e w4 ⟨g4, rfl, R4, hb4⟩
  have V4 := V2.over hb4
  have hbw4 : Below w.heap.size w w4 := below_call hb4 hbw2
  have v4 := V4.all
  clear hb4 hbw2 V2 v2 R4
  go_wp2_with fail
  (with_reducible refine (hWo.out _).mono ?_)
  rintro e w5 ⟨g5, rfl, R5, hb5⟩
  have V5 := V4.over hb5
  have hbw5 : Below w.heap.size w w5 := below_call hb5 hbw4
  have v5 := V5.all
  clear hb5 hbw4 V4 v4 R5
  go_wp2_with fail
  (with_reducible refine (hRW.out _ (hA.out.keep hbw5)).mono ?_)
  rintro e w6 ⟨g6, rfl, R6, hb6⟩
  have V6 := V5.over hb6
  have hbw6 : Below w.heap.size w w6 := below_call hb6 hbw5
  have v6 := V6.all
  clear hb6 hbw5 V5 v5 R6
  go_wp2_with fail
  (with_reducible refine (hBi.out _).mono ?_)
  rintro e w7 ⟨g7, rfl, R7, hb7⟩
  have V7 := V6.over hb7
  have hbw7 : Below w.heap.size w w7 := below_call hb7 hbw6
  have R7' : w7.rowIs g7 4 n (fun j => .bool (f j)) := World.rowIs.congr R7 fun j hj => by rw [hrow.out j hj]
  clear hb7 hbw6 V6 v6 R7
  go_wp2_with fail
  go_loopw [41] (fun i wr => ∃ k : Nat, k ≤ n ∧ i = .int .i64 (k : Int) ∧ HV 28 wr w.heap.size n x ∧ wr.rowIs g7 4 n (fun j => .bool (f j)) ∧ Below w.heap.size w wr) (fun i _ => n - (intOf i).toNat)
  case atStart => exact ⟨0, Nat.zero_le _, rfl, V7, R7', hbw7⟩
  case round =>
    obtain ⟨k, hk, rfl, V, R, hbw⟩ := hrel
    clear V7 R7' hbw7
    by_cases hlt : k < n
    · obtain ⟨b, off, rfl, hb, hc⟩ := (hA.out.keep hbw) (by omega)
      have hck := hc k hlt
      have hcr := World.rowIs.cell R (i := k) hlt
      have cB := fun w => hBk.out k w hlt
      obtain ⟨bk, hbk⟩ : ∃ bk, f k = bk := ⟨_, rfl⟩
      rw [hbk] at hck cB
      simp only [hbk] at hcr
      have k0 : (0 : Int) ≤ (k : Int) := by omega
      have k1 : (k : Int) < (n : Int) := by omega
      have Vd : HV 28 wr.drew w.heap.size n x := V
      have hcd : wr.drew.cell? ⟨b, off + k, none⟩ = some (.bool bk) := hck
      have hbd : Below w.heap.size w wr.drew := hbw.drew
      replace cB := Lib.hid cB
      clear hc hbk
      go_wp2_with fail
      clear hcr
      go_region_held3 (fun w' => (w'.cell? ⟨w.heap.size, 0, none⟩ = some (.int .i64 (n : Int)) ∧ w'.cell? ⟨w.heap.size, 1, none⟩ = some (.int .u64 ((lo x : Nat) : Int)) ∧ w'.cell? ⟨w.heap.size, 2, none⟩ = some (.int .u64 ((hi x : Nat) : Int))) ∧ w'.cell? ⟨b, off + k, none⟩ = some (.bool bk))
        (first | (with_reducible exact keepI Vd hcd) | (with_reducible exact keepI V8 hc8))
        (first | (go_at_call 46; (with_reducible refine (cB.out _).mono ?_); rintro e w8 ⟨rfl, hb8⟩; have V8 := Vd.over hb8; have hc8 := cellB hcd hb8; have R8 := World.rowIs.of_block (w := wr.drew) R (hb8.block _ (World.rowIs.lt (w := wr.drew) R)); have hbw8 : Below w.heap.size w w8 := below_call hb8 hbd; clear hb8))
      go_wp2_with fail
      go_roundw
      case rel => exact ⟨k + 1, by omega, by go_num, V8, R8, hbw8⟩
      case measure => simp [intOf]; omega
    · obtain rfl : k = n := by omega
      clear R
      have v := V.all
      go_wp2_with fail
      (with_reducible refine (hRW.out _ (hA.out.keep hbw)).mono ?_)
      rintro e w9 ⟨g9, rfl, R9, hb9⟩
      have V9 := V.over hb9
      have hbw9 : Below w.heap.size w w9 := below_call hb9 hbw
      clear hb9 hbw V v
      go_wp2_with fail
      go_loopw [66] (fun i wr => ∃ y : Nat, y ≤ wN k ∧ i = .int .i64 (y : Int) ∧ HV 28 wr w.heap.size k x ∧ wr.rowIs g9 25 (wN k) (wcell x) ∧ Below w.heap.size w wr) (fun i _ => wN k - (intOf i).toNat)
      case atStart => exact ⟨0, Nat.zero_le _, rfl, V9, R9, hbw9⟩
      case round =>
        obtain ⟨y, hy, rfl, V, R, hbw⟩ := hrel
        clear V9 R9 hbw9
        have v := V.all
        by_cases hlt : y < wN k
        · have c9 : ∀ wz : World, wz.rowIs g9 25 (wN k) (wcell x) → wz.cell? ⟨g9, y, none⟩ = some (.int .u64 ((wordN x y : Nat) : Int)) := fun wz h => World.rowIs.cell h hlt
          have c0 := c9 _ R
          go_wp2_with fail
          (with_reducible refine (hWo.out _).mono ?_)
          rintro e w10 ⟨g10, rfl, R10, hb10⟩
          have V10 := V.over hb10
          have R9' := World.rowIs.of_block R (hb10.block _ (World.rowIs.lt R))
          have hbw10 : Below w.heap.size w w10 := below_call hb10 hbw
          have c10 : w10.cell? ⟨g10, y, none⟩ = some (.int .u64 ((wordN x y : Nat) : Int)) := World.rowIs.cell R10 hlt
          clear hb10 hbw V v R R10 c0
          go_wp2_with fail
          go_roundw
          case rel => exact ⟨y + 1, by omega, by go_num, V10, R9', hbw10⟩
          case measure => simp [intOf]; omega
        · obtain rfl : y = wN k := by omega
          go_wp2_with fail
          (with_reducible refine (hB1.out _).mono ?_)
          rintro e w10 ⟨rfl, hb10⟩
          have V10 := V.over hb10
          have hbw10 : Below w.heap.size w w10 := below_call hb10 hbw
          have v10 := V10.all
          clear hb10 hbw V v R
          go_wp2_with fail
          (with_reducible refine (hB2.out _).mono ?_)
          rintro e w11 ⟨rfl, hb11⟩
          have hbw11 : Below w.heap.size w w11 := below_call hb11 hbw10
          go_wp2_with fail
          go_ret
          exact ⟨rfl, hbw11⟩
end Go.Proofs.Ytmgkidfikikjpaa
