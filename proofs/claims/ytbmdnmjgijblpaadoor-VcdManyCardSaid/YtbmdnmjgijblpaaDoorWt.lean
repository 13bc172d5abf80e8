/-
  The walk of bv's Text: the digits of a vector, the most significant first.
-/
import Derived.Test.YtbmdnmjgijblpaaDoorWb
import Derived.Test.YtbmdnmjgijblpaaDoorM2
import Derived.Laws.BytesString
namespace Go.Proofs.YtbmdnmjgijblpaaDoor
open Go.RowKit
def dgt (n x j : Nat) : Int := if x.testBit (n - 1 - j) then 49 else 48
def dig (n x k j : Nat) : Value := .int .u8 (if n ≤ j + k then dgt n x j else 0)
def txt (n x : Nat) : ByteArray := ((List.range n).map (dgt n x)).foldl (fun r n => r.push (UInt8.ofNat n.toNat)) ByteArray.empty
theorem info_u8 : (Tryd.prog.info? 5).map (fun i => (i.zero, i.size, i.bytes)) = some (some (.int .u8 0), 1, 1) := by kernel_rfl
theorem conv_txt (n x g : Nat) (w : World) (h : w.rowIs g 5 n (dig n x n)) :
    (convert 44 9 (.slice (some ⟨g, 0, none⟩) n n)).run Tryd.prog w = .ok (.string (txt n x)) w := by
  rw [run_convert_bytes_string w _ _ 5 _ _ _ Tryd.underlying44 Tryd.underlying5 Tryd.underlying9]
  refine run_bytesToString w _ _ _ ((List.range n).map (dgt n x)) ?_
  have hl := run_loadCells_list (P := Tryd.prog) w ⟨g, 0, none⟩ (((List.range n).map (dgt n x)).map (Value.int .u8)) (fun j v hv => by
    rw [List.getElem?_map, List.getElem?_map, Option.map_map, Option.map_eq_some_iff] at hv
    obtain ⟨i, hi, rfl⟩ := hv
    have hj : j < n := by
      rcases Nat.lt_or_ge j n with h' | h'
      · exact h'
      · rw [List.getElem?_eq_none (by simpa using h')] at hi; cases hi
    rw [List.getElem?_eq_getElem (by simpa using hj)] at hi
    simp only [List.getElem_range, Option.some.injEq] at hi
    subst hi
    have hadd : (⟨g, 0, none⟩ : Addr).add j = ⟨g, j, none⟩ := by unfold Addr.add; split <;> simp_all
    rw [hadd, World.rowIs.cell h hj]
    simp [dig])
  simpa using hl
set_option maxRecDepth 100000 in
set_option maxHeartbeats 1000000 in
theorem Text_v (n x : Nat) (w : World) (hn : n ≤ 128) (hx : x < 2 ^ n) : Calls Tryd.prog 32 #[vv n x] w (RV w (.string (txt n x))) := by
  have hB := Lib.hid (fun (i : Int) w => Bit_v n x i w hn hx)
  have hmk := run_make_row' 44 5 (.int .u8 0) 1 Tryd.underlying44 info_u8 rfl .i64 .i64 n (by omega) (by omega)
  have V0 := Lib.hid ((HV.new w 34 n x).alloc (.cells (madeCells #[.int .u8 0] n) 5))
  have R0 := Lib.hid (World.rowIs_made (w.alloc (.cells (vcs n x) 34)) (.int .u8 0) n 5)
  have s1 : (w.alloc (.cells (vcs n x) 34)).heap.size = w.heap.size + 1 := World.size_alloc _ _
  rw [s1] at R0
  clear s1
  clear hx
  go_enter Tryd.func32, Tryd.ntmps32
  go_wp2
  go_loopw [10] (fun i wr => ∃ k : Nat, k ≤ n ∧ i = .int .i64 (k : Int) ∧ HV 34 wr w.heap.size n x ∧ wr.rowIs (w.heap.size + 1) 5 n (dig n x k) ∧ Below w.heap.size w wr) (fun i _ => n - (intOf i).toNat)
  case atStart =>
    exact ⟨0, Nat.zero_le _, rfl, V0.out, World.rowIs.congr R0.out fun j hj => by unfold dig; rw [if_neg (by omega)], by go_grown⟩
  case round =>
    obtain ⟨k, hk, rfl, V, R, hbw⟩ := hrel
    clear V0 R0 hmk
    have v := V.all
    by_cases hlt : k < n
    · have e1 : IntKind.i64.wrap ((n : Int) - 1) = (n : Int) - 1 := IntWalk.i64_in _ (by omega)
      have e2 : IntKind.i64.wrap ((n : Int) - 1 - (k : Int)) = (n : Int) - 1 - (k : Int) := IntWalk.i64_in _ (by omega)
      have e3 : ((n : Int) - 1 - (k : Int)).toNat = n - 1 - k := by omega
      have hc : wr.cell? ⟨w.heap.size + 1, n - 1 - k, none⟩ = some (.int .u8 0) := by rw [World.rowIs.cell R (by omega)]; unfold dig; rw [if_neg (by omega)]
      have hf := World.rowIs.frozen R
      have hb := fun w => hB.out (k : Int) w
      obtain ⟨b, hbb⟩ : ∃ b, bitI n x (k : Int) = b := ⟨_, rfl⟩
      have hbk : x.testBit k = b := by rw [← hbb]; unfold bitI; simp; omega
      rw [hbb] at hb
      replace hb := Lib.hid hb
      replace hbk := Lib.hid hbk
      clear hbb
      cases b
      all_goals
        go_wp2_with (go_at_call 49; (with_reducible refine (hb.out _).mono ?_); rintro e w1 ⟨rfl, hb1⟩; have V1 := (V.far (p := ⟨w.heap.size + 1, n - 1 - k, none⟩) (by simp) (.int .u8 48)).over hb1; have R1 := World.rowIs.of_block (World.rowIs.set R (n - 1 - k) (.int .u8 48)) (hb1.block _ (World.rowIs.lt (World.rowIs.set R (n - 1 - k) (.int .u8 48)))); have hbw1 : Below w.heap.size w w1 := below_call hb1 (hbw.setCell (by simp) _); have v1 := V1.all; have hc1 := World.rowIs.cell R1 (i := n - 1 - k) (by omega); have hf1 := World.rowIs.frozen R1; clear hb1 v hc hf V R hbw)
        go_roundw
        case rel =>
          clear hf1 hc1 v1
          first
            | (refine ⟨k + 1, by omega, by go_num, V1.far (p := ⟨w.heap.size + 1, n - 1 - k, none⟩) (by simp) _, World.rowIs.congr (World.rowIs.set R1 (n - 1 - k) _) fun j hj => ?_, hbw1.setCell (by simp) _⟩
               by_cases hj1 : j = n - 1 - k
               · subst hj1
                 simp only [if_true]
                 unfold dig dgt
                 rw [if_pos (by omega), show n - 1 - (n - 1 - k) = k from by omega, hbk.out]; rfl
               · rw [if_neg hj1, if_neg hj1]
                 unfold dig
                 by_cases h2 : n ≤ j + k
                 · rw [if_pos h2, if_pos (by omega)]
                 · rw [if_neg h2, if_neg (by omega)])
            | (refine ⟨k + 1, by omega, by go_num, V1, World.rowIs.congr R1 fun j hj => ?_, hbw1⟩
               by_cases hj1 : j = n - 1 - k
               · subst hj1
                 simp only [if_true]
                 unfold dig dgt
                 rw [if_pos (by omega), show n - 1 - (n - 1 - k) = k from by omega, hbk.out]; rfl
               · rw [if_neg hj1]
                 unfold dig
                 by_cases h2 : n ≤ j + k
                 · rw [if_pos h2, if_pos (by omega)]
                 · rw [if_neg h2, if_neg (by omega)])
        case measure => simp [intOf]; omega
    · obtain rfl : k = n := by omega
      have hconv := conv_txt k x _ wr R
      go_wp2
      go_ret
      exact ⟨rfl, hbw⟩
end Go.Proofs.YtbmdnmjgijblpaaDoor
