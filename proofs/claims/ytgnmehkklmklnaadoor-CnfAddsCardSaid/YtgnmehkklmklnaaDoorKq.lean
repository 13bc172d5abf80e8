/-
  Holds.
-/
import Derived.Test.YtgnmehkklmklnaaDoorKp
namespace Go.Proofs.YtgnmehkklmklnaaDoor
open Go.RowKit Go.Lib
section
variable {base : Nat} {w : World} {p V : Nat} {cs : List (List Int)} {vl ve : Value}
theorem take_all (m : List Bool) (cs : List (List Int)) (k : Nat) (hk : k < cs.length) : holB m (cs.take (k + 1)) = (holB m (cs.take k) && (cs[k]).any (litB m)) := by
  unfold holB
  rw [List.take_succ_eq_append_getElem hk, List.all_append]
  simp
theorem all_take (m : List Bool) (cs : List (List Int)) (k : Nat) (h : holB m cs = true) : holB m (cs.take k) = true := by
  unfold holB at *
  rw [List.all_eq_true] at *
  exact fun c hc => h c (List.mem_of_mem_take hc)
set_option maxRecDepth 100000 in
set_option maxHeartbeats 1600000 in
theorem Holds_t (h : CF base w p V cs vl ve) (m : List Bool) (A : Option Addr) (c : Nat) (hA : RBo w A m) : Calls Tryd.prog 10 #[pv p, .slice A m.length c] w (RV w (.bool (holB m cs))) := by
  have hn := h.hn
  have hL := fun (W : World) (hb : Below w.heap.size w W) => Len_t (h.over hb)
  have hS := fun (W : World) (hb : Below w.heap.size w W) (i : Nat) (hi : i < cs.length) => (show Calls Tryd.prog 25 #[pv p, .int .i64 (i : Int)] W (SV vl W (cs.getD i [])) from getD_get cs i hi ▸ stored_t (h.over hb) i hi)
  have hK := fun (W : World) (l : List Int) (hl : l.length ≤ 1000) (hd : Dom l) (hb : Below w.heap.size w W) (hlt : w.heap.size < W.heap.size) (hc : W.cell? ⟨w.heap.size, 0, none⟩ = some (.slice A m.length c)) (A' : Option Addr) (c' : Nat) (hR : RL W A' l) =>
    cont_t 22 #[.pointer (some ⟨w.heap.size, 0, none⟩)] (enters_of Tryd.func22 (by kernel_rfl) rfl) (litB m) l c' A' W (by omega) hR
      (fun x hx W' hW' => isTrue_t m x w.heap.size c A (hd x hx) W' ((hW'.cell (p := ⟨w.heap.size, 0, none⟩) hlt).trans hc) (hA.over (hb.trans (hW'.mono hb.size))))
  obtain ⟨mn, hmn⟩ : ∃ mn, m.length = mn := ⟨_, rfl⟩
  have hT := fun k hk => take_all m cs k hk
  have hD := h.hd
  have hCl := h.hc
  have hAll := fun k => all_take m cs k
  obtain ⟨R, hR0⟩ : ∃ R, holB m cs = R := ⟨_, rfl⟩
  rw [hR0] at hAll ⊢
  obtain ⟨nc, hnc⟩ : ∃ nc, cs.length = nc := ⟨_, rfl⟩
  have hfull : holB m (cs.take nc) = R := by rw [← hnc, List.take_length, hR0]
  simp only [hmn] at hK
  simp only [hnc] at hL
  rw [hnc] at hn
  rw [hmn]
  replace hL := Lib.hid hL
  replace hS := Lib.hid hS
  replace hK := Lib.hid hK
  replace hT := Lib.hid hT
  replace hD := Lib.hid hD
  replace hCl := Lib.hid hCl
  replace hAll := Lib.hid hAll
  replace hfull := Lib.hid hfull
  replace hnc := Lib.hid hnc
  have hn2 : nc ≤ 9000000000000000000 := by omega
  clear hn h hA hmn hR0
  go_enter Tryd.func10, Tryd.ntmps10
  have hbw0 : Below w.heap.size w (w.alloc (.cells #[.slice A mn c] 23)) := (Below.refl _ w).alloc (Nat.le_refl _) _
  go_wp2_with fail
  (with_reducible refine (hL.out _ hbw0).mono ?_)
  rintro e w1 ⟨rfl, rfl⟩
  go_wp2_with fail
  go_loopw [10] (fun i wr => ∃ k : Nat, k ≤ nc ∧ i = .int .i64 (k : Int) ∧ holB m (cs.take k) = true ∧ wr.cell? ⟨w.heap.size, 0, none⟩ = some (.slice A mn c) ∧ w.heap.size < wr.heap.size ∧ Below w.heap.size w wr) (fun i _ => nc - (intOf i).toNat)
  case atStart => exact ⟨0, Nat.zero_le _, rfl, by simp [holB], by simp, by simp, hbw0⟩
  case round =>
    obtain ⟨k, hk, rfl, hall, hcell, hlt0, hbw⟩ := hrel
    clear hbw0
    by_cases hlt : k < nc
    · have hlc : k < cs.length := by rw [hnc.out]; exact hlt
      have hS1 := hS.out wr hbw k (by rw [hnc.out]; exact hlt)
      have hDl : Dom (cs.getD k []) := by rw [← getD_get cs k hlc]; exact hD.out _ (List.getElem_mem hlc)
      have hl1 : (cs.getD k []).length ≤ 1000 := by rw [← getD_get cs k hlc]; exact hCl.out _ (List.getElem_mem hlc)
      have hTk := hT.out k hlc
      rw [hall, Bool.true_and, getD_get cs k hlc] at hTk
      obtain ⟨l, hl⟩ : ∃ l, cs.getD k [] = l := ⟨_, rfl⟩
      rw [hl] at hS1 hDl hl1 hTk
      have hK1 := fun (W : World) (hb : Below w.heap.size w W) (hz : w.heap.size < W.heap.size) (hc : W.cell? ⟨w.heap.size, 0, none⟩ = some (.slice A mn c)) => hK.out W l hl1 hDl hb hz hc
      obtain ⟨b, hb0⟩ : ∃ b, l.any (litB m) = b := ⟨_, rfl⟩
      simp only [hb0] at hK1
      rw [hb0] at hTk
      replace hS1 := Lib.hid hS1
      replace hK1 := Lib.hid hK1
      replace hTk := Lib.hid hTk
      replace hall := Lib.hid hall
      clear hl hDl hl1 hlc hb0
      go_wp2_with fail
      (with_reducible refine hS1.out.mono ?_)
      rintro e w7 ⟨A', c', rfl, hR, hb7, _⟩
      have hbw7 : Below w.heap.size w w7 := below_call hb7 hbw hbw.size
      have hcell7 : w7.cell? ⟨w.heap.size, 0, none⟩ = some (.slice A mn c) := (hb7.cell (p := ⟨w.heap.size, 0, none⟩) hlt0).trans hcell
      have hlt7 : w.heap.size < w7.heap.size := Nat.lt_of_lt_of_le hlt0 hb7.size
      have hK2 := Lib.hid (hK1.out w7 hbw7 hlt7 hcell7 A' c' hR)
      clear hb7 hcell hlt0 hbw hR hS1 hK1
      go_wp2_with fail
      (with_reducible refine hK2.out.mono ?_)
      rintro e w8 ⟨rfl, hb8⟩
      have hbw8 : Below w.heap.size w w8 := below_call hb8 hbw7 hbw7.size
      have hcell8 : w8.cell? ⟨w.heap.size, 0, none⟩ = some (.slice A mn c) := (hb8.cell (p := ⟨w.heap.size, 0, none⟩) hlt7).trans hcell7
      have hlt8 : w.heap.size < w8.heap.size := Nat.lt_of_lt_of_le hlt7 hb8.size
      clear hb8 hcell7 hlt7 hbw7 hK2
      cases b with
      | false =>
        have hR : R = false := by
          cases hR1 : R with
          | false => rfl
          | true => have := hAll.out (k + 1) hR1; rw [hTk.out] at this; cases this
        replace hR := Lib.hid hR
        go_wp2_with fail
        go_ret
        exact ⟨by rw [hR.out]; rfl, hbw8⟩
      | true =>
        go_wp2_with fail
        go_roundw
        case rel => exact ⟨k + 1, by omega, by go_num, hTk.out, hcell8, hlt8, hbw8⟩
        case measure => simp [intOf]; omega
    · obtain rfl : k = nc := by omega
      have hR : R = true := by rw [← hfull.out, hall]
      replace hR := Lib.hid hR
      clear hall
      go_wp2_with fail
      go_ret
      exact ⟨by rw [hR.out]; rfl, hbw⟩
end
end Go.Proofs.YtgnmehkklmklnaaDoor
