/-
  The reference's Id; how long a dump is; awake.
-/
import Derived.Test.YtbmdnmjgijblpaaDoorE38
import Derived.Test.YtbmdnmjgijblpaaDoorAw
namespace Go.Proofs.YtbmdnmjgijblpaaDoor
open Go Go.RowKit Go.Lib Go.Maps
set_option maxRecDepth 100000 in
set_option maxHeartbeats 1600000 in
theorem rId_t : ∀ (n : Nat), n ≤ 1000000 → ∀ w : World, Calls Tryd.prog 5 #[.int .i64 (n : Int)] w fun e w' => e = .returned (.string (bt (idL n))) ∧ Below w.heap.size w w' := by
  intro n
  induction n using Nat.strongRecOn with
  | _ n ih =>
    intro hn w
    have hcell : Value.int .u8 (33 + (n : Int) % 94) = .int .u8 (((UInt8.ofNat (33 + n % 94)).toNat : Nat) : Int) := by rw [idc]; congr 1
    have ho0 : (w.alloc (.cells #[.int .u8 (33 + (n : Int) % 94)] 5)).ownsRow w.heap.size 5 1 (.slice (some ⟨w.heap.size, 0, none⟩) 1 1) 1 (ucells [UInt8.ofNat (33 + n % 94)]) :=
      ⟨rfl, .inr ⟨w.heap.size, 1, _, rfl, Nat.le_refl _, heap_alloc_new w _, Nat.le_refl _, by decide, rfl, by simp [ucells, hcell]⟩⟩
    have hcv := conv_u ho0
    have hb0 := vnew w (.cells #[.int .u8 (33 + (n : Int) % 94)] 5)
    by_cases h : n < 94
    · have e : idL n = [UInt8.ofNat (33 + n % 94)] := by rw [idL, if_pos h, Nat.mod_eq_of_lt h]
      rw [← e] at hcv
      replace hb0 := Lib.hid hb0
      clear ih ho0 hcell e
      go_enter Tryd.func5, Tryd.ntmps5
      go_wp2_with fail
      go_ret
      exact ⟨rfl, hb0.out⟩
    · have e : idL n = UInt8.ofNat (33 + n % 94) :: idL (n / 94) := by rw [idL, if_neg h]
      have hC := ih (n / 94) (by omega) (by omega) (w.alloc (.cells #[.int .u8 (33 + (n : Int) % 94)] 5))
      rw [show (((n / 94 : Nat) : Int)) = (n : Int) / 94 from by omega] at hC
      have hcat : bt [UInt8.ofNat (33 + n % 94)] ++ bt (idL (n / 94)) = bt (idL n) := by
        rw [e]
        exact bt_cons _ _
      have hl := idL_len (n / 94)
      have hz : (bt (idL (n / 94))).size ≤ 100000 := by show (idL (n / 94)).length ≤ _; omega
      have hz1 : (bt [UInt8.ofNat (33 + n % 94)]).size = 1 := rfl
      obtain ⟨S, hS⟩ : ∃ S, bt (idL (n / 94)) = S := ⟨_, rfl⟩
      obtain ⟨S1, hS1⟩ : ∃ S, bt [UInt8.ofNat (33 + n % 94)] = S := ⟨_, rfl⟩
      rw [hS] at hC hcat hz
      rw [hS1] at hcv hcat hz1
      have t1 : ¬ 9223372036854775807 < S1.size + S.size := by omega
      replace hb0 := Lib.hid hb0
      replace hC := Lib.hid hC
      clear ih ho0 hcell e hS hS1 hl
      go_enter Tryd.func5, Tryd.ntmps5
      go_wp2_with fail
      (with_reducible refine hC.out.mono ?_)
      rintro e w2 ⟨rfl, hb2⟩
      have hL := Lib.hid (below_step hb0.out hb2)
      clear hC hb2
      go_wp2_with fail
      go_ret
      exact ⟨rfl, hL.out⟩
/-- A dump is not longer than a thousand bytes for each of its lines. -/
theorem dump_le {top : List UInt8} {vs : List NV} {rows : RW} (ok : TOK top vs rows) : (dumpT top vs rows).length ≤ 1000 * (lnsAll top vs rows).length := by
  refine flat_le lnT _ fun ws hws => ?_
  unfold lnsAll at hws
  rcases List.mem_append.1 hws with h | h
  · rcases List.mem_append.1 h with h | h
    · rcases List.mem_append.1 h with h | h
      · simp only [lnsH, List.mem_cons, List.not_mem_nil, or_false] at h
        rcases h with rfl | rfl
        · exact lnT4 (by simp)
        · exact lnT4 (by have := ok.top; simp; omega)
      · unfold lnsV at h
        obtain ⟨i, hi, rfl⟩ := List.mem_map.1 h
        obtain ⟨nm, u, hv, _⟩ := ok.vln (List.mem_range.1 hi)
        rw [hv.e]
        exact hv.l
    · simp only [lnsM, List.mem_cons, List.not_mem_nil, or_false] at h
      rcases h with rfl | rfl <;> exact lnT2 (by simp)
  · unfold lnsT at h
    obtain ⟨a, ha, h⟩ := List.mem_flatMap.1 h
    have ha' := List.mem_range.1 ha
    unfold tln at h
    rcases List.mem_cons.1 h with rfl | h
    · have := dec_len a (by have := ok.rl; omega)
      exact lnT1 (by simp; omega)
    · unfold lnsC at h
      obtain ⟨i, hi, h⟩ := List.mem_flatMap.1 h
      have hi' := List.mem_range.1 hi
      unfold cln at h
      split at h
      · rw [List.mem_singleton.1 h]
        obtain ⟨ra, hra⟩ : ∃ r, rows[a]? = some r := ⟨_, List.getElem?_eq_getElem ha'⟩
        have hm := List.mem_of_getElem? hra
        have hrl := ok.rn ra hm
        have hx := ok.rw ra hm _ (List.mem_of_getElem? (rvv_at hra (i := i) (by omega)))
        have h2 := idL_len i
        have h3 := ok.vl
        exact lnT2 (by rw [List.length_cons, txL_len]; omega)
      · cases h
theorem lnsAll_len (top : List UInt8) (vs : List NV) (rows : RW) : (lnsAll top vs rows).length = 4 + vs.length + (lnsT rows vs.length rows.length).length := by
  simp only [lnsAll, List.length_append, lnsV_len, lnsH, lnsM, List.length_cons, List.length_nil]
  omega
abbrev awV : List NV := [([97], 1)]
abbrev awR : RW := [[(1, 1)], [(1, 1)], [(1, 0)]]
theorem idL0 : idL 0 = [33] := by rw [idL, if_pos (by decide)]; rfl
theorem aw_chk : chkF [109] awV awR = 0 := by decide
abbrev awD : List UInt8 := [36, 116, 105, 109, 101, 115, 99, 97, 108, 101, 32, 49, 32, 110, 115, 32, 36, 101, 110, 100, 10, 36, 115, 99, 111, 112, 101, 32, 109, 111, 100, 117, 108, 101, 32, 109, 32, 36, 101, 110, 100, 10, 36, 118, 97, 114, 32, 119, 105, 114, 101, 32, 49, 32, 33, 32, 97, 32, 36, 101, 110, 100, 10, 36, 117, 112, 115, 99, 111, 112, 101, 32, 36, 101, 110, 100, 10, 36, 101, 110, 100, 100, 101, 102, 105, 110, 105, 116, 105, 111, 110, 115, 32, 36, 101, 110, 100, 10, 35, 48, 10, 98, 49, 32, 33, 10, 35, 49, 10, 35, 50, 10, 98, 48, 32, 33, 10]
theorem aw_dump : dumpT [109] awV awR = awD := by
  have h1 : vln awV 0 = [sVar, sWire, [49], [33], [97], sEnd] := by
    unfold vln
    simp only [awV, List.getElem?_cons_zero, idL0]
    rw [itoa_dd3 1 (by decide)]
    rfl
  have hc : ∀ a, cln awR a 0 = if a = 0 ∨ rvv awR a 0 ≠ rvv awR (a - 1) 0 then [[98 :: txL (rvv awR a 0), [33]]] else [] := fun a => by unfold cln; rw [idL0]
  have t1 : txL (1, 1) = [49] := by rw [txL_eq]; rfl
  have t0 : txL (1, 0) = [48] := by rw [txL_eq]; rfl
  have hc0 : cln awR 0 0 = [[[98, 49], [33]]] := by rw [hc, if_pos (.inl rfl)]; show [[98 :: txL (1, 1), [33]]] = _; rw [t1]
  have hc1 : cln awR 1 0 = [] := by rw [hc]; rfl
  have hc2 : cln awR 2 0 = [[[98, 48], [33]]] := by rw [hc, if_pos (.inr (by decide))]; show [[98 :: txL (1, 0), [33]]] = _; rw [t0]
  have hT : lnsT awR 1 3 = [[[35, 48]], [[98, 49], [33]], [[35, 49]], [[35, 50]], [[98, 48], [33]]] := by
    show ([0, 1, 2] : List Nat).flatMap (tln awR 1) = _
    simp only [List.flatMap_cons, List.flatMap_nil, tln, lnsC, show List.range 1 = [0] from rfl, hc0, hc1, hc2]
    rw [itoa_dd3 0 (by decide), itoa_dd3 1 (by decide), itoa_dd3 2 (by decide)]
    rfl
  unfold dumpT lnsAll
  rw [show awV.length = 1 from rfl, show List.length awR = 3 from rfl, hT]
  rw [show lnsV awV 1 = [vln awV 0] from rfl, h1]
  rfl
end Go.Proofs.YtbmdnmjgijblpaaDoor
