/-
  The walk of lex's signAhead.
-/
import Derived.Test.YtomjokpgcijccaaGreatDoorHd
namespace Go.Proofs.YtomjokpgcijccaaGreatDoor
open Go.RowKit Go.Lib
def sgV (j : Nat) : Value := .string (tx (sgL.getD j []))
/-- The table of signs lies as it is laid. -/
def LS (w : World) : Prop := ∃ cs t fr, w.heap[0]? = some (.cells cs t fr) ∧ cs.size = 40 ∧ ∀ j, j < 40 → cs[j]? = some (sgV j)
theorem run_index_row {P : Program} (t e : TypeId) (n : Nat) (cs : Array Value) (k : Nat) (v : Value) (h : P.underlying t = some (.array n e)) (hk : k < n) (hv : cs[k]? = some v) (hz : ∀ w, (sizeOf e).run P w = .ok 1 w) (ha : ∀ w, (isAgg e).run P w = .ok false w) (w : World) :
    (Instr.index t (.agg cs) (.int .i64 (k : Int))).run P w = .ok v w := by
  have hn : 0 ≤ (k : Int) ∧ (k : Int) < (n : Int) := by omega
  simp [Instr.index, run_underlying h, asIntOf, hv, hk, hz, ha, go_sem]
theorem size_40 : (Tryz.prog.info? 93).map (·.size) = some 40 := by kernel_rfl
set_option maxRecDepth 100000 in
set_option maxHeartbeats 3200000 in
theorem signAhead_t (l : List UInt8) (w : World) (h : LS w) :
    Calls Tryz.prog 32 #[.string (tx l)] w fun e w' => e = .returned (.int .i64 (sgn l : Int)) ∧ w' = w := by
  obtain ⟨R, hR⟩ : ∃ R, sgn l = R := ⟨_, rfl⟩
  have h0 : (match (sgL.drop 0).find? (fun s => s.isPrefixOf l) with | some s => s.length | none => 0) = R := hR
  have hP := fun (s : List UInt8) w => (show Calls Tryz.prog 31 #[.string (tx l), .string (tx s)] w fun e w' => e = .returned (.bool (s.isPrefixOf l)) ∧ w' = w from Tryz.strings_HasPrefix (tx l) (tx s) w)
  obtain ⟨S, hS⟩ : ∃ S : ByteArray, tx l = S := ⟨_, rfl⟩
  rw [hS, hR]
  rw [hS] at hP
  replace hP := Lib.hid hP
  replace h0 := Lib.hid h0
  obtain ⟨cs, t, fr, hg, hcs, hj⟩ := h
  replace hj := Lib.hid hj
  have hinfo : (Tryz.prog.info? 93).map (·.size) = some cs.size := by rw [hcs]; exact size_40
  clear hR hS
  replace hcs := Lib.hid hcs
  replace hinfo := Lib.hid hinfo
  replace hg := Lib.hid hg
  go_enter Tryz.func32, Tryz.ntmps32
  go_wp2_with (refine wpList_load_row rfl 93 _ rfl 0 rfl t cs fr _ hg.out Tryz.underlying93 rfl hinfo.out ?_)
  go_loop [6] (fun i => ∃ k : Nat, k ≤ 40 ∧ i = .int .i64 (k : Int) ∧ (match (sgL.drop k).find? (fun s => s.isPrefixOf l) with | some s => s.length | none => 0) = R) (fun i => 40 - (RowKit.intOf i).toNat)
  case atStart => exact ⟨0, Nat.zero_le _, rfl, h0.out⟩
  case round =>
    obtain ⟨k, hk, rfl, hr⟩ := hrel
    clear h0 hg hinfo
    by_cases hlt : k < 40
    · have hck := hj.out k hlt
      have hix := fun w => run_index_row (P := Tryz.prog) 93 _ 40 cs k _ Tryz.underlying93 hlt hck Tryz.sizeOf9 Tryz.isAgg9 w
      have hk2 : k < sgL.length := hlt
      rw [List.drop_eq_getElem_cons hk2, List.find?_cons] at hr
      have hd : sgL.getD k [] = sgL[k] := by rw [List.getD_eq_getElem?_getD, List.getElem?_eq_getElem hk2]; rfl
      unfold sgV at hix
      rw [hd] at hix
      clear hck
      have hP' := Lib.hid (hP.out sgL[k])
      have hlen := (sg_pos _ (List.getElem_mem hk2)).2
      generalize sgL[k] = s at *
      obtain ⟨T, hT⟩ : ∃ T, tx s = T := ⟨_, rfl⟩
      have hTz : T.size = s.length := by rw [← hT]; rfl
      rw [hT] at hix hP'
      cases hb : s.isPrefixOf l
      · rw [hb] at hr hP'
        replace hr := Lib.hid hr
        clear hb hT hTz hd hk2 hP hj
        go_wp2_with fail
        (with_reducible refine (hP'.out _).mono ?_)
        rintro e w' ⟨rfl, rfl⟩
        go_wp2_with fail
        go_round
        case rel => exact ⟨k + 1, by omega, by go_num, hr.out⟩
        case measure => simp [RowKit.intOf]; omega
      · rw [hb] at hr hP'
        have E := Lib.hid (show T.size = R by rw [hTz]; exact hr)
        clear hr hb hT hTz hd hk2 hP hj
        go_wp2_with fail
        (with_reducible refine (hP'.out _).mono ?_)
        rintro e w' ⟨rfl, rfl⟩
        go_wp2_with fail
        go_ret
        exact ⟨ret_i64 (by rw [E.out]), rfl⟩
    · obtain rfl : k = 40 := by omega
      have E := Lib.hid (show 0 = R from hr)
      clear hr
      go_wp2_with fail
      go_ret
      exact ⟨ret_i64 (by rw [← E.out]; rfl), rfl⟩
end Go.Proofs.YtomjokpgcijccaaGreatDoor
