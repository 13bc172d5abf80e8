/-
  Parse, on what Text wrote: the same clauses.
-/
import Derived.Test.YtikngnbnodaflaaGreatDoorQd
import Derived.Test.YtikngnbnodaflaaGreatDoorKn
namespace Go.Proofs.YtikngnbnodaflaaGreatDoor
open Go.RowKit Go.Lib
/-- What Parse returns: a formula of these clauses, and no error. -/
def PRV (V : Nat) (cs : List (List Int)) (w : World) (e : Ending) (w' : World) : Prop :=
  ∃ (p : Nat) (vl ve : Value), e = .returned (.tuple #[pv p, .int .i64 0, .int .i64 0]) ∧ CF w.heap.size w' p V cs vl ve ∧ Below w.heap.size w w'
def rst (cs : List (List Int)) (k : Nat) : List UInt8 := (cs.drop k).flatMap clT
theorem rst_succ (cs : List (List Int)) (k : Nat) (h : k < cs.length) : rst cs k = clT (cs.getD k []) ++ rst cs (k + 1) := by
  unfold rst
  rw [List.drop_eq_getElem_cons h, List.flatMap_cons, getD_get cs k h]
theorem rst_end (cs : List (List Int)) : rst cs cs.length = [] := by simp [rst]
theorem rst_len (cs : List (List Int)) (k : Nat) : (rst cs k).length ≤ (cs.flatMap clT).length := by
  have h : cs.flatMap clT = (cs.take k).flatMap clT ++ rst cs k := by unfold rst; rw [← List.flatMap_append, List.take_append_drop]
  rw [h, List.length_append]
  omega
theorem rst_ne (cs : List (List Int)) (k : Nat) (h : k < cs.length) : rst cs k ≠ [] := by
  rw [rst_succ cs k h]
  simp [clT]
theorem take_next (cs : List (List Int)) (k : Nat) (h : k < cs.length) : cs.take k ++ [cs.getD k []] = cs.take (k + 1) := by
  rw [List.take_succ_eq_append_getElem h, getD_get cs k h]
theorem RL_of_row {w : World} {b : Nat} {l : List Int} (R : w.rowIs b 3 l.length (fun j => .int .i64 (l.getD j 0))) : RL w (some ⟨b, 0, none⟩) l := fun _ => by
  refine ⟨b, 0, rfl, ?_, fun j hj => ?_⟩
  · obtain ⟨c0, h1, _⟩ := R
    exact lt_of_get h1
  · rw [Nat.zero_add]
    exact World.rowIs.cell R hj
set_option maxRecDepth 100000 in
set_option maxHeartbeats 6400000 in
theorem Parse_t (V : Nat) (cs : List (List Int)) (hV : V ≤ 60000) (hn : cs.length ≤ 200000) (hg : Good V cs) (hc : ∀ c, c ∈ cs → c.length ≤ 1000) (hlen : (cs.flatMap clT).length < 4294960000) (w : World) (hM : MX w) :
    Calls Tryz.prog 7 #[.string ⟨(txT V cs).toArray⟩] w (PRV V cs w) := by
  have hhd := hdT_len V cs.length hV hn
  have hC0 := fun w hM => Cut_t (txT V cs) [10] w hM (by unfold txT; rw [List.length_append]; omega)
  rw [show cut (txT V cs) [10] = (h1T V cs.length, rst cs 0, true) by unfold txT; rw [cut_head]; simp [rst]] at hC0
  dsimp only at hC0
  have hCk := fun k (hk : k < cs.length) w hM => Cut_t (rst cs k) [10] w hM (by have := rst_len cs k; omega)
  have hcut := fun k (hk : k < cs.length) => (show cut (rst cs k) [10] = (lnT (cs.getD k []), rst cs (k + 1), true) by rw [rst_succ cs k hk, cut_clause])
  have hSz := fun w hM => parseSizes_t V cs.length hV hn w hM
  have hPc := fun k (hk : k < cs.length) w hM => parseClause_t (cs.getD k []) V (by rw [← getD_get cs k hk]; exact hc _ (List.getElem_mem hk))
    (by have := hg _ (List.getElem_mem hk); rw [← getD_get cs k hk]; exact good_vars hV this.1 this.2.1 this.2.2)
    (by have := hg _ (List.getElem_mem hk); rw [← getD_get cs k hk]; exact fgn_dom hV this.2.2)
    (by
      have := hg _ (List.getElem_mem hk)
      rw [← getD_get cs k hk]
      intro x hx
      have h1 := List.any_eq_false.1 this.2.2 x hx
      unfold fgn at h1
      simp at h1
      omega) w hM
  have hAd := fun k (hk : k < cs.length) => (show addF V (cs.take k) (cs.getD k []) = (0, cs.take (k + 1)) by
    have := hg _ (List.getElem_mem hk)
    rw [← take_next cs k hk, ← getD_get cs k hk]
    refine addF_canon V (cs.take k) _ this.1 this.2.1 this.2.2 (hc _ (List.getElem_mem hk)) ?_
    rw [List.length_take]
    omega)
  have hne := fun k (hk : k < cs.length) => rst_ne cs k hk
  have hend := rst_end cs
  have hll := fun k (hk : k < cs.length) => (show (cs.getD k []).length ≤ 1000 by rw [← getD_get cs k hk]; exact hc _ (List.getElem_mem hk))
  have hNw := fun w => New_t (V : Int) V (by omega) w
  obtain ⟨S, hS⟩ : ∃ S : ByteArray, (⟨(txT V cs).toArray⟩ : ByteArray) = S := ⟨_, rfl⟩
  obtain ⟨H, hH⟩ : ∃ S : ByteArray, (⟨(h1T V cs.length).toArray⟩ : ByteArray) = S := ⟨_, rfl⟩
  rw [hS, hH] at hC0
  rw [hH] at hSz
  rw [hS]
  have htk : ∀ k, k ≤ cs.length → (cs.take k).length = k := fun k hk => by rw [List.length_take]; omega
  have hfull : cs.take cs.length = cs := List.take_length
  obtain ⟨n, hcn⟩ : ∃ n, cs.length = n := ⟨_, rfl⟩
  rw [hcn] at hSz hCk hcut hPc hAd hne hend hll hn htk hfull
  replace hC0 := Lib.hid hC0
  replace hCk := Lib.hid hCk
  replace hcut := Lib.hid hcut
  replace hSz := Lib.hid hSz
  replace hPc := Lib.hid hPc
  replace hAd := Lib.hid hAd
  replace hne := Lib.hid hne
  replace hend := Lib.hid hend
  replace hll := Lib.hid hll
  replace hNw := Lib.hid hNw
  replace htk := Lib.hid htk
  replace hfull := Lib.hid hfull
  replace hM := Lib.hid hM
  unfold PRV
  clear hS hH hhd hg hc hlen hcn
  go_enter Tryz.func7, Tryz.ntmps7
  go_wp2_with fail
  (with_reducible refine (hC0.out _ hM.out).mono ?_)
  rintro e w1 ⟨rfl, hb1⟩
  go_wp2_with fail
  (with_reducible refine (hSz.out _ (hM.out.on hb1)).mono ?_)
  rintro e w2 ⟨rfl, hb2⟩
  have hbw2 := below_call hb2 hb1 hb1.size
  clear hb1 hb2
  go_wp2_with fail
  (with_reducible refine (hNw.out _).mono ?_)
  rintro e w3 ⟨rfl, hCF, hb3⟩
  have hbw3 := below_call hb3 hbw2 hbw2.size
  have hCF3 := Lib.hid (hCF.mono (base' := w.heap.size) hbw2.size)
  obtain ⟨p, hp⟩ : ∃ p, w2.heap.size = p := ⟨_, rfl⟩
  rw [hp] at hCF3
  rw [hp]
  replace hbw3 := Lib.hid hbw3
  clear hCF hb3 hbw2 hp
  go_wp2_with fail
  go_loopw [6, 12] (fun rv iv wr => ∃ (k : Nat) (vl ve : Value), k ≤ n ∧ iv = .int .i64 ((k : Int) + 2) ∧ rv = .string ⟨(rst cs k).toArray⟩ ∧ CF w.heap.size wr p V (cs.take k) vl ve ∧ Below w.heap.size w wr) (fun _ iv _ => n + 2 - (intOf iv).toNat)
  case atStart => exact ⟨0, _, _, Nat.zero_le _, rfl, rfl, by rw [List.take_zero]; exact hCF3.out, hbw3.out⟩
  case round =>
    obtain ⟨k, vl, ve, hk, rfl, rfl, h, hbw⟩ := hrel
    clear hbw3 hCF3 hC0 hSz hNw
    by_cases hlt : k < n
    · have hC := hCk.out k hlt
      have hPk := hPc.out k hlt
      rw [hcut.out k hlt] at hC
      dsimp only at hC
      have hnek := hne.out k hlt
      have hadk := hAd.out k hlt
      have hllk := hll.out k hlt
      obtain ⟨cl, hcl⟩ : ∃ cl, cs.getD k [] = cl := ⟨_, rfl⟩
      rw [hcl] at hC hPk hadk hllk
      obtain ⟨LN, hLN⟩ : ∃ S : ByteArray, (⟨(lnT cl).toArray⟩ : ByteArray) = S := ⟨_, rfl⟩
      rw [hLN] at hC hPk
      obtain ⟨RN, hRN⟩ : ∃ S : ByteArray, (⟨(rst cs (k + 1)).toArray⟩ : ByteArray) = S := ⟨_, rfl⟩
      rw [hRN] at hC
      replace hRN := Lib.hid hRN
      replace hadk := Lib.hid hadk
      clear hcl hLN
      obtain ⟨S, hS⟩ : ∃ S : ByteArray, (⟨(rst cs k).toArray⟩ : ByteArray) = S := ⟨_, rfl⟩
      have hSl : S.toList = rst cs k := by rw [Go.Lib.toList_data, ← hS]
      have hne1 : ¬ S.toList = [] := by rw [hSl]; exact hnek
      have hne2 : S.toList.isEmpty = false := by
        cases hq : S.toList with
        | nil => exact absurd hq hne1
        | cons b r => rfl
      rw [hS] at hC ⊢
      replace hC := Lib.hid hC
      replace hPk := Lib.hid hPk
      replace h := Lib.hid h
      clear hS hSl hnek
      go_wp2_with fail
      (with_reducible refine (hC.out _ (hM.out.on hbw)).mono ?_)
      rintro e w4 ⟨rfl, hb4⟩
      have hbw4 := below_call hb4 hbw hbw.size
      have h4 := Lib.hid (h.out.over hb4)
      clear hb4 h hbw
      go_wp2_with fail
      (with_reducible refine (hPk.out _ (hM.out.on hbw4)).mono ?_)
      rintro e w5 ⟨Bc, rfl, hR5, hBc, hb5⟩
      have hbw5 := below_call hb5 hbw4 hbw4.size
      have h5 := h4.out.over hb5
      have hL5 := Len_t h5
      rw [htk.out k hk] at hL5
      have hA5 := Add_t h5 (some ⟨Bc, 0, none⟩) cl.length cl (RL_of_row hR5) (by omega)
      rw [hadk.out] at hA5
      dsimp only at hA5
      replace hL5 := Lib.hid hL5
      replace hA5 := Lib.hid hA5
      replace h5 := Lib.hid h5
      obtain ⟨nl, hnl⟩ : ∃ nl, cl.length = nl := ⟨_, rfl⟩
      rw [hnl] at hA5
      rw [hnl]
      have hkn : ¬ (k : Int) = (n : Int) := by omega
      clear hb5 hR5 hBc h4 hbw4 hnl
      go_wp2_with fail
      (with_reducible refine hL5.out.mono ?_)
      rintro e w6 ⟨rfl, rfl⟩
      go_wp2_with fail
      (with_reducible refine hA5.out.mono ?_)
      rintro e w7 ⟨rfl, vl7, ve7, h7, hk7, _⟩
      have hbw7 : Below w.heap.size w w7 := hbw5.trans (hk7.below hbw5.size fun b hb => (h5.out.fp b hb).1)
      replace h7 := Lib.hid h7
      go_wp2_with fail
      go_roundw
      case rel => exact ⟨k + 1, vl7, ve7, by omega, by go_num, by rw [hRN.out], h7.out, hbw7⟩
      case measure => simp [intOf]; omega
    · obtain rfl : k = n := by omega
      have hL := Len_t h
      rw [htk.out k (Nat.le_refl _)] at hL
      rw [hfull.out] at h
      have hE : (⟨(rst cs k).toArray⟩ : ByteArray) = ⟨#[]⟩ := by rw [hend.out]
      rw [hE]
      replace hL := Lib.hid hL
      replace h := Lib.hid h
      clear hE
      go_wp2_with fail
      (with_reducible refine hL.out.mono ?_)
      rintro e w4 ⟨rfl, rfl⟩
      go_wp2_with fail
      go_ret3
      exact ⟨p, vl, ve, rfl, h.out, hbw⟩
end Go.Proofs.YtikngnbnodaflaaGreatDoor
