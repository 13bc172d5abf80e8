/-
  The numbers of a text: parseNumber, parseLiteral, parseSizes, on what Text wrote.
-/
import Derived.Test.YtikngnbnodaflaaGreatDoorQa
import Derived.Test.YtikngnbnodaflaaGreatDoorKf
import Derived.Lib.AtoiErrMem
namespace Go.Proofs.YtikngnbnodaflaaGreatDoor
open Go.RowKit Go.Lib
theorem noDigit_t (B : World) : PredAt Tryz.prog 52 #[] encR (fun r => decide (r < 48) || decide (57 < r)) B := fun W r _ => by
  unfold FnGives
  by_cases h : r < 48
  · go_enter Tryz.func52, Tryz.ntmps52
    go_wp2
    go_ret
    exact ⟨by have : ((r : Int) < 48) := by omega
              simp [this], 0, rfl⟩
  · go_enter Tryz.func52, Tryz.ntmps52
    go_wp2
    go_ret
    exact ⟨by have : ¬ ((r : Int) < 48) := by omega
              have e : decide ((57 : Int) < (r : Int)) = decide (57 < r) := by rw [decide_eq_decide]; omega
              simp [this, h, e], 0, rfl⟩
theorem idx_none (p : Nat → Bool) (s : ByteArray) (h : ∀ i, i < s.size → (s.get! i).toNat < 128 ∧ p (s.get! i).toNat = false) : ∀ f pos, idxFuncFrom p true s f pos = -1
  | 0, _ => rfl
  | f + 1, pos => by
    unfold idxFuncFrom
    split
    · rename_i hp
      have h1 := h pos hp
      have e : Utf8.decode s pos = ((s.get! pos).toNat, 1) := by
        unfold Utf8.decode
        simp only [Nat.add_zero]
        rw [if_pos (by omega)]
      rw [e]
      simp only [h1.2]
      rw [if_neg (by decide)]
      exact idx_none p s h f _
    · rfl
theorem dd_idx (u : Nat) : decide (0 ≤ idxFunc (fun r => decide (r < 48) || decide (57 < r)) true ⟨(decDigits u).toArray⟩) = false := by
  have e : idxFunc (fun r => decide (r < 48) || decide (57 < r)) true ⟨(decDigits u).toArray⟩ = -1 := by
    refine idx_none _ _ (fun i hi => ?_) _ _
    have hi' : i < (decDigits u).length := hi
    have hg : (⟨(decDigits u).toArray⟩ : ByteArray).get! i = (decDigits u)[i] := by
      show ((decDigits u).toArray)[i]! = _
      simp [hi']
    rw [hg]
    have := dd_digit u _ (List.getElem_mem hi')
    exact ⟨by omega, by simp; omega⟩
  rw [e]; rfl
theorem head_at {b0 : UInt8} {r : List UInt8} : ∀ (l : List UInt8) (T : ByteArray) (_ : (⟨l.toArray⟩ : ByteArray) = T) (z : 0 < T.size), l = b0 :: r → T[0]'z = b0 := by
  rintro l T rfl z rfl
  rfl
theorem parseNumber_t (u : Nat) (hu : u < 1000000000) (w : World) : Calls Tryz.prog 37 #[.string ⟨(decDigits u).toArray⟩] w (RV w (.tuple #[.int .i64 (u : Int), .bool true])) := by
  have hC := fun w => Tryz.strings_ContainsFunc 52 #[] (enters_of Tryz.func52 (by kernel_rfl) rfl) _ ⟨(decDigits u).toArray⟩ w (noDigit_t w)
  rw [dd_idx u] at hC
  have hlen := dd_len 8 u hu
  have hA := fun w => Tryz.strconv_Atoi ⟨(decDigits u).toArray⟩ (u : Int) (Nat.le_trans hlen (by decide)) (dd_atoi u) w
  have hlp : 0 < (decDigits u).length := List.length_pos_iff.2 (dd_ne u)
  obtain ⟨S, hS⟩ : ∃ S : ByteArray, (⟨(decDigits u).toArray⟩ : ByteArray) = S := ⟨_, rfl⟩
  have z1 : S.size ≤ 9 := by rw [← hS]; exact hlen
  have z0 : 0 < S.size := by rw [← hS]; exact hlp
  have hl : S.toList = decDigits u := by rw [Go.Lib.toList_data, ← hS]
  have hne : ¬ S.toList = [] := by rw [hl]; exact dd_ne u
  have hne2 : S.toList.isEmpty = false := by
    cases hq : S.toList with
    | nil => exact absurd hq hne
    | cons b r => rfl
  rw [hS] at hC hA ⊢
  replace hC := Lib.hid hC
  replace hA := Lib.hid hA
  clear hlen hlp
  by_cases h0 : u = 0
  · have h48 : S.toList = [48] := by rw [hl, h0, dd_zero]
    have h48b : (((S[0]'z0).toNat : Nat) : Int) = 48 := by
      rw [head_at _ S hS z0 (show decDigits u = 48 :: [] by rw [h0, dd_zero])]
      rfl
    clear hl hS
    go_enter Tryz.func37, Tryz.ntmps37
    go_wp2_with fail
    (with_reducible refine (hC.out _).mono ?_)
    rintro e w1 ⟨rfl, hb1⟩
    go_wp2_with fail
    (with_reducible refine (hA.out _).mono ?_)
    rintro e w2 ⟨rfl, t2, rfl⟩
    have hbw2 : Below w.heap.size w (bytesWorld w1 5 t2) := hb1.trans ((bytesWorld_below w1 5 t2).mono hb1.size)
    go_wp2_with fail
    go_ret2
    exact ⟨by rw [h0]; rfl, hbw2⟩
  · obtain ⟨b0, r, hbr, hb⟩ := dd_head u h0
    have h48 : ¬ (((S[0]'z0).toNat : Nat) : Int) = 48 := by
      rw [head_at _ S hS z0 hbr]
      omega
    clear hl hS
    go_enter Tryz.func37, Tryz.ntmps37
    go_wp2_with fail
    (with_reducible refine (hC.out _).mono ?_)
    rintro e w1 ⟨rfl, hb1⟩
    go_wp2_with fail
    (with_reducible refine (hA.out _).mono ?_)
    rintro e w2 ⟨rfl, t2, rfl⟩
    have hbw2 : Below w.heap.size w (bytesWorld w1 5 t2) := hb1.trans ((bytesWorld_below w1 5 t2).mono hb1.size)
    go_wp2_with fail
    go_ret2
    exact ⟨rfl, hbw2⟩
theorem cutp_neg (x : Int) (h : x < 0) : trimPrefix (itoa x) [45] = decDigits x.natAbs ∧ hasPrefix (itoa x) [45] = true := by
  unfold trimPrefix hasPrefix itoa
  rw [if_pos h]
  simp [List.isPrefixOf]
theorem cutp_pos (x : Int) (h : ¬ x < 0) : trimPrefix (itoa x) [45] = decDigits x.toNat ∧ hasPrefix (itoa x) [45] = false := by
  have e : itoa x = decDigits x.toNat := by unfold itoa; rw [if_neg h]
  have hp : List.isPrefixOf [45] (decDigits x.toNat) = false := by
    cases hd : decDigits x.toNat with
    | nil => exact absurd hd (dd_ne _)
    | cons b r =>
      have hb := dd_digit x.toNat b (hd ▸ List.mem_cons_self ..)
      have : ((45 : UInt8) == b) = false := by
        simp only [beq_eq_false_iff_ne, ne_eq]
        rintro rfl
        simp at hb
      simp [List.isPrefixOf, this]
  rw [e]
  unfold trimPrefix hasPrefix
  rw [hp]
  simp
theorem parseLiteral_t (x : Int) (hx : x ≠ 0 ∧ -60000 ≤ x ∧ x ≤ 60000) (w : World) : Calls Tryz.prog 39 #[.string ⟨(itoa x).toArray⟩] w (RV w (.tuple #[.int .i64 x, .bool true])) := by
  have hP := fun w => Tryz.strings_CutPrefix ⟨(itoa x).toArray⟩ ⟨#[45]⟩ w
  rw [show ((⟨(itoa x).toArray⟩ : ByteArray).data.toList) = itoa x from rfl, show ((⟨#[45]⟩ : ByteArray).data.toList) = [45] from rfl] at hP
  obtain ⟨h0, h1, h2⟩ := hx
  by_cases hn : x < 0
  · rw [(cutp_neg x hn).1, (cutp_neg x hn).2] at hP
    obtain ⟨u, hu⟩ : ∃ u : Nat, x = -(u : Int) := ⟨x.natAbs, by omega⟩
    have hun : x.natAbs = u := by omega
    rw [hun] at hP
    have hN := fun w => parseNumber_t u (by omega) w
    have hun0 : ¬ u = 0 := by omega
    have hwr : IntKind.i64.wrap (-(u : Int)) = -(u : Int) := IntWalk.i64_in _ (by omega)
    have hz : ¬ (-(u : Int)) = 0 := by omega
    obtain ⟨S, hS⟩ : ∃ S : ByteArray, (⟨(itoa x).toArray⟩ : ByteArray) = S := ⟨_, rfl⟩
    obtain ⟨T, hT⟩ : ∃ T : ByteArray, (⟨(decDigits u).toArray⟩ : ByteArray) = T := ⟨_, rfl⟩
    rw [hS] at hP ⊢
    rw [hT] at hP hN
    rw [hu]
    replace hP := Lib.hid hP
    replace hN := Lib.hid hN
    clear hS hT hu hun hn h0 h1 h2
    go_enter Tryz.func39, Tryz.ntmps39
    go_wp2_with fail
    (with_reducible refine (hP.out _).mono ?_)
    rintro e w1 ⟨rfl, rfl⟩
    go_wp2_with fail
    (with_reducible refine (hN.out _).mono ?_)
    rintro e w2 ⟨rfl, hb2⟩
    go_wp2_with fail
    go_ret2
    exact ⟨by simp [hun0], hb2⟩
  · rw [(cutp_pos x hn).1, (cutp_pos x hn).2] at hP
    obtain ⟨u, hu⟩ : ∃ u : Nat, x = (u : Int) := ⟨x.toNat, by omega⟩
    have hun : x.toNat = u := by omega
    rw [hun] at hP
    have hN := fun w => parseNumber_t u (by omega) w
    have hun0 : ¬ u = 0 := by omega
    have hz : ¬ (u : Int) = 0 := by omega
    obtain ⟨S, hS⟩ : ∃ S : ByteArray, (⟨(itoa x).toArray⟩ : ByteArray) = S := ⟨_, rfl⟩
    obtain ⟨T, hT⟩ : ∃ T : ByteArray, (⟨(decDigits u).toArray⟩ : ByteArray) = T := ⟨_, rfl⟩
    rw [hS] at hP ⊢
    rw [hT] at hP hN
    rw [hu]
    replace hP := Lib.hid hP
    replace hN := Lib.hid hN
    clear hS hT hu hun hn h0 h1 h2
    go_enter Tryz.func39, Tryz.ntmps39
    go_wp2_with fail
    (with_reducible refine (hP.out _).mono ?_)
    rintro e w1 ⟨rfl, rfl⟩
    go_wp2_with fail
    (with_reducible refine (hN.out _).mono ?_)
    rintro e w2 ⟨rfl, hb2⟩
    go_wp2_with fail
    go_ret2
    exact ⟨by simp [hun0], hb2⟩
end Go.Proofs.YtikngnbnodaflaaGreatDoor
