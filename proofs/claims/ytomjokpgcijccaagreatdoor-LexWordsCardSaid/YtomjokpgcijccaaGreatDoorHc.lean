/-
  The walks of lex's conditions on bytes, and of ahead.
-/
import Derived.Test.YtomjokpgcijccaaGreatDoorFa
import Derived.Test.YtomjokpgcijccaaGreatDoorHa
namespace Go.Proofs.YtomjokpgcijccaaGreatDoor
open Go.RowKit Go.Lib
theorem i32_le (a c : Nat) : decide (((a : Nat) : Int) ≤ (c : Int)) = decide (a ≤ c) := by rw [decide_eq_decide]; omega
theorem ret_bool {a b : Bool} (h : a = b) : Ending.returned (.bool a) = .returned (.bool b) := by rw [h]
set_option maxHeartbeats 1600000 in
theorem isLetter_t (c : Nat) (hc : c < 256) (w : World) : Calls Tryz.prog 28 #[.int .u8 (c : Int)] w fun e w' => e = .returned (.bool (letB c)) ∧ w' = w := by
  have h : c < 65 ∨ (65 ≤ c ∧ c ≤ 90) ∨ (90 < c ∧ c < 97) ∨ (97 ≤ c ∧ c ≤ 122) ∨ 122 < c := by omega
  obtain ⟨b, hb⟩ : ∃ b, letB c = b := ⟨_, rfl⟩
  have hr := Lib.hid hb
  rw [hb]
  have hv : b = (decide (65 ≤ c ∧ c ≤ 90) || decide (97 ≤ c ∧ c ≤ 122)) := by
    rw [← hb, Bool.eq_iff_iff]; unfold letB; simp; omega
  clear hb
  replace hv := Lib.hid hv
  rcases h with h | ⟨h, h'⟩ | ⟨h, h'⟩ | ⟨h, h'⟩ | h
  all_goals
    go_enter Tryz.func28, Tryz.ntmps28
    go_wp2
    all_goals
      go_ret
      exact ⟨ret_bool (by rw [hv.out, Bool.eq_iff_iff]; simp; omega), rfl⟩
set_option maxHeartbeats 1600000 in
theorem isDigit_t (c : Nat) (hc : c < 256) (w : World) : Calls Tryz.prog 29 #[.int .u8 (c : Int)] w fun e w' => e = .returned (.bool (digB c)) ∧ w' = w := by
  have h : c < 48 ∨ (48 ≤ c ∧ c ≤ 57) ∨ 57 < c := by omega
  obtain ⟨b, hb⟩ : ∃ b, digB c = b := ⟨_, rfl⟩
  have hr := Lib.hid hb
  rw [hb]
  have hv : b = decide (48 ≤ c ∧ c ≤ 57) := by
    rw [← hb, Bool.eq_iff_iff]; unfold digB; simp
  clear hb
  replace hv := Lib.hid hv
  rcases h with h | ⟨h, h'⟩ | h
  all_goals
    go_enter Tryz.func29, Tryz.ntmps29
    go_wp2
    all_goals
      go_ret
      exact ⟨ret_bool (by rw [hv.out, Bool.eq_iff_iff]; simp; omega), rfl⟩
set_option maxHeartbeats 1600000 in
theorem isBlank_t (c : Nat) (hc : c < 256) (w : World) : Calls Tryz.prog 15 #[.int .u8 (c : Int)] w fun e w' => e = .returned (.bool (blkB c)) ∧ w' = w := by
  have hr := Lib.hid (show blkB c = (decide (c = 32) || decide (c = 9) || decide (c = 13) || decide (c = 10)) from rfl)
  have h : c = 32 ∨ c = 9 ∨ c = 13 ∨ c = 10 ∨ (c ≠ 32 ∧ c ≠ 9 ∧ c ≠ 13 ∧ c ≠ 10) := by omega
  rcases h with rfl | rfl | rfl | rfl | ⟨h1, h2, h3, h4⟩
  case inr.inr.inr.inr =>
    have n1 : ((c : Int) == 32) = false := by simp; omega
    have n2 : ((c : Int) == 9) = false := by simp; omega
    have n3 : ((c : Int) == 13) = false := by simp; omega
    have n4 : ((c : Int) == 10) = false := by simp; omega
    go_enter Tryz.func15, Tryz.ntmps15
    go_wp2
    go_ret
    exact ⟨by rw [hr.out]; simp [h1, h2, h3, h4], rfl⟩
  all_goals
    go_enter Tryz.func15, Tryz.ntmps15
    go_wp2
    go_ret
    exact ⟨rfl, rfl⟩
set_option maxHeartbeats 1600000 in
theorem isDu_t (c : Nat) (hc : c < 256) (w : World) : Calls Tryz.prog 30 #[.int .u8 (c : Int)] w fun e w' => e = .returned (.bool (duB c)) ∧ w' = w := by
  have hd := Lib.hid (fun w => isDigit_t c hc w)
  have hr := Lib.hid (show duB c = (digB c || decide (c = 95)) from rfl)
  generalize digB c = b at *
  by_cases h : c = 95
  · have n1 : ((c : Int) == 95) = true := by simp; omega
    have n2 : (c : Int) = 95 := by omega
    replace n2 := Lib.hid n2
    replace h := Lib.hid h
    cases b
    all_goals
      go_enter Tryz.func30, Tryz.ntmps30
      go_wp2_with (go_at_call 29; (with_reducible refine (hd.out _).mono ?_); rintro e w' ⟨rfl, rfl⟩)
      go_ret
      exact ⟨by rw [hr.out]; simp [h.out], rfl⟩
  · have n1 : ((c : Int) == 95) = false := by simp; omega
    replace h := Lib.hid h
    cases b
    all_goals
      go_enter Tryz.func30, Tryz.ntmps30
      go_wp2_with (go_at_call 29; (with_reducible refine (hd.out _).mono ?_); rintro e w' ⟨rfl, rfl⟩)
      go_ret
      exact ⟨by rw [hr.out]; simp [h.out], rfl⟩
set_option maxHeartbeats 1600000 in
theorem isPart_t (c : Nat) (hc : c < 256) (w : World) : Calls Tryz.prog 27 #[.int .u8 (c : Int)] w fun e w' => e = .returned (.bool (partB c)) ∧ w' = w := by
  have hd := Lib.hid (fun w => isDigit_t c hc w)
  have hl := Lib.hid (fun w => isLetter_t c hc w)
  have hr := Lib.hid (show partB c = (letB c || digB c || decide (c = 95)) from rfl)
  generalize digB c = b at *
  generalize letB c = a at *
  by_cases h : c = 95
  · have n1 : ((c : Int) == 95) = true := by simp; omega
    have n2 : (c : Int) = 95 := by omega
    replace n2 := Lib.hid n2
    replace h := Lib.hid h
    cases a <;> cases b
    all_goals
      go_enter Tryz.func27, Tryz.ntmps27
      go_wp2_with (first | (go_at_call 29; (with_reducible refine (hd.out _).mono ?_); rintro e w' ⟨rfl, rfl⟩) | (go_at_call 28; (with_reducible refine (hl.out _).mono ?_); rintro e w' ⟨rfl, rfl⟩))
      go_ret
      exact ⟨by rw [hr.out]; simp [h.out], rfl⟩
  · have n1 : ((c : Int) == 95) = false := by simp; omega
    replace h := Lib.hid h
    cases a <;> cases b
    all_goals
      go_enter Tryz.func27, Tryz.ntmps27
      go_wp2_with (first | (go_at_call 29; (with_reducible refine (hd.out _).mono ?_); rintro e w' ⟨rfl, rfl⟩) | (go_at_call 28; (with_reducible refine (hl.out _).mono ?_); rintro e w' ⟨rfl, rfl⟩))
      go_ret
      exact ⟨by rw [hr.out]; simp [h.out], rfl⟩
theorem ah_step (p : Nat → Bool) (l : List UInt8) (k : Nat) (h : k < l.length) : ah p (l.drop k) = if p l[k].toNat then ah p (l.drop (k + 1)) + 1 else 0 := by
  rw [List.drop_eq_getElem_cons h]
  rfl
set_option maxRecDepth 100000 in
set_option maxHeartbeats 1600000 in
/-- ahead, at a condition that is a function of the program. -/
theorem ahead_t (K : FuncId) (p : Nat → Bool) (hcall : ∀ args w, (callFunc K args).run Tryz.prog w = .ok (.enter K args) w)
    (hp : ∀ (c : Nat), c < 256 → ∀ w, Calls Tryz.prog K #[.int .u8 (c : Int)] w fun e w' => e = .returned (.bool (p c)) ∧ w' = w) (l : List UInt8) (hl : l.length ≤ maxLen) (w : World) :
    Calls Tryz.prog 14 #[.string ⟨l.toArray⟩, .func (.func K) #[] #[]] w fun e w' => e = .returned (.int .i64 (ah p l : Int)) ∧ w' = w := by
  unfold maxLen at hl
  obtain ⟨R, hR⟩ : ∃ R, ah p l = R := ⟨_, rfl⟩
  have h0 : 0 + ah p (l.drop 0) = R := by rw [List.drop_zero, Nat.zero_add]; exact hR
  obtain ⟨S, hS⟩ : ∃ S : ByteArray, (⟨l.toArray⟩ : ByteArray) = S := ⟨_, rfl⟩
  have hz : S.size = l.length := by rw [← hS]; rfl
  have hbt := fun (k : Nat) (h : k < S.size) (h' : k < l.length) => (show S[k].toNat = (l[k]).toNat by subst hS; rfl)
  rw [hS, hR]
  replace hp := Lib.hid hp
  replace hbt := Lib.hid hbt
  replace h0 := Lib.hid h0
  have hz' := Lib.hid hz
  have hl' : S.size ≤ 9223372036854775807 := by omega
  clear hR hS hz hl
  go_enter Tryz.func14, Tryz.ntmps14
  go_wp2_with fail
  go_loop [8] (fun i => ∃ k : Nat, k ≤ S.size ∧ i = .int .i64 (k : Int) ∧ k + ah p (l.drop k) = R) (fun i => S.size - (intOf i).toNat)
  case atStart => exact ⟨0, Nat.zero_le _, rfl, h0.out⟩
  case round =>
    obtain ⟨k, hk, rfl, hr⟩ := hrel
    clear h0
    by_cases hlt : k < S.size
    · have hkl : k < l.length := by have := hz'.out; omega
      have hb := hbt.out k hlt hkl
      have hcb : (l[k]).toNat < 256 := UInt8.toNat_lt _
      rw [ah_step p l k hkl] at hr
      have hP := Lib.hid (hp.out _ hcb)
      generalize (l[k]).toNat = c at *
      clear hkl
      cases hpc : p c
      · rw [hpc] at hr hP
        have hR : k = R := by simpa using hr
        have E := Lib.hid hR
        clear hr hR hpc
        go_wp2_with fail
        (with_reducible refine (hP.out _).mono ?_)
        rintro e w' ⟨rfl, rfl⟩
        go_wp2_with fail
        go_ret
        exact ⟨ret_i64 (by rw [E.out]), rfl⟩
      · rw [hpc] at hr hP
        have hr' : k + 1 + ah p (l.drop (k + 1)) = R := by simp at hr; omega
        have E := Lib.hid hr'
        clear hr hr' hpc
        go_wp2_with fail
        (with_reducible refine (hP.out _).mono ?_)
        rintro e w' ⟨rfl, rfl⟩
        go_wp2_with fail
        go_round
        case rel => exact ⟨k + 1, by omega, by go_num, E.out⟩
        case measure => simp [intOf]; omega
    · obtain rfl : k = S.size := by omega
      have hR : S.size = R := by
        rw [List.drop_eq_nil_of_le (by have := hz'.out; omega)] at hr
        exact hr
      have E := Lib.hid hR
      clear hr hR
      go_wp2_with fail
      go_ret
      exact ⟨ret_i64 (by rw [E.out]), rfl⟩
end Go.Proofs.YtomjokpgcijccaaGreatDoor
