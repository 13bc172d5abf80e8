/-
  The walks of lit's digitOf and baseOf and of the reference's value.
  The walks of lit's digitsAhead, capped and baseOf.
  The walk of lit's scan: what a literal consists of, or the first error.
  The walks of lit's withDigit and Of, and scan's contract in one.
  The walk of lit's Of.
  The walk of lit's number: the value of digits in a base.
  The walk of lit's Parse.
  lit's Parse: what it returns, for any text.
  Arithmetic of a literal's parts: the digits' run of a part of a text, the number of decimal digits, the first apostrophe. Nothing here is walked.
  The walks of lit's negative and Int.
-/
import Derived.Test.YtcifljbcoioogaaGreatDoorWa
import Derived.Test.YtcifljbcoioogaaGreatDoorRt
import Derived.WalkSmall
import Derived.StillTailTactics
import Derived.Lib.Strings
import Derived.Test.YtcifljbcoioogaaGreatDoorYa
namespace Go.Proofs.YtcifljbcoioogaaGreatDoor
open Go.RowKit
/-- The value of a digit; 16: it is none. -/
def digV (c : Nat) : Nat := if 48 ≤ c ∧ c ≤ 57 then c - 48 else if 97 ≤ c ∧ c ≤ 102 then c - 87 else if 65 ≤ c ∧ c ≤ 70 then c - 55 else 16
theorem digV_le (c : Nat) : digV c ≤ 16 := by unfold digV; split <;> (try split) <;> (try split) <;> omega
theorem digV_case (c : Nat) : (c < 48 ∧ digV c = 16) ∨ (48 ≤ c ∧ c ≤ 57 ∧ digV c = c - 48) ∨ (57 < c ∧ c < 65 ∧ digV c = 16) ∨ (65 ≤ c ∧ c ≤ 70 ∧ digV c = c - 55) ∨ (70 < c ∧ c < 97 ∧ digV c = 16) ∨ (97 ≤ c ∧ c ≤ 102 ∧ digV c = c - 87) ∨ (102 < c ∧ digV c = 16) := by
  unfold digV
  by_cases h1 : 48 ≤ c ∧ c ≤ 57
  · rw [if_pos h1]; omega
  · rw [if_neg h1]
    by_cases h2 : 97 ≤ c ∧ c ≤ 102
    · rw [if_pos h2]; omega
    · rw [if_neg h2]
      by_cases h3 : 65 ≤ c ∧ c ≤ 70
      · rw [if_pos h3]; omega
      · rw [if_neg h3]; omega
theorem ret_i64 {a b : Int} (h : a = b) : Ending.returned (.int .i64 a) = .returned (.int .i64 b) := by rw [h]
set_option maxRecDepth 100000 in
set_option maxHeartbeats 1600000 in
theorem digitOf_t (c : Nat) (w : World) (hc : c < 256) : Calls Tryz.prog 95 #[.int .u8 (c : Int)] w fun e w' => e = .returned (.int .i64 (digV c : Int)) ∧ w' = w := by
  have h0 : (0 : Int) ≤ (c : Int) := by omega
  have h255 : (c : Int) ≤ 255 := by omega
  rcases digV_case c with ⟨h1, e⟩ | ⟨h1, h2, e⟩ | ⟨h1, h2, e⟩ | ⟨h1, h2, e⟩ | ⟨h1, h2, e⟩ | ⟨h1, h2, e⟩ | ⟨h1, e⟩
  all_goals
    have E := Lib.hid e
    clear e
    have t1 : decide (48 ≤ (c : Int)) = decide (48 ≤ c) := by rw [Bool.eq_iff_iff]; simp; omega
    go_enter Tryz.func95, Tryz.ntmps95
    go_wp2
    go_ret
    exact ⟨ret_i64 (by rw [E.out]; omega), rfl⟩
end Go.Proofs.YtcifljbcoioogaaGreatDoor
namespace Go.Proofs.YtcifljbcoioogaaGreatDoor
open Go.RowKit
/-- Byte k of a string. -/
def bt (s : ByteArray) (k : Nat) : Nat := if h : k < s.size then s[k].toNat else 0
theorem bt_at (s : ByteArray) (k : Nat) (h : k < s.size) : s[k].toNat = bt s k := by unfold bt; rw [dif_pos h]
theorem bt_lt (s : ByteArray) (k : Nat) : bt s k < 256 := by
  unfold bt
  split
  · exact UInt8.toNat_lt _
  · decide
/-- Does the digits' run end here? -/
def badB (s : ByteArray) (b i : Nat) : Bool := decide (b ≤ digV (bt s i)) && (decide (i = 0) || decide (bt s i ≠ 95))
def dAF (s : ByteArray) (b : Nat) : Nat → Nat → Nat
  | 0, i => i
  | f + 1, i => if badB s b i then i else dAF s b f (i + 1)
/-- How many bytes at the beginning are digits of a base, or underscores behind the first. -/
def dA (s : ByteArray) (b : Nat) : Nat := dAF s b s.size 0
theorem dAF_le (s : ByteArray) (b : Nat) : ∀ f i, i ≤ dAF s b f i ∧ dAF s b f i ≤ i + f
  | 0, i => ⟨Nat.le_refl _, Nat.le_refl _⟩
  | f + 1, i => by
    unfold dAF
    split
    · omega
    · have := dAF_le s b f (i + 1); omega
theorem dA_le (s : ByteArray) (b : Nat) : dA s b ≤ s.size := by have := (dAF_le s b s.size 0).2; unfold dA; omega
set_option maxRecDepth 100000 in
set_option maxHeartbeats 1600000 in
theorem digitsAhead_t (s : ByteArray) (b : Nat) (w : World) (hs : s.size ≤ maxLen) (_hb : b ≤ 16) :
    Calls Tryz.prog 92 #[.string s, .int .i64 (b : Int)] w fun e w' => e = .returned (.int .i64 (dA s b : Int)) ∧ w' = w := by
  unfold maxLen at hs
  obtain ⟨R, hR⟩ : ∃ R, dA s b = R := ⟨_, rfl⟩
  have h0 : dAF s b (s.size - 0) 0 = R := hR
  rw [hR]
  clear hR
  go_enter Tryz.func92, Tryz.ntmps92
  go_wp2_with fail
  go_loop [8] (fun i => ∃ k : Nat, k ≤ s.size ∧ i = .int .i64 (k : Int) ∧ dAF s b (s.size - k) k = R) (fun i => s.size - (intOf i).toNat)
  case atStart => exact ⟨0, Nat.zero_le _, rfl, h0⟩
  case round =>
    obtain ⟨k, hk, rfl, hr⟩ := hrel
    clear h0
    by_cases hlt : k < s.size
    · have hbt := bt_at s k hlt
      have hd := digV_le (bt s k)
      have hl := bt_lt s k
      rw [show s.size - k = (s.size - (k + 1)) + 1 by omega, dAF] at hr
      have cD := Lib.hid (fun w => digitOf_t (bt s k) w hl)
      by_cases h1 : b ≤ digV (bt s k)
      · have t1 : decide ((b : Int) ≤ (digV (bt s k) : Int)) = true := by simp; omega
        have t1' : decide (b ≤ digV (bt s k)) = true := by simp; omega
        by_cases h2 : k = 0
        · have hB : badB s b k = true := by unfold badB; rw [t1']; simp [h2]
          rw [if_pos hB] at hr
          have z1 : ((k : Int) == 0) = true := by simp [h2]
          have z2 : (k == 0) = true := by simp [h2]
          have E := Lib.hid hr
          clear hr h2 hB h1 hd
          generalize digV (bt s k) = dv at *
          generalize bt s k = c at *
          go_wp2_with (go_at_call 95; (with_reducible refine (cD.out _).mono ?_); rintro e w' ⟨rfl, rfl⟩)
          go_ret
          exact ⟨ret_i64 (by rw [E.out]), rfl⟩
        · have z1 : ((k : Int) == 0) = false := by simp; omega
          have z2 : (k == 0) = false := by simp; omega
          by_cases h3 : bt s k = 95
          · have hB : badB s b k = false := by unfold badB; simp [h2, h3]
            rw [if_neg (by rw [hB]; decide)] at hr
            have u1 : (((bt s k : Nat) : Int) != 95) = false := by simp [h3]
            have u2 : ((bt s k) != 95) = false := by simp [h3]
            replace hr := Lib.hid hr
            clear hB h1 h3 hd
            generalize digV (bt s k) = dv at *
            generalize bt s k = c at *
            go_wp2_with (go_at_call 95; (with_reducible refine (cD.out _).mono ?_); rintro e w' ⟨rfl, rfl⟩)
            go_round
            case rel => exact ⟨k + 1, by omega, by go_num, hr.out⟩
            case measure => simp [intOf]; omega
          · have hB : badB s b k = true := by unfold badB; simp [h1, h3]
            rw [if_pos hB] at hr
            have u1 : (((bt s k : Nat) : Int) != 95) = true := by simp; omega
            have u2 : ((bt s k) != 95) = true := by simp; omega
            have E := Lib.hid hr
            clear hr hB h1 h3 hd
            generalize digV (bt s k) = dv at *
            generalize bt s k = c at *
            go_wp2_with (go_at_call 95; (with_reducible refine (cD.out _).mono ?_); rintro e w' ⟨rfl, rfl⟩)
            go_ret
            exact ⟨ret_i64 (by rw [E.out]), rfl⟩
      · have t1 : decide ((b : Int) ≤ (digV (bt s k) : Int)) = false := by simp; omega
        have t1' : decide (b ≤ digV (bt s k)) = false := by simp; omega
        have hB : badB s b k = false := by unfold badB; simp [t1']
        rw [if_neg (by rw [hB]; decide)] at hr
        replace hr := Lib.hid hr
        clear hB h1 hd
        generalize digV (bt s k) = dv at *
        generalize bt s k = c at *
        go_wp2_with (go_at_call 95; (with_reducible refine (cD.out _).mono ?_); rintro e w' ⟨rfl, rfl⟩)
        go_round
        case rel => exact ⟨k + 1, by omega, by go_num, hr.out⟩
        case measure => simp [intOf]; omega
    · obtain rfl : k = s.size := by omega
      rw [Nat.sub_self] at hr
      have E := Lib.hid (show s.size = R from hr)
      clear hr
      go_wp2_with fail
      go_ret
      exact ⟨ret_i64 (by rw [E.out]), rfl⟩
/-- The number in the first k bytes, decimal, at most M. -/
def capF (s : ByteArray) (M : Nat) : Nat → Nat
  | 0 => 0
  | k + 1 => if bt s k = 95 then capF s M k else min (capF s M k * 10 + digV (bt s k)) M
theorem capF_le (s : ByteArray) (M : Nat) : ∀ k, capF s M k ≤ M
  | 0 => Nat.zero_le _
  | k + 1 => by
    unfold capF
    split
    · exact capF_le s M k
    · exact Nat.min_le_right _ _
set_option maxRecDepth 100000 in
set_option maxHeartbeats 1600000 in
theorem capped_t (s : ByteArray) (M : Nat) (w : World) (hs : s.size ≤ maxLen) (hM : M ≤ 2147483648) :
    Calls Tryz.prog 66 #[.string s, .int .i64 (M : Int)] w fun e w' => e = .returned (.int .i64 (capF s M s.size : Int)) ∧ w' = w := by
  unfold maxLen at hs
  go_enter Tryz.func66, Tryz.ntmps66
  go_wp2_with fail
  go_loop [5, 9] (fun n i => ∃ k : Nat, k ≤ s.size ∧ i = .int .i64 (k : Int) ∧ n = .int .i64 (capF s M k : Int)) (fun _ i => s.size - (intOf i).toNat)
  case atStart => exact ⟨0, Nat.zero_le _, rfl, rfl⟩
  case round =>
    obtain ⟨k, hk, rfl, rfl⟩ := hrel
    by_cases hlt : k < s.size
    · have hbt := bt_at s k hlt
      have hd := digV_le (bt s k)
      have hl := bt_lt s k
      have hc := capF_le s M k
      have hn : capF s M (k + 1) = if bt s k = 95 then capF s M k else min (capF s M k * 10 + digV (bt s k)) M := rfl
      have cD := Lib.hid (fun w => digitOf_t (bt s k) w hl)
      by_cases h3 : bt s k = 95
      · rw [if_pos h3] at hn
        have u1 : (((bt s k : Nat) : Int) != 95) = false := by simp [h3]
        have u2 : ((bt s k) != 95) = false := by simp [h3]
        have E := Lib.hid hn
        clear hn h3 hd
        generalize digV (bt s k) = dv at *
        generalize bt s k = c at *
        go_wp2_with fail
        go_round
        case rel => exact ⟨k + 1, by omega, by go_num, by rw [E.out]⟩
        case measure => simp [intOf]; omega
      · rw [if_neg h3] at hn
        have u1 : (((bt s k : Nat) : Int) != 95) = true := by simp; omega
        have u2 : ((bt s k) != 95) = true := by simp; omega
        generalize digV (bt s k) = dv at *
        generalize bt s k = c at *
        generalize capF s M k = a at *
        have e1 : (a : Int) ≤ 2147483648 := by omega
        have e2 : (dv : Int) ≤ 16 := by omega
        by_cases h4 : (M : Int) < (a : Int) * 10 + (dv : Int)
        · have E := Lib.hid (show capF s M (k + 1) = M by rw [hn]; omega)
          clear hn h3
          go_wp2_with (go_at_call 95; (with_reducible refine (cD.out _).mono ?_); rintro e w' ⟨rfl, rfl⟩)
          all_goals
            go_round
            case rel => exact ⟨k + 1, by omega, by go_num, by rw [E.out] <;> first | rfl | (congr 1; omega)⟩
            case measure => simp [intOf]; omega
        · have E := Lib.hid (show capF s M (k + 1) = a * 10 + dv by rw [hn]; omega)
          clear hn h3
          go_wp2_with (go_at_call 95; (with_reducible refine (cD.out _).mono ?_); rintro e w' ⟨rfl, rfl⟩)
          all_goals
            go_round
            case rel => exact ⟨k + 1, by omega, by go_num, by rw [E.out] <;> first | rfl | (congr 1; omega)⟩
            case measure => simp [intOf]; omega
    · obtain rfl : k = s.size := by omega
      obtain ⟨a, ha⟩ : ∃ a, capF s M s.size = a := ⟨_, rfl⟩
      have E := Lib.hid ha
      rw [ha]
      clear ha
      go_wp2_with fail
      go_ret
      exact ⟨ret_i64 (by rw [E.out]), rfl⟩
/-- The base that a letter stands for, or 0. -/
def baseV (c : Nat) : Nat := if c = 98 ∨ c = 66 then 2 else if c = 111 ∨ c = 79 then 8 else if c = 100 ∨ c = 68 then 10 else if c = 104 ∨ c = 72 then 16 else 0
set_option maxRecDepth 100000 in
set_option maxHeartbeats 1600000 in
theorem baseOf_t (c : Nat) (w : World) (hc : c < 256) : Calls Tryz.prog 93 #[.int .u8 (c : Int)] w fun e w' => e = .returned (.int .i64 (baseV c : Int)) ∧ w' = w := by
  have h : c = 98 ∨ c = 66 ∨ c = 111 ∨ c = 79 ∨ c = 100 ∨ c = 68 ∨ c = 104 ∨ c = 72 ∨ (c ≠ 98 ∧ c ≠ 66 ∧ c ≠ 111 ∧ c ≠ 79 ∧ c ≠ 100 ∧ c ≠ 68 ∧ c ≠ 104 ∧ c ≠ 72) := by omega
  rcases h with rfl | rfl | rfl | rfl | rfl | rfl | rfl | rfl | ⟨h1, h2, h3, h4, h5, h6, h7, h8⟩
  case inr.inr.inr.inr.inr.inr.inr.inr =>
    have E := Lib.hid (show baseV c = 0 by unfold baseV; rw [if_neg (by omega), if_neg (by omega), if_neg (by omega), if_neg (by omega)])
    have n1 : ((c : Int) == 98) = false := by simp; omega
    have n2 : ((c : Int) == 66) = false := by simp; omega
    have n3 : ((c : Int) == 111) = false := by simp; omega
    have n4 : ((c : Int) == 79) = false := by simp; omega
    have n5 : ((c : Int) == 100) = false := by simp; omega
    have n6 : ((c : Int) == 68) = false := by simp; omega
    have n7 : ((c : Int) == 104) = false := by simp; omega
    have n8 : ((c : Int) == 72) = false := by simp; omega
    go_enter Tryz.func93, Tryz.ntmps93
    go_wp2
    go_ret
    exact ⟨ret_i64 (by rw [E.out]; rfl), rfl⟩
  all_goals
    go_enter Tryz.func93, Tryz.ntmps93
    go_wp2
    go_ret
    exact ⟨rfl, rfl⟩
end Go.Proofs.YtcifljbcoioogaaGreatDoor
namespace Go.Proofs.YtcifljbcoioogaaGreatDoor
open Go.RowKit
/-- What scan returns: width, digits, base, based, signed, the error. -/
def pv (wd dg : ByteArray) (b : Nat) (ba sg : Bool) (e : Int) : Value := .tuple #[.agg #[.string wd, .string dg, .int .i64 (b : Int), .bool ba, .bool sg], .int .i64 e]
theorem emp (r : ByteArray) (h : r.size = 0) : r.toList.isEmpty = true ∧ r.toList = [] := by
  have e : r = ByteArray.empty := by simpa using h
  have : r.toList = [] := by rw [e]; simp
  exact ⟨by rw [this]; rfl, this⟩
theorem nemp (r : ByteArray) (h : 0 < r.size) : r.toList.isEmpty = false ∧ ¬ r.toList = [] := by
  have : ¬ r.toList = [] := fun e => by
    rw [Go.Lib.toList_data] at e
    have e2 : r.data.toList.length = 0 := by rw [e]; rfl
    have : r.data.toList.length = r.size := by simp
    omega
  exact ⟨by cases hh : r.toList with | nil => exact absurd hh this | cons a l => rfl, this⟩
set_option maxRecDepth 100000 in
set_option maxHeartbeats 3200000 in
theorem scan_end (s : ByteArray) (w : World) (hs : s.size ≤ maxLen) (h : s.size = 0) :
    Calls Tryz.prog 64 #[.string s] w (RV w (pv ⟨#[]⟩ ⟨#[]⟩ 0 false false 6)) := by
  have cA : ∀ w, Calls Tryz.prog 92 #[.string s, .int .i64 10] w fun e w' => e = .returned (.int .i64 (dA s 10 : Int)) ∧ w' = w := fun w => digitsAhead_t s 10 w hs (by omega)
  have hd : dA s 10 = s.size := by have := dA_le s 10; omega
  rw [hd] at cA
  replace cA := Lib.hid cA
  obtain ⟨e1, e2⟩ := emp s h
  clear hd h
  unfold maxLen at hs
  go_enter Tryz.func64, Tryz.ntmps64
  go_wp2_with (go_at_call 92; (with_reducible refine (cA.out _).mono ?_); rintro e w' ⟨rfl, rfl⟩)
  refine bodyPost_ret (v := .tuple #[.agg #[.string ⟨#[]⟩, .string ⟨#[]⟩, .int .i64 0, .bool false, .bool false], .int .i64 6]) (by simp [results, Tryz.results64, go_sem]) rfl ⟨rfl, ?_⟩
  go_grown
set_option maxRecDepth 100000 in
set_option maxHeartbeats 3200000 in
theorem scan_plain (s : ByteArray) (w : World) (hs : s.size ≤ maxLen) (h : 0 < s.size) (hd : dA s 10 = s.size) :
    Calls Tryz.prog 64 #[.string s] w (RV w (pv ⟨#[]⟩ s 0 false false 0)) := by
  have cA : ∀ w, Calls Tryz.prog 92 #[.string s, .int .i64 10] w fun e w' => e = .returned (.int .i64 (dA s 10 : Int)) ∧ w' = w := fun w => digitsAhead_t s 10 w hs (by omega)
  rw [hd] at cA
  replace cA := Lib.hid cA
  obtain ⟨e1, e2⟩ := nemp s h
  clear hd h
  unfold maxLen at hs
  go_enter Tryz.func64, Tryz.ntmps64
  go_wp2_with (go_at_call 92; (with_reducible refine (cA.out _).mono ?_); rintro e w' ⟨rfl, rfl⟩)
  refine bodyPost_ret (v := .tuple #[.agg #[.string ⟨#[]⟩, .string s, .int .i64 0, .bool false, .bool false], .int .i64 0]) (by simp [results, Tryz.results64, go_sem]) rfl ⟨rfl, ?_⟩
  go_grown
set_option maxRecDepth 100000 in
set_option maxHeartbeats 3200000 in
theorem scan_form (s : ByteArray) (w : World) (hs : s.size ≤ maxLen) (h : Nat) (hh : dA s 10 = h) (hl : h < s.size) (hq : bt s h ≠ 39) :
    Calls Tryz.prog 64 #[.string s] w (RV w (pv ⟨#[]⟩ ⟨#[]⟩ 0 false false 5)) := by
  have cA : ∀ w, Calls Tryz.prog 92 #[.string s, .int .i64 10] w fun e w' => e = .returned (.int .i64 (dA s 10 : Int)) ∧ w' = w := fun w => digitsAhead_t s 10 w hs (by omega)
  rw [hh] at cA
  replace cA := Lib.hid cA
  unfold maxLen at hs
  have hbt := bt_at s h hl
  have hb2 := bt_lt s h
  have n0 : ((h : Int) == (s.size : Int)) = false := by simp; omega
  have n0' : (h == s.size) = false := by simp; omega
  clear hh
  have u1 : (((bt s h : Nat) : Int) != 39) = true := by simp; omega
  have u2 : ((bt s h) != 39) = true := by simp; omega
  clear hq
  generalize bt s h = c at *
  go_enter Tryz.func64, Tryz.ntmps64
  go_wp2_with (go_at_call 92; (with_reducible refine (cA.out _).mono ?_); rintro e w' ⟨rfl, rfl⟩)
  refine bodyPost_ret (v := .tuple #[.agg #[.string ⟨#[]⟩, .string ⟨#[]⟩, .int .i64 0, .bool false, .bool false], .int .i64 5]) (by simp [results, Tryz.results64, go_sem]) rfl ⟨rfl, ?_⟩
  go_grown
set_option maxRecDepth 100000 in
set_option maxHeartbeats 3200000 in
theorem scan_none_end (s : ByteArray) (w : World) (hs : s.size ≤ maxLen) (h : Nat) (hh : dA s 10 = h) (hl : h < s.size) (hq : bt s h = 39) (r : ByteArray) (hr : s.extract (h + 1) s.size = r) (h0 : r.size = 0) :
    Calls Tryz.prog 64 #[.string s] w (RV w (pv ⟨#[]⟩ ⟨#[]⟩ 0 false false 6)) := by
  have cA : ∀ w, Calls Tryz.prog 92 #[.string s, .int .i64 10] w fun e w' => e = .returned (.int .i64 (dA s 10 : Int)) ∧ w' = w := fun w => digitsAhead_t s 10 w hs (by omega)
  rw [hh] at cA
  replace cA := Lib.hid cA
  unfold maxLen at hs
  have hbt := bt_at s h hl
  have hb2 := bt_lt s h
  have n0 : ((h : Int) == (s.size : Int)) = false := by simp; omega
  have n0' : (h == s.size) = false := by simp; omega
  clear hh
  rw [hq] at hbt
  clear hq hb2
  obtain ⟨r1, r2⟩ := emp r h0
  clear h0
  have hrs : r.size ≤ 9223372036854775807 := by rw [← hr]; simp; omega
  go_enter Tryz.func64, Tryz.ntmps64
  go_wp2_with (go_at_call 92; (with_reducible refine (cA.out _).mono ?_); rintro e w' ⟨rfl, rfl⟩)
  refine bodyPost_ret (v := .tuple #[.agg #[.string ⟨#[]⟩, .string ⟨#[]⟩, .int .i64 0, .bool false, .bool false], .int .i64 6]) (by simp [results, Tryz.results64, go_sem]) rfl ⟨rfl, ?_⟩
  go_grown
set_option maxRecDepth 100000 in
set_option maxHeartbeats 3200000 in
theorem scan_other_base (s : ByteArray) (w : World) (hs : s.size ≤ maxLen) (h : Nat) (hh : dA s 10 = h) (hl : h < s.size) (hq : bt s h = 39) (r : ByteArray) (hr : s.extract (h + 1) s.size = r) (h0 : 0 < r.size) (h1 : bt r 0 ≠ 115) (h2 : bt r 0 ≠ 83) (hb : baseV (bt r 0) = 0) :
    Calls Tryz.prog 64 #[.string s] w (RV w (pv ⟨#[]⟩ ⟨#[]⟩ 0 false false 5)) := by
  have cA : ∀ w, Calls Tryz.prog 92 #[.string s, .int .i64 10] w fun e w' => e = .returned (.int .i64 (dA s 10 : Int)) ∧ w' = w := fun w => digitsAhead_t s 10 w hs (by omega)
  rw [hh] at cA
  replace cA := Lib.hid cA
  unfold maxLen at hs
  have hbt := bt_at s h hl
  have hb2 := bt_lt s h
  have n0 : ((h : Int) == (s.size : Int)) = false := by simp; omega
  have n0' : (h == s.size) = false := by simp; omega
  clear hh
  rw [hq] at hbt
  clear hq hb2
  obtain ⟨r1, r2⟩ := nemp r h0
  have hb0 := bt_at r 0 h0
  have hl0 := bt_lt r 0
  have v1 : (((bt r 0 : Nat) : Int) == 115) = false := by simp; omega
  have v2 : (((bt r 0 : Nat) : Int) == 83) = false := by simp; omega
  clear h1 h2
  have hrs : r.size ≤ 9223372036854775807 := by rw [← hr]; simp; omega
  have cB := fun w => baseOf_t (bt r 0) w hl0
  rw [hb] at cB
  clear hb
  replace cB := Lib.hid cB
  generalize bt r 0 = c0 at *
  go_enter Tryz.func64, Tryz.ntmps64
  go_wp2_with (go_at_call 92; (with_reducible refine (cA.out _).mono ?_); rintro e w' ⟨rfl, rfl⟩)
  refine region_anyT (n := 8) (S := fun _ => True) (by kernel_rfl) ?_
  refine anyT_take (i := 0) (v := .string r) rfl (by kernel_rfl) (by kernel_rfl) (fun _ _ _ h => h) (Or.inl ⟨by rfl, ?_⟩) trivial ?_
  · intro w1 _
    go_simp
    first | with_reducible rfl | exact fun hc => absurd hc (by omega) | skip
  try simp only [Act.put, List.getElem_toArray, List.getElem_cons_zero, List.setIfInBounds_toArray, List.set_cons_zero, List.set_cons_succ]
  refine anyT_take (i := 1) (v := .int .u8 (c0 : Int)) rfl (by kernel_rfl) (by kernel_rfl) (fun _ _ _ h => h) (Or.inl ⟨by rfl, ?_⟩) trivial ?_
  · intro w1 _
    go_simp
    first | with_reducible rfl | exact fun hc => absurd hc (by omega) | skip
  try simp only [Act.put, List.getElem_toArray, List.getElem_cons_zero, List.getElem_cons_succ, List.setIfInBounds_toArray, List.set_cons_zero, List.set_cons_succ]
  refine anyT_take (i := 3) (v := .string r) rfl (by kernel_rfl) (by kernel_rfl) (fun _ _ _ h => h) (Or.inl ⟨by rfl, ?_⟩) trivial ?_
  · intro w1 _
    go_simp
    first | with_reducible rfl | exact fun hc => absurd hc (by omega) | skip
  try simp only [Act.put, List.getElem_toArray, List.getElem_cons_zero, List.getElem_cons_succ, List.setIfInBounds_toArray, List.set_cons_zero, List.set_cons_succ]
  refine anyT_take (i := 4) (v := .string (r.extract 1 r.size)) rfl (by kernel_rfl) (by kernel_rfl) (fun _ _ _ h => h) (Or.inl ⟨by rfl, ?_⟩) trivial ?_
  · intro w1 _
    go_simp
    first | with_reducible rfl | exact fun hc => absurd hc (by omega) | skip
  try simp only [Act.put, List.getElem_toArray, List.getElem_cons_zero, List.getElem_cons_succ, List.setIfInBounds_toArray, List.set_cons_zero, List.set_cons_succ]
  refine anyT_one (i := 2) (by kernel_rfl) ?_
  refine wpOp_step rfl (fun K hK => ?_)
  replace hK := Lib.hid hK
  go_simp
  (with_reducible refine (cB.out _).mono ?_)
  rintro e w2 ⟨rfl, hw2⟩
  subst hw2
  refine hK.out _ _ ⟨fun _ => trivial, ?_⟩
  clear hK K
  try simp only [Act.put, List.getElem_toArray, List.getElem_cons_zero, List.getElem_cons_succ, List.setIfInBounds_toArray, List.set_cons_zero, List.set_cons_succ]
  refine anyT_take (i := 5) (v := .pointer (some ⟨w.heap.size + 1, 2, none⟩)) rfl (by kernel_rfl) (by kernel_rfl) (fun _ _ _ h => h) (Or.inl ⟨by rfl, ?_⟩) trivial ?_
  · intro w1 _
    go_simp
    first | with_reducible rfl | exact fun hc => absurd hc (by omega) | skip
  try simp only [Act.put, List.getElem_toArray, List.getElem_cons_zero, List.getElem_cons_succ, List.setIfInBounds_toArray, List.set_cons_zero, List.set_cons_succ]
  refine anyT_one (i := 6) (by kernel_rfl) ?_
  refine wpOp_step rfl (fun K hK => ?_)
  replace hK := Lib.hid hK
  go_simp
  refine hK.out _ _ ⟨fun _ => trivial, ?_⟩
  clear hK K
  try simp only [Act.put, List.getElem_toArray, List.getElem_cons_zero, List.getElem_cons_succ, List.setIfInBounds_toArray, List.set_cons_zero, List.set_cons_succ]
  refine anyT_take (i := 7) (v := .pointer (some ⟨w.heap.size + 1, 1, none⟩)) rfl (by kernel_rfl) (by kernel_rfl) (fun _ _ _ h => h) (Or.inl ⟨by rfl, ?_⟩) trivial ?_
  · intro w1 _
    go_simp
    first | with_reducible rfl | exact fun hc => absurd hc (by omega) | skip
  try simp only [Act.put, List.getElem_toArray, List.getElem_cons_zero, List.getElem_cons_succ, List.setIfInBounds_toArray, List.set_cons_zero, List.set_cons_succ]
  refine anyT_one (i := 8) (by kernel_rfl) ?_
  refine wpOp_step rfl (fun K hK => ?_)
  replace hK := Lib.hid hK
  go_simp
  refine hK.out _ _ ⟨fun _ => trivial, ?_⟩
  clear hK K
  try simp only [Act.put, List.getElem_toArray, List.getElem_cons_zero, List.getElem_cons_succ, List.setIfInBounds_toArray, List.set_cons_zero, List.set_cons_succ]
  refine anyT_done (by kernel_rfl) ?_ _
  all_goals
    go_wp2_with fail
    refine bodyPost_ret (v := .tuple #[.agg #[.string ⟨#[]⟩, .string ⟨#[]⟩, .int .i64 0, .bool false, .bool false], .int .i64 5]) (by simp [results, Tryz.results64, go_sem]) rfl ⟨rfl, ?_⟩
    go_grown
set_option maxRecDepth 100000 in
set_option maxHeartbeats 3200000 in
theorem scan_other_dend (s : ByteArray) (w : World) (hs : s.size ≤ maxLen) (h : Nat) (hh : dA s 10 = h) (hl : h < s.size) (hq : bt s h = 39) (r : ByteArray) (hr : s.extract (h + 1) s.size = r) (h0 : 0 < r.size) (h1 : bt r 0 ≠ 115) (h2 : bt r 0 ≠ 83) (b : Nat) (hb : baseV (bt r 0) = b) (hbp : 0 < b) (hb16 : b ≤ 16) (d : ByteArray) (hd : r.extract 1 r.size = d) (d0 : d.size = 0) :
    Calls Tryz.prog 64 #[.string s] w (RV w (pv ⟨#[]⟩ ⟨#[]⟩ 0 false false 6)) := by
  have cA : ∀ w, Calls Tryz.prog 92 #[.string s, .int .i64 10] w fun e w' => e = .returned (.int .i64 (dA s 10 : Int)) ∧ w' = w := fun w => digitsAhead_t s 10 w hs (by omega)
  rw [hh] at cA
  replace cA := Lib.hid cA
  unfold maxLen at hs
  have hbt := bt_at s h hl
  have hb2 := bt_lt s h
  have n0 : ((h : Int) == (s.size : Int)) = false := by simp; omega
  have n0' : (h == s.size) = false := by simp; omega
  clear hh
  rw [hq] at hbt
  clear hq hb2
  obtain ⟨r1, r2⟩ := nemp r h0
  have hb0 := bt_at r 0 h0
  have hl0 := bt_lt r 0
  have v1 : (((bt r 0 : Nat) : Int) == 115) = false := by simp; omega
  have v2 : (((bt r 0 : Nat) : Int) == 83) = false := by simp; omega
  clear h1 h2
  have hrs : r.size ≤ 9223372036854775807 := by rw [← hr]; simp; omega
  have cB := fun w => baseOf_t (bt r 0) w hl0
  rw [hb] at cB
  clear hb
  have nb : ((b : Int) == 0) = false := by simp; omega
  have hds : d.size ≤ maxLen := by rw [← hd]; unfold maxLen; simp; omega
  obtain ⟨d1, d2⟩ := emp d d0
  clear d0
  clear hbp hb16
  replace cB := Lib.hid cB
  generalize bt r 0 = c0 at *
  go_enter Tryz.func64, Tryz.ntmps64
  go_wp2_with (go_at_call 92; (with_reducible refine (cA.out _).mono ?_); rintro e w' ⟨rfl, rfl⟩)
  refine region_anyT (n := 8) (S := fun _ => True) (by kernel_rfl) ?_
  refine anyT_take (i := 0) (v := .string r) rfl (by kernel_rfl) (by kernel_rfl) (fun _ _ _ h => h) (Or.inl ⟨by rfl, ?_⟩) trivial ?_
  · intro w1 _
    go_simp
    first | with_reducible rfl | exact fun hc => absurd hc (by omega) | skip
  try simp only [Act.put, List.getElem_toArray, List.getElem_cons_zero, List.setIfInBounds_toArray, List.set_cons_zero, List.set_cons_succ]
  refine anyT_take (i := 1) (v := .int .u8 (c0 : Int)) rfl (by kernel_rfl) (by kernel_rfl) (fun _ _ _ h => h) (Or.inl ⟨by rfl, ?_⟩) trivial ?_
  · intro w1 _
    go_simp
    first | with_reducible rfl | exact fun hc => absurd hc (by omega) | skip
  try simp only [Act.put, List.getElem_toArray, List.getElem_cons_zero, List.getElem_cons_succ, List.setIfInBounds_toArray, List.set_cons_zero, List.set_cons_succ]
  refine anyT_take (i := 3) (v := .string r) rfl (by kernel_rfl) (by kernel_rfl) (fun _ _ _ h => h) (Or.inl ⟨by rfl, ?_⟩) trivial ?_
  · intro w1 _
    go_simp
    first | with_reducible rfl | exact fun hc => absurd hc (by omega) | skip
  try simp only [Act.put, List.getElem_toArray, List.getElem_cons_zero, List.getElem_cons_succ, List.setIfInBounds_toArray, List.set_cons_zero, List.set_cons_succ]
  refine anyT_take (i := 4) (v := .string d) rfl (by kernel_rfl) (by kernel_rfl) (fun _ _ _ h => h) (Or.inl ⟨by rfl, ?_⟩) trivial ?_
  · intro w1 _
    go_simp
    first | with_reducible rfl | exact fun hc => absurd hc (by omega) | skip
  try simp only [Act.put, List.getElem_toArray, List.getElem_cons_zero, List.getElem_cons_succ, List.setIfInBounds_toArray, List.set_cons_zero, List.set_cons_succ]
  refine anyT_one (i := 2) (by kernel_rfl) ?_
  refine wpOp_step rfl (fun K hK => ?_)
  replace hK := Lib.hid hK
  go_simp
  (with_reducible refine (cB.out _).mono ?_)
  rintro e w2 ⟨rfl, hw2⟩
  subst hw2
  refine hK.out _ _ ⟨fun _ => trivial, ?_⟩
  clear hK K
  try simp only [Act.put, List.getElem_toArray, List.getElem_cons_zero, List.getElem_cons_succ, List.setIfInBounds_toArray, List.set_cons_zero, List.set_cons_succ]
  refine anyT_take (i := 5) (v := .pointer (some ⟨w.heap.size + 1, 2, none⟩)) rfl (by kernel_rfl) (by kernel_rfl) (fun _ _ _ h => h) (Or.inl ⟨by rfl, ?_⟩) trivial ?_
  · intro w1 _
    go_simp
    first | with_reducible rfl | exact fun hc => absurd hc (by omega) | skip
  try simp only [Act.put, List.getElem_toArray, List.getElem_cons_zero, List.getElem_cons_succ, List.setIfInBounds_toArray, List.set_cons_zero, List.set_cons_succ]
  refine anyT_one (i := 6) (by kernel_rfl) ?_
  refine wpOp_step rfl (fun K hK => ?_)
  replace hK := Lib.hid hK
  go_simp
  refine hK.out _ _ ⟨fun _ => trivial, ?_⟩
  clear hK K
  try simp only [Act.put, List.getElem_toArray, List.getElem_cons_zero, List.getElem_cons_succ, List.setIfInBounds_toArray, List.set_cons_zero, List.set_cons_succ]
  refine anyT_take (i := 7) (v := .pointer (some ⟨w.heap.size + 1, 1, none⟩)) rfl (by kernel_rfl) (by kernel_rfl) (fun _ _ _ h => h) (Or.inl ⟨by rfl, ?_⟩) trivial ?_
  · intro w1 _
    go_simp
    first | with_reducible rfl | exact fun hc => absurd hc (by omega) | skip
  try simp only [Act.put, List.getElem_toArray, List.getElem_cons_zero, List.getElem_cons_succ, List.setIfInBounds_toArray, List.set_cons_zero, List.set_cons_succ]
  refine anyT_one (i := 8) (by kernel_rfl) ?_
  refine wpOp_step rfl (fun K hK => ?_)
  replace hK := Lib.hid hK
  go_simp
  refine hK.out _ _ ⟨fun _ => trivial, ?_⟩
  clear hK K
  try simp only [Act.put, List.getElem_toArray, List.getElem_cons_zero, List.getElem_cons_succ, List.setIfInBounds_toArray, List.set_cons_zero, List.set_cons_succ]
  refine anyT_done (by kernel_rfl) ?_ _
  all_goals
    go_wp2_with fail
    refine bodyPost_ret (v := .tuple #[.agg #[.string ⟨#[]⟩, .string ⟨#[]⟩, .int .i64 0, .bool false, .bool false], .int .i64 6]) (by simp [results, Tryz.results64, go_sem]) rfl ⟨rfl, ?_⟩
    go_grown
set_option maxRecDepth 100000 in
set_option maxHeartbeats 3200000 in
theorem scan_other_dform (s : ByteArray) (w : World) (hs : s.size ≤ maxLen) (h : Nat) (hh : dA s 10 = h) (hl : h < s.size) (hq : bt s h = 39) (r : ByteArray) (hr : s.extract (h + 1) s.size = r) (h0 : 0 < r.size) (h1 : bt r 0 ≠ 115) (h2 : bt r 0 ≠ 83) (b : Nat) (hb : baseV (bt r 0) = b) (hbp : 0 < b) (hb16 : b ≤ 16) (d : ByteArray) (hd : r.extract 1 r.size = d) (d0 : 0 < d.size) (hf : dA d b < d.size) :
    Calls Tryz.prog 64 #[.string s] w (RV w (pv ⟨#[]⟩ ⟨#[]⟩ 0 false false 5)) := by
  have cA : ∀ w, Calls Tryz.prog 92 #[.string s, .int .i64 10] w fun e w' => e = .returned (.int .i64 (dA s 10 : Int)) ∧ w' = w := fun w => digitsAhead_t s 10 w hs (by omega)
  rw [hh] at cA
  replace cA := Lib.hid cA
  unfold maxLen at hs
  have hbt := bt_at s h hl
  have hb2 := bt_lt s h
  have n0 : ((h : Int) == (s.size : Int)) = false := by simp; omega
  have n0' : (h == s.size) = false := by simp; omega
  clear hh
  rw [hq] at hbt
  clear hq hb2
  obtain ⟨r1, r2⟩ := nemp r h0
  have hb0 := bt_at r 0 h0
  have hl0 := bt_lt r 0
  have v1 : (((bt r 0 : Nat) : Int) == 115) = false := by simp; omega
  have v2 : (((bt r 0 : Nat) : Int) == 83) = false := by simp; omega
  clear h1 h2
  have hrs : r.size ≤ 9223372036854775807 := by rw [← hr]; simp; omega
  have cB := fun w => baseOf_t (bt r 0) w hl0
  rw [hb] at cB
  clear hb
  have nb : ((b : Int) == 0) = false := by simp; omega
  have hds : d.size ≤ maxLen := by rw [← hd]; unfold maxLen; simp; omega
  obtain ⟨d1, d2⟩ := nemp d d0
  have cD := fun w => digitsAhead_t d b w hds hb16
  have f1 : decide (((dA d b : Nat) : Int) < (d.size : Int)) = true := by simp; omega
  have f2 : decide (dA d b < d.size) = true := by simp; omega
  generalize dA d b = db at *
  replace cD := Lib.hid cD
  clear hf
  clear hbp hb16
  replace cB := Lib.hid cB
  generalize bt r 0 = c0 at *
  go_enter Tryz.func64, Tryz.ntmps64
  go_wp2_with (go_at_call 92; (with_reducible refine (cA.out _).mono ?_); rintro e w' ⟨rfl, rfl⟩)
  refine region_anyT (n := 8) (S := fun _ => True) (by kernel_rfl) ?_
  refine anyT_take (i := 0) (v := .string r) rfl (by kernel_rfl) (by kernel_rfl) (fun _ _ _ h => h) (Or.inl ⟨by rfl, ?_⟩) trivial ?_
  · intro w1 _
    go_simp
    first | with_reducible rfl | exact fun hc => absurd hc (by omega) | skip
  try simp only [Act.put, List.getElem_toArray, List.getElem_cons_zero, List.setIfInBounds_toArray, List.set_cons_zero, List.set_cons_succ]
  refine anyT_take (i := 1) (v := .int .u8 (c0 : Int)) rfl (by kernel_rfl) (by kernel_rfl) (fun _ _ _ h => h) (Or.inl ⟨by rfl, ?_⟩) trivial ?_
  · intro w1 _
    go_simp
    first | with_reducible rfl | exact fun hc => absurd hc (by omega) | skip
  try simp only [Act.put, List.getElem_toArray, List.getElem_cons_zero, List.getElem_cons_succ, List.setIfInBounds_toArray, List.set_cons_zero, List.set_cons_succ]
  refine anyT_take (i := 3) (v := .string r) rfl (by kernel_rfl) (by kernel_rfl) (fun _ _ _ h => h) (Or.inl ⟨by rfl, ?_⟩) trivial ?_
  · intro w1 _
    go_simp
    first | with_reducible rfl | exact fun hc => absurd hc (by omega) | skip
  try simp only [Act.put, List.getElem_toArray, List.getElem_cons_zero, List.getElem_cons_succ, List.setIfInBounds_toArray, List.set_cons_zero, List.set_cons_succ]
  refine anyT_take (i := 4) (v := .string d) rfl (by kernel_rfl) (by kernel_rfl) (fun _ _ _ h => h) (Or.inl ⟨by rfl, ?_⟩) trivial ?_
  · intro w1 _
    go_simp
    first | with_reducible rfl | exact fun hc => absurd hc (by omega) | skip
  try simp only [Act.put, List.getElem_toArray, List.getElem_cons_zero, List.getElem_cons_succ, List.setIfInBounds_toArray, List.set_cons_zero, List.set_cons_succ]
  refine anyT_one (i := 2) (by kernel_rfl) ?_
  refine wpOp_step rfl (fun K hK => ?_)
  replace hK := Lib.hid hK
  go_simp
  (with_reducible refine (cB.out _).mono ?_)
  rintro e w2 ⟨rfl, hw2⟩
  subst hw2
  refine hK.out _ _ ⟨fun _ => trivial, ?_⟩
  clear hK K
  try simp only [Act.put, List.getElem_toArray, List.getElem_cons_zero, List.getElem_cons_succ, List.setIfInBounds_toArray, List.set_cons_zero, List.set_cons_succ]
  refine anyT_take (i := 5) (v := .pointer (some ⟨w.heap.size + 1, 2, none⟩)) rfl (by kernel_rfl) (by kernel_rfl) (fun _ _ _ h => h) (Or.inl ⟨by rfl, ?_⟩) trivial ?_
  · intro w1 _
    go_simp
    first | with_reducible rfl | exact fun hc => absurd hc (by omega) | skip
  try simp only [Act.put, List.getElem_toArray, List.getElem_cons_zero, List.getElem_cons_succ, List.setIfInBounds_toArray, List.set_cons_zero, List.set_cons_succ]
  refine anyT_one (i := 6) (by kernel_rfl) ?_
  refine wpOp_step rfl (fun K hK => ?_)
  replace hK := Lib.hid hK
  go_simp
  refine hK.out _ _ ⟨fun _ => trivial, ?_⟩
  clear hK K
  try simp only [Act.put, List.getElem_toArray, List.getElem_cons_zero, List.getElem_cons_succ, List.setIfInBounds_toArray, List.set_cons_zero, List.set_cons_succ]
  refine anyT_take (i := 7) (v := .pointer (some ⟨w.heap.size + 1, 1, none⟩)) rfl (by kernel_rfl) (by kernel_rfl) (fun _ _ _ h => h) (Or.inl ⟨by rfl, ?_⟩) trivial ?_
  · intro w1 _
    go_simp
    first | with_reducible rfl | exact fun hc => absurd hc (by omega) | skip
  try simp only [Act.put, List.getElem_toArray, List.getElem_cons_zero, List.getElem_cons_succ, List.setIfInBounds_toArray, List.set_cons_zero, List.set_cons_succ]
  refine anyT_one (i := 8) (by kernel_rfl) ?_
  refine wpOp_step rfl (fun K hK => ?_)
  replace hK := Lib.hid hK
  go_simp
  refine hK.out _ _ ⟨fun _ => trivial, ?_⟩
  clear hK K
  try simp only [Act.put, List.getElem_toArray, List.getElem_cons_zero, List.getElem_cons_succ, List.setIfInBounds_toArray, List.set_cons_zero, List.set_cons_succ]
  refine anyT_done (by kernel_rfl) ?_ _
  all_goals
    go_wp2_with fail
    go_quiet ((go_at_call 92; exact (cD.out _).mono fun e w1 ⟨he, hw1⟩ => ⟨he, _, hw1⟩))
    go_wp2_with fail
    refine bodyPost_ret (v := .tuple #[.agg #[.string ⟨#[]⟩, .string ⟨#[]⟩, .int .i64 0, .bool false, .bool false], .int .i64 5]) (by simp [results, Tryz.results64, go_sem]) rfl ⟨rfl, ?_⟩
    go_grown
    all_goals exact below_drewN (by go_grown) _
set_option maxRecDepth 100000 in
set_option maxHeartbeats 3200000 in
theorem scan_other_ok (s : ByteArray) (w : World) (hs : s.size ≤ maxLen) (h : Nat) (hh : dA s 10 = h) (hl : h < s.size) (hq : bt s h = 39) (r : ByteArray) (hr : s.extract (h + 1) s.size = r) (h0 : 0 < r.size) (h1 : bt r 0 ≠ 115) (h2 : bt r 0 ≠ 83) (b : Nat) (hb : baseV (bt r 0) = b) (hbp : 0 < b) (hb16 : b ≤ 16) (d : ByteArray) (hd : r.extract 1 r.size = d) (d0 : 0 < d.size) (hf : dA d b = d.size) :
    Calls Tryz.prog 64 #[.string s] w (RV w (pv (s.extract 0 h) d b true false 0)) := by
  have cA : ∀ w, Calls Tryz.prog 92 #[.string s, .int .i64 10] w fun e w' => e = .returned (.int .i64 (dA s 10 : Int)) ∧ w' = w := fun w => digitsAhead_t s 10 w hs (by omega)
  rw [hh] at cA
  replace cA := Lib.hid cA
  unfold maxLen at hs
  have hbt := bt_at s h hl
  have hb2 := bt_lt s h
  have n0 : ((h : Int) == (s.size : Int)) = false := by simp; omega
  have n0' : (h == s.size) = false := by simp; omega
  clear hh
  rw [hq] at hbt
  clear hq hb2
  obtain ⟨r1, r2⟩ := nemp r h0
  have hb0 := bt_at r 0 h0
  have hl0 := bt_lt r 0
  have v1 : (((bt r 0 : Nat) : Int) == 115) = false := by simp; omega
  have v2 : (((bt r 0 : Nat) : Int) == 83) = false := by simp; omega
  clear h1 h2
  have hrs : r.size ≤ 9223372036854775807 := by rw [← hr]; simp; omega
  have cB := fun w => baseOf_t (bt r 0) w hl0
  rw [hb] at cB
  clear hb
  have nb : ((b : Int) == 0) = false := by simp; omega
  have hds : d.size ≤ maxLen := by rw [← hd]; unfold maxLen; simp; omega
  obtain ⟨d1, d2⟩ := nemp d d0
  have cD := fun w => digitsAhead_t d b w hds hb16
  rw [hf] at cD
  generalize dA d b = db at *
  replace cD := Lib.hid cD
  clear hf
  clear hbp hb16
  replace cB := Lib.hid cB
  generalize bt r 0 = c0 at *
  go_enter Tryz.func64, Tryz.ntmps64
  go_wp2_with (go_at_call 92; (with_reducible refine (cA.out _).mono ?_); rintro e w' ⟨rfl, rfl⟩)
  refine region_anyT (n := 8) (S := fun _ => True) (by kernel_rfl) ?_
  refine anyT_take (i := 0) (v := .string r) rfl (by kernel_rfl) (by kernel_rfl) (fun _ _ _ h => h) (Or.inl ⟨by rfl, ?_⟩) trivial ?_
  · intro w1 _
    go_simp
    first | with_reducible rfl | exact fun hc => absurd hc (by omega) | skip
  try simp only [Act.put, List.getElem_toArray, List.getElem_cons_zero, List.setIfInBounds_toArray, List.set_cons_zero, List.set_cons_succ]
  refine anyT_take (i := 1) (v := .int .u8 (c0 : Int)) rfl (by kernel_rfl) (by kernel_rfl) (fun _ _ _ h => h) (Or.inl ⟨by rfl, ?_⟩) trivial ?_
  · intro w1 _
    go_simp
    first | with_reducible rfl | exact fun hc => absurd hc (by omega) | skip
  try simp only [Act.put, List.getElem_toArray, List.getElem_cons_zero, List.getElem_cons_succ, List.setIfInBounds_toArray, List.set_cons_zero, List.set_cons_succ]
  refine anyT_take (i := 3) (v := .string r) rfl (by kernel_rfl) (by kernel_rfl) (fun _ _ _ h => h) (Or.inl ⟨by rfl, ?_⟩) trivial ?_
  · intro w1 _
    go_simp
    first | with_reducible rfl | exact fun hc => absurd hc (by omega) | skip
  try simp only [Act.put, List.getElem_toArray, List.getElem_cons_zero, List.getElem_cons_succ, List.setIfInBounds_toArray, List.set_cons_zero, List.set_cons_succ]
  refine anyT_take (i := 4) (v := .string d) rfl (by kernel_rfl) (by kernel_rfl) (fun _ _ _ h => h) (Or.inl ⟨by rfl, ?_⟩) trivial ?_
  · intro w1 _
    go_simp
    first | with_reducible rfl | exact fun hc => absurd hc (by omega) | skip
  try simp only [Act.put, List.getElem_toArray, List.getElem_cons_zero, List.getElem_cons_succ, List.setIfInBounds_toArray, List.set_cons_zero, List.set_cons_succ]
  refine anyT_one (i := 2) (by kernel_rfl) ?_
  refine wpOp_step rfl (fun K hK => ?_)
  replace hK := Lib.hid hK
  go_simp
  (with_reducible refine (cB.out _).mono ?_)
  rintro e w2 ⟨rfl, hw2⟩
  subst hw2
  refine hK.out _ _ ⟨fun _ => trivial, ?_⟩
  clear hK K
  try simp only [Act.put, List.getElem_toArray, List.getElem_cons_zero, List.getElem_cons_succ, List.setIfInBounds_toArray, List.set_cons_zero, List.set_cons_succ]
  refine anyT_take (i := 5) (v := .pointer (some ⟨w.heap.size + 1, 2, none⟩)) rfl (by kernel_rfl) (by kernel_rfl) (fun _ _ _ h => h) (Or.inl ⟨by rfl, ?_⟩) trivial ?_
  · intro w1 _
    go_simp
    first | with_reducible rfl | exact fun hc => absurd hc (by omega) | skip
  try simp only [Act.put, List.getElem_toArray, List.getElem_cons_zero, List.getElem_cons_succ, List.setIfInBounds_toArray, List.set_cons_zero, List.set_cons_succ]
  refine anyT_one (i := 6) (by kernel_rfl) ?_
  refine wpOp_step rfl (fun K hK => ?_)
  replace hK := Lib.hid hK
  go_simp
  refine hK.out _ _ ⟨fun _ => trivial, ?_⟩
  clear hK K
  try simp only [Act.put, List.getElem_toArray, List.getElem_cons_zero, List.getElem_cons_succ, List.setIfInBounds_toArray, List.set_cons_zero, List.set_cons_succ]
  refine anyT_take (i := 7) (v := .pointer (some ⟨w.heap.size + 1, 1, none⟩)) rfl (by kernel_rfl) (by kernel_rfl) (fun _ _ _ h => h) (Or.inl ⟨by rfl, ?_⟩) trivial ?_
  · intro w1 _
    go_simp
    first | with_reducible rfl | exact fun hc => absurd hc (by omega) | skip
  try simp only [Act.put, List.getElem_toArray, List.getElem_cons_zero, List.getElem_cons_succ, List.setIfInBounds_toArray, List.set_cons_zero, List.set_cons_succ]
  refine anyT_one (i := 8) (by kernel_rfl) ?_
  refine wpOp_step rfl (fun K hK => ?_)
  replace hK := Lib.hid hK
  go_simp
  refine hK.out _ _ ⟨fun _ => trivial, ?_⟩
  clear hK K
  try simp only [Act.put, List.getElem_toArray, List.getElem_cons_zero, List.getElem_cons_succ, List.setIfInBounds_toArray, List.set_cons_zero, List.set_cons_succ]
  refine anyT_done (by kernel_rfl) ?_ _
  all_goals
    go_wp2_with fail
    go_quiet ((go_at_call 92; exact (cD.out _).mono fun e w1 ⟨he, hw1⟩ => ⟨he, _, hw1⟩))
    go_wp2_with fail
    refine bodyPost_ret (v := .tuple #[.agg #[.string (s.extract 0 h), .string d, .int .i64 (b : Int), .bool true, .bool false], .int .i64 0]) (by simp [results, Tryz.results64, go_sem]) rfl ⟨rfl, ?_⟩
    go_grown
    all_goals exact below_drewN (by go_grown) _
set_option maxRecDepth 100000 in
set_option maxHeartbeats 3200000 in
theorem scan_s_end (s : ByteArray) (w : World) (hs : s.size ≤ maxLen) (h : Nat) (hh : dA s 10 = h) (hl : h < s.size) (hq : bt s h = 39) (r : ByteArray) (hr : s.extract (h + 1) s.size = r) (h0 : 0 < r.size) (h1 : bt r 0 = 115) (t : ByteArray) (ht : r.extract 1 r.size = t) (k0 : t.size = 0) :
    Calls Tryz.prog 64 #[.string s] w (RV w (pv ⟨#[]⟩ ⟨#[]⟩ 0 false false 6)) := by
  have cA : ∀ w, Calls Tryz.prog 92 #[.string s, .int .i64 10] w fun e w' => e = .returned (.int .i64 (dA s 10 : Int)) ∧ w' = w := fun w => digitsAhead_t s 10 w hs (by omega)
  rw [hh] at cA
  replace cA := Lib.hid cA
  unfold maxLen at hs
  have hbt := bt_at s h hl
  have hb2 := bt_lt s h
  have n0 : ((h : Int) == (s.size : Int)) = false := by simp; omega
  have n0' : (h == s.size) = false := by simp; omega
  clear hh
  rw [hq] at hbt
  clear hq hb2
  obtain ⟨r1, r2⟩ := nemp r h0
  have hb0 := bt_at r 0 h0
  have hl0 := bt_lt r 0
  rw [h1] at hb0
  clear h1 hl0
  have hrs : r.size ≤ 9223372036854775807 := by rw [← hr]; simp; omega
  have hts : t.size ≤ 9223372036854775807 := by rw [← ht]; simp; omega
  obtain ⟨t1, t2⟩ := emp t k0
  clear k0
  go_enter Tryz.func64, Tryz.ntmps64
  go_wp2_with (go_at_call 92; (with_reducible refine (cA.out _).mono ?_); rintro e w' ⟨rfl, rfl⟩)
  refine bodyPost_ret (v := .tuple #[.agg #[.string ⟨#[]⟩, .string ⟨#[]⟩, .int .i64 0, .bool false, .bool false], .int .i64 6]) (by simp [results, Tryz.results64, go_sem]) rfl ⟨rfl, ?_⟩
  go_grown
set_option maxRecDepth 100000 in
set_option maxHeartbeats 3200000 in
theorem scan_s_base (s : ByteArray) (w : World) (hs : s.size ≤ maxLen) (h : Nat) (hh : dA s 10 = h) (hl : h < s.size) (hq : bt s h = 39) (r : ByteArray) (hr : s.extract (h + 1) s.size = r) (h0 : 0 < r.size) (h1 : bt r 0 = 115) (t : ByteArray) (ht : r.extract 1 r.size = t) (k0 : 0 < t.size) (hb : baseV (bt t 0) = 0) :
    Calls Tryz.prog 64 #[.string s] w (RV w (pv ⟨#[]⟩ ⟨#[]⟩ 0 false false 5)) := by
  have cA : ∀ w, Calls Tryz.prog 92 #[.string s, .int .i64 10] w fun e w' => e = .returned (.int .i64 (dA s 10 : Int)) ∧ w' = w := fun w => digitsAhead_t s 10 w hs (by omega)
  rw [hh] at cA
  replace cA := Lib.hid cA
  unfold maxLen at hs
  have hbt := bt_at s h hl
  have hb2 := bt_lt s h
  have n0 : ((h : Int) == (s.size : Int)) = false := by simp; omega
  have n0' : (h == s.size) = false := by simp; omega
  clear hh
  rw [hq] at hbt
  clear hq hb2
  obtain ⟨r1, r2⟩ := nemp r h0
  have hb0 := bt_at r 0 h0
  have hl0 := bt_lt r 0
  rw [h1] at hb0
  clear h1 hl0
  have hrs : r.size ≤ 9223372036854775807 := by rw [← hr]; simp; omega
  have hts : t.size ≤ 9223372036854775807 := by rw [← ht]; simp; omega
  obtain ⟨t1, t2⟩ := nemp t k0
  have hbk := bt_at t 0 k0
  have hlk := bt_lt t 0
  have cB := fun w => baseOf_t (bt t 0) w hlk
  rw [hb] at cB
  clear hb
  replace cB := Lib.hid cB
  generalize bt t 0 = c0 at *
  go_enter Tryz.func64, Tryz.ntmps64
  go_wp2_with (go_at_call 92; (with_reducible refine (cA.out _).mono ?_); rintro e w' ⟨rfl, rfl⟩)
  refine region_anyT (n := 8) (S := fun _ => True) (by kernel_rfl) ?_
  refine anyT_take (i := 0) (v := .string t) rfl (by kernel_rfl) (by kernel_rfl) (fun _ _ _ h => h) (Or.inl ⟨by rfl, ?_⟩) trivial ?_
  · intro w1 _
    go_simp
    first | with_reducible rfl | exact fun hc => absurd hc (by omega) | skip
  try simp only [Act.put, List.getElem_toArray, List.getElem_cons_zero, List.setIfInBounds_toArray, List.set_cons_zero, List.set_cons_succ]
  refine anyT_take (i := 1) (v := .int .u8 (c0 : Int)) rfl (by kernel_rfl) (by kernel_rfl) (fun _ _ _ h => h) (Or.inl ⟨by rfl, ?_⟩) trivial ?_
  · intro w1 _
    go_simp
    first | with_reducible rfl | exact fun hc => absurd hc (by omega) | skip
  try simp only [Act.put, List.getElem_toArray, List.getElem_cons_zero, List.getElem_cons_succ, List.setIfInBounds_toArray, List.set_cons_zero, List.set_cons_succ]
  refine anyT_take (i := 3) (v := .string t) rfl (by kernel_rfl) (by kernel_rfl) (fun _ _ _ h => h) (Or.inl ⟨by rfl, ?_⟩) trivial ?_
  · intro w1 _
    go_simp
    first | with_reducible rfl | exact fun hc => absurd hc (by omega) | skip
  try simp only [Act.put, List.getElem_toArray, List.getElem_cons_zero, List.getElem_cons_succ, List.setIfInBounds_toArray, List.set_cons_zero, List.set_cons_succ]
  refine anyT_take (i := 4) (v := .string (t.extract 1 t.size)) rfl (by kernel_rfl) (by kernel_rfl) (fun _ _ _ h => h) (Or.inl ⟨by rfl, ?_⟩) trivial ?_
  · intro w1 _
    go_simp
    first | with_reducible rfl | exact fun hc => absurd hc (by omega) | skip
  try simp only [Act.put, List.getElem_toArray, List.getElem_cons_zero, List.getElem_cons_succ, List.setIfInBounds_toArray, List.set_cons_zero, List.set_cons_succ]
  refine anyT_one (i := 2) (by kernel_rfl) ?_
  refine wpOp_step rfl (fun K hK => ?_)
  replace hK := Lib.hid hK
  go_simp
  (with_reducible refine (cB.out _).mono ?_)
  rintro e w2 ⟨rfl, hw2⟩
  subst hw2
  refine hK.out _ _ ⟨fun _ => trivial, ?_⟩
  clear hK K
  try simp only [Act.put, List.getElem_toArray, List.getElem_cons_zero, List.getElem_cons_succ, List.setIfInBounds_toArray, List.set_cons_zero, List.set_cons_succ]
  refine anyT_take (i := 5) (v := .pointer (some ⟨w.heap.size + 1, 2, none⟩)) rfl (by kernel_rfl) (by kernel_rfl) (fun _ _ _ h => h) (Or.inl ⟨by rfl, ?_⟩) trivial ?_
  · intro w1 _
    go_simp
    first | with_reducible rfl | exact fun hc => absurd hc (by omega) | skip
  try simp only [Act.put, List.getElem_toArray, List.getElem_cons_zero, List.getElem_cons_succ, List.setIfInBounds_toArray, List.set_cons_zero, List.set_cons_succ]
  refine anyT_one (i := 6) (by kernel_rfl) ?_
  refine wpOp_step rfl (fun K hK => ?_)
  replace hK := Lib.hid hK
  go_simp
  refine hK.out _ _ ⟨fun _ => trivial, ?_⟩
  clear hK K
  try simp only [Act.put, List.getElem_toArray, List.getElem_cons_zero, List.getElem_cons_succ, List.setIfInBounds_toArray, List.set_cons_zero, List.set_cons_succ]
  refine anyT_take (i := 7) (v := .pointer (some ⟨w.heap.size + 1, 1, none⟩)) rfl (by kernel_rfl) (by kernel_rfl) (fun _ _ _ h => h) (Or.inl ⟨by rfl, ?_⟩) trivial ?_
  · intro w1 _
    go_simp
    first | with_reducible rfl | exact fun hc => absurd hc (by omega) | skip
  try simp only [Act.put, List.getElem_toArray, List.getElem_cons_zero, List.getElem_cons_succ, List.setIfInBounds_toArray, List.set_cons_zero, List.set_cons_succ]
  refine anyT_one (i := 8) (by kernel_rfl) ?_
  refine wpOp_step rfl (fun K hK => ?_)
  replace hK := Lib.hid hK
  go_simp
  refine hK.out _ _ ⟨fun _ => trivial, ?_⟩
  clear hK K
  try simp only [Act.put, List.getElem_toArray, List.getElem_cons_zero, List.getElem_cons_succ, List.setIfInBounds_toArray, List.set_cons_zero, List.set_cons_succ]
  refine anyT_done (by kernel_rfl) ?_ _
  all_goals
    go_wp2_with fail
    refine bodyPost_ret (v := .tuple #[.agg #[.string ⟨#[]⟩, .string ⟨#[]⟩, .int .i64 0, .bool false, .bool false], .int .i64 5]) (by simp [results, Tryz.results64, go_sem]) rfl ⟨rfl, ?_⟩
    go_grown
set_option maxRecDepth 100000 in
set_option maxHeartbeats 3200000 in
theorem scan_s_dend (s : ByteArray) (w : World) (hs : s.size ≤ maxLen) (h : Nat) (hh : dA s 10 = h) (hl : h < s.size) (hq : bt s h = 39) (r : ByteArray) (hr : s.extract (h + 1) s.size = r) (h0 : 0 < r.size) (h1 : bt r 0 = 115) (t : ByteArray) (ht : r.extract 1 r.size = t) (k0 : 0 < t.size) (b : Nat) (hb : baseV (bt t 0) = b) (hbp : 0 < b) (hb16 : b ≤ 16) (d : ByteArray) (hd : t.extract 1 t.size = d) (d0 : d.size = 0) :
    Calls Tryz.prog 64 #[.string s] w (RV w (pv ⟨#[]⟩ ⟨#[]⟩ 0 false false 6)) := by
  have cA : ∀ w, Calls Tryz.prog 92 #[.string s, .int .i64 10] w fun e w' => e = .returned (.int .i64 (dA s 10 : Int)) ∧ w' = w := fun w => digitsAhead_t s 10 w hs (by omega)
  rw [hh] at cA
  replace cA := Lib.hid cA
  unfold maxLen at hs
  have hbt := bt_at s h hl
  have hb2 := bt_lt s h
  have n0 : ((h : Int) == (s.size : Int)) = false := by simp; omega
  have n0' : (h == s.size) = false := by simp; omega
  clear hh
  rw [hq] at hbt
  clear hq hb2
  obtain ⟨r1, r2⟩ := nemp r h0
  have hb0 := bt_at r 0 h0
  have hl0 := bt_lt r 0
  rw [h1] at hb0
  clear h1 hl0
  have hrs : r.size ≤ 9223372036854775807 := by rw [← hr]; simp; omega
  have hts : t.size ≤ 9223372036854775807 := by rw [← ht]; simp; omega
  obtain ⟨t1, t2⟩ := nemp t k0
  have hbk := bt_at t 0 k0
  have hlk := bt_lt t 0
  have cB := fun w => baseOf_t (bt t 0) w hlk
  rw [hb] at cB
  clear hb
  have nb : ((b : Int) == 0) = false := by simp; omega
  have hds : d.size ≤ maxLen := by rw [← hd]; unfold maxLen; simp; omega
  obtain ⟨d1, d2⟩ := emp d d0
  clear d0
  clear hbp hb16
  replace cB := Lib.hid cB
  generalize bt t 0 = c0 at *
  go_enter Tryz.func64, Tryz.ntmps64
  go_wp2_with (go_at_call 92; (with_reducible refine (cA.out _).mono ?_); rintro e w' ⟨rfl, rfl⟩)
  refine region_anyT (n := 8) (S := fun _ => True) (by kernel_rfl) ?_
  refine anyT_take (i := 0) (v := .string t) rfl (by kernel_rfl) (by kernel_rfl) (fun _ _ _ h => h) (Or.inl ⟨by rfl, ?_⟩) trivial ?_
  · intro w1 _
    go_simp
    first | with_reducible rfl | exact fun hc => absurd hc (by omega) | skip
  try simp only [Act.put, List.getElem_toArray, List.getElem_cons_zero, List.setIfInBounds_toArray, List.set_cons_zero, List.set_cons_succ]
  refine anyT_take (i := 1) (v := .int .u8 (c0 : Int)) rfl (by kernel_rfl) (by kernel_rfl) (fun _ _ _ h => h) (Or.inl ⟨by rfl, ?_⟩) trivial ?_
  · intro w1 _
    go_simp
    first | with_reducible rfl | exact fun hc => absurd hc (by omega) | skip
  try simp only [Act.put, List.getElem_toArray, List.getElem_cons_zero, List.getElem_cons_succ, List.setIfInBounds_toArray, List.set_cons_zero, List.set_cons_succ]
  refine anyT_take (i := 3) (v := .string t) rfl (by kernel_rfl) (by kernel_rfl) (fun _ _ _ h => h) (Or.inl ⟨by rfl, ?_⟩) trivial ?_
  · intro w1 _
    go_simp
    first | with_reducible rfl | exact fun hc => absurd hc (by omega) | skip
  try simp only [Act.put, List.getElem_toArray, List.getElem_cons_zero, List.getElem_cons_succ, List.setIfInBounds_toArray, List.set_cons_zero, List.set_cons_succ]
  refine anyT_take (i := 4) (v := .string d) rfl (by kernel_rfl) (by kernel_rfl) (fun _ _ _ h => h) (Or.inl ⟨by rfl, ?_⟩) trivial ?_
  · intro w1 _
    go_simp
    first | with_reducible rfl | exact fun hc => absurd hc (by omega) | skip
  try simp only [Act.put, List.getElem_toArray, List.getElem_cons_zero, List.getElem_cons_succ, List.setIfInBounds_toArray, List.set_cons_zero, List.set_cons_succ]
  refine anyT_one (i := 2) (by kernel_rfl) ?_
  refine wpOp_step rfl (fun K hK => ?_)
  replace hK := Lib.hid hK
  go_simp
  (with_reducible refine (cB.out _).mono ?_)
  rintro e w2 ⟨rfl, hw2⟩
  subst hw2
  refine hK.out _ _ ⟨fun _ => trivial, ?_⟩
  clear hK K
  try simp only [Act.put, List.getElem_toArray, List.getElem_cons_zero, List.getElem_cons_succ, List.setIfInBounds_toArray, List.set_cons_zero, List.set_cons_succ]
  refine anyT_take (i := 5) (v := .pointer (some ⟨w.heap.size + 1, 2, none⟩)) rfl (by kernel_rfl) (by kernel_rfl) (fun _ _ _ h => h) (Or.inl ⟨by rfl, ?_⟩) trivial ?_
  · intro w1 _
    go_simp
    first | with_reducible rfl | exact fun hc => absurd hc (by omega) | skip
  try simp only [Act.put, List.getElem_toArray, List.getElem_cons_zero, List.getElem_cons_succ, List.setIfInBounds_toArray, List.set_cons_zero, List.set_cons_succ]
  refine anyT_one (i := 6) (by kernel_rfl) ?_
  refine wpOp_step rfl (fun K hK => ?_)
  replace hK := Lib.hid hK
  go_simp
  refine hK.out _ _ ⟨fun _ => trivial, ?_⟩
  clear hK K
  try simp only [Act.put, List.getElem_toArray, List.getElem_cons_zero, List.getElem_cons_succ, List.setIfInBounds_toArray, List.set_cons_zero, List.set_cons_succ]
  refine anyT_take (i := 7) (v := .pointer (some ⟨w.heap.size + 1, 1, none⟩)) rfl (by kernel_rfl) (by kernel_rfl) (fun _ _ _ h => h) (Or.inl ⟨by rfl, ?_⟩) trivial ?_
  · intro w1 _
    go_simp
    first | with_reducible rfl | exact fun hc => absurd hc (by omega) | skip
  try simp only [Act.put, List.getElem_toArray, List.getElem_cons_zero, List.getElem_cons_succ, List.setIfInBounds_toArray, List.set_cons_zero, List.set_cons_succ]
  refine anyT_one (i := 8) (by kernel_rfl) ?_
  refine wpOp_step rfl (fun K hK => ?_)
  replace hK := Lib.hid hK
  go_simp
  refine hK.out _ _ ⟨fun _ => trivial, ?_⟩
  clear hK K
  try simp only [Act.put, List.getElem_toArray, List.getElem_cons_zero, List.getElem_cons_succ, List.setIfInBounds_toArray, List.set_cons_zero, List.set_cons_succ]
  refine anyT_done (by kernel_rfl) ?_ _
  all_goals
    go_wp2_with fail
    refine bodyPost_ret (v := .tuple #[.agg #[.string ⟨#[]⟩, .string ⟨#[]⟩, .int .i64 0, .bool false, .bool false], .int .i64 6]) (by simp [results, Tryz.results64, go_sem]) rfl ⟨rfl, ?_⟩
    go_grown
set_option maxRecDepth 100000 in
set_option maxHeartbeats 3200000 in
theorem scan_s_dform (s : ByteArray) (w : World) (hs : s.size ≤ maxLen) (h : Nat) (hh : dA s 10 = h) (hl : h < s.size) (hq : bt s h = 39) (r : ByteArray) (hr : s.extract (h + 1) s.size = r) (h0 : 0 < r.size) (h1 : bt r 0 = 115) (t : ByteArray) (ht : r.extract 1 r.size = t) (k0 : 0 < t.size) (b : Nat) (hb : baseV (bt t 0) = b) (hbp : 0 < b) (hb16 : b ≤ 16) (d : ByteArray) (hd : t.extract 1 t.size = d) (d0 : 0 < d.size) (hf : dA d b < d.size) :
    Calls Tryz.prog 64 #[.string s] w (RV w (pv ⟨#[]⟩ ⟨#[]⟩ 0 false false 5)) := by
  have cA : ∀ w, Calls Tryz.prog 92 #[.string s, .int .i64 10] w fun e w' => e = .returned (.int .i64 (dA s 10 : Int)) ∧ w' = w := fun w => digitsAhead_t s 10 w hs (by omega)
  rw [hh] at cA
  replace cA := Lib.hid cA
  unfold maxLen at hs
  have hbt := bt_at s h hl
  have hb2 := bt_lt s h
  have n0 : ((h : Int) == (s.size : Int)) = false := by simp; omega
  have n0' : (h == s.size) = false := by simp; omega
  clear hh
  rw [hq] at hbt
  clear hq hb2
  obtain ⟨r1, r2⟩ := nemp r h0
  have hb0 := bt_at r 0 h0
  have hl0 := bt_lt r 0
  rw [h1] at hb0
  clear h1 hl0
  have hrs : r.size ≤ 9223372036854775807 := by rw [← hr]; simp; omega
  have hts : t.size ≤ 9223372036854775807 := by rw [← ht]; simp; omega
  obtain ⟨t1, t2⟩ := nemp t k0
  have hbk := bt_at t 0 k0
  have hlk := bt_lt t 0
  have cB := fun w => baseOf_t (bt t 0) w hlk
  rw [hb] at cB
  clear hb
  have nb : ((b : Int) == 0) = false := by simp; omega
  have hds : d.size ≤ maxLen := by rw [← hd]; unfold maxLen; simp; omega
  obtain ⟨d1, d2⟩ := nemp d d0
  have cD := fun w => digitsAhead_t d b w hds hb16
  have f1 : decide (((dA d b : Nat) : Int) < (d.size : Int)) = true := by simp; omega
  have f2 : decide (dA d b < d.size) = true := by simp; omega
  generalize dA d b = db at *
  replace cD := Lib.hid cD
  clear hf
  clear hbp hb16
  replace cB := Lib.hid cB
  generalize bt t 0 = c0 at *
  go_enter Tryz.func64, Tryz.ntmps64
  go_wp2_with (go_at_call 92; (with_reducible refine (cA.out _).mono ?_); rintro e w' ⟨rfl, rfl⟩)
  refine region_anyT (n := 8) (S := fun _ => True) (by kernel_rfl) ?_
  refine anyT_take (i := 0) (v := .string t) rfl (by kernel_rfl) (by kernel_rfl) (fun _ _ _ h => h) (Or.inl ⟨by rfl, ?_⟩) trivial ?_
  · intro w1 _
    go_simp
    first | with_reducible rfl | exact fun hc => absurd hc (by omega) | skip
  try simp only [Act.put, List.getElem_toArray, List.getElem_cons_zero, List.setIfInBounds_toArray, List.set_cons_zero, List.set_cons_succ]
  refine anyT_take (i := 1) (v := .int .u8 (c0 : Int)) rfl (by kernel_rfl) (by kernel_rfl) (fun _ _ _ h => h) (Or.inl ⟨by rfl, ?_⟩) trivial ?_
  · intro w1 _
    go_simp
    first | with_reducible rfl | exact fun hc => absurd hc (by omega) | skip
  try simp only [Act.put, List.getElem_toArray, List.getElem_cons_zero, List.getElem_cons_succ, List.setIfInBounds_toArray, List.set_cons_zero, List.set_cons_succ]
  refine anyT_take (i := 3) (v := .string t) rfl (by kernel_rfl) (by kernel_rfl) (fun _ _ _ h => h) (Or.inl ⟨by rfl, ?_⟩) trivial ?_
  · intro w1 _
    go_simp
    first | with_reducible rfl | exact fun hc => absurd hc (by omega) | skip
  try simp only [Act.put, List.getElem_toArray, List.getElem_cons_zero, List.getElem_cons_succ, List.setIfInBounds_toArray, List.set_cons_zero, List.set_cons_succ]
  refine anyT_take (i := 4) (v := .string d) rfl (by kernel_rfl) (by kernel_rfl) (fun _ _ _ h => h) (Or.inl ⟨by rfl, ?_⟩) trivial ?_
  · intro w1 _
    go_simp
    first | with_reducible rfl | exact fun hc => absurd hc (by omega) | skip
  try simp only [Act.put, List.getElem_toArray, List.getElem_cons_zero, List.getElem_cons_succ, List.setIfInBounds_toArray, List.set_cons_zero, List.set_cons_succ]
  refine anyT_one (i := 2) (by kernel_rfl) ?_
  refine wpOp_step rfl (fun K hK => ?_)
  replace hK := Lib.hid hK
  go_simp
  (with_reducible refine (cB.out _).mono ?_)
  rintro e w2 ⟨rfl, hw2⟩
  subst hw2
  refine hK.out _ _ ⟨fun _ => trivial, ?_⟩
  clear hK K
  try simp only [Act.put, List.getElem_toArray, List.getElem_cons_zero, List.getElem_cons_succ, List.setIfInBounds_toArray, List.set_cons_zero, List.set_cons_succ]
  refine anyT_take (i := 5) (v := .pointer (some ⟨w.heap.size + 1, 2, none⟩)) rfl (by kernel_rfl) (by kernel_rfl) (fun _ _ _ h => h) (Or.inl ⟨by rfl, ?_⟩) trivial ?_
  · intro w1 _
    go_simp
    first | with_reducible rfl | exact fun hc => absurd hc (by omega) | skip
  try simp only [Act.put, List.getElem_toArray, List.getElem_cons_zero, List.getElem_cons_succ, List.setIfInBounds_toArray, List.set_cons_zero, List.set_cons_succ]
  refine anyT_one (i := 6) (by kernel_rfl) ?_
  refine wpOp_step rfl (fun K hK => ?_)
  replace hK := Lib.hid hK
  go_simp
  refine hK.out _ _ ⟨fun _ => trivial, ?_⟩
  clear hK K
  try simp only [Act.put, List.getElem_toArray, List.getElem_cons_zero, List.getElem_cons_succ, List.setIfInBounds_toArray, List.set_cons_zero, List.set_cons_succ]
  refine anyT_take (i := 7) (v := .pointer (some ⟨w.heap.size + 1, 1, none⟩)) rfl (by kernel_rfl) (by kernel_rfl) (fun _ _ _ h => h) (Or.inl ⟨by rfl, ?_⟩) trivial ?_
  · intro w1 _
    go_simp
    first | with_reducible rfl | exact fun hc => absurd hc (by omega) | skip
  try simp only [Act.put, List.getElem_toArray, List.getElem_cons_zero, List.getElem_cons_succ, List.setIfInBounds_toArray, List.set_cons_zero, List.set_cons_succ]
  refine anyT_one (i := 8) (by kernel_rfl) ?_
  refine wpOp_step rfl (fun K hK => ?_)
  replace hK := Lib.hid hK
  go_simp
  refine hK.out _ _ ⟨fun _ => trivial, ?_⟩
  clear hK K
  try simp only [Act.put, List.getElem_toArray, List.getElem_cons_zero, List.getElem_cons_succ, List.setIfInBounds_toArray, List.set_cons_zero, List.set_cons_succ]
  refine anyT_done (by kernel_rfl) ?_ _
  all_goals
    go_wp2_with fail
    go_quiet ((go_at_call 92; exact (cD.out _).mono fun e w1 ⟨he, hw1⟩ => ⟨he, _, hw1⟩))
    go_wp2_with fail
    refine bodyPost_ret (v := .tuple #[.agg #[.string ⟨#[]⟩, .string ⟨#[]⟩, .int .i64 0, .bool false, .bool false], .int .i64 5]) (by simp [results, Tryz.results64, go_sem]) rfl ⟨rfl, ?_⟩
    go_grown
    all_goals exact below_drewN (by go_grown) _
set_option maxRecDepth 100000 in
set_option maxHeartbeats 3200000 in
theorem scan_s_ok (s : ByteArray) (w : World) (hs : s.size ≤ maxLen) (h : Nat) (hh : dA s 10 = h) (hl : h < s.size) (hq : bt s h = 39) (r : ByteArray) (hr : s.extract (h + 1) s.size = r) (h0 : 0 < r.size) (h1 : bt r 0 = 115) (t : ByteArray) (ht : r.extract 1 r.size = t) (k0 : 0 < t.size) (b : Nat) (hb : baseV (bt t 0) = b) (hbp : 0 < b) (hb16 : b ≤ 16) (d : ByteArray) (hd : t.extract 1 t.size = d) (d0 : 0 < d.size) (hf : dA d b = d.size) :
    Calls Tryz.prog 64 #[.string s] w (RV w (pv (s.extract 0 h) d b true true 0)) := by
  have cA : ∀ w, Calls Tryz.prog 92 #[.string s, .int .i64 10] w fun e w' => e = .returned (.int .i64 (dA s 10 : Int)) ∧ w' = w := fun w => digitsAhead_t s 10 w hs (by omega)
  rw [hh] at cA
  replace cA := Lib.hid cA
  unfold maxLen at hs
  have hbt := bt_at s h hl
  have hb2 := bt_lt s h
  have n0 : ((h : Int) == (s.size : Int)) = false := by simp; omega
  have n0' : (h == s.size) = false := by simp; omega
  clear hh
  rw [hq] at hbt
  clear hq hb2
  obtain ⟨r1, r2⟩ := nemp r h0
  have hb0 := bt_at r 0 h0
  have hl0 := bt_lt r 0
  rw [h1] at hb0
  clear h1 hl0
  have hrs : r.size ≤ 9223372036854775807 := by rw [← hr]; simp; omega
  have hts : t.size ≤ 9223372036854775807 := by rw [← ht]; simp; omega
  obtain ⟨t1, t2⟩ := nemp t k0
  have hbk := bt_at t 0 k0
  have hlk := bt_lt t 0
  have cB := fun w => baseOf_t (bt t 0) w hlk
  rw [hb] at cB
  clear hb
  have nb : ((b : Int) == 0) = false := by simp; omega
  have hds : d.size ≤ maxLen := by rw [← hd]; unfold maxLen; simp; omega
  obtain ⟨d1, d2⟩ := nemp d d0
  have cD := fun w => digitsAhead_t d b w hds hb16
  rw [hf] at cD
  generalize dA d b = db at *
  replace cD := Lib.hid cD
  clear hf
  clear hbp hb16
  replace cB := Lib.hid cB
  generalize bt t 0 = c0 at *
  go_enter Tryz.func64, Tryz.ntmps64
  go_wp2_with (go_at_call 92; (with_reducible refine (cA.out _).mono ?_); rintro e w' ⟨rfl, rfl⟩)
  refine region_anyT (n := 8) (S := fun _ => True) (by kernel_rfl) ?_
  refine anyT_take (i := 0) (v := .string t) rfl (by kernel_rfl) (by kernel_rfl) (fun _ _ _ h => h) (Or.inl ⟨by rfl, ?_⟩) trivial ?_
  · intro w1 _
    go_simp
    first | with_reducible rfl | exact fun hc => absurd hc (by omega) | skip
  try simp only [Act.put, List.getElem_toArray, List.getElem_cons_zero, List.setIfInBounds_toArray, List.set_cons_zero, List.set_cons_succ]
  refine anyT_take (i := 1) (v := .int .u8 (c0 : Int)) rfl (by kernel_rfl) (by kernel_rfl) (fun _ _ _ h => h) (Or.inl ⟨by rfl, ?_⟩) trivial ?_
  · intro w1 _
    go_simp
    first | with_reducible rfl | exact fun hc => absurd hc (by omega) | skip
  try simp only [Act.put, List.getElem_toArray, List.getElem_cons_zero, List.getElem_cons_succ, List.setIfInBounds_toArray, List.set_cons_zero, List.set_cons_succ]
  refine anyT_take (i := 3) (v := .string t) rfl (by kernel_rfl) (by kernel_rfl) (fun _ _ _ h => h) (Or.inl ⟨by rfl, ?_⟩) trivial ?_
  · intro w1 _
    go_simp
    first | with_reducible rfl | exact fun hc => absurd hc (by omega) | skip
  try simp only [Act.put, List.getElem_toArray, List.getElem_cons_zero, List.getElem_cons_succ, List.setIfInBounds_toArray, List.set_cons_zero, List.set_cons_succ]
  refine anyT_take (i := 4) (v := .string d) rfl (by kernel_rfl) (by kernel_rfl) (fun _ _ _ h => h) (Or.inl ⟨by rfl, ?_⟩) trivial ?_
  · intro w1 _
    go_simp
    first | with_reducible rfl | exact fun hc => absurd hc (by omega) | skip
  try simp only [Act.put, List.getElem_toArray, List.getElem_cons_zero, List.getElem_cons_succ, List.setIfInBounds_toArray, List.set_cons_zero, List.set_cons_succ]
  refine anyT_one (i := 2) (by kernel_rfl) ?_
  refine wpOp_step rfl (fun K hK => ?_)
  replace hK := Lib.hid hK
  go_simp
  (with_reducible refine (cB.out _).mono ?_)
  rintro e w2 ⟨rfl, hw2⟩
  subst hw2
  refine hK.out _ _ ⟨fun _ => trivial, ?_⟩
  clear hK K
  try simp only [Act.put, List.getElem_toArray, List.getElem_cons_zero, List.getElem_cons_succ, List.setIfInBounds_toArray, List.set_cons_zero, List.set_cons_succ]
  refine anyT_take (i := 5) (v := .pointer (some ⟨w.heap.size + 1, 2, none⟩)) rfl (by kernel_rfl) (by kernel_rfl) (fun _ _ _ h => h) (Or.inl ⟨by rfl, ?_⟩) trivial ?_
  · intro w1 _
    go_simp
    first | with_reducible rfl | exact fun hc => absurd hc (by omega) | skip
  try simp only [Act.put, List.getElem_toArray, List.getElem_cons_zero, List.getElem_cons_succ, List.setIfInBounds_toArray, List.set_cons_zero, List.set_cons_succ]
  refine anyT_one (i := 6) (by kernel_rfl) ?_
  refine wpOp_step rfl (fun K hK => ?_)
  replace hK := Lib.hid hK
  go_simp
  refine hK.out _ _ ⟨fun _ => trivial, ?_⟩
  clear hK K
  try simp only [Act.put, List.getElem_toArray, List.getElem_cons_zero, List.getElem_cons_succ, List.setIfInBounds_toArray, List.set_cons_zero, List.set_cons_succ]
  refine anyT_take (i := 7) (v := .pointer (some ⟨w.heap.size + 1, 1, none⟩)) rfl (by kernel_rfl) (by kernel_rfl) (fun _ _ _ h => h) (Or.inl ⟨by rfl, ?_⟩) trivial ?_
  · intro w1 _
    go_simp
    first | with_reducible rfl | exact fun hc => absurd hc (by omega) | skip
  try simp only [Act.put, List.getElem_toArray, List.getElem_cons_zero, List.getElem_cons_succ, List.setIfInBounds_toArray, List.set_cons_zero, List.set_cons_succ]
  refine anyT_one (i := 8) (by kernel_rfl) ?_
  refine wpOp_step rfl (fun K hK => ?_)
  replace hK := Lib.hid hK
  go_simp
  refine hK.out _ _ ⟨fun _ => trivial, ?_⟩
  clear hK K
  try simp only [Act.put, List.getElem_toArray, List.getElem_cons_zero, List.getElem_cons_succ, List.setIfInBounds_toArray, List.set_cons_zero, List.set_cons_succ]
  refine anyT_done (by kernel_rfl) ?_ _
  all_goals
    go_wp2_with fail
    go_quiet ((go_at_call 92; exact (cD.out _).mono fun e w1 ⟨he, hw1⟩ => ⟨he, _, hw1⟩))
    go_wp2_with fail
    refine bodyPost_ret (v := .tuple #[.agg #[.string (s.extract 0 h), .string d, .int .i64 (b : Int), .bool true, .bool true], .int .i64 0]) (by simp [results, Tryz.results64, go_sem]) rfl ⟨rfl, ?_⟩
    go_grown
    all_goals exact below_drewN (by go_grown) _
set_option maxRecDepth 100000 in
set_option maxHeartbeats 3200000 in
theorem scan_S_end (s : ByteArray) (w : World) (hs : s.size ≤ maxLen) (h : Nat) (hh : dA s 10 = h) (hl : h < s.size) (hq : bt s h = 39) (r : ByteArray) (hr : s.extract (h + 1) s.size = r) (h0 : 0 < r.size) (h1 : bt r 0 = 83) (t : ByteArray) (ht : r.extract 1 r.size = t) (k0 : t.size = 0) :
    Calls Tryz.prog 64 #[.string s] w (RV w (pv ⟨#[]⟩ ⟨#[]⟩ 0 false false 6)) := by
  have cA : ∀ w, Calls Tryz.prog 92 #[.string s, .int .i64 10] w fun e w' => e = .returned (.int .i64 (dA s 10 : Int)) ∧ w' = w := fun w => digitsAhead_t s 10 w hs (by omega)
  rw [hh] at cA
  replace cA := Lib.hid cA
  unfold maxLen at hs
  have hbt := bt_at s h hl
  have hb2 := bt_lt s h
  have n0 : ((h : Int) == (s.size : Int)) = false := by simp; omega
  have n0' : (h == s.size) = false := by simp; omega
  clear hh
  rw [hq] at hbt
  clear hq hb2
  obtain ⟨r1, r2⟩ := nemp r h0
  have hb0 := bt_at r 0 h0
  have hl0 := bt_lt r 0
  rw [h1] at hb0
  clear h1 hl0
  have hrs : r.size ≤ 9223372036854775807 := by rw [← hr]; simp; omega
  have hts : t.size ≤ 9223372036854775807 := by rw [← ht]; simp; omega
  obtain ⟨t1, t2⟩ := emp t k0
  clear k0
  go_enter Tryz.func64, Tryz.ntmps64
  go_wp2_with (go_at_call 92; (with_reducible refine (cA.out _).mono ?_); rintro e w' ⟨rfl, rfl⟩)
  refine bodyPost_ret (v := .tuple #[.agg #[.string ⟨#[]⟩, .string ⟨#[]⟩, .int .i64 0, .bool false, .bool false], .int .i64 6]) (by simp [results, Tryz.results64, go_sem]) rfl ⟨rfl, ?_⟩
  go_grown
set_option maxRecDepth 100000 in
set_option maxHeartbeats 3200000 in
theorem scan_S_base (s : ByteArray) (w : World) (hs : s.size ≤ maxLen) (h : Nat) (hh : dA s 10 = h) (hl : h < s.size) (hq : bt s h = 39) (r : ByteArray) (hr : s.extract (h + 1) s.size = r) (h0 : 0 < r.size) (h1 : bt r 0 = 83) (t : ByteArray) (ht : r.extract 1 r.size = t) (k0 : 0 < t.size) (hb : baseV (bt t 0) = 0) :
    Calls Tryz.prog 64 #[.string s] w (RV w (pv ⟨#[]⟩ ⟨#[]⟩ 0 false false 5)) := by
  have cA : ∀ w, Calls Tryz.prog 92 #[.string s, .int .i64 10] w fun e w' => e = .returned (.int .i64 (dA s 10 : Int)) ∧ w' = w := fun w => digitsAhead_t s 10 w hs (by omega)
  rw [hh] at cA
  replace cA := Lib.hid cA
  unfold maxLen at hs
  have hbt := bt_at s h hl
  have hb2 := bt_lt s h
  have n0 : ((h : Int) == (s.size : Int)) = false := by simp; omega
  have n0' : (h == s.size) = false := by simp; omega
  clear hh
  rw [hq] at hbt
  clear hq hb2
  obtain ⟨r1, r2⟩ := nemp r h0
  have hb0 := bt_at r 0 h0
  have hl0 := bt_lt r 0
  rw [h1] at hb0
  clear h1 hl0
  have hrs : r.size ≤ 9223372036854775807 := by rw [← hr]; simp; omega
  have hts : t.size ≤ 9223372036854775807 := by rw [← ht]; simp; omega
  obtain ⟨t1, t2⟩ := nemp t k0
  have hbk := bt_at t 0 k0
  have hlk := bt_lt t 0
  have cB := fun w => baseOf_t (bt t 0) w hlk
  rw [hb] at cB
  clear hb
  replace cB := Lib.hid cB
  generalize bt t 0 = c0 at *
  go_enter Tryz.func64, Tryz.ntmps64
  go_wp2_with (go_at_call 92; (with_reducible refine (cA.out _).mono ?_); rintro e w' ⟨rfl, rfl⟩)
  refine region_anyT (n := 8) (S := fun _ => True) (by kernel_rfl) ?_
  refine anyT_take (i := 0) (v := .string t) rfl (by kernel_rfl) (by kernel_rfl) (fun _ _ _ h => h) (Or.inl ⟨by rfl, ?_⟩) trivial ?_
  · intro w1 _
    go_simp
    first | with_reducible rfl | exact fun hc => absurd hc (by omega) | skip
  try simp only [Act.put, List.getElem_toArray, List.getElem_cons_zero, List.setIfInBounds_toArray, List.set_cons_zero, List.set_cons_succ]
  refine anyT_take (i := 1) (v := .int .u8 (c0 : Int)) rfl (by kernel_rfl) (by kernel_rfl) (fun _ _ _ h => h) (Or.inl ⟨by rfl, ?_⟩) trivial ?_
  · intro w1 _
    go_simp
    first | with_reducible rfl | exact fun hc => absurd hc (by omega) | skip
  try simp only [Act.put, List.getElem_toArray, List.getElem_cons_zero, List.getElem_cons_succ, List.setIfInBounds_toArray, List.set_cons_zero, List.set_cons_succ]
  refine anyT_take (i := 3) (v := .string t) rfl (by kernel_rfl) (by kernel_rfl) (fun _ _ _ h => h) (Or.inl ⟨by rfl, ?_⟩) trivial ?_
  · intro w1 _
    go_simp
    first | with_reducible rfl | exact fun hc => absurd hc (by omega) | skip
  try simp only [Act.put, List.getElem_toArray, List.getElem_cons_zero, List.getElem_cons_succ, List.setIfInBounds_toArray, List.set_cons_zero, List.set_cons_succ]
  refine anyT_take (i := 4) (v := .string (t.extract 1 t.size)) rfl (by kernel_rfl) (by kernel_rfl) (fun _ _ _ h => h) (Or.inl ⟨by rfl, ?_⟩) trivial ?_
  · intro w1 _
    go_simp
    first | with_reducible rfl | exact fun hc => absurd hc (by omega) | skip
  try simp only [Act.put, List.getElem_toArray, List.getElem_cons_zero, List.getElem_cons_succ, List.setIfInBounds_toArray, List.set_cons_zero, List.set_cons_succ]
  refine anyT_one (i := 2) (by kernel_rfl) ?_
  refine wpOp_step rfl (fun K hK => ?_)
  replace hK := Lib.hid hK
  go_simp
  (with_reducible refine (cB.out _).mono ?_)
  rintro e w2 ⟨rfl, hw2⟩
  subst hw2
  refine hK.out _ _ ⟨fun _ => trivial, ?_⟩
  clear hK K
  try simp only [Act.put, List.getElem_toArray, List.getElem_cons_zero, List.getElem_cons_succ, List.setIfInBounds_toArray, List.set_cons_zero, List.set_cons_succ]
  refine anyT_take (i := 5) (v := .pointer (some ⟨w.heap.size + 1, 2, none⟩)) rfl (by kernel_rfl) (by kernel_rfl) (fun _ _ _ h => h) (Or.inl ⟨by rfl, ?_⟩) trivial ?_
  · intro w1 _
    go_simp
    first | with_reducible rfl | exact fun hc => absurd hc (by omega) | skip
  try simp only [Act.put, List.getElem_toArray, List.getElem_cons_zero, List.getElem_cons_succ, List.setIfInBounds_toArray, List.set_cons_zero, List.set_cons_succ]
  refine anyT_one (i := 6) (by kernel_rfl) ?_
  refine wpOp_step rfl (fun K hK => ?_)
  replace hK := Lib.hid hK
  go_simp
  refine hK.out _ _ ⟨fun _ => trivial, ?_⟩
  clear hK K
  try simp only [Act.put, List.getElem_toArray, List.getElem_cons_zero, List.getElem_cons_succ, List.setIfInBounds_toArray, List.set_cons_zero, List.set_cons_succ]
  refine anyT_take (i := 7) (v := .pointer (some ⟨w.heap.size + 1, 1, none⟩)) rfl (by kernel_rfl) (by kernel_rfl) (fun _ _ _ h => h) (Or.inl ⟨by rfl, ?_⟩) trivial ?_
  · intro w1 _
    go_simp
    first | with_reducible rfl | exact fun hc => absurd hc (by omega) | skip
  try simp only [Act.put, List.getElem_toArray, List.getElem_cons_zero, List.getElem_cons_succ, List.setIfInBounds_toArray, List.set_cons_zero, List.set_cons_succ]
  refine anyT_one (i := 8) (by kernel_rfl) ?_
  refine wpOp_step rfl (fun K hK => ?_)
  replace hK := Lib.hid hK
  go_simp
  refine hK.out _ _ ⟨fun _ => trivial, ?_⟩
  clear hK K
  try simp only [Act.put, List.getElem_toArray, List.getElem_cons_zero, List.getElem_cons_succ, List.setIfInBounds_toArray, List.set_cons_zero, List.set_cons_succ]
  refine anyT_done (by kernel_rfl) ?_ _
  all_goals
    go_wp2_with fail
    refine bodyPost_ret (v := .tuple #[.agg #[.string ⟨#[]⟩, .string ⟨#[]⟩, .int .i64 0, .bool false, .bool false], .int .i64 5]) (by simp [results, Tryz.results64, go_sem]) rfl ⟨rfl, ?_⟩
    go_grown
set_option maxRecDepth 100000 in
set_option maxHeartbeats 3200000 in
theorem scan_S_dend (s : ByteArray) (w : World) (hs : s.size ≤ maxLen) (h : Nat) (hh : dA s 10 = h) (hl : h < s.size) (hq : bt s h = 39) (r : ByteArray) (hr : s.extract (h + 1) s.size = r) (h0 : 0 < r.size) (h1 : bt r 0 = 83) (t : ByteArray) (ht : r.extract 1 r.size = t) (k0 : 0 < t.size) (b : Nat) (hb : baseV (bt t 0) = b) (hbp : 0 < b) (hb16 : b ≤ 16) (d : ByteArray) (hd : t.extract 1 t.size = d) (d0 : d.size = 0) :
    Calls Tryz.prog 64 #[.string s] w (RV w (pv ⟨#[]⟩ ⟨#[]⟩ 0 false false 6)) := by
  have cA : ∀ w, Calls Tryz.prog 92 #[.string s, .int .i64 10] w fun e w' => e = .returned (.int .i64 (dA s 10 : Int)) ∧ w' = w := fun w => digitsAhead_t s 10 w hs (by omega)
  rw [hh] at cA
  replace cA := Lib.hid cA
  unfold maxLen at hs
  have hbt := bt_at s h hl
  have hb2 := bt_lt s h
  have n0 : ((h : Int) == (s.size : Int)) = false := by simp; omega
  have n0' : (h == s.size) = false := by simp; omega
  clear hh
  rw [hq] at hbt
  clear hq hb2
  obtain ⟨r1, r2⟩ := nemp r h0
  have hb0 := bt_at r 0 h0
  have hl0 := bt_lt r 0
  rw [h1] at hb0
  clear h1 hl0
  have hrs : r.size ≤ 9223372036854775807 := by rw [← hr]; simp; omega
  have hts : t.size ≤ 9223372036854775807 := by rw [← ht]; simp; omega
  obtain ⟨t1, t2⟩ := nemp t k0
  have hbk := bt_at t 0 k0
  have hlk := bt_lt t 0
  have cB := fun w => baseOf_t (bt t 0) w hlk
  rw [hb] at cB
  clear hb
  have nb : ((b : Int) == 0) = false := by simp; omega
  have hds : d.size ≤ maxLen := by rw [← hd]; unfold maxLen; simp; omega
  obtain ⟨d1, d2⟩ := emp d d0
  clear d0
  clear hbp hb16
  replace cB := Lib.hid cB
  generalize bt t 0 = c0 at *
  go_enter Tryz.func64, Tryz.ntmps64
  go_wp2_with (go_at_call 92; (with_reducible refine (cA.out _).mono ?_); rintro e w' ⟨rfl, rfl⟩)
  refine region_anyT (n := 8) (S := fun _ => True) (by kernel_rfl) ?_
  refine anyT_take (i := 0) (v := .string t) rfl (by kernel_rfl) (by kernel_rfl) (fun _ _ _ h => h) (Or.inl ⟨by rfl, ?_⟩) trivial ?_
  · intro w1 _
    go_simp
    first | with_reducible rfl | exact fun hc => absurd hc (by omega) | skip
  try simp only [Act.put, List.getElem_toArray, List.getElem_cons_zero, List.setIfInBounds_toArray, List.set_cons_zero, List.set_cons_succ]
  refine anyT_take (i := 1) (v := .int .u8 (c0 : Int)) rfl (by kernel_rfl) (by kernel_rfl) (fun _ _ _ h => h) (Or.inl ⟨by rfl, ?_⟩) trivial ?_
  · intro w1 _
    go_simp
    first | with_reducible rfl | exact fun hc => absurd hc (by omega) | skip
  try simp only [Act.put, List.getElem_toArray, List.getElem_cons_zero, List.getElem_cons_succ, List.setIfInBounds_toArray, List.set_cons_zero, List.set_cons_succ]
  refine anyT_take (i := 3) (v := .string t) rfl (by kernel_rfl) (by kernel_rfl) (fun _ _ _ h => h) (Or.inl ⟨by rfl, ?_⟩) trivial ?_
  · intro w1 _
    go_simp
    first | with_reducible rfl | exact fun hc => absurd hc (by omega) | skip
  try simp only [Act.put, List.getElem_toArray, List.getElem_cons_zero, List.getElem_cons_succ, List.setIfInBounds_toArray, List.set_cons_zero, List.set_cons_succ]
  refine anyT_take (i := 4) (v := .string d) rfl (by kernel_rfl) (by kernel_rfl) (fun _ _ _ h => h) (Or.inl ⟨by rfl, ?_⟩) trivial ?_
  · intro w1 _
    go_simp
    first | with_reducible rfl | exact fun hc => absurd hc (by omega) | skip
  try simp only [Act.put, List.getElem_toArray, List.getElem_cons_zero, List.getElem_cons_succ, List.setIfInBounds_toArray, List.set_cons_zero, List.set_cons_succ]
  refine anyT_one (i := 2) (by kernel_rfl) ?_
  refine wpOp_step rfl (fun K hK => ?_)
  replace hK := Lib.hid hK
  go_simp
  (with_reducible refine (cB.out _).mono ?_)
  rintro e w2 ⟨rfl, hw2⟩
  subst hw2
  refine hK.out _ _ ⟨fun _ => trivial, ?_⟩
  clear hK K
  try simp only [Act.put, List.getElem_toArray, List.getElem_cons_zero, List.getElem_cons_succ, List.setIfInBounds_toArray, List.set_cons_zero, List.set_cons_succ]
  refine anyT_take (i := 5) (v := .pointer (some ⟨w.heap.size + 1, 2, none⟩)) rfl (by kernel_rfl) (by kernel_rfl) (fun _ _ _ h => h) (Or.inl ⟨by rfl, ?_⟩) trivial ?_
  · intro w1 _
    go_simp
    first | with_reducible rfl | exact fun hc => absurd hc (by omega) | skip
  try simp only [Act.put, List.getElem_toArray, List.getElem_cons_zero, List.getElem_cons_succ, List.setIfInBounds_toArray, List.set_cons_zero, List.set_cons_succ]
  refine anyT_one (i := 6) (by kernel_rfl) ?_
  refine wpOp_step rfl (fun K hK => ?_)
  replace hK := Lib.hid hK
  go_simp
  refine hK.out _ _ ⟨fun _ => trivial, ?_⟩
  clear hK K
  try simp only [Act.put, List.getElem_toArray, List.getElem_cons_zero, List.getElem_cons_succ, List.setIfInBounds_toArray, List.set_cons_zero, List.set_cons_succ]
  refine anyT_take (i := 7) (v := .pointer (some ⟨w.heap.size + 1, 1, none⟩)) rfl (by kernel_rfl) (by kernel_rfl) (fun _ _ _ h => h) (Or.inl ⟨by rfl, ?_⟩) trivial ?_
  · intro w1 _
    go_simp
    first | with_reducible rfl | exact fun hc => absurd hc (by omega) | skip
  try simp only [Act.put, List.getElem_toArray, List.getElem_cons_zero, List.getElem_cons_succ, List.setIfInBounds_toArray, List.set_cons_zero, List.set_cons_succ]
  refine anyT_one (i := 8) (by kernel_rfl) ?_
  refine wpOp_step rfl (fun K hK => ?_)
  replace hK := Lib.hid hK
  go_simp
  refine hK.out _ _ ⟨fun _ => trivial, ?_⟩
  clear hK K
  try simp only [Act.put, List.getElem_toArray, List.getElem_cons_zero, List.getElem_cons_succ, List.setIfInBounds_toArray, List.set_cons_zero, List.set_cons_succ]
  refine anyT_done (by kernel_rfl) ?_ _
  all_goals
    go_wp2_with fail
    refine bodyPost_ret (v := .tuple #[.agg #[.string ⟨#[]⟩, .string ⟨#[]⟩, .int .i64 0, .bool false, .bool false], .int .i64 6]) (by simp [results, Tryz.results64, go_sem]) rfl ⟨rfl, ?_⟩
    go_grown
set_option maxRecDepth 100000 in
set_option maxHeartbeats 3200000 in
theorem scan_S_dform (s : ByteArray) (w : World) (hs : s.size ≤ maxLen) (h : Nat) (hh : dA s 10 = h) (hl : h < s.size) (hq : bt s h = 39) (r : ByteArray) (hr : s.extract (h + 1) s.size = r) (h0 : 0 < r.size) (h1 : bt r 0 = 83) (t : ByteArray) (ht : r.extract 1 r.size = t) (k0 : 0 < t.size) (b : Nat) (hb : baseV (bt t 0) = b) (hbp : 0 < b) (hb16 : b ≤ 16) (d : ByteArray) (hd : t.extract 1 t.size = d) (d0 : 0 < d.size) (hf : dA d b < d.size) :
    Calls Tryz.prog 64 #[.string s] w (RV w (pv ⟨#[]⟩ ⟨#[]⟩ 0 false false 5)) := by
  have cA : ∀ w, Calls Tryz.prog 92 #[.string s, .int .i64 10] w fun e w' => e = .returned (.int .i64 (dA s 10 : Int)) ∧ w' = w := fun w => digitsAhead_t s 10 w hs (by omega)
  rw [hh] at cA
  replace cA := Lib.hid cA
  unfold maxLen at hs
  have hbt := bt_at s h hl
  have hb2 := bt_lt s h
  have n0 : ((h : Int) == (s.size : Int)) = false := by simp; omega
  have n0' : (h == s.size) = false := by simp; omega
  clear hh
  rw [hq] at hbt
  clear hq hb2
  obtain ⟨r1, r2⟩ := nemp r h0
  have hb0 := bt_at r 0 h0
  have hl0 := bt_lt r 0
  rw [h1] at hb0
  clear h1 hl0
  have hrs : r.size ≤ 9223372036854775807 := by rw [← hr]; simp; omega
  have hts : t.size ≤ 9223372036854775807 := by rw [← ht]; simp; omega
  obtain ⟨t1, t2⟩ := nemp t k0
  have hbk := bt_at t 0 k0
  have hlk := bt_lt t 0
  have cB := fun w => baseOf_t (bt t 0) w hlk
  rw [hb] at cB
  clear hb
  have nb : ((b : Int) == 0) = false := by simp; omega
  have hds : d.size ≤ maxLen := by rw [← hd]; unfold maxLen; simp; omega
  obtain ⟨d1, d2⟩ := nemp d d0
  have cD := fun w => digitsAhead_t d b w hds hb16
  have f1 : decide (((dA d b : Nat) : Int) < (d.size : Int)) = true := by simp; omega
  have f2 : decide (dA d b < d.size) = true := by simp; omega
  generalize dA d b = db at *
  replace cD := Lib.hid cD
  clear hf
  clear hbp hb16
  replace cB := Lib.hid cB
  generalize bt t 0 = c0 at *
  go_enter Tryz.func64, Tryz.ntmps64
  go_wp2_with (go_at_call 92; (with_reducible refine (cA.out _).mono ?_); rintro e w' ⟨rfl, rfl⟩)
  refine region_anyT (n := 8) (S := fun _ => True) (by kernel_rfl) ?_
  refine anyT_take (i := 0) (v := .string t) rfl (by kernel_rfl) (by kernel_rfl) (fun _ _ _ h => h) (Or.inl ⟨by rfl, ?_⟩) trivial ?_
  · intro w1 _
    go_simp
    first | with_reducible rfl | exact fun hc => absurd hc (by omega) | skip
  try simp only [Act.put, List.getElem_toArray, List.getElem_cons_zero, List.setIfInBounds_toArray, List.set_cons_zero, List.set_cons_succ]
  refine anyT_take (i := 1) (v := .int .u8 (c0 : Int)) rfl (by kernel_rfl) (by kernel_rfl) (fun _ _ _ h => h) (Or.inl ⟨by rfl, ?_⟩) trivial ?_
  · intro w1 _
    go_simp
    first | with_reducible rfl | exact fun hc => absurd hc (by omega) | skip
  try simp only [Act.put, List.getElem_toArray, List.getElem_cons_zero, List.getElem_cons_succ, List.setIfInBounds_toArray, List.set_cons_zero, List.set_cons_succ]
  refine anyT_take (i := 3) (v := .string t) rfl (by kernel_rfl) (by kernel_rfl) (fun _ _ _ h => h) (Or.inl ⟨by rfl, ?_⟩) trivial ?_
  · intro w1 _
    go_simp
    first | with_reducible rfl | exact fun hc => absurd hc (by omega) | skip
  try simp only [Act.put, List.getElem_toArray, List.getElem_cons_zero, List.getElem_cons_succ, List.setIfInBounds_toArray, List.set_cons_zero, List.set_cons_succ]
  refine anyT_take (i := 4) (v := .string d) rfl (by kernel_rfl) (by kernel_rfl) (fun _ _ _ h => h) (Or.inl ⟨by rfl, ?_⟩) trivial ?_
  · intro w1 _
    go_simp
    first | with_reducible rfl | exact fun hc => absurd hc (by omega) | skip
  try simp only [Act.put, List.getElem_toArray, List.getElem_cons_zero, List.getElem_cons_succ, List.setIfInBounds_toArray, List.set_cons_zero, List.set_cons_succ]
  refine anyT_one (i := 2) (by kernel_rfl) ?_
  refine wpOp_step rfl (fun K hK => ?_)
  replace hK := Lib.hid hK
  go_simp
  (with_reducible refine (cB.out _).mono ?_)
  rintro e w2 ⟨rfl, hw2⟩
  subst hw2
  refine hK.out _ _ ⟨fun _ => trivial, ?_⟩
  clear hK K
  try simp only [Act.put, List.getElem_toArray, List.getElem_cons_zero, List.getElem_cons_succ, List.setIfInBounds_toArray, List.set_cons_zero, List.set_cons_succ]
  refine anyT_take (i := 5) (v := .pointer (some ⟨w.heap.size + 1, 2, none⟩)) rfl (by kernel_rfl) (by kernel_rfl) (fun _ _ _ h => h) (Or.inl ⟨by rfl, ?_⟩) trivial ?_
  · intro w1 _
    go_simp
    first | with_reducible rfl | exact fun hc => absurd hc (by omega) | skip
  try simp only [Act.put, List.getElem_toArray, List.getElem_cons_zero, List.getElem_cons_succ, List.setIfInBounds_toArray, List.set_cons_zero, List.set_cons_succ]
  refine anyT_one (i := 6) (by kernel_rfl) ?_
  refine wpOp_step rfl (fun K hK => ?_)
  replace hK := Lib.hid hK
  go_simp
  refine hK.out _ _ ⟨fun _ => trivial, ?_⟩
  clear hK K
  try simp only [Act.put, List.getElem_toArray, List.getElem_cons_zero, List.getElem_cons_succ, List.setIfInBounds_toArray, List.set_cons_zero, List.set_cons_succ]
  refine anyT_take (i := 7) (v := .pointer (some ⟨w.heap.size + 1, 1, none⟩)) rfl (by kernel_rfl) (by kernel_rfl) (fun _ _ _ h => h) (Or.inl ⟨by rfl, ?_⟩) trivial ?_
  · intro w1 _
    go_simp
    first | with_reducible rfl | exact fun hc => absurd hc (by omega) | skip
  try simp only [Act.put, List.getElem_toArray, List.getElem_cons_zero, List.getElem_cons_succ, List.setIfInBounds_toArray, List.set_cons_zero, List.set_cons_succ]
  refine anyT_one (i := 8) (by kernel_rfl) ?_
  refine wpOp_step rfl (fun K hK => ?_)
  replace hK := Lib.hid hK
  go_simp
  refine hK.out _ _ ⟨fun _ => trivial, ?_⟩
  clear hK K
  try simp only [Act.put, List.getElem_toArray, List.getElem_cons_zero, List.getElem_cons_succ, List.setIfInBounds_toArray, List.set_cons_zero, List.set_cons_succ]
  refine anyT_done (by kernel_rfl) ?_ _
  all_goals
    go_wp2_with fail
    go_quiet ((go_at_call 92; exact (cD.out _).mono fun e w1 ⟨he, hw1⟩ => ⟨he, _, hw1⟩))
    go_wp2_with fail
    refine bodyPost_ret (v := .tuple #[.agg #[.string ⟨#[]⟩, .string ⟨#[]⟩, .int .i64 0, .bool false, .bool false], .int .i64 5]) (by simp [results, Tryz.results64, go_sem]) rfl ⟨rfl, ?_⟩
    go_grown
    all_goals exact below_drewN (by go_grown) _
set_option maxRecDepth 100000 in
set_option maxHeartbeats 3200000 in
theorem scan_S_ok (s : ByteArray) (w : World) (hs : s.size ≤ maxLen) (h : Nat) (hh : dA s 10 = h) (hl : h < s.size) (hq : bt s h = 39) (r : ByteArray) (hr : s.extract (h + 1) s.size = r) (h0 : 0 < r.size) (h1 : bt r 0 = 83) (t : ByteArray) (ht : r.extract 1 r.size = t) (k0 : 0 < t.size) (b : Nat) (hb : baseV (bt t 0) = b) (hbp : 0 < b) (hb16 : b ≤ 16) (d : ByteArray) (hd : t.extract 1 t.size = d) (d0 : 0 < d.size) (hf : dA d b = d.size) :
    Calls Tryz.prog 64 #[.string s] w (RV w (pv (s.extract 0 h) d b true true 0)) := by
  have cA : ∀ w, Calls Tryz.prog 92 #[.string s, .int .i64 10] w fun e w' => e = .returned (.int .i64 (dA s 10 : Int)) ∧ w' = w := fun w => digitsAhead_t s 10 w hs (by omega)
  rw [hh] at cA
  replace cA := Lib.hid cA
  unfold maxLen at hs
  have hbt := bt_at s h hl
  have hb2 := bt_lt s h
  have n0 : ((h : Int) == (s.size : Int)) = false := by simp; omega
  have n0' : (h == s.size) = false := by simp; omega
  clear hh
  rw [hq] at hbt
  clear hq hb2
  obtain ⟨r1, r2⟩ := nemp r h0
  have hb0 := bt_at r 0 h0
  have hl0 := bt_lt r 0
  rw [h1] at hb0
  clear h1 hl0
  have hrs : r.size ≤ 9223372036854775807 := by rw [← hr]; simp; omega
  have hts : t.size ≤ 9223372036854775807 := by rw [← ht]; simp; omega
  obtain ⟨t1, t2⟩ := nemp t k0
  have hbk := bt_at t 0 k0
  have hlk := bt_lt t 0
  have cB := fun w => baseOf_t (bt t 0) w hlk
  rw [hb] at cB
  clear hb
  have nb : ((b : Int) == 0) = false := by simp; omega
  have hds : d.size ≤ maxLen := by rw [← hd]; unfold maxLen; simp; omega
  obtain ⟨d1, d2⟩ := nemp d d0
  have cD := fun w => digitsAhead_t d b w hds hb16
  rw [hf] at cD
  generalize dA d b = db at *
  replace cD := Lib.hid cD
  clear hf
  clear hbp hb16
  replace cB := Lib.hid cB
  generalize bt t 0 = c0 at *
  go_enter Tryz.func64, Tryz.ntmps64
  go_wp2_with (go_at_call 92; (with_reducible refine (cA.out _).mono ?_); rintro e w' ⟨rfl, rfl⟩)
  refine region_anyT (n := 8) (S := fun _ => True) (by kernel_rfl) ?_
  refine anyT_take (i := 0) (v := .string t) rfl (by kernel_rfl) (by kernel_rfl) (fun _ _ _ h => h) (Or.inl ⟨by rfl, ?_⟩) trivial ?_
  · intro w1 _
    go_simp
    first | with_reducible rfl | exact fun hc => absurd hc (by omega) | skip
  try simp only [Act.put, List.getElem_toArray, List.getElem_cons_zero, List.setIfInBounds_toArray, List.set_cons_zero, List.set_cons_succ]
  refine anyT_take (i := 1) (v := .int .u8 (c0 : Int)) rfl (by kernel_rfl) (by kernel_rfl) (fun _ _ _ h => h) (Or.inl ⟨by rfl, ?_⟩) trivial ?_
  · intro w1 _
    go_simp
    first | with_reducible rfl | exact fun hc => absurd hc (by omega) | skip
  try simp only [Act.put, List.getElem_toArray, List.getElem_cons_zero, List.getElem_cons_succ, List.setIfInBounds_toArray, List.set_cons_zero, List.set_cons_succ]
  refine anyT_take (i := 3) (v := .string t) rfl (by kernel_rfl) (by kernel_rfl) (fun _ _ _ h => h) (Or.inl ⟨by rfl, ?_⟩) trivial ?_
  · intro w1 _
    go_simp
    first | with_reducible rfl | exact fun hc => absurd hc (by omega) | skip
  try simp only [Act.put, List.getElem_toArray, List.getElem_cons_zero, List.getElem_cons_succ, List.setIfInBounds_toArray, List.set_cons_zero, List.set_cons_succ]
  refine anyT_take (i := 4) (v := .string d) rfl (by kernel_rfl) (by kernel_rfl) (fun _ _ _ h => h) (Or.inl ⟨by rfl, ?_⟩) trivial ?_
  · intro w1 _
    go_simp
    first | with_reducible rfl | exact fun hc => absurd hc (by omega) | skip
  try simp only [Act.put, List.getElem_toArray, List.getElem_cons_zero, List.getElem_cons_succ, List.setIfInBounds_toArray, List.set_cons_zero, List.set_cons_succ]
  refine anyT_one (i := 2) (by kernel_rfl) ?_
  refine wpOp_step rfl (fun K hK => ?_)
  replace hK := Lib.hid hK
  go_simp
  (with_reducible refine (cB.out _).mono ?_)
  rintro e w2 ⟨rfl, hw2⟩
  subst hw2
  refine hK.out _ _ ⟨fun _ => trivial, ?_⟩
  clear hK K
  try simp only [Act.put, List.getElem_toArray, List.getElem_cons_zero, List.getElem_cons_succ, List.setIfInBounds_toArray, List.set_cons_zero, List.set_cons_succ]
  refine anyT_take (i := 5) (v := .pointer (some ⟨w.heap.size + 1, 2, none⟩)) rfl (by kernel_rfl) (by kernel_rfl) (fun _ _ _ h => h) (Or.inl ⟨by rfl, ?_⟩) trivial ?_
  · intro w1 _
    go_simp
    first | with_reducible rfl | exact fun hc => absurd hc (by omega) | skip
  try simp only [Act.put, List.getElem_toArray, List.getElem_cons_zero, List.getElem_cons_succ, List.setIfInBounds_toArray, List.set_cons_zero, List.set_cons_succ]
  refine anyT_one (i := 6) (by kernel_rfl) ?_
  refine wpOp_step rfl (fun K hK => ?_)
  replace hK := Lib.hid hK
  go_simp
  refine hK.out _ _ ⟨fun _ => trivial, ?_⟩
  clear hK K
  try simp only [Act.put, List.getElem_toArray, List.getElem_cons_zero, List.getElem_cons_succ, List.setIfInBounds_toArray, List.set_cons_zero, List.set_cons_succ]
  refine anyT_take (i := 7) (v := .pointer (some ⟨w.heap.size + 1, 1, none⟩)) rfl (by kernel_rfl) (by kernel_rfl) (fun _ _ _ h => h) (Or.inl ⟨by rfl, ?_⟩) trivial ?_
  · intro w1 _
    go_simp
    first | with_reducible rfl | exact fun hc => absurd hc (by omega) | skip
  try simp only [Act.put, List.getElem_toArray, List.getElem_cons_zero, List.getElem_cons_succ, List.setIfInBounds_toArray, List.set_cons_zero, List.set_cons_succ]
  refine anyT_one (i := 8) (by kernel_rfl) ?_
  refine wpOp_step rfl (fun K hK => ?_)
  replace hK := Lib.hid hK
  go_simp
  refine hK.out _ _ ⟨fun _ => trivial, ?_⟩
  clear hK K
  try simp only [Act.put, List.getElem_toArray, List.getElem_cons_zero, List.getElem_cons_succ, List.setIfInBounds_toArray, List.set_cons_zero, List.set_cons_succ]
  refine anyT_done (by kernel_rfl) ?_ _
  all_goals
    go_wp2_with fail
    go_quiet ((go_at_call 92; exact (cD.out _).mono fun e w1 ⟨he, hw1⟩ => ⟨he, _, hw1⟩))
    go_wp2_with fail
    refine bodyPost_ret (v := .tuple #[.agg #[.string (s.extract 0 h), .string d, .int .i64 (b : Int), .bool true, .bool true], .int .i64 0]) (by simp [results, Tryz.results64, go_sem]) rfl ⟨rfl, ?_⟩
    go_grown
    all_goals exact below_drewN (by go_grown) _
end Go.Proofs.YtcifljbcoioogaaGreatDoor
namespace Go.Proofs.YtcifljbcoioogaaGreatDoor
open Go.RowKit
set_option maxRecDepth 100000 in
set_option maxHeartbeats 3200000 in
theorem withDigit_a (n v b d b2 d2 m r : Nat) (w : World) (hb : b ≤ 16) (hd : d ≤ 16)
    (hF : ∀ (w : World) (g : Nat), g = w.heap.size → Calls Tryz.prog 94 #[.int .i64 (n : Int), .slice (some ⟨g, 0, none⟩) 1 1] (w.alloc (.cells #[.int .u64 (b : Int)] 87)) (RV (w.alloc (.cells #[.int .u64 (b : Int)] 87)) (.tuple #[vv n b2, .int .i64 0])))
    (hL : ∀ (w : World) (g : Nat), g = w.heap.size → Calls Tryz.prog 94 #[.int .i64 (n : Int), .slice (some ⟨g, 0, none⟩) 1 1] (w.alloc (.cells #[.int .u64 (d : Int)] 87)) (RV (w.alloc (.cells #[.int .u64 (d : Int)] 87)) (.tuple #[vv n d2, .int .i64 0])))
    (hM : ∀ w, Calls Tryz.prog 108 #[.int .i64 2, vv n v, vv n b2] w (RV w (.tuple #[vv n m, .int .i64 0])))
    (hA : ∀ w, Calls Tryz.prog 108 #[.int .i64 0, vv n m, vv n d2] w (RV w (.tuple #[vv n r, .int .i64 0]))) :
    Calls Tryz.prog 96 #[vv n v, .int .i64 (b : Int), .int .i64 (d : Int)] w (RV w (vv n r)) := by
  have hW := Lib.hid (fun w => Width_v n v w)
  replace hF := Lib.hid hF
  replace hL := Lib.hid hL
  replace hM := Lib.hid hM
  replace hA := Lib.hid hA
  have eb : IntKind.u64.wrap (b : Int) = b := IntWalk.u64_in _ (by omega)
  have ed : IntKind.u64.wrap (d : Int) = d := IntWalk.u64_in _ (by omega)
  have R0 : HV 100 ((w.alloc (.cells (vcs n v) 100)).alloc (.cells (vcs 0 0) 100)) (w.heap.size + 1) 0 0 := by have h := HV.zero (w.alloc (.cells (vcs n v) 100)) 100; rw [show (w.alloc (.cells (vcs n v) 100)).heap.size = w.heap.size + 1 from by simp] at h; exact h
  go_enter Tryz.func96, Tryz.ntmps96
  go_wp2_with fail
  (with_reducible refine (hW.out _).mono ?_)
  rintro e w1 ⟨rfl, hb1⟩
  have hbw1 : Below w.heap.size w w1 := below_call hb1 (by go_grown)
  have z1 := hbw1.size
  have Vh' : HV 100 w1 (w.heap.size) n v := ((HV.new w 100 n v).alloc _).over hb1
  have Rh' : HV 100 w1 (w.heap.size + 1) 0 0 := R0.over hb1
  have Vh := Vh'
  clear Vh'
  have Va := Vh.all
  have Vl := Vh.lt
  have Rh := Rh'
  clear Rh'
  have Ra := Rh.all
  have Rl := Rh.lt
  clear hb1
  go_wp2_with fail
  (with_reducible refine (hF.out _ _ (by simp)).mono ?_)
  rintro e w2 ⟨rfl, hb2⟩
  have hbw2 : Below w.heap.size w w2 := below_call hb2 (by go_grown)
  have z2 := hbw2.size
  have Vh' : HV 100 w2 (w.heap.size) n v := (Vh.alloc _).over hb2
  have Rh' : HV 100 w2 (w.heap.size + 1) 0 0 := (Rh.alloc _).over hb2
  clear Va Vl Vh
  clear Ra Rl Rh
  have Vh := Vh'
  clear Vh'
  have Va := Vh.all
  have Vl := Vh.lt
  have Rh := Rh'
  clear Rh'
  have Ra := Rh.all
  have Rl := Rh.lt
  clear hb2
  have lt2 := Vl
  have lt2r := Rl
  go_wp2_with fail
  (with_reducible refine (hW.out _).mono ?_)
  rintro e w3 ⟨rfl, hb3⟩
  have hbw3 : Below w.heap.size w w3 := below_call hb3 (by go_grown)
  have z3 := hbw3.size
  have Vh' : HV 100 w3 (w.heap.size) n v := (Vh.alloc _).over hb3
  have Rh' : HV 100 w3 (w.heap.size + 1) 0 0 := (Rh.alloc _).over hb3
  have Fh' : HV 100 w3 (w2.heap.size) n b2 := (HV.new w2 100 n b2).over hb3
  clear Va Vl Vh
  clear Ra Rl Rh
  have Vh := Vh'
  clear Vh'
  have Va := Vh.all
  have Vl := Vh.lt
  have Rh := Rh'
  clear Rh'
  have Ra := Rh.all
  have Rl := Rh.lt
  have Fh := Fh'
  clear Fh'
  have Fa := Fh.all
  have Fl := Fh.lt
  clear hb3
  go_wp2_with fail
  (with_reducible refine (hL.out _ _ (by simp)).mono ?_)
  rintro e w4 ⟨rfl, hb4⟩
  have hbw4 : Below w.heap.size w w4 := below_call hb4 (by go_grown)
  have z4 := hbw4.size
  have Vh' : HV 100 w4 (w.heap.size) n v := (Vh.alloc _).over hb4
  have Rh' : HV 100 w4 (w.heap.size + 1) 0 0 := (Rh.alloc _).over hb4
  have Fh' : HV 100 w4 (w2.heap.size) n b2 := (Fh.alloc _).over hb4
  clear Va Vl Vh
  clear Ra Rl Rh
  clear Fa Fl Fh
  have Vh := Vh'
  clear Vh'
  have Va := Vh.all
  have Vl := Vh.lt
  have Rh := Rh'
  clear Rh'
  have Ra := Rh.all
  have Rl := Rh.lt
  have Fh := Fh'
  clear Fh'
  have Fa := Fh.all
  have Fl := Fh.lt
  clear hb4
  have lt4 := Vl
  have lt4r := Rl
  go_wp2_with fail
  (with_reducible refine (hM.out _).mono ?_)
  rintro e w5 ⟨rfl, hb5⟩
  have hbw5 : Below w.heap.size w w5 := below_call hb5 (by go_grown)
  have z5 := hbw5.size
  have Vh' : HV 100 w5 (w.heap.size) n v := (Vh.alloc _).over hb5
  have Rh' : HV 100 w5 (w.heap.size + 1) 0 0 := (Rh.alloc _).over hb5
  have Fh' : HV 100 w5 (w2.heap.size) n b2 := (Fh.alloc _).over hb5
  have Lh' : HV 100 w5 (w4.heap.size) n d2 := (HV.new w4 100 n d2).over hb5
  clear Va Vl Vh
  clear Ra Rl Rh
  clear Fa Fl Fh
  have Vh := Vh'
  clear Vh'
  have Va := Vh.all
  have Vl := Vh.lt
  have Rh := Rh'
  clear Rh'
  have Ra := Rh.all
  have Rl := Rh.lt
  have Fh := Fh'
  clear Fh'
  have Fa := Fh.all
  have Fl := Fh.lt
  have Lh := Lh'
  clear Lh'
  have La := Lh.all
  have Ll := Lh.lt
  clear hb5
  go_wp2_with fail
  (with_reducible refine (hA.out _).mono ?_)
  rintro e w6 ⟨rfl, hb6⟩
  have hbw6 : Below w.heap.size w w6 := below_call hb6 (by go_grown)
  have z6 := hbw6.size
  have Vh' : HV 100 w6 (w.heap.size) n m := (Vh.set3 n m).over hb6
  have Rh' : HV 100 w6 (w.heap.size + 1) 0 0 := (Rh.far3 (by omega)).over hb6
  have Fh' : HV 100 w6 (w2.heap.size) n b2 := (Fh.far3 (by omega)).over hb6
  have Lh' : HV 100 w6 (w4.heap.size) n d2 := (Lh.far3 (by omega)).over hb6
  clear Va Vl Vh
  clear Ra Rl Rh
  clear Fa Fl Fh
  clear La Ll Lh
  have Vh := Vh'
  clear Vh'
  have Va := Vh.all
  have Vl := Vh.lt
  have Rh := Rh'
  clear Rh'
  have Ra := Rh.all
  have Rl := Rh.lt
  have Fh := Fh'
  clear Fh'
  have Fa := Fh.all
  have Fl := Fh.lt
  have Lh := Lh'
  clear Lh'
  have La := Lh.all
  have Ll := Lh.lt
  clear hb6
  go_wp2_with fail
  refine bodyPost_ret (v := vv n r) (by simp [results, Tryz.results96, go_sem, Ra, vv]) rfl ⟨rfl, ?_⟩
  go_grown
theorem withDigit_t (n v b d : Nat) (w : World) (h0 : 1 ≤ n) (hn : n ≤ 128) (hb : b ≤ 16) (hd : d ≤ 16) :
    Calls Tryz.prog 96 #[vv n v, .int .i64 (b : Int), .int .i64 (d : Int)] w (RV w (vv n ((v * b + d) % 2 ^ n))) := by
  have h := withDigit_a n v b d (b % 2 ^ n) (d % 2 ^ n) (v * (b % 2 ^ n) % 2 ^ n) ((v * (b % 2 ^ n) % 2 ^ n + d % 2 ^ n) % 2 ^ n) w hb hd
    (fun w g hg => New_one n b w g hg h0 hn (by omega)) (fun w g hg => New_one n d w g hg h0 hn (by omega))
    (fun w => Bin_2 n v (b % 2 ^ n) w h0 hn) (fun w => Bin_0 n _ _ w h0 hn)
  have e : (v * (b % 2 ^ n) % 2 ^ n + d % 2 ^ n) % 2 ^ n = (v * b + d) % 2 ^ n := by
    rw [← Nat.add_mod, Nat.add_mod, Nat.mul_mod, Nat.mod_mod, ← Nat.mul_mod, ← Nat.add_mod]
  rw [e] at h
  exact h
end Go.Proofs.YtcifljbcoioogaaGreatDoor
namespace Go.Proofs.YtcifljbcoioogaaGreatDoor
open Go.RowKit
/-- The cells of a variable of five. -/
def f5 (a b c d e : Value) : Nat → Value
  | 0 => a
  | 1 => b
  | 2 => c
  | 3 => d
  | _ => e
/-- Block k of memory is a variable of five cells. -/
def H5 (t : TypeId) (w : World) (k : Nat) (a b c d e : Value) : Prop := w.rowIs k t 5 (f5 a b c d e)
section
variable {t : TypeId} {w w' : World} {k : Nat} {a b c d e : Value}
theorem H5.all (h : H5 t w k a b c d e) : w.cell? ⟨k, 0, none⟩ = some a ∧ w.cell? ⟨k, 1, none⟩ = some b ∧ w.cell? ⟨k, 2, none⟩ = some c ∧ w.cell? ⟨k, 3, none⟩ = some d ∧ w.cell? ⟨k, 4, none⟩ = some e ∧ ∀ i, w.frozen? ⟨k, i, none⟩ = false :=
  ⟨World.rowIs.cell h (i := 0) (by decide), World.rowIs.cell h (i := 1) (by decide), World.rowIs.cell h (i := 2) (by decide), World.rowIs.cell h (i := 3) (by decide), World.rowIs.cell h (i := 4) (by decide), World.rowIs.frozen h⟩
theorem H5.lt (h : H5 t w k a b c d e) : k < w.heap.size := World.rowIs.lt h
theorem H5.over (h : H5 t w k a b c d e) (hb : Below w.heap.size w w') : H5 t w' k a b c d e := World.rowIs.of_block h (hb.block k h.lt)
theorem H5.alloc (h : H5 t w k a b c d e) (o : Obj) : H5 t (w.alloc o) k a b c d e := World.rowIs.alloc h o
theorem H5.new (w : World) (t : TypeId) (a b c d e : Value) : H5 t (w.alloc (.cells #[a, b, c, d, e] t)) w.heap.size a b c d e := by
  refine ⟨_, heap_alloc_new w _, rfl, fun i hi => ?_⟩
  match i, hi with
  | 0, _ => rfl
  | 1, _ => rfl
  | 2, _ => rfl
  | 3, _ => rfl
  | 4, _ => rfl
end
/-- A number of lit: width, value, signed?, sized? -/
def lv (n x : Nat) (sg sz : Bool) : Value := .agg #[.int .i64 (n : Int), .int .u64 ((lo x : Nat) : Int), .int .u64 ((hi x : Nat) : Int), .bool sg, .bool sz]
set_option maxRecDepth 100000 in
set_option maxHeartbeats 3200000 in
theorem Of_bad2 (n : Int) (w : World) (h : 2147483648 ≤ n) :
    Calls Tryz.prog 65 #[.int .i64 n] w (RV w (.tuple #[lv 0 0 false false, .int .i64 3])) := by
  have h0 : ¬ n < 0 := by omega
  go_enter Tryz.func65, Tryz.ntmps65
  go_wp2_with fail
  refine bodyPost_ret (v := .tuple #[lv 0 0 false false, .int .i64 3]) (by simp [results, Tryz.results65, go_sem, lv, lo, hi]) rfl ⟨rfl, ?_⟩
  go_grown
set_option maxRecDepth 100000 in
set_option maxHeartbeats 3200000 in
theorem Of_good (n : Nat) (w : World) (h : n < 2147483648) :
    Calls Tryz.prog 65 #[.int .i64 (n : Int)] w (RV w (.tuple #[lv 32 n true false, .int .i64 0])) := by
  have h0 : ¬ (n : Int) < 0 := by omega
  have h1 : ¬ (2147483648 : Int) ≤ (n : Int) := by omega
  have hN : ∀ (w : World) (g : Nat), g = w.heap.size → Calls Tryz.prog 94 #[.int .i64 32, .slice (some ⟨g, 0, none⟩) 1 1] (w.alloc (.cells #[.int .u64 (n : Int)] 87)) (RV (w.alloc (.cells #[.int .u64 (n : Int)] 87)) (.tuple #[vv 32 n, .int .i64 0])) := fun w g hg => by
    have h := New_one 32 n w g hg (by decide) (by decide) (by omega)
    rw [Nat.mod_eq_of_lt (by omega)] at h
    exact h
  replace hN := Lib.hid hN
  have en : IntKind.u64.wrap (n : Int) = n := IntWalk.u64_in _ (by omega)
  go_enter Tryz.func65, Tryz.ntmps65
  go_wp2_with fail
  (with_reducible refine (hN.out _ _ (by simp)).mono ?_)
  rintro e w1 ⟨rfl, hb1⟩
  have hbw1 : Below w.heap.size w w1 := below_call hb1 (by go_grown)
  have z1 := hbw1.size
  have Rh := ((H5.new w 102 (.int .i64 0) (.int .u64 0) (.int .u64 0) (.bool false) (.bool false)).alloc (.cells #[.int .u64 (n : Int)] 87)).over hb1
  have Ra := Rh.all
  have Rl := Rh.lt
  clear hb1 Rh
  go_wp2_with fail
  refine bodyPost_ret (v := .tuple #[lv 32 n true false, .int .i64 0]) (by simp [results, Tryz.results65, go_sem, lv, Ra, Rl]) rfl ⟨rfl, ?_⟩
  go_grown
end Go.Proofs.YtcifljbcoioogaaGreatDoor
namespace Go.Proofs.YtcifljbcoioogaaGreatDoor
open Go.RowKit
/-- The number in the first k bytes of digits in the base b, modulo 2 to the n. -/
def numF (s : ByteArray) (b n : Nat) : Nat → Nat
  | 0 => 0
  | k + 1 => if bt s k = 95 then numF s b n k else (numF s b n k * b + digV (bt s k)) % 2 ^ n
set_option maxRecDepth 100000 in
set_option maxHeartbeats 1600000 in
theorem number_bad (s : ByteArray) (b n : Int) (w : World) (h : n < 1 ∨ 128 < n) :
    Calls Tryz.prog 67 #[.string s, .int .i64 b, .int .i64 n] w (RV w (.tuple #[vv 0 0, .int .i64 2])) := by
  have hN := Lib.hid (fun w => New_bad n 0 0 none w h)
  clear h
  go_enter Tryz.func67, Tryz.ntmps67
  go_wp2_with (go_at_call 94; (with_reducible refine (hN.out _).mono ?_); rintro e w1 ⟨rfl, hb1⟩; have Rh := (HV.zero w 100).over hb1; have Ra := Rh.all; have Rl := Rh.lt; have hbw1 : Below w.heap.size w w1 := below_call hb1 (by go_grown); clear hb1 Rh)
  refine bodyPost_ret (v := .tuple #[vv 0 0, .int .i64 2]) (by simp [results, Tryz.results67, go_sem, Ra, Rl, vv, lo, hi]) rfl ⟨rfl, ?_⟩
  go_grown
set_option maxRecDepth 100000 in
set_option maxHeartbeats 3200000 in
theorem number_good (s : ByteArray) (b n : Nat) (w : World) (hs : s.size ≤ maxLen) (hb16 : b ≤ 16) (h1 : 1 ≤ n) (hn : n ≤ 128) :
    Calls Tryz.prog 67 #[.string s, .int .i64 (b : Int), .int .i64 (n : Int)] w (RV w (.tuple #[vv n (numF s b n s.size), .int .i64 0])) := by
  unfold maxLen at hs
  have hN := Lib.hid (fun w => New_none n w h1 hn)
  go_enter Tryz.func67, Tryz.ntmps67
  go_wp2_with (go_at_call 94; (with_reducible refine (hN.out _).mono ?_); rintro e w1 ⟨rfl, hb1⟩; have Z1 := ((HV.zero w 100).over hb1); have z1l := Z1.lt; have hbw1 : Below w.heap.size w w1 := below_call hb1 (by go_grown); clear hb1)
  go_loopw [22] (fun i wr => ∃ k : Nat, k ≤ s.size ∧ i = .int .i64 (k : Int) ∧ HV 100 wr w.heap.size 0 0 ∧ HV 100 wr w1.heap.size n (numF s b n k) ∧ Below w.heap.size w wr) (fun i _ => s.size - (intOf i).toNat)
  case atStart => exact ⟨0, Nat.zero_le _, rfl, Z1.alloc _, HV.new w1 100 n 0, by go_grown⟩
  case round =>
    obtain ⟨k, hk, rfl, Z2, V2, hbw2⟩ := hrel
    have va := V2.all
    have vl := V2.lt
    have zl := Z2.lt
    by_cases hlt : k < s.size
    · have hbt := bt_at s k hlt
      have hd := digV_le (bt s k)
      have hl := bt_lt s k
      have hn1 : numF s b n (k + 1) = if bt s k = 95 then numF s b n k else (numF s b n k * b + digV (bt s k)) % 2 ^ n := rfl
      by_cases h3 : bt s k = 95
      · rw [if_pos h3] at hn1
        have u1 : (((bt s k : Nat) : Int) != 95) = false := by simp [h3]
        have u2 : ((bt s k) != 95) = false := by simp [h3]
        have E := Lib.hid hn1
        clear hn1 h3 hd
        generalize bt s k = c at *
        go_wp2_with fail
        go_round
        case rel => exact ⟨k + 1, by omega, by go_num, Z2, by rw [E.out]; exact V2, hbw2⟩
        case measure => simp [intOf]; omega
      · rw [if_neg h3] at hn1
        have u1 : (((bt s k : Nat) : Int) != 95) = true := by simp; omega
        have u2 : ((bt s k) != 95) = true := by simp; omega
        have cD := Lib.hid (fun w => digitOf_t (bt s k) w hl)
        have cW := fun w => withDigit_t n (numF s b n k) b (digV (bt s k)) w h1 hn hb16 hd
        rw [← hn1] at cW
        obtain ⟨y, hy⟩ : ∃ y, numF s b n (k + 1) = y := ⟨_, rfl⟩
        rw [hy] at cW
        clear hn1 h3 hd
        replace cW := Lib.hid cW
        generalize digV (bt s k) = dv at *
        replace hy := Lib.hid hy
        generalize numF s b n k = x at *
        generalize bt s k = c at *
        go_wp2_with fail
        refine region_anyT (n := 7) (S := fun w' => w'.cell? ⟨w1.heap.size, 0, none⟩ = some (.int .i64 (n : Int)) ∧ w'.cell? ⟨w1.heap.size, 1, none⟩ = some (.int .u64 ((lo x : Nat) : Int)) ∧ w'.cell? ⟨w1.heap.size, 2, none⟩ = some (.int .u64 ((hi x : Nat) : Int))) (by kernel_rfl) ?_
        refine anyT_take (i := 0) (v := vv n x) rfl (by kernel_rfl) (by kernel_rfl) (fun _ _ _ h => h) (Or.inl ⟨by rfl, ?_⟩) V2.drew.keep3 ?_
        · intro wq hS
          obtain ⟨s0, s1, s2⟩ := hS
          go_simp
          try with_reducible rfl
        try simp only [Act.put, List.getElem_toArray, List.getElem_cons_zero, List.setIfInBounds_toArray, List.set_cons_zero, List.set_cons_succ]
        refine anyT_take (i := 1) (v := .int .i64 (b : Int)) rfl (by kernel_rfl) (by kernel_rfl) (fun _ _ _ h => h) (Or.inl ⟨by rfl, ?_⟩) V2.drew.keep3 ?_
        · intro wq hS
          obtain ⟨s0, s1, s2⟩ := hS
          go_simp
          try with_reducible rfl
        try simp only [Act.put, List.getElem_toArray, List.getElem_cons_zero, List.getElem_cons_succ, List.setIfInBounds_toArray, List.set_cons_zero, List.set_cons_succ]
        refine anyT_take (i := 2) (v := .string s) rfl (by kernel_rfl) (by kernel_rfl) (fun _ _ _ h => h) (Or.inl ⟨by rfl, ?_⟩) V2.drew.keep3 ?_
        · intro wq hS
          obtain ⟨s0, s1, s2⟩ := hS
          go_simp
          try with_reducible rfl
        try simp only [Act.put, List.getElem_toArray, List.getElem_cons_zero, List.getElem_cons_succ, List.setIfInBounds_toArray, List.set_cons_zero, List.set_cons_succ]
        refine anyT_take (i := 3) (v := .int .i64 (k : Int)) rfl (by kernel_rfl) (by kernel_rfl) (fun _ _ _ h => h) (Or.inl ⟨by rfl, ?_⟩) V2.drew.keep3 ?_
        · intro wq hS
          obtain ⟨s0, s1, s2⟩ := hS
          go_simp
          try with_reducible rfl
        try simp only [Act.put, List.getElem_toArray, List.getElem_cons_zero, List.getElem_cons_succ, List.setIfInBounds_toArray, List.set_cons_zero, List.set_cons_succ]
        refine anyT_take (i := 4) (v := .int .u8 (c : Int)) rfl (by kernel_rfl) (by kernel_rfl) (fun _ _ _ h => h) (Or.inl ⟨by rfl, ?_⟩) V2.drew.keep3 ?_
        · intro wq hS
          obtain ⟨s0, s1, s2⟩ := hS
          go_simp
          try with_reducible rfl
        try simp only [Act.put, List.getElem_toArray, List.getElem_cons_zero, List.getElem_cons_succ, List.setIfInBounds_toArray, List.set_cons_zero, List.set_cons_succ]
        refine anyT_one (i := 5) (by kernel_rfl) ?_
        refine wpOp_step rfl (fun K hK => ?_)
        replace hK := Lib.hid hK
        go_simp
        (with_reducible refine (cD.out _).mono ?_)
        rintro e w3 ⟨rfl, hw3⟩
        subst hw3
        refine hK.out _ _ ⟨fun _ => V2.drew.keep3, ?_⟩
        clear hK K
        try simp only [Act.put, List.getElem_toArray, List.getElem_cons_zero, List.getElem_cons_succ, List.setIfInBounds_toArray, List.set_cons_zero, List.set_cons_succ]
        refine anyT_one (i := 6) (by kernel_rfl) ?_
        refine wpOp_step rfl (fun K hK => ?_)
        replace hK := Lib.hid hK
        go_simp
        (with_reducible refine (cW.out _).mono ?_)
        rintro e w3 ⟨rfl, hb3⟩
        have V3 := V2.drew.over hb3
        have Z3 := Z2.drew.over hb3
        have hbw3 : Below w.heap.size w w3 := below_call hb3 hbw2.drew
        have v3a := V3.all
        have v3l := V3.lt
        have z3l := Z3.lt
        refine hK.out _ _ ⟨fun _ => V3.keep3, ?_⟩
        clear hK K hb3 va vl
        try simp only [Act.put, List.getElem_toArray, List.getElem_cons_zero, List.getElem_cons_succ, List.setIfInBounds_toArray, List.set_cons_zero, List.set_cons_succ]
        refine anyT_one (i := 7) (by kernel_rfl) ?_
        refine wpOp_step rfl (fun K hK => ?_)
        replace hK := Lib.hid hK
        go_simp
        refine hK.out _ _ ⟨fun h => absurd h (by omega), ?_⟩
        clear hK K
        try simp only [Act.put, List.getElem_toArray, List.getElem_cons_zero, List.getElem_cons_succ, List.setIfInBounds_toArray, List.set_cons_zero, List.set_cons_succ]
        refine anyT_done (by kernel_rfl) ?_ _
        go_wp2_with fail
        go_round
        case rel => exact ⟨k + 1, by omega, by go_num, Z3.far3 (by omega), by rw [hy.out]; exact V3.set3 n y, by go_grown⟩
        case measure => simp [intOf]; omega
    · obtain rfl : k = s.size := by omega
      have za := Z2.all
      go_wp2_with fail
      refine bodyPost_ret (v := .tuple #[vv n (numF s b n s.size), .int .i64 0]) (by simp [results, Tryz.results67, go_sem, za, vv]) rfl ⟨rfl, ?_⟩
      go_grown
end Go.Proofs.YtcifljbcoioogaaGreatDoor
namespace Go.Proofs.YtcifljbcoioogaaGreatDoor
open Go.RowKit
set_option maxRecDepth 100000 in
set_option maxHeartbeats 3200000 in
theorem Parse_err (s : ByteArray) (e : Int) (w : World) (he : e ≠ 0)
    (hS : ∀ w, Calls Tryz.prog 64 #[.string s] w (RV w (pv ⟨#[]⟩ ⟨#[]⟩ 0 false false e))) :
    Calls Tryz.prog 52 #[.string s] w (RV w (.tuple #[lv 0 0 false false, .int .i64 e])) := by
  have e1 : (e != 0) = true := by simp [he]
  clear he
  unfold pv at hS
  replace hS := Lib.hid hS
  go_enter Tryz.func52, Tryz.ntmps52
  go_wp2_with fail
  (with_reducible refine (hS.out _).mono ?_)
  rintro e w1 ⟨rfl, hb1⟩
  have Rh := (H5.new w 102 (.int .i64 0) (.int .u64 0) (.int .u64 0) (.bool false) (.bool false)).over hb1
  have Ra := Rh.all
  have Rl := Rh.lt
  have hbw1 : Below w.heap.size w w1 := below_call hb1 (by go_grown)
  have z1 := hbw1.size
  clear hb1
  go_wp2_with fail
  refine bodyPost_ret (v := .tuple #[lv 0 0 false false, .int .i64 e]) (by simp [results, Tryz.results52, go_sem, Ra, Rl, lv, lo, hi]) rfl ⟨rfl, ?_⟩
  go_grown
set_option maxRecDepth 100000 in
set_option maxHeartbeats 3200000 in
theorem Parse_plain (s : ByteArray) (c : Nat) (n x : Nat) (a : Bool) (e : Int) (w : World)
    (hS : ∀ w, Calls Tryz.prog 64 #[.string s] w (RV w (pv ⟨#[]⟩ s 0 false false 0)))
    (hC : ∀ w, Calls Tryz.prog 66 #[.string s, .int .i64 2147483648] w fun e w' => e = .returned (.int .i64 (c : Int)) ∧ w' = w)
    (hO : ∀ w, Calls Tryz.prog 65 #[.int .i64 (c : Int)] w (RV w (.tuple #[lv n x a false, .int .i64 e]))) :
    Calls Tryz.prog 52 #[.string s] w (RV w (.tuple #[lv n x a false, .int .i64 e])) := by
  unfold pv at hS
  replace hS := Lib.hid hS
  replace hC := Lib.hid hC
  unfold lv at hO
  replace hO := Lib.hid hO
  go_enter Tryz.func52, Tryz.ntmps52
  go_wp2_with fail
  (with_reducible refine (hS.out _).mono ?_)
  rintro e w1 ⟨rfl, hb1⟩
  have Rh := (H5.new w 102 (.int .i64 0) (.int .u64 0) (.int .u64 0) (.bool false) (.bool false)).over hb1
  have Ra := Rh.all
  have Rl := Rh.lt
  have hbw1 : Below w.heap.size w w1 := below_call hb1 (by go_grown)
  have z1 := hbw1.size
  clear hb1
  have P1 := H5.new w1 120 (.string ⟨#[]⟩) (.string s) (.int .i64 ((0 : Nat) : Int)) (.bool false) (.bool false)
  go_wp2_with fail
  (with_reducible refine (hC.out _).mono ?_)
  rintro e w' ⟨rfl, hw'⟩
  subst hw'
  go_wp2_with fail
  (with_reducible refine (hO.out _).mono ?_)
  rintro e w2 ⟨rfl, hb2⟩
  have R2 := (Rh.alloc _).over hb2
  have hbw2 : Below w.heap.size w w2 := below_call hb2 (by go_grown)
  have r2 := R2.all
  clear Rh Ra Rl P1 hb2
  go_wp2_with fail
  refine bodyPost_ret (v := .tuple #[lv n x a false, .int .i64 e]) (by simp [results, Tryz.results52, go_sem, r2, lv]) rfl ⟨rfl, ?_⟩
  go_grown
set_option maxRecDepth 100000 in
set_option maxHeartbeats 3200000 in
theorem Parse_none_ok (s dg : ByteArray) (b : Nat) (sg : Bool) (x : Nat) (w : World)
    (hS : ∀ w, Calls Tryz.prog 64 #[.string s] w (RV w (pv ⟨#[]⟩ dg b true sg 0)))
    (hN : ∀ w, Calls Tryz.prog 67 #[.string dg, .int .i64 (b : Int), .int .i64 32] w (RV w (.tuple #[vv 32 x, .int .i64 0]))) :
    Calls Tryz.prog 52 #[.string s] w (RV w (.tuple #[lv 32 x sg false, .int .i64 0])) := by
  unfold pv at hS
  replace hS := Lib.hid hS
  replace hN := Lib.hid hN
  go_enter Tryz.func52, Tryz.ntmps52
  go_wp2_with fail
  (with_reducible refine (hS.out _).mono ?_)
  rintro e w1 ⟨rfl, hb1⟩
  have Rh := (H5.new w 102 (.int .i64 0) (.int .u64 0) (.int .u64 0) (.bool false) (.bool false)).over hb1
  have Ra := Rh.all
  have Rl := Rh.lt
  have hbw1 : Below w.heap.size w w1 := below_call hb1 (by go_grown)
  have z1 := hbw1.size
  clear hb1
  have P1 := H5.new w1 120 (.string ⟨#[]⟩) (.string dg) (.int .i64 (b : Int)) (.bool true) (.bool sg)
  go_wp2_with fail
  (with_reducible refine (hN.out _).mono ?_)
  rintro e w2 ⟨rfl, hb2⟩
  have R2 := (Rh.alloc _).over hb2
  have P2 := P1.over hb2
  have hbw2 : Below w.heap.size w w2 := below_call hb2 (by go_grown)
  have r2 := R2.all
  have r2l := R2.lt
  have p2 := P2.all
  have p2l := P2.lt
  clear Rh Ra Rl P1 hb2
  go_wp2_with fail
  refine bodyPost_ret (v := .tuple #[lv 32 x sg false, .int .i64 0]) (by simp [results, Tryz.results52, go_sem, r2, r2l, lv]) rfl ⟨rfl, ?_⟩
  go_grown
set_option maxRecDepth 100000 in
set_option maxHeartbeats 3200000 in
theorem Parse_some_bad (s dg wd : ByteArray) (b : Nat) (sg : Bool) (n : Nat) (w : World) (hw : 0 < wd.size)
    (hS : ∀ w, Calls Tryz.prog 64 #[.string s] w (RV w (pv wd dg b true sg 0)))
    (hC : ∀ w, Calls Tryz.prog 66 #[.string wd, .int .i64 129] w fun e w' => e = .returned (.int .i64 (n : Int)) ∧ w' = w)
    (hN : ∀ w, Calls Tryz.prog 67 #[.string dg, .int .i64 (b : Int), .int .i64 (n : Int)] w (RV w (.tuple #[vv 0 0, .int .i64 2]))) :
    Calls Tryz.prog 52 #[.string s] w (RV w (.tuple #[lv 0 0 false false, .int .i64 2])) := by
  obtain ⟨q1, q2⟩ := nemp wd hw
  clear hw
  replace hC := Lib.hid hC
  unfold pv at hS
  replace hS := Lib.hid hS
  replace hN := Lib.hid hN
  go_enter Tryz.func52, Tryz.ntmps52
  go_wp2_with fail
  (with_reducible refine (hS.out _).mono ?_)
  rintro e w1 ⟨rfl, hb1⟩
  have Rh := (H5.new w 102 (.int .i64 0) (.int .u64 0) (.int .u64 0) (.bool false) (.bool false)).over hb1
  have Ra := Rh.all
  have Rl := Rh.lt
  have hbw1 : Below w.heap.size w w1 := below_call hb1 (by go_grown)
  have z1 := hbw1.size
  clear hb1
  have P1 := H5.new w1 120 (.string wd) (.string dg) (.int .i64 (b : Int)) (.bool true) (.bool sg)
  go_wp2_with fail
  (with_reducible refine (hC.out _).mono ?_)
  rintro e w' ⟨rfl, hw'⟩
  subst hw'
  go_wp2_with fail
  (with_reducible refine (hN.out _).mono ?_)
  rintro e w2 ⟨rfl, hb2⟩
  have R2 := (Rh.alloc _).over hb2
  have P2 := P1.over hb2
  have hbw2 : Below w.heap.size w w2 := below_call hb2 (by go_grown)
  have r2 := R2.all
  have r2l := R2.lt
  have p2 := P2.all
  have p2l := P2.lt
  clear Rh Ra Rl P1 hb2
  go_wp2_with fail
  refine bodyPost_ret (v := .tuple #[lv 0 0 false false, .int .i64 2]) (by simp [results, Tryz.results52, go_sem, r2, r2l, lv, lo, hi]) rfl ⟨rfl, ?_⟩
  go_grown
set_option maxRecDepth 100000 in
set_option maxHeartbeats 3200000 in
theorem Parse_some_ok (s dg wd : ByteArray) (b : Nat) (sg : Bool) (n : Nat) (x : Nat) (w : World) (hw : 0 < wd.size)
    (hS : ∀ w, Calls Tryz.prog 64 #[.string s] w (RV w (pv wd dg b true sg 0)))
    (hC : ∀ w, Calls Tryz.prog 66 #[.string wd, .int .i64 129] w fun e w' => e = .returned (.int .i64 (n : Int)) ∧ w' = w)
    (hN : ∀ w, Calls Tryz.prog 67 #[.string dg, .int .i64 (b : Int), .int .i64 (n : Int)] w (RV w (.tuple #[vv n x, .int .i64 0]))) :
    Calls Tryz.prog 52 #[.string s] w (RV w (.tuple #[lv n x sg true, .int .i64 0])) := by
  obtain ⟨q1, q2⟩ := nemp wd hw
  clear hw
  replace hC := Lib.hid hC
  unfold pv at hS
  replace hS := Lib.hid hS
  replace hN := Lib.hid hN
  go_enter Tryz.func52, Tryz.ntmps52
  go_wp2_with fail
  (with_reducible refine (hS.out _).mono ?_)
  rintro e w1 ⟨rfl, hb1⟩
  have Rh := (H5.new w 102 (.int .i64 0) (.int .u64 0) (.int .u64 0) (.bool false) (.bool false)).over hb1
  have Ra := Rh.all
  have Rl := Rh.lt
  have hbw1 : Below w.heap.size w w1 := below_call hb1 (by go_grown)
  have z1 := hbw1.size
  clear hb1
  have P1 := H5.new w1 120 (.string wd) (.string dg) (.int .i64 (b : Int)) (.bool true) (.bool sg)
  go_wp2_with fail
  (with_reducible refine (hC.out _).mono ?_)
  rintro e w' ⟨rfl, hw'⟩
  subst hw'
  go_wp2_with fail
  (with_reducible refine (hN.out _).mono ?_)
  rintro e w2 ⟨rfl, hb2⟩
  have R2 := (Rh.alloc _).over hb2
  have P2 := P1.over hb2
  have hbw2 : Below w.heap.size w w2 := below_call hb2 (by go_grown)
  have r2 := R2.all
  have r2l := R2.lt
  have p2 := P2.all
  have p2l := P2.lt
  clear Rh Ra Rl P1 hb2
  go_wp2_with fail
  refine bodyPost_ret (v := .tuple #[lv n x sg true, .int .i64 0]) (by simp [results, Tryz.results52, go_sem, r2, r2l, lv]) rfl ⟨rfl, ?_⟩
  go_grown
end Go.Proofs.YtcifljbcoioogaaGreatDoor
namespace Go.Proofs.YtcifljbcoioogaaGreatDoor
open Go.RowKit
/-- What Parse returns: width, value, signed?, sized?, the error. -/
structure PR where
  n : Nat
  x : Nat
  sg : Bool
  sz : Bool
  e : Int
def badP (e : Int) : PR := ⟨0, 0, false, false, e⟩
def PR.val (p : PR) : Value := .tuple #[lv p.n p.x p.sg p.sz, .int .i64 p.e]
/-- Behind the base's letter's place: the text t begins with the letter. -/
def tlV (s : ByteArray) (h : Nat) (sg : Bool) (t : ByteArray) : PR :=
  if t.size = 0 then badP 6
  else if baseV (bt t 0) = 0 then badP 5
  else if (t.extract 1 t.size).size = 0 then badP 6
  else if dA (t.extract 1 t.size) (baseV (bt t 0)) < (t.extract 1 t.size).size then badP 5
  else if h = 0 then ⟨32, numF (t.extract 1 t.size) (baseV (bt t 0)) 32 (t.extract 1 t.size).size, sg, false, 0⟩
  else if 1 ≤ capF (s.extract 0 h) 129 (s.extract 0 h).size ∧ capF (s.extract 0 h) 129 (s.extract 0 h).size ≤ 128 then
    ⟨capF (s.extract 0 h) 129 (s.extract 0 h).size, numF (t.extract 1 t.size) (baseV (bt t 0)) (capF (s.extract 0 h) 129 (s.extract 0 h).size) (t.extract 1 t.size).size, sg, true, 0⟩
  else badP 2
/-- Behind the apostrophe. -/
def bhV (s : ByteArray) (h : Nat) (r : ByteArray) : PR :=
  if r.size = 0 then badP 6
  else if bt r 0 = 115 ∨ bt r 0 = 83 then tlV s h true (r.extract 1 r.size) else tlV s h false r
/-- Of a text. -/
def paV (s : ByteArray) : PR :=
  if dA s 10 = s.size then
    if s.size = 0 then badP 6
    else if capF s 2147483648 s.size < 2147483648 then ⟨32, capF s 2147483648 s.size, true, false, 0⟩ else badP 3
  else if bt s (dA s 10) = 39 then bhV s (dA s 10) (s.extract (dA s 10 + 1) s.size) else badP 5
theorem baseV_le (c : Nat) : baseV c ≤ 16 := by unfold baseV; (repeat' split) <;> omega
theorem Parse_tail (s : ByteArray) (w : World) (h : Nat) (sg : Bool) (t : ByteArray) (hs : s.size ≤ maxLen) (hl : h < s.size) (ht : t.size ≤ maxLen)
    (e1 : t.size = 0 → ∀ w, Calls Tryz.prog 64 #[.string s] w (RV w (pv ⟨#[]⟩ ⟨#[]⟩ 0 false false 6)))
    (e2 : 0 < t.size → baseV (bt t 0) = 0 → ∀ w, Calls Tryz.prog 64 #[.string s] w (RV w (pv ⟨#[]⟩ ⟨#[]⟩ 0 false false 5)))
    (e3 : 0 < t.size → ∀ b, baseV (bt t 0) = b → 0 < b → b ≤ 16 → ∀ d, t.extract 1 t.size = d → d.size = 0 → ∀ w, Calls Tryz.prog 64 #[.string s] w (RV w (pv ⟨#[]⟩ ⟨#[]⟩ 0 false false 6)))
    (e4 : 0 < t.size → ∀ b, baseV (bt t 0) = b → 0 < b → b ≤ 16 → ∀ d, t.extract 1 t.size = d → 0 < d.size → dA d b < d.size → ∀ w, Calls Tryz.prog 64 #[.string s] w (RV w (pv ⟨#[]⟩ ⟨#[]⟩ 0 false false 5)))
    (e5 : 0 < t.size → ∀ b, baseV (bt t 0) = b → 0 < b → b ≤ 16 → ∀ d, t.extract 1 t.size = d → 0 < d.size → dA d b = d.size → ∀ w, Calls Tryz.prog 64 #[.string s] w (RV w (pv (s.extract 0 h) d b true sg 0))) :
    Calls Tryz.prog 52 #[.string s] w (RV w (tlV s h sg t).val) := by
  unfold tlV
  by_cases c1 : t.size = 0
  · rw [if_pos c1]; exact Parse_err s 6 w (by decide) (e1 c1)
  rw [if_neg c1]
  have p1 : 0 < t.size := by omega
  have hb16 := baseV_le (bt t 0)
  obtain ⟨b, hb⟩ : ∃ b, baseV (bt t 0) = b := ⟨_, rfl⟩
  rw [hb] at hb16 ⊢
  by_cases c2 : b = 0
  · rw [if_pos c2]; exact Parse_err s 5 w (by decide) (e2 p1 (hb.trans c2))
  rw [if_neg c2]
  obtain ⟨d, hd⟩ : ∃ d, t.extract 1 t.size = d := ⟨_, rfl⟩
  have hds : d.size ≤ maxLen := by rw [← hd]; unfold maxLen at *; simp; omega
  rw [hd]
  by_cases c3 : d.size = 0
  · rw [if_pos c3]; exact Parse_err s 6 w (by decide) (e3 p1 b hb (by omega) hb16 d hd c3)
  rw [if_neg c3]
  by_cases c4 : dA d b < d.size
  · rw [if_pos c4]; exact Parse_err s 5 w (by decide) (e4 p1 b hb (by omega) hb16 d hd (by omega) c4)
  rw [if_neg c4]
  have hS := e5 p1 b hb (by omega) hb16 d hd (by omega) (by have := dA_le d b; omega)
  clear e1 e2 e3 e4 e5
  by_cases c5 : h = 0
  · rw [if_pos c5]
    subst c5
    have ew : s.extract 0 0 = ⟨#[]⟩ := by simp; rfl
    rw [ew] at hS
    exact Parse_none_ok s d b sg _ w hS (fun w => number_good d b 32 w hds hb16 (by decide) (by decide))
  rw [if_neg c5]
  have hws : (s.extract 0 h).size = h := by simp; omega
  obtain ⟨wd, hwd⟩ : ∃ wd, s.extract 0 h = wd := ⟨_, rfl⟩
  rw [hwd] at hS hws ⊢
  have hC := fun w => capped_t wd 129 w (by unfold maxLen at *; omega) (by decide)
  generalize capF wd 129 wd.size = n at *
  by_cases c6 : 1 ≤ n ∧ n ≤ 128
  · rw [if_pos c6]
    exact Parse_some_ok s d wd b sg n _ w (by omega) hS hC (fun w => number_good d b n w hds hb16 c6.1 c6.2)
  · rw [if_neg c6]
    exact Parse_some_bad s d wd b sg n w (by omega) hS hC (fun w => number_bad d b n w (by omega))
theorem Parse_t (s : ByteArray) (w : World) (hs : s.size ≤ maxLen) : Calls Tryz.prog 52 #[.string s] w (RV w (paV s).val) := by
  unfold paV
  have hle := dA_le s 10
  obtain ⟨h, hh⟩ : ∃ h, dA s 10 = h := ⟨_, rfl⟩
  rw [hh] at hle ⊢
  by_cases c1 : h = s.size
  · rw [if_pos c1]
    by_cases c2 : s.size = 0
    · rw [if_pos c2]; exact Parse_err s 6 w (by decide) (fun w => scan_end s w hs c2)
    · rw [if_neg c2]
      have hS := fun w => scan_plain s w hs (by omega) (hh.trans c1)
      have hC := fun w => capped_t s 2147483648 w hs (by decide)
      have hcl := capF_le s 2147483648 s.size
      generalize capF s 2147483648 s.size = c at *
      by_cases c3 : c < 2147483648
      · rw [if_pos c3]; exact Parse_plain s c 32 c true 0 w hS hC (fun w => Of_good c w c3)
      · rw [if_neg c3]; exact Parse_plain s c 0 0 false 3 w hS hC (fun w => Of_bad2 c w (by omega))
  rw [if_neg c1]
  have hl : h < s.size := by omega
  by_cases c2 : bt s h = 39
  · rw [if_pos c2]
    obtain ⟨r, hr⟩ : ∃ r, s.extract (h + 1) s.size = r := ⟨_, rfl⟩
    have hrs : r.size ≤ maxLen := by rw [← hr]; unfold maxLen at *; simp; omega
    rw [hr]
    unfold bhV
    by_cases c3 : r.size = 0
    · rw [if_pos c3]; exact Parse_err s 6 w (by decide) (fun w => scan_none_end s w hs h hh hl c2 r hr c3)
    rw [if_neg c3]
    have p3 : 0 < r.size := by omega
    by_cases c4 : bt r 0 = 115
    · rw [if_pos (Or.inl c4)]
      have hts : (r.extract 1 r.size).size ≤ maxLen := by unfold maxLen at *; simp; omega
      refine Parse_tail s w h true _ hs hl hts ?_ ?_ ?_ ?_ ?_
      · exact fun k0 w => scan_s_end s w hs h hh hl c2 r hr p3 c4 _ rfl k0
      · exact fun k0 hb w => scan_s_base s w hs h hh hl c2 r hr p3 c4 _ rfl k0 hb
      · exact fun k0 b hb hbp hb16 d hd d0 w => scan_s_dend s w hs h hh hl c2 r hr p3 c4 _ rfl k0 b hb hbp hb16 d hd d0
      · exact fun k0 b hb hbp hb16 d hd d0 hf w => scan_s_dform s w hs h hh hl c2 r hr p3 c4 _ rfl k0 b hb hbp hb16 d hd d0 hf
      · exact fun k0 b hb hbp hb16 d hd d0 hf w => scan_s_ok s w hs h hh hl c2 r hr p3 c4 _ rfl k0 b hb hbp hb16 d hd d0 hf
    by_cases c5 : bt r 0 = 83
    · rw [if_pos (Or.inr c5)]
      have hts : (r.extract 1 r.size).size ≤ maxLen := by unfold maxLen at *; simp; omega
      refine Parse_tail s w h true _ hs hl hts ?_ ?_ ?_ ?_ ?_
      · exact fun k0 w => scan_S_end s w hs h hh hl c2 r hr p3 c5 _ rfl k0
      · exact fun k0 hb w => scan_S_base s w hs h hh hl c2 r hr p3 c5 _ rfl k0 hb
      · exact fun k0 b hb hbp hb16 d hd d0 w => scan_S_dend s w hs h hh hl c2 r hr p3 c5 _ rfl k0 b hb hbp hb16 d hd d0
      · exact fun k0 b hb hbp hb16 d hd d0 hf w => scan_S_dform s w hs h hh hl c2 r hr p3 c5 _ rfl k0 b hb hbp hb16 d hd d0 hf
      · exact fun k0 b hb hbp hb16 d hd d0 hf w => scan_S_ok s w hs h hh hl c2 r hr p3 c5 _ rfl k0 b hb hbp hb16 d hd d0 hf
    rw [if_neg (fun h => h.elim c4 c5)]
    refine Parse_tail s w h false r hs hl hrs (fun k0 => absurd k0 c3) ?_ ?_ ?_ ?_
    · exact fun k0 hb w => scan_other_base s w hs h hh hl c2 r hr p3 c4 c5 hb
    · exact fun k0 b hb hbp hb16 d hd d0 w => scan_other_dend s w hs h hh hl c2 r hr p3 c4 c5 b hb hbp hb16 d hd d0
    · exact fun k0 b hb hbp hb16 d hd d0 hf w => scan_other_dform s w hs h hh hl c2 r hr p3 c4 c5 b hb hbp hb16 d hd d0 hf
    · exact fun k0 b hb hbp hb16 d hd d0 hf w => scan_other_ok s w hs h hh hl c2 r hr p3 c4 c5 b hb hbp hb16 d hd d0 hf
  · rw [if_neg c2]; exact Parse_err s 5 w (by decide) (fun w => scan_form s w hs h hh hl c2)
end Go.Proofs.YtcifljbcoioogaaGreatDoor
namespace Go.Proofs.YtcifljbcoioogaaGreatDoor
open Go.RowKit
theorem bt_ext (s : ByteArray) (q k : Nat) (hq : q ≤ s.size) (hk : k < q) : bt (s.extract 0 q) k = bt s k := by
  have h1 : k < (s.extract 0 q).size := by simp; omega
  have h2 : k < s.size := by omega
  rw [← bt_at _ k h1, ← bt_at s k h2]
  congr 1
  simp [ByteArray.getElem_extract]
/-- The number of the first k bytes, decimal, without a limit. -/
def decF (s : ByteArray) : Nat → Nat
  | 0 => 0
  | k + 1 => if bt s k = 95 then decF s k else decF s k * 10 + digV (bt s k)
theorem capF_min (s : ByteArray) (M : Nat) : ∀ k, capF s M k = min (decF s k) M
  | 0 => by unfold capF decF; omega
  | k + 1 => by
    have h := capF_min s M k
    unfold capF decF
    split
    · exact h
    · rw [h]; omega
theorem cap_same (s : ByteArray) (k : Nat) : (1 ≤ capF s 129 k ∧ capF s 129 k ≤ 128 → capF s 1000 k = capF s 129 k) ∧ (¬ (1 ≤ capF s 129 k ∧ capF s 129 k ≤ 128) → capF s 1000 k < 1 ∨ 128 < capF s 1000 k) := by
  rw [capF_min, capF_min]; omega
/-- Below the digits' run's end each byte is a digit or an underscore. -/
theorem dAF_good (s : ByteArray) (b : Nat) : ∀ f i k, i ≤ k → k < dAF s b f i → badB s b k = false
  | 0, i, k, h1, h2 => by unfold dAF at h2; omega
  | f + 1, i, k, h1, h2 => by
    unfold dAF at h2
    split at h2
    · omega
    · rename_i hb
      by_cases e : k = i
      · rw [e]; simpa using hb
      · exact dAF_good s b f (i + 1) k (by omega) h2
theorem dAF_bad (s : ByteArray) (b : Nat) : ∀ f i, dAF s b f i < i + f → badB s b (dAF s b f i) = true
  | 0, i, h => by unfold dAF at h; omega
  | f + 1, i, h => by
    unfold dAF at h ⊢
    split
    · assumption
    · rename_i hb
      rw [if_neg hb] at h
      exact dAF_bad s b f (i + 1) (by omega)
theorem dA_good (s : ByteArray) (b k : Nat) (h : k < dA s b) : badB s b k = false := dAF_good s b s.size 0 k (Nat.zero_le _) h
theorem dA_bad (s : ByteArray) (b : Nat) (h : dA s b < s.size) : badB s b (dA s b) = true := dAF_bad s b s.size 0 (by unfold dA at h; omega)
/-- The run's end is known by its two sides. -/
theorem dA_eq (s : ByteArray) (b h : Nat) (hl : h ≤ s.size) (hg : ∀ k, k < h → badB s b k = false) (hb : h < s.size → badB s b h = true) : dA s b = h := by
  rcases Nat.lt_trichotomy (dA s b) h with h1 | h1 | h1
  · have := dA_bad s b (by omega)
    rw [hg _ h1] at this
    cases this
  · exact h1
  · have h2 := dA_le s b
    have := dA_good s b h h1
    rw [hb (by omega)] at this
    cases this
theorem bad_ext (s : ByteArray) (b q k : Nat) (hq : q ≤ s.size) (hk : k < q) : badB (s.extract 0 q) b k = badB s b k := by unfold badB; rw [bt_ext s q k hq hk]
theorem ext_size (s : ByteArray) (q : Nat) (hq : q ≤ s.size) : (s.extract 0 q).size = q := by simp; omega
/-- The digits' run of what stands ahead of q. -/
theorem dA_ext (s : ByteArray) (b q : Nat) (hq : q ≤ s.size) : dA (s.extract 0 q) b = min (dA s b) q := by
  have hs := ext_size s q hq
  have hle := dA_le s b
  refine dA_eq _ b _ (by omega) (fun k hk => ?_) (fun h => ?_)
  · rw [bad_ext s b q k hq (by omega)]; exact dA_good s b k (by omega)
  · rw [bad_ext s b q _ hq (by omega), show min (dA s b) q = dA s b by omega]; exact dA_bad s b (by omega)
theorem bad_39 (s : ByteArray) (b k : Nat) (hb : b ≤ 16) (h : bt s k = 39) : badB s b k = true := by
  unfold badB
  rw [h, show digV 39 = 16 by decide]
  simp; omega
/-- q is the first apostrophe: the run ends there, or ahead of it. -/
theorem dA_first (s : ByteArray) (q : Nat) (h : bt s q = 39) : dA s 10 ≤ q := by
  rcases Nat.lt_or_ge q (dA s 10) with h1 | h1
  · have := dA_good s 10 q h1
    rw [bad_39 s 10 q (by decide) h] at this
    cases this
  · exact h1
/-- What Parse returns, told from the first apostrophe q. -/
theorem paV_at (s : ByteArray) (q : Nat) (hq : q < s.size) (h : bt s q = 39) (hf : ∀ k, k < q → bt s k ≠ 39) :
    paV s = if dA s 10 < q then badP 5 else bhV s q (s.extract (q + 1) s.size) := by
  have h1 := dA_first s q h
  unfold paV
  rw [if_neg (by omega)]
  by_cases h2 : dA s 10 < q
  · rw [if_pos h2, if_neg (hf _ h2)]
  · rw [if_neg h2, show dA s 10 = q by omega, if_pos h]
/-- .. and where there is none. -/
theorem paV_no (s : ByteArray) (hf : ∀ k, k < s.size → bt s k ≠ 39) :
    paV s = if s.size = 0 then badP 6 else if dA s 10 < s.size then badP 5 else if capF s 2147483648 s.size < 2147483648 then ⟨32, capF s 2147483648 s.size, true, false, 0⟩ else badP 3 := by
  have h1 := dA_le s 10
  unfold paV
  by_cases h0 : s.size = 0
  · rw [if_pos (by omega), if_pos h0, if_pos h0]
  simp only [if_neg h0]
  by_cases h2 : dA s 10 < s.size
  · rw [if_neg (by omega), if_neg (hf _ h2), if_pos h2]
  · rw [if_pos (by omega), if_neg h2]
end Go.Proofs.YtcifljbcoioogaaGreatDoor
namespace Go.Proofs.YtcifljbcoioogaaGreatDoor
open Go.RowKit
set_option maxRecDepth 100000 in
set_option maxHeartbeats 3200000 in
theorem negative_big (n x y : Nat) (w : World) (hU : ∀ w, Calls Tryz.prog 97 #[.int .i64 0, vv n x] w (RV w (.tuple #[vv n y, .int .i64 0]))) (hb : 2147483648 ≤ y) :
    Calls Tryz.prog 70 #[vv n x] w (RV w (.tuple #[.int .i64 0, .int .i64 3])) := by
  replace hU := Lib.hid hU
  have hM := fun w => Num_v n y 2147483648 w (by decide)
  have em : min y 2147483648 = 2147483648 := by omega
  rw [em] at hM
  clear em
  change ∀ w, Calls Tryz.prog 71 #[vv n y, .int .i64 2147483648] w _ at hM
  replace hM := Lib.hid hM
  go_enter Tryz.func70, Tryz.ntmps70
  go_wp2_with fail
  (with_reducible refine (hU.out _).mono ?_)
  rintro e w1 ⟨rfl, hb1⟩
  have hbw1 : Below w.heap.size w w1 := below_call hb1 (by go_grown)
  have z1 := hbw1.size
  clear hb1
  go_wp2_with fail
  (with_reducible refine (hM.out _).mono ?_)
  rintro e w2 ⟨rfl, hb2⟩
  have hbw2 : Below w.heap.size w w2 := below_call hb2 (by go_grown)
  have z2 := hbw2.size
  clear hb2
  go_wp2_with fail
  refine bodyPost_ret (v := .tuple #[.int .i64 0, .int .i64 3]) (by simp [results, Tryz.results70, go_sem]) rfl ⟨rfl, ?_⟩
  go_grown
set_option maxRecDepth 100000 in
set_option maxHeartbeats 3200000 in
theorem negative_ok (n x y : Nat) (w : World) (hU : ∀ w, Calls Tryz.prog 97 #[.int .i64 0, vv n x] w (RV w (.tuple #[vv n y, .int .i64 0]))) (hb : y < 2147483648) :
    Calls Tryz.prog 70 #[vv n x] w (RV w (.tuple #[.int .i64 (-1 - (y : Int)), .int .i64 0])) := by
  replace hU := Lib.hid hU
  have hM := fun w => Num_v n y 2147483648 w (by decide)
  have em : min y 2147483648 = y := by omega
  have ne : ((y : Int) == 2147483648) = false := by simp; omega
  have ne2 : (y == 2147483648) = false := by simp; omega
  have es : IntKind.i64.wrap (-1 - (y : Int)) = -1 - (y : Int) := IntWalk.i64_in _ (by omega)
  rw [em] at hM
  clear em
  change ∀ w, Calls Tryz.prog 71 #[vv n y, .int .i64 2147483648] w _ at hM
  replace hM := Lib.hid hM
  go_enter Tryz.func70, Tryz.ntmps70
  go_wp2_with fail
  (with_reducible refine (hU.out _).mono ?_)
  rintro e w1 ⟨rfl, hb1⟩
  have hbw1 : Below w.heap.size w w1 := below_call hb1 (by go_grown)
  have z1 := hbw1.size
  clear hb1
  go_wp2_with fail
  (with_reducible refine (hM.out _).mono ?_)
  rintro e w2 ⟨rfl, hb2⟩
  have hbw2 : Below w.heap.size w w2 := below_call hb2 (by go_grown)
  have z2 := hbw2.size
  clear hb2
  go_wp2_with fail
  refine bodyPost_ret (v := .tuple #[.int .i64 (-1 - (y : Int)), .int .i64 0]) (by simp [results, Tryz.results70, go_sem]) rfl ⟨rfl, ?_⟩
  go_grown
set_option maxRecDepth 100000 in
set_option maxHeartbeats 3200000 in
theorem Int_none (x : Nat) (sg sz : Bool) (w : World) : Calls Tryz.prog 53 #[lv 0 x sg sz] w (RV w (.tuple #[.int .i64 0, .int .i64 2])) := by
  have hW : ∀ w, Calls Tryz.prog 68 #[.agg #[.int .i64 0, .int .u64 ((lo x : Nat) : Int), .int .u64 ((hi x : Nat) : Int)]] w (RV w (.int .i64 0)) := fun w => Width_v 0 x w
  replace hW := Lib.hid hW
  unfold lv
  go_enter Tryz.func53, Tryz.ntmps53
  go_wp2_with fail
  (with_reducible refine (hW.out _).mono ?_)
  rintro e w1 ⟨rfl, hb1⟩
  have X1 := (H5.new w 102 (.int .i64 0) (.int .u64 ((lo x : Nat) : Int)) (.int .u64 ((hi x : Nat) : Int)) (.bool sg) (.bool sz)).over hb1
  have x1 := X1.all
  have x1l := X1.lt
  have hbw1 : Below w.heap.size w w1 := below_call hb1 (by go_grown)
  have z1 := hbw1.size
  clear hb1
  go_wp2_with fail
  refine bodyPost_ret (v := .tuple #[.int .i64 0, .int .i64 2]) (by simp [results, Tryz.results53, go_sem]) rfl ⟨rfl, ?_⟩
  go_grown
set_option maxRecDepth 100000 in
set_option maxHeartbeats 3200000 in
theorem Int_neg (n x : Nat) (sz : Bool) (v e : Int) (w : World) (h0 : 1 ≤ n) (hn : n ≤ 128)
    (hB : ∀ w, Calls Tryz.prog 69 #[vv n x, .int .i64 ((n : Int) - 1)] w (RV w (.bool true)))
    (hG : ∀ w, Calls Tryz.prog 70 #[vv n x] w (RV w (.tuple #[.int .i64 v, .int .i64 e]))) :
    Calls Tryz.prog 53 #[lv n x true sz] w (RV w (.tuple #[.int .i64 v, .int .i64 e])) := by
  replace hB := Lib.hid hB
  replace hG := Lib.hid hG
  have hW := Lib.hid (fun w => Width_v n x w)
  have nz : ((n : Int) == 0) = false := by simp; omega
  have en : IntKind.i64.wrap ((n : Int) - 1) = (n : Int) - 1 := IntWalk.i64_in _ (by omega)
  unfold lv
  go_enter Tryz.func53, Tryz.ntmps53
  go_wp2_with fail
  (with_reducible refine (hW.out _).mono ?_)
  rintro e w1 ⟨rfl, hb1⟩
  have X1 := (H5.new w 102 (.int .i64 (n : Int)) (.int .u64 ((lo x : Nat) : Int)) (.int .u64 ((hi x : Nat) : Int)) (.bool true) (.bool sz)).over hb1
  have x1 := X1.all
  have x1l := X1.lt
  have hbw1 : Below w.heap.size w w1 := below_call hb1 (by go_grown)
  have z1 := hbw1.size
  clear hb1
  go_wp2_with fail
  (with_reducible refine (hB.out _).mono ?_)
  rintro e w2 ⟨rfl, hb2⟩
  have X2 := X1.over hb2
  have x2 := X2.all
  have x2l := X2.lt
  have hbw2 : Below w.heap.size w w2 := below_call hb2 (by go_grown)
  have z2 := hbw2.size
  clear hb2
  go_wp2_with fail
  (with_reducible refine (hG.out _).mono ?_)
  rintro e w3 ⟨rfl, hb3⟩
  have hbw3 : Below w.heap.size w w3 := below_call hb3 (by go_grown)
  have z3 := hbw3.size
  clear hb3
  go_wp2_with fail
  refine bodyPost_ret (v := .tuple #[.int .i64 v, .int .i64 e]) (by simp [results, Tryz.results53, go_sem]) rfl ⟨rfl, ?_⟩
  go_grown
set_option maxRecDepth 100000 in
set_option maxHeartbeats 3200000 in
theorem Int_u_big (n x : Nat) (sz : Bool) (w : World) (h0 : 1 ≤ n) (hn : n ≤ 128) (hb : 2147483648 ≤ x)
    : Calls Tryz.prog 53 #[lv n x false sz] w (RV w (.tuple #[.int .i64 0, .int .i64 3])) := by
  have hM := fun w => Num_v n x 2147483648 w (by decide)
  have em : min x 2147483648 = 2147483648 := by omega
  rw [em] at hM
  clear em
  change ∀ w, Calls Tryz.prog 71 #[vv n x, .int .i64 2147483648] w _ at hM
  replace hM := Lib.hid hM
  have hW := Lib.hid (fun w => Width_v n x w)
  have nz : ((n : Int) == 0) = false := by simp; omega
  have en : IntKind.i64.wrap ((n : Int) - 1) = (n : Int) - 1 := IntWalk.i64_in _ (by omega)
  unfold lv
  go_enter Tryz.func53, Tryz.ntmps53
  go_wp2_with fail
  (with_reducible refine (hW.out _).mono ?_)
  rintro e w1 ⟨rfl, hb1⟩
  have X1 := (H5.new w 102 (.int .i64 (n : Int)) (.int .u64 ((lo x : Nat) : Int)) (.int .u64 ((hi x : Nat) : Int)) (.bool false) (.bool sz)).over hb1
  have x1 := X1.all
  have x1l := X1.lt
  have hbw1 : Below w.heap.size w w1 := below_call hb1 (by go_grown)
  have z1 := hbw1.size
  clear hb1
  go_wp2_with fail
  (with_reducible refine (hM.out _).mono ?_)
  rintro e w3 ⟨rfl, hb3⟩
  have hbw3 : Below w.heap.size w w3 := below_call hb3 (by go_grown)
  have z3 := hbw3.size
  clear hb3
  go_wp2_with fail
  refine bodyPost_ret (v := .tuple #[.int .i64 0, .int .i64 3]) (by simp [results, Tryz.results53, go_sem]) rfl ⟨rfl, ?_⟩
  go_grown
set_option maxRecDepth 100000 in
set_option maxHeartbeats 3200000 in
theorem Int_u_ok (n x : Nat) (sz : Bool) (w : World) (h0 : 1 ≤ n) (hn : n ≤ 128) (hb : x < 2147483648)
    : Calls Tryz.prog 53 #[lv n x false sz] w (RV w (.tuple #[.int .i64 (x : Int), .int .i64 0])) := by
  have hM := fun w => Num_v n x 2147483648 w (by decide)
  have em : min x 2147483648 = x := by omega
  have ne : ((x : Int) == 2147483648) = false := by simp; omega
  have ne2 : (x == 2147483648) = false := by simp; omega
  rw [em] at hM
  clear em
  change ∀ w, Calls Tryz.prog 71 #[vv n x, .int .i64 2147483648] w _ at hM
  replace hM := Lib.hid hM
  have hW := Lib.hid (fun w => Width_v n x w)
  have nz : ((n : Int) == 0) = false := by simp; omega
  have en : IntKind.i64.wrap ((n : Int) - 1) = (n : Int) - 1 := IntWalk.i64_in _ (by omega)
  unfold lv
  go_enter Tryz.func53, Tryz.ntmps53
  go_wp2_with fail
  (with_reducible refine (hW.out _).mono ?_)
  rintro e w1 ⟨rfl, hb1⟩
  have X1 := (H5.new w 102 (.int .i64 (n : Int)) (.int .u64 ((lo x : Nat) : Int)) (.int .u64 ((hi x : Nat) : Int)) (.bool false) (.bool sz)).over hb1
  have x1 := X1.all
  have x1l := X1.lt
  have hbw1 : Below w.heap.size w w1 := below_call hb1 (by go_grown)
  have z1 := hbw1.size
  clear hb1
  go_wp2_with fail
  (with_reducible refine (hM.out _).mono ?_)
  rintro e w3 ⟨rfl, hb3⟩
  have hbw3 : Below w.heap.size w w3 := below_call hb3 (by go_grown)
  have z3 := hbw3.size
  clear hb3
  go_wp2_with fail
  refine bodyPost_ret (v := .tuple #[.int .i64 (x : Int), .int .i64 0]) (by simp [results, Tryz.results53, go_sem]) rfl ⟨rfl, ?_⟩
  go_grown
set_option maxRecDepth 100000 in
set_option maxHeartbeats 3200000 in
theorem Int_s_big (n x : Nat) (sz : Bool) (w : World) (h0 : 1 ≤ n) (hn : n ≤ 128) (hb : 2147483648 ≤ x)
    (hB : ∀ w, Calls Tryz.prog 69 #[vv n x, .int .i64 ((n : Int) - 1)] w (RV w (.bool false)))
    : Calls Tryz.prog 53 #[lv n x true sz] w (RV w (.tuple #[.int .i64 0, .int .i64 3])) := by
  replace hB := Lib.hid hB
  have hM := fun w => Num_v n x 2147483648 w (by decide)
  have em : min x 2147483648 = 2147483648 := by omega
  rw [em] at hM
  clear em
  change ∀ w, Calls Tryz.prog 71 #[vv n x, .int .i64 2147483648] w _ at hM
  replace hM := Lib.hid hM
  have hW := Lib.hid (fun w => Width_v n x w)
  have nz : ((n : Int) == 0) = false := by simp; omega
  have en : IntKind.i64.wrap ((n : Int) - 1) = (n : Int) - 1 := IntWalk.i64_in _ (by omega)
  unfold lv
  go_enter Tryz.func53, Tryz.ntmps53
  go_wp2_with fail
  (with_reducible refine (hW.out _).mono ?_)
  rintro e w1 ⟨rfl, hb1⟩
  have X1 := (H5.new w 102 (.int .i64 (n : Int)) (.int .u64 ((lo x : Nat) : Int)) (.int .u64 ((hi x : Nat) : Int)) (.bool true) (.bool sz)).over hb1
  have x1 := X1.all
  have x1l := X1.lt
  have hbw1 : Below w.heap.size w w1 := below_call hb1 (by go_grown)
  have z1 := hbw1.size
  clear hb1
  go_wp2_with fail
  (with_reducible refine (hB.out _).mono ?_)
  rintro e w2 ⟨rfl, hb2⟩
  have X2 := X1.over hb2
  have x2 := X2.all
  have x2l := X2.lt
  have hbw2 : Below w.heap.size w w2 := below_call hb2 (by go_grown)
  have z2 := hbw2.size
  clear hb2
  go_wp2_with fail
  (with_reducible refine (hM.out _).mono ?_)
  rintro e w3 ⟨rfl, hb3⟩
  have hbw3 : Below w.heap.size w w3 := below_call hb3 (by go_grown)
  have z3 := hbw3.size
  clear hb3
  go_wp2_with fail
  refine bodyPost_ret (v := .tuple #[.int .i64 0, .int .i64 3]) (by simp [results, Tryz.results53, go_sem]) rfl ⟨rfl, ?_⟩
  go_grown
set_option maxRecDepth 100000 in
set_option maxHeartbeats 3200000 in
theorem Int_s_ok (n x : Nat) (sz : Bool) (w : World) (h0 : 1 ≤ n) (hn : n ≤ 128) (hb : x < 2147483648)
    (hB : ∀ w, Calls Tryz.prog 69 #[vv n x, .int .i64 ((n : Int) - 1)] w (RV w (.bool false)))
    : Calls Tryz.prog 53 #[lv n x true sz] w (RV w (.tuple #[.int .i64 (x : Int), .int .i64 0])) := by
  replace hB := Lib.hid hB
  have hM := fun w => Num_v n x 2147483648 w (by decide)
  have em : min x 2147483648 = x := by omega
  have ne : ((x : Int) == 2147483648) = false := by simp; omega
  have ne2 : (x == 2147483648) = false := by simp; omega
  rw [em] at hM
  clear em
  change ∀ w, Calls Tryz.prog 71 #[vv n x, .int .i64 2147483648] w _ at hM
  replace hM := Lib.hid hM
  have hW := Lib.hid (fun w => Width_v n x w)
  have nz : ((n : Int) == 0) = false := by simp; omega
  have en : IntKind.i64.wrap ((n : Int) - 1) = (n : Int) - 1 := IntWalk.i64_in _ (by omega)
  unfold lv
  go_enter Tryz.func53, Tryz.ntmps53
  go_wp2_with fail
  (with_reducible refine (hW.out _).mono ?_)
  rintro e w1 ⟨rfl, hb1⟩
  have X1 := (H5.new w 102 (.int .i64 (n : Int)) (.int .u64 ((lo x : Nat) : Int)) (.int .u64 ((hi x : Nat) : Int)) (.bool true) (.bool sz)).over hb1
  have x1 := X1.all
  have x1l := X1.lt
  have hbw1 : Below w.heap.size w w1 := below_call hb1 (by go_grown)
  have z1 := hbw1.size
  clear hb1
  go_wp2_with fail
  (with_reducible refine (hB.out _).mono ?_)
  rintro e w2 ⟨rfl, hb2⟩
  have X2 := X1.over hb2
  have x2 := X2.all
  have x2l := X2.lt
  have hbw2 : Below w.heap.size w w2 := below_call hb2 (by go_grown)
  have z2 := hbw2.size
  clear hb2
  go_wp2_with fail
  (with_reducible refine (hM.out _).mono ?_)
  rintro e w3 ⟨rfl, hb3⟩
  have hbw3 : Below w.heap.size w w3 := below_call hb3 (by go_grown)
  have z3 := hbw3.size
  clear hb3
  go_wp2_with fail
  refine bodyPost_ret (v := .tuple #[.int .i64 (x : Int), .int .i64 0]) (by simp [results, Tryz.results53, go_sem]) rfl ⟨rfl, ?_⟩
  go_grown
/-- What Int returns: the number, the error. -/
def inV (n x : Nat) (sg : Bool) : Int × Int :=
  if n = 0 then (0, 2)
  else if sg && x.testBit (n - 1) then (if 2147483648 ≤ 2 ^ n - 1 - x then (0, 3) else (-1 - ((2 ^ n - 1 - x : Nat) : Int), 0))
  else if 2147483648 ≤ x then (0, 3) else ((x : Int), 0)
theorem Int_t (n x : Nat) (sg sz : Bool) (w : World) (hn : n ≤ 128) (hx : x < 2 ^ n) :
    Calls Tryz.prog 53 #[lv n x sg sz] w (RV w (.tuple #[.int .i64 (inV n x sg).1, .int .i64 (inV n x sg).2])) := by
  unfold inV
  by_cases c1 : n = 0
  · subst c1; rw [if_pos rfl]; exact Int_none x sg sz w
  rw [if_neg c1]
  have h0 : 1 ≤ n := by omega
  have hB := fun w => Bit_v n x ((n : Int) - 1) w hn hx
  have eb : bitI n x ((n : Int) - 1) = x.testBit (n - 1) := by
    unfold bitI
    rw [show ((n : Int) - 1).toNat = n - 1 by omega, show decide (0 ≤ (n : Int) - 1 ∧ (n : Int) - 1 < n) = true by simp; omega, Bool.true_and]
  rw [eb] at hB
  clear eb
  cases sg
  · rw [Bool.false_and, if_neg (by decide)]
    by_cases c2 : 2147483648 ≤ x
    · rw [if_pos c2]; exact Int_u_big n x sz w h0 hn c2
    · rw [if_neg c2]; exact Int_u_ok n x sz w h0 hn (by omega)
  · rw [Bool.true_and]
    cases hb : x.testBit (n - 1)
    · rw [hb] at hB
      rw [if_neg (by decide)]
      by_cases c2 : 2147483648 ≤ x
      · rw [if_pos c2]; exact Int_s_big n x sz w h0 hn c2 hB
      · rw [if_neg c2]; exact Int_s_ok n x sz w h0 hn (by omega) hB
    · rw [hb] at hB
      rw [if_pos rfl]
      have hU := fun w => Un_0 n x w h0 hn hx
      generalize 2 ^ n - 1 - x = y at *
      by_cases c2 : 2147483648 ≤ y
      · rw [if_pos c2]; exact Int_neg n x sz 0 3 w h0 hn hB (fun w => negative_big n x y w hU c2)
      · rw [if_neg c2]; exact Int_neg n x sz _ 0 w h0 hn hB (fun w => negative_ok n x y w hU (by omega))
end Go.Proofs.YtcifljbcoioogaaGreatDoor
