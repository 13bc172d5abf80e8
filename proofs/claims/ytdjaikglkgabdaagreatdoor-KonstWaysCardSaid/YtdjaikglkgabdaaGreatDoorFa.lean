/-
  The walks of lit's digitOf and baseOf and of the reference's value.
  The walks of lit's digitsAhead, capped and baseOf.
-/
import Derived.Test.YtdjaikglkgabdaaGreatDoorWa
namespace Go.Proofs.YtdjaikglkgabdaaGreatDoor
open Go.RowKit
/-- The value of a digit; 16: it is none. -/
def digV (c : Nat) : Nat := if 48 ≤ c ∧ c ≤ 57 then c - 48 else if 97 ≤ c ∧ c ≤ 102 then c - 87 else if 65 ≤ c ∧ c ≤ 70 then c - 55 else 16
theorem digV_le (c : Nat) : digV c ≤ 16 := by unfold digV; split <;> (try split) <;> (try split) <;> omega
theorem digV_case (c : Nat) : (c < 48 ∧ digV c = 16) ∨ (48 ≤ c ∧ c ≤ 57 ∧ digV c = c - 48) ∨ (57 < c ∧ c < 65 ∧ digV c = 16) ∨ (65 ≤ c ∧ c ≤ 70 ∧ digV c = c - 55) ∨ (70 < c ∧ c < 97 ∧ digV c = 16) ∨ (97 ≤ c ∧ c ≤ 102 ∧ digV c = c - 87) ∨ (102 < c ∧ digV c = 16) := by
  unfold digV
  by_cases h1 : 48 ≤ c ∧ c ≤ 57
  · rw [if_pos h1]; omega
  · rw [if_neg h1]
    by_cases h2 : 97 ≤ c ∧ c ≤ 102
    · rw [if_pos h2]; omega
    · rw [if_neg h2]
      by_cases h3 : 65 ≤ c ∧ c ≤ 70
      · rw [if_pos h3]; omega
      · rw [if_neg h3]; omega
theorem ret_i64 {a b : Int} (h : a = b) : Ending.returned (.int .i64 a) = .returned (.int .i64 b) := by rw [h]
set_option maxRecDepth 100000 in
set_option maxHeartbeats 1600000 in
theorem digitOf_t (c : Nat) (w : World) (hc : c < 256) : Calls Tryz.prog 99 #[.int .u8 (c : Int)] w fun e w' => e = .returned (.int .i64 (digV c : Int)) ∧ w' = w := by
  have h0 : (0 : Int) ≤ (c : Int) := by omega
  have h255 : (c : Int) ≤ 255 := by omega
  rcases digV_case c with ⟨h1, e⟩ | ⟨h1, h2, e⟩ | ⟨h1, h2, e⟩ | ⟨h1, h2, e⟩ | ⟨h1, h2, e⟩ | ⟨h1, h2, e⟩ | ⟨h1, e⟩
  all_goals
    have E := Lib.hid e
    clear e
    have t1 : decide (48 ≤ (c : Int)) = decide (48 ≤ c) := by rw [Bool.eq_iff_iff]; simp; omega
    go_enter Tryz.func99, Tryz.ntmps99
    go_wp2
    go_ret
    exact ⟨ret_i64 (by rw [E.out]; omega), rfl⟩
end Go.Proofs.YtdjaikglkgabdaaGreatDoor
namespace Go.Proofs.YtdjaikglkgabdaaGreatDoor
open Go.RowKit
/-- Byte k of a string. -/
def bt (s : ByteArray) (k : Nat) : Nat := if h : k < s.size then s[k].toNat else 0
theorem bt_at (s : ByteArray) (k : Nat) (h : k < s.size) : s[k].toNat = bt s k := by unfold bt; rw [dif_pos h]
theorem bt_lt (s : ByteArray) (k : Nat) : bt s k < 256 := by
  unfold bt
  split
  · exact UInt8.toNat_lt _
  · decide
/-- Does the digits' run end here? -/
def badB (s : ByteArray) (b i : Nat) : Bool := decide (b ≤ digV (bt s i)) && (decide (i = 0) || decide (bt s i ≠ 95))
def dAF (s : ByteArray) (b : Nat) : Nat → Nat → Nat
  | 0, i => i
  | f + 1, i => if badB s b i then i else dAF s b f (i + 1)
/-- How many bytes at the beginning are digits of a base, or underscores behind the first. -/
def dA (s : ByteArray) (b : Nat) : Nat := dAF s b s.size 0
theorem dAF_le (s : ByteArray) (b : Nat) : ∀ f i, i ≤ dAF s b f i ∧ dAF s b f i ≤ i + f
  | 0, i => ⟨Nat.le_refl _, Nat.le_refl _⟩
  | f + 1, i => by
    unfold dAF
    split
    · omega
    · have := dAF_le s b f (i + 1); omega
theorem dA_le (s : ByteArray) (b : Nat) : dA s b ≤ s.size := by have := (dAF_le s b s.size 0).2; unfold dA; omega
set_option maxRecDepth 100000 in
set_option maxHeartbeats 1600000 in
theorem digitsAhead_t (s : ByteArray) (b : Nat) (w : World) (hs : s.size ≤ maxLen) (_hb : b ≤ 16) :
    Calls Tryz.prog 96 #[.string s, .int .i64 (b : Int)] w fun e w' => e = .returned (.int .i64 (dA s b : Int)) ∧ w' = w := by
  unfold maxLen at hs
  obtain ⟨R, hR⟩ : ∃ R, dA s b = R := ⟨_, rfl⟩
  have h0 : dAF s b (s.size - 0) 0 = R := hR
  rw [hR]
  clear hR
  go_enter Tryz.func96, Tryz.ntmps96
  go_wp2_with fail
  go_loop [8] (fun i => ∃ k : Nat, k ≤ s.size ∧ i = .int .i64 (k : Int) ∧ dAF s b (s.size - k) k = R) (fun i => s.size - (intOf i).toNat)
  case atStart => exact ⟨0, Nat.zero_le _, rfl, h0⟩
  case round =>
    obtain ⟨k, hk, rfl, hr⟩ := hrel
    clear h0
    by_cases hlt : k < s.size
    · have hbt := bt_at s k hlt
      have hd := digV_le (bt s k)
      have hl := bt_lt s k
      rw [show s.size - k = (s.size - (k + 1)) + 1 by omega, dAF] at hr
      have cD := Lib.hid (fun w => digitOf_t (bt s k) w hl)
      by_cases h1 : b ≤ digV (bt s k)
      · have t1 : decide ((b : Int) ≤ (digV (bt s k) : Int)) = true := by simp; omega
        have t1' : decide (b ≤ digV (bt s k)) = true := by simp; omega
        by_cases h2 : k = 0
        · have hB : badB s b k = true := by unfold badB; rw [t1']; simp [h2]
          rw [if_pos hB] at hr
          have z1 : ((k : Int) == 0) = true := by simp [h2]
          have z2 : (k == 0) = true := by simp [h2]
          have E := Lib.hid hr
          clear hr h2 hB h1 hd
          generalize digV (bt s k) = dv at *
          generalize bt s k = c at *
          go_wp2_with (go_at_call 99; (with_reducible refine (cD.out _).mono ?_); rintro e w' ⟨rfl, rfl⟩)
          go_ret
          exact ⟨ret_i64 (by rw [E.out]), rfl⟩
        · have z1 : ((k : Int) == 0) = false := by simp; omega
          have z2 : (k == 0) = false := by simp; omega
          by_cases h3 : bt s k = 95
          · have hB : badB s b k = false := by unfold badB; simp [h2, h3]
            rw [if_neg (by rw [hB]; decide)] at hr
            have u1 : (((bt s k : Nat) : Int) != 95) = false := by simp [h3]
            have u2 : ((bt s k) != 95) = false := by simp [h3]
            replace hr := Lib.hid hr
            clear hB h1 h3 hd
            generalize digV (bt s k) = dv at *
            generalize bt s k = c at *
            go_wp2_with (go_at_call 99; (with_reducible refine (cD.out _).mono ?_); rintro e w' ⟨rfl, rfl⟩)
            go_round
            case rel => exact ⟨k + 1, by omega, by go_num, hr.out⟩
            case measure => simp [intOf]; omega
          · have hB : badB s b k = true := by unfold badB; simp [h1, h3]
            rw [if_pos hB] at hr
            have u1 : (((bt s k : Nat) : Int) != 95) = true := by simp; omega
            have u2 : ((bt s k) != 95) = true := by simp; omega
            have E := Lib.hid hr
            clear hr hB h1 h3 hd
            generalize digV (bt s k) = dv at *
            generalize bt s k = c at *
            go_wp2_with (go_at_call 99; (with_reducible refine (cD.out _).mono ?_); rintro e w' ⟨rfl, rfl⟩)
            go_ret
            exact ⟨ret_i64 (by rw [E.out]), rfl⟩
      · have t1 : decide ((b : Int) ≤ (digV (bt s k) : Int)) = false := by simp; omega
        have t1' : decide (b ≤ digV (bt s k)) = false := by simp; omega
        have hB : badB s b k = false := by unfold badB; simp [t1']
        rw [if_neg (by rw [hB]; decide)] at hr
        replace hr := Lib.hid hr
        clear hB h1 hd
        generalize digV (bt s k) = dv at *
        generalize bt s k = c at *
        go_wp2_with (go_at_call 99; (with_reducible refine (cD.out _).mono ?_); rintro e w' ⟨rfl, rfl⟩)
        go_round
        case rel => exact ⟨k + 1, by omega, by go_num, hr.out⟩
        case measure => simp [intOf]; omega
    · obtain rfl : k = s.size := by omega
      rw [Nat.sub_self] at hr
      have E := Lib.hid (show s.size = R from hr)
      clear hr
      go_wp2_with fail
      go_ret
      exact ⟨ret_i64 (by rw [E.out]), rfl⟩
/-- The number in the first k bytes, decimal, at most M. -/
def capF (s : ByteArray) (M : Nat) : Nat → Nat
  | 0 => 0
  | k + 1 => if bt s k = 95 then capF s M k else min (capF s M k * 10 + digV (bt s k)) M
theorem capF_le (s : ByteArray) (M : Nat) : ∀ k, capF s M k ≤ M
  | 0 => Nat.zero_le _
  | k + 1 => by
    unfold capF
    split
    · exact capF_le s M k
    · exact Nat.min_le_right _ _
set_option maxRecDepth 100000 in
set_option maxHeartbeats 1600000 in
theorem capped_t (s : ByteArray) (M : Nat) (w : World) (hs : s.size ≤ maxLen) (hM : M ≤ 2147483648) :
    Calls Tryz.prog 70 #[.string s, .int .i64 (M : Int)] w fun e w' => e = .returned (.int .i64 (capF s M s.size : Int)) ∧ w' = w := by
  unfold maxLen at hs
  go_enter Tryz.func70, Tryz.ntmps70
  go_wp2_with fail
  go_loop [5, 9] (fun n i => ∃ k : Nat, k ≤ s.size ∧ i = .int .i64 (k : Int) ∧ n = .int .i64 (capF s M k : Int)) (fun _ i => s.size - (intOf i).toNat)
  case atStart => exact ⟨0, Nat.zero_le _, rfl, rfl⟩
  case round =>
    obtain ⟨k, hk, rfl, rfl⟩ := hrel
    by_cases hlt : k < s.size
    · have hbt := bt_at s k hlt
      have hd := digV_le (bt s k)
      have hl := bt_lt s k
      have hc := capF_le s M k
      have hn : capF s M (k + 1) = if bt s k = 95 then capF s M k else min (capF s M k * 10 + digV (bt s k)) M := rfl
      have cD := Lib.hid (fun w => digitOf_t (bt s k) w hl)
      by_cases h3 : bt s k = 95
      · rw [if_pos h3] at hn
        have u1 : (((bt s k : Nat) : Int) != 95) = false := by simp [h3]
        have u2 : ((bt s k) != 95) = false := by simp [h3]
        have E := Lib.hid hn
        clear hn h3 hd
        generalize digV (bt s k) = dv at *
        generalize bt s k = c at *
        go_wp2_with fail
        go_round
        case rel => exact ⟨k + 1, by omega, by go_num, by rw [E.out]⟩
        case measure => simp [intOf]; omega
      · rw [if_neg h3] at hn
        have u1 : (((bt s k : Nat) : Int) != 95) = true := by simp; omega
        have u2 : ((bt s k) != 95) = true := by simp; omega
        generalize digV (bt s k) = dv at *
        generalize bt s k = c at *
        generalize capF s M k = a at *
        have e1 : (a : Int) ≤ 2147483648 := by omega
        have e2 : (dv : Int) ≤ 16 := by omega
        by_cases h4 : (M : Int) < (a : Int) * 10 + (dv : Int)
        · have E := Lib.hid (show capF s M (k + 1) = M by rw [hn]; omega)
          clear hn h3
          go_wp2_with (go_at_call 99; (with_reducible refine (cD.out _).mono ?_); rintro e w' ⟨rfl, rfl⟩)
          all_goals
            go_round
            case rel => exact ⟨k + 1, by omega, by go_num, by rw [E.out] <;> first | rfl | (congr 1; omega)⟩
            case measure => simp [intOf]; omega
        · have E := Lib.hid (show capF s M (k + 1) = a * 10 + dv by rw [hn]; omega)
          clear hn h3
          go_wp2_with (go_at_call 99; (with_reducible refine (cD.out _).mono ?_); rintro e w' ⟨rfl, rfl⟩)
          all_goals
            go_round
            case rel => exact ⟨k + 1, by omega, by go_num, by rw [E.out] <;> first | rfl | (congr 1; omega)⟩
            case measure => simp [intOf]; omega
    · obtain rfl : k = s.size := by omega
      obtain ⟨a, ha⟩ : ∃ a, capF s M s.size = a := ⟨_, rfl⟩
      have E := Lib.hid ha
      rw [ha]
      clear ha
      go_wp2_with fail
      go_ret
      exact ⟨ret_i64 (by rw [E.out]), rfl⟩
/-- The base that a letter stands for, or 0. -/
def baseV (c : Nat) : Nat := if c = 98 ∨ c = 66 then 2 else if c = 111 ∨ c = 79 then 8 else if c = 100 ∨ c = 68 then 10 else if c = 104 ∨ c = 72 then 16 else 0
set_option maxRecDepth 100000 in
set_option maxHeartbeats 1600000 in
theorem baseOf_t (c : Nat) (w : World) (hc : c < 256) : Calls Tryz.prog 97 #[.int .u8 (c : Int)] w fun e w' => e = .returned (.int .i64 (baseV c : Int)) ∧ w' = w := by
  have h : c = 98 ∨ c = 66 ∨ c = 111 ∨ c = 79 ∨ c = 100 ∨ c = 68 ∨ c = 104 ∨ c = 72 ∨ (c ≠ 98 ∧ c ≠ 66 ∧ c ≠ 111 ∧ c ≠ 79 ∧ c ≠ 100 ∧ c ≠ 68 ∧ c ≠ 104 ∧ c ≠ 72) := by omega
  rcases h with rfl | rfl | rfl | rfl | rfl | rfl | rfl | rfl | ⟨h1, h2, h3, h4, h5, h6, h7, h8⟩
  case inr.inr.inr.inr.inr.inr.inr.inr =>
    have E := Lib.hid (show baseV c = 0 by unfold baseV; rw [if_neg (by omega), if_neg (by omega), if_neg (by omega), if_neg (by omega)])
    have n1 : ((c : Int) == 98) = false := by simp; omega
    have n2 : ((c : Int) == 66) = false := by simp; omega
    have n3 : ((c : Int) == 111) = false := by simp; omega
    have n4 : ((c : Int) == 79) = false := by simp; omega
    have n5 : ((c : Int) == 100) = false := by simp; omega
    have n6 : ((c : Int) == 68) = false := by simp; omega
    have n7 : ((c : Int) == 104) = false := by simp; omega
    have n8 : ((c : Int) == 72) = false := by simp; omega
    go_enter Tryz.func97, Tryz.ntmps97
    go_wp2
    go_ret
    exact ⟨ret_i64 (by rw [E.out]; rfl), rfl⟩
  all_goals
    go_enter Tryz.func97, Tryz.ntmps97
    go_wp2
    go_ret
    exact ⟨rfl, rfl⟩
end Go.Proofs.YtdjaikglkgabdaaGreatDoor
