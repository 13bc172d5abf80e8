/-
  The reference's value, digits and decimal.
  The reference's number: digits in a base, as a list of bits.
  The walk of the reference's Parse, where there is no apostrophe.
-/
import Derived.Test.YtcifljbcoioogaaGreatDoorFa
import Derived.Test.YtcifljbcoioogaaGreatDoorBa
namespace Go.Proofs.YtcifljbcoioogaaGreatDoor
open Go.RowKit
set_option maxRecDepth 100000 in
set_option maxHeartbeats 1600000 in
theorem refvalue_t (c : Nat) (w : World) (hc : c < 256) : Calls Tryz.prog 48 #[.int .u8 (c : Int)] w fun e w' => e = .returned (.int .i64 (digV c : Int)) ∧ w' = w := by
  have h0 : (0 : Int) ≤ (c : Int) := by omega
  have h255 : (c : Int) ≤ 255 := by omega
  rcases digV_case c with ⟨h1, e⟩ | ⟨h1, h2, e⟩ | ⟨h1, h2, e⟩ | ⟨h1, h2, e⟩ | ⟨h1, h2, e⟩ | ⟨h1, h2, e⟩ | ⟨h1, e⟩
  all_goals
    have E := Lib.hid e
    clear e
    have t1 : decide (48 ≤ (c : Int)) = decide (48 ≤ c) := by rw [Bool.eq_iff_iff]; simp; omega
    go_enter Tryz.func48, Tryz.ntmps48
    go_wp2
    go_ret
    exact ⟨ret_i64 (by rw [E.out]; omega), rfl⟩
/-- The error of what should be digits of a base. -/
def dgV (s : ByteArray) (b : Nat) : Int := if s.size = 0 then 6 else if dA s b < s.size then 5 else 0
set_option maxRecDepth 100000 in
set_option maxHeartbeats 1600000 in
theorem digits_none (s : ByteArray) (b : Int) (w : World) (h : s.toList = []) :
    Calls Tryz.prog 34 #[.string s, .int .i64 b] w fun e w' => e = .returned (.int .i64 6) ∧ w' = w := by
  go_enter Tryz.func34, Tryz.ntmps34
  go_wp2_with fail
  go_ret
  exact ⟨rfl, rfl⟩
set_option maxRecDepth 100000 in
set_option maxHeartbeats 1600000 in
theorem digits_some (s : ByteArray) (b : Nat) (v : Int) (w : World) (hs : s.size ≤ maxLen) (e1 : s.toList.isEmpty = false)
    (hv5 : dA s b < s.size → v = 5) (hv0 : dA s b = s.size → v = 0) :
    Calls Tryz.prog 34 #[.string s, .int .i64 (b : Int)] w fun e w' => e = .returned (.int .i64 v) ∧ w' = w := by
  unfold maxLen at hs
  obtain ⟨R, hR⟩ : ∃ R, dA s b = R := ⟨_, rfl⟩
  have h0 : dAF s b (s.size - 0) 0 = R := hR
  rw [hR] at hv5 hv0
  clear hR
  replace hv5 := Lib.hid hv5
  replace hv0 := Lib.hid hv0
  go_enter Tryz.func34, Tryz.ntmps34
  go_wp2_with fail
  go_loop [5] (fun i => ∃ k : Nat, k ≤ s.size ∧ i = .int .i64 (k : Int) ∧ dAF s b (s.size - k) k = R) (fun i => s.size - (intOf i).toNat)
  case atStart => exact ⟨0, Nat.zero_le _, rfl, h0⟩
  case round =>
    obtain ⟨k, hk, rfl, hr⟩ := hrel
    clear h0
    by_cases hlt : k < s.size
    · have hbt := bt_at s k hlt
      have hd := digV_le (bt s k)
      have hl := bt_lt s k
      rw [show s.size - k = (s.size - (k + 1)) + 1 by omega, dAF] at hr
      have cD := Lib.hid (fun w => refvalue_t (bt s k) w hl)
      by_cases h1 : b ≤ digV (bt s k)
      · have t1 : decide ((b : Int) ≤ (digV (bt s k) : Int)) = true := by simp; omega
        have t1' : decide (b ≤ digV (bt s k)) = true := by simp; omega
        by_cases h3 : bt s k = 95
        · have u1 : (((bt s k : Nat) : Int) != 95) = false := by simp [h3]
          have u2 : ((bt s k) != 95) = false := by simp [h3]
          by_cases h2 : k = 0
          · have hB : badB s b k = true := by unfold badB; rw [t1']; simp [h2]
            have z1 : ((k : Int) == 0) = true := by simp [h2]
            have z2 : (k == 0) = true := by simp [h2]
            rw [if_pos hB] at hr
            have E := Lib.hid (hv5.out (by rw [← hr]; exact hlt))
            clear hr h2 h3 hB h1 hd
            generalize digV (bt s k) = dv at *
            generalize bt s k = c at *
            go_wp2_with (go_at_call 48; (with_reducible refine (cD.out _).mono ?_); rintro e w' ⟨rfl, rfl⟩)
            go_ret
            exact ⟨ret_i64 (by rw [E.out]), rfl⟩
          · have hB : badB s b k = false := by unfold badB; simp [h2, h3]
            have z1 : ((k : Int) == 0) = false := by simp; omega
            have z2 : (k == 0) = false := by simp; omega
            rw [if_neg (by rw [hB]; decide)] at hr
            replace hr := Lib.hid hr
            clear hB h1 h3 hd
            generalize digV (bt s k) = dv at *
            generalize bt s k = c at *
            go_wp2_with (go_at_call 48; (with_reducible refine (cD.out _).mono ?_); rintro e w' ⟨rfl, rfl⟩)
            go_round
            case rel => exact ⟨k + 1, by omega, by go_num, hr.out⟩
            case measure => simp [intOf]; omega
        · have u1 : (((bt s k : Nat) : Int) != 95) = true := by simp; omega
          have u2 : ((bt s k) != 95) = true := by simp; omega
          have hB : badB s b k = true := by unfold badB; rw [t1']; simp [h3]
          rw [if_pos hB] at hr
          have E := Lib.hid (hv5.out (by rw [← hr]; exact hlt))
          clear hr hB h1 hd
          generalize digV (bt s k) = dv at *
          generalize bt s k = c at *
          go_wp2_with (go_at_call 48; (with_reducible refine (cD.out _).mono ?_); rintro e w' ⟨rfl, rfl⟩)
          go_ret
          exact ⟨ret_i64 (by rw [E.out]), rfl⟩
      · have t1 : decide ((b : Int) ≤ (digV (bt s k) : Int)) = false := by simp; omega
        have t1' : decide (b ≤ digV (bt s k)) = false := by simp; omega
        have hB : badB s b k = false := by unfold badB; simp [t1']
        rw [if_neg (by rw [hB]; decide)] at hr
        replace hr := Lib.hid hr
        clear hB h1 hd
        generalize digV (bt s k) = dv at *
        generalize bt s k = c at *
        go_wp2_with (go_at_call 48; (with_reducible refine (cD.out _).mono ?_); rintro e w' ⟨rfl, rfl⟩)
        go_round
        case rel => exact ⟨k + 1, by omega, by go_num, hr.out⟩
        case measure => simp [intOf]; omega
    · obtain rfl : k = s.size := by omega
      rw [Nat.sub_self] at hr
      have E := Lib.hid (hv0.out (show R = s.size from hr.symm))
      clear hr
      go_wp2_with fail
      go_ret
      exact ⟨ret_i64 (by rw [E.out]), rfl⟩
set_option maxRecDepth 100000 in
set_option maxHeartbeats 1600000 in
theorem decimal_t (s : ByteArray) (M : Nat) (w : World) (hs : s.size ≤ maxLen) (hM : M ≤ 2147483648) :
    Calls Tryz.prog 35 #[.string s, .int .i64 (M : Int)] w fun e w' => e = .returned (.int .i64 (capF s M s.size : Int)) ∧ w' = w := by
  unfold maxLen at hs
  go_enter Tryz.func35, Tryz.ntmps35
  go_wp2_with fail
  go_loop [5, 6] (fun n i => ∃ k : Nat, k ≤ s.size ∧ i = .int .i64 (k : Int) ∧ n = .int .i64 (capF s M k : Int)) (fun _ i => s.size - (intOf i).toNat)
  case atStart => exact ⟨0, Nat.zero_le _, rfl, rfl⟩
  case round =>
    obtain ⟨k, hk, rfl, rfl⟩ := hrel
    by_cases hlt : k < s.size
    · have hbt := bt_at s k hlt
      have hd := digV_le (bt s k)
      have hl := bt_lt s k
      have hc := capF_le s M k
      have hn : capF s M (k + 1) = if bt s k = 95 then capF s M k else min (capF s M k * 10 + digV (bt s k)) M := rfl
      have cD := Lib.hid (fun w => refvalue_t (bt s k) w hl)
      by_cases h3 : bt s k = 95
      · rw [if_pos h3] at hn
        have u1 : (((bt s k : Nat) : Int) != 95) = false := by simp [h3]
        have u2 : ((bt s k) != 95) = false := by simp [h3]
        have E := Lib.hid hn
        clear hn h3 hd
        generalize digV (bt s k) = dv at *
        generalize bt s k = c at *
        go_wp2_with fail
        go_round
        case rel => exact ⟨k + 1, by omega, by go_num, by rw [E.out]⟩
        case measure => simp [intOf]; omega
      · rw [if_neg h3] at hn
        have u1 : (((bt s k : Nat) : Int) != 95) = true := by simp; omega
        have u2 : ((bt s k) != 95) = true := by simp; omega
        generalize digV (bt s k) = dv at *
        generalize bt s k = c at *
        generalize capF s M k = a at *
        have e1 : (a : Int) ≤ 2147483648 := by omega
        have e2 : (dv : Int) ≤ 16 := by omega
        by_cases h4 : (M : Int) < 10 * (a : Int) + (dv : Int)
        · have E := Lib.hid (show capF s M (k + 1) = M by rw [hn]; omega)
          clear hn h3
          go_wp2_with (go_at_call 48; (with_reducible refine (cD.out _).mono ?_); rintro e w' ⟨rfl, rfl⟩)
          all_goals
            go_round
            case rel => exact ⟨k + 1, by omega, by go_num, by rw [E.out] <;> first | rfl | (congr 1; omega)⟩
            case measure => simp [intOf]; omega
        · have E := Lib.hid (show capF s M (k + 1) = a * 10 + dv by rw [hn]; omega)
          clear hn h3
          go_wp2_with (go_at_call 48; (with_reducible refine (cD.out _).mono ?_); rintro e w' ⟨rfl, rfl⟩)
          all_goals
            go_round
            case rel => exact ⟨k + 1, by omega, by go_num, by rw [E.out] <;> first | rfl | (congr 1; omega)⟩
            case measure => simp [intOf]; omega
    · obtain rfl : k = s.size := by omega
      obtain ⟨a, ha⟩ : ∃ a, capF s M s.size = a := ⟨_, rfl⟩
      have E := Lib.hid ha
      rw [ha]
      clear ha
      go_wp2_with fail
      go_ret
      exact ⟨ret_i64 (by rw [E.out]), rfl⟩
theorem digits_t (s : ByteArray) (b : Nat) (w : World) (hs : s.size ≤ maxLen) :
    Calls Tryz.prog 34 #[.string s, .int .i64 (b : Int)] w fun e w' => e = .returned (.int .i64 (dgV s b)) ∧ w' = w := by
  unfold dgV
  by_cases h : s.size = 0
  · rw [if_pos h]; exact digits_none s b w (emp s h).2
  · rw [if_neg h]
    have hle := dA_le s b
    exact digits_some s b _ w hs (nemp s (by omega)).1 (fun h => by rw [if_pos h]) (fun h => by rw [if_neg (by omega)])
end Go.Proofs.YtcifljbcoioogaaGreatDoor
namespace Go.Proofs.YtcifljbcoioogaaGreatDoor
open Go.RowKit
theorem refPlus_num (n c1 c2 x y : Nat) (A B : Option Addr) (c : Bool) (w : World) (hn : n ≤ 140) (hA : RB w A n (tb x)) (hB : RB w B n (tb y)) (hx : x < 2 ^ n) (hy : y < 2 ^ n) :
    Calls Tryz.prog 49 #[.slice A n c1, .slice B n c2, .bool c] w (GA w n ((x + y + c.toNat) % 2 ^ n)) :=
  (refPlus_at n c1 n c2 A B (tb x) (tb y) c w hn (Nat.le_refl _) hA hB).mono fun e w' ⟨h1, h2, h3⟩ => ⟨h1, RA_row h2 fun j hj => by
    rw [tb_val (smB (tb x) (tb y) c) n j hj, plus_val, valB_tbl x n hx, valB_tbl y n hy], h3⟩
theorem mul_step (k x n : Nat) : (k * x % 2 ^ n + x + (false : Bool).toNat) % 2 ^ n = (k + 1) * x % 2 ^ n := by
  rw [show (false : Bool).toNat = 0 from rfl, Nat.add_zero, Nat.add_mod, Nat.mod_mod, ← Nat.add_mod, Nat.succ_mul]
theorem inc_step (m j n : Nat) : ((m + j) % 2 ^ n + 0 + (true : Bool).toNat) % 2 ^ n = (m + (j + 1)) % 2 ^ n := by
  rw [show (true : Bool).toNat = 1 from rfl, Nat.add_zero, Nat.add_mod, Nat.mod_mod, ← Nat.add_mod, Nat.add_assoc]
theorem numF_lt (s : ByteArray) (b n : Nat) : ∀ k, numF s b n k < 2 ^ n
  | 0 => Nat.pow_pos (by decide)
  | k + 1 => by
    unfold numF
    split
    · exact numF_lt s b n k
    · exact Nat.mod_lt _ (Nat.pow_pos (by decide))
set_option maxRecDepth 100000 in
set_option maxHeartbeats 3200000 in
theorem refnumber_t (s : ByteArray) (b n : Nat) (w : World) (hs : s.size ≤ maxLen) (hb16 : b ≤ 16) (h1 : 1 ≤ n) (hn : n ≤ 128) :
    Calls Tryz.prog 37 #[.string s, .int .i64 (b : Int), .int .i64 (n : Int)] w fun e w' => ∃ g, e = .returned (.slice (some ⟨g, 0, none⟩) n n) ∧ RA w' g n (numF s b n s.size) ∧ Below w.heap.size w w' := by
  unfold maxLen at hs
  have hmk := run_make_row' 69 4 (.bool false) 1 Tryz.underlying69 info_bool rfl .i64 .i64 n (by omega) (by omega)
  have Z : ∀ w : World, RA (w.alloc (.cells (madeCells #[.bool false] n) 4)) w.heap.size n 0 := fun w => RA_row (x := 0) (World.rowIs_made w (.bool false) n 4) (fun j _ => by unfold tb; simp)
  have p0 : 0 < 2 ^ n := Nat.pow_pos (by decide)
  have Z0 := Lib.hid (Z w)
  replace Z := Lib.hid Z
  have cP := Lib.hid (fun w c1 c2 x y A B c hA hB hx hy => refPlus_num n c1 c2 x y A B c w (by omega) hA hB hx hy)
  go_enter Tryz.func37, Tryz.ntmps37
  go_wp2_with fail
  go_loopw [7, 8] (fun sm i wr => ∃ k : Nat, k ≤ s.size ∧ i = .int .i64 (k : Int) ∧ (∃ g, sm = .slice (some ⟨g, 0, none⟩) n n ∧ RA wr g n (numF s b n k)) ∧ Below w.heap.size w wr) (fun _ i _ => s.size - (intOf i).toNat)
  case atStart => exact ⟨0, Nat.zero_le _, rfl, ⟨_, rfl, Z0.out⟩, by go_grown⟩
  case round =>
    obtain ⟨k, hk, rfl, ⟨gs, rfl, Ds⟩, hbw⟩ := hrel
    clear Z0
    by_cases hlt : k < s.size
    · have hbt := bt_at s k hlt
      have hd := digV_le (bt s k)
      have hl := bt_lt s k
      have hn1 : numF s b n (k + 1) = if bt s k = 95 then numF s b n k else (numF s b n k * b + digV (bt s k)) % 2 ^ n := rfl
      have hxl := numF_lt s b n k
      by_cases h3 : bt s k = 95
      · rw [if_pos h3] at hn1
        have u1 : (((bt s k : Nat) : Int) == 95) = true := by simp [h3]
        have u2 : ((bt s k) == 95) = true := by simp [h3]
        have E := Lib.hid hn1
        clear hn1 h3 hd hxl hmk
        generalize bt s k = c at *
        go_wp2_with fail
        go_round
        case rel => exact ⟨k + 1, by omega, by go_num, ⟨gs, rfl, by rw [E.out]; exact Ds⟩, hbw⟩
        case measure => simp [intOf]; omega
      · rw [if_neg h3] at hn1
        have u1 : (((bt s k : Nat) : Int) == 95) = false := by simp; omega
        have u2 : ((bt s k) == 95) = false := by simp; omega
        have cD := Lib.hid (fun w => refvalue_t (bt s k) w hl)
        have E := Lib.hid hn1
        clear hn1 h3
        generalize digV (bt s k) = dv at *
        generalize numF s b n k = x at *
        generalize bt s k = c at *
        go_wp2_with fail
        have Z1 := Lib.hid (Z.out wr)
        have zr := hbw.size
        go_loopw [9, 10] (fun nx i wr => ∃ j : Nat, j ≤ b ∧ i = .int .i64 (j : Int) ∧ (∃ g, nx = .slice (some ⟨g, 0, none⟩) n n ∧ RA wr g n (j * x % 2 ^ n)) ∧ RA wr gs n x ∧ Below w.heap.size w wr) (fun _ i _ => b - (intOf i).toNat)
        case atStart => exact ⟨0, Nat.zero_le _, rfl, ⟨_, rfl, by rw [Nat.zero_mul, Nat.zero_mod]; exact Z1.out⟩, Ds.over (by go_grown), by go_grown⟩
        case round =>
          obtain ⟨j, hj, rfl, ⟨g1, rfl, N1⟩, S1, hb1⟩ := hrel
          clear Ds hbw Z1
          by_cases hjb : j < b
          · have E1 := Lib.hid (mul_step j x n)
            have N1' := Lib.hid N1.rb
            have S1' := Lib.hid S1.rb
            have m1 := Lib.hid (Nat.mod_lt (j * x) p0)
            replace N1 := Lib.hid N1
            replace S1 := Lib.hid S1
            replace hxl := Lib.hid hxl
            go_wp2_with fail
            (with_reducible refine (cP.out _ _ _ _ _ _ _ _ N1'.out S1'.out m1.out hxl.out).mono ?_)
            rintro e w2 ⟨rfl, N2, hb2⟩
            have S2 := S1.out.over hb2
            have hb2' := below_call hb2 hb1
            clear hb2 N1' S1'
            go_wp2_with fail
            go_round
            case rel => exact ⟨j + 1, by omega, by go_num, ⟨_, rfl, by rw [← E1.out]; exact N2⟩, S2, hb2'⟩
            case measure => simp [intOf]; omega
          · have N1b : RA wr g1 n (b * x % 2 ^ n) := by rw [← show j = b by omega]; exact N1
            clear N1
            replace N1b := Lib.hid N1b
            replace S1 := Lib.hid S1
            replace hxl := Lib.hid hxl
            go_wp2_with fail
            go_loopw [9, 11] (fun nx i wr => ∃ j : Nat, j ≤ dv ∧ i = .int .i64 (j : Int) ∧ (∃ g, nx = .slice (some ⟨g, 0, none⟩) n n ∧ RA wr g n ((b * x + j) % 2 ^ n)) ∧ Below w.heap.size w wr) (fun _ i _ => dv - (intOf i).toNat)
            case atStart => exact ⟨0, Nat.zero_le _, rfl, ⟨_, rfl, N1b.out⟩, hb1⟩
            case round =>
              obtain ⟨j2, hj2, rfl, ⟨g2, rfl, N3⟩, hb3⟩ := hrel
              clear N1b S1 hb1 hj hjb
              by_cases hjd : j2 < dv
              · have E2 := Lib.hid (inc_step (b * x) j2 n)
                have m2 := Lib.hid (Nat.mod_lt (b * x + j2) p0)
                have Z2 := Lib.hid (Z.out wr)
                have N3' := Lib.hid (N3.over (show Below wr.heap.size wr (wr.alloc (.cells (madeCells #[.bool false] n) 4)) by go_grown)).rb
                have p0' := Lib.hid p0
                have z3 := hb3.size
                replace N3 := Lib.hid N3
                go_wp2_with (go_at_call 48; (with_reducible refine (cD.out _).mono ?_); rintro e w' ⟨rfl, rfl⟩)
                (with_reducible refine (cP.out _ _ _ _ _ _ _ _ N3'.out Z2.out.rb m2.out p0'.out).mono ?_)
                rintro e w2 ⟨rfl, N4, hb4⟩
                have hb4' : Below w.heap.size w w2 := below_call hb4 (by go_grown)
                clear hb4 N3' Z2
                rw [World.size_alloc] at N4
                go_wp2_with fail
                go_round
                case rel => exact ⟨j2 + 1, by omega, by go_num, ⟨_, rfl, by rw [← E2.out]; exact N4⟩, hb4'⟩
                case measure => simp [intOf]; omega
              · have N3b : RA wr g2 n (numF s b n (k + 1)) := by rw [E.out, Nat.mul_comm x b, ← show j2 = dv by omega]; exact N3
                clear N3
                replace N3b := Lib.hid N3b
                go_wp2_with (go_at_call 48; (with_reducible refine (cD.out _).mono ?_); rintro e w' ⟨rfl, rfl⟩)
                go_round
                case rel => exact ⟨k + 1, by omega, by go_num, ⟨_, rfl, N3b.out⟩, hb3⟩
                case measure => simp [intOf]; omega
    · obtain rfl : k = s.size := by omega
      go_wp2_with fail
      go_ret
      exact ⟨_, rfl, Ds, hbw⟩
end Go.Proofs.YtcifljbcoioogaaGreatDoor
namespace Go.Proofs.YtcifljbcoioogaaGreatDoor
open Go.RowKit
/-- The reference returns this literal, its bits in a list. -/
def PL (w : World) (p : PR) (e : Ending) (w' : World) : Prop := ∃ A c, e = .returned (.tuple #[.agg #[.slice A p.n c, .bool p.sg, .bool p.sz], .int .i64 p.e]) ∧ RB w' A p.n (tb p.x) ∧ Below w.heap.size w w'
/-- The cells of a variable of three. -/
def f3 (a b c : Value) : Nat → Value
  | 0 => a
  | 1 => b
  | _ => c
/-- Block k of memory is a variable of three cells. -/
def H3 (t : TypeId) (w : World) (k : Nat) (a b c : Value) : Prop := w.rowIs k t 3 (f3 a b c)
section
variable {t : TypeId} {w w' : World} {k : Nat} {a b c : Value}
theorem H3.all (h : H3 t w k a b c) : w.cell? ⟨k, 0, none⟩ = some a ∧ w.cell? ⟨k, 1, none⟩ = some b ∧ w.cell? ⟨k, 2, none⟩ = some c ∧ ∀ i, w.frozen? ⟨k, i, none⟩ = false :=
  ⟨World.rowIs.cell h (i := 0) (by decide), World.rowIs.cell h (i := 1) (by decide), World.rowIs.cell h (i := 2) (by decide), World.rowIs.frozen h⟩
theorem H3.lt (h : H3 t w k a b c) : k < w.heap.size := World.rowIs.lt h
theorem H3.over (h : H3 t w k a b c) (hb : Below w.heap.size w w') : H3 t w' k a b c := World.rowIs.of_block h (hb.block k h.lt)
theorem H3.alloc (h : H3 t w k a b c) (o : Obj) : H3 t (w.alloc o) k a b c := World.rowIs.alloc h o
theorem H3.new (w : World) (t : TypeId) (a b c : Value) : H3 t (w.alloc (.cells #[a, b, c] t)) w.heap.size a b c := by
  refine ⟨_, heap_alloc_new w _, rfl, fun i hi => ?_⟩
  match i, hi with
  | 0, _ => rfl
  | 1, _ => rfl
  | 2, _ => rfl
end
theorem H3.apart {t : TypeId} {w : World} {k : Nat} {a b c : Value} (h : H3 t w k a b c) {A : Option Addr} {n : Nat} {f : Nat → Bool} (hA : RB w A n f) (hn : 4 ≤ n) : ∀ d off, A = some ⟨d, off, none⟩ → d ≠ k := by
  intro d off e hd
  subst hd
  obtain ⟨b', off', e', _, hc⟩ := hA (by omega)
  rw [e] at e'
  cases e'
  obtain ⟨cs, h1, h2, _⟩ := h
  have h4 := hc (n - 1) (by omega)
  rw [cell_of_row _ _ _ _ _ _ h1, Array.getElem?_eq_none (by omega)] at h4
  cases h4
theorem RB.set3 {w : World} {A : Option Addr} {n k : Nat} {f : Nat → Bool} (hA : RB w A n f) (hk : ∀ d off, A = some ⟨d, off, none⟩ → d ≠ k) (i1 i2 i3 : Nat) (v1 v2 v3 : Value) :
    RB (((w.setCell ⟨k, i1, none⟩ v1).setCell ⟨k, i2, none⟩ v2).setCell ⟨k, i3, none⟩ v3) A n f := fun hn => by
  obtain ⟨b, off, e, hl, hc⟩ := hA hn
  have hb : k ≠ b := fun h => hk b off e h.symm
  refine ⟨b, off, e, by simp; exact hl, fun j hj => ?_⟩
  rw [World.cell?_setCell_far _ _ _ _ hb, World.cell?_setCell_far _ _ _ _ hb, World.cell?_setCell_far _ _ _ _ hb]
  exact hc j hj
theorem PL_err (w w' : World) (e : Int) (hb : Below w.heap.size w w') : PL w (badP e) (.returned (.tuple #[.agg #[.slice none 0 0, .bool false, .bool false], .int .i64 e])) w' :=
  ⟨none, 0, rfl, fun h => absurd h (by show ¬ 0 < 0; omega), hb⟩
theorem RW_one (w : World) (v : Nat) : RW (w.alloc (.cells #[.int .u64 (v : Int)] 87)) (some ⟨w.heap.size, 0, none⟩) 1 (fun _ => v) := fun _ =>
  ⟨w.heap.size, 0, rfl, by simp, fun j hj => by
    obtain rfl : j = 0 := by omega
    exact World.cell?_alloc_new w _ _ 0⟩
set_option maxRecDepth 100000 in
set_option maxHeartbeats 3200000 in
theorem refParse_no_err (s : ByteArray) (w : World) (e : Int) (hs : s.size ≤ maxLen) (hf : ∀ k, k < s.size → bt s k ≠ 39) (he : e ≠ 0)
    (hD : ∀ w, Calls Tryz.prog 34 #[.string s, .int .i64 10] w fun e' w' => e' = .returned (.int .i64 e) ∧ w' = w) :
    Calls Tryz.prog 23 #[.string s] w (PL w (badP e)) := by
  unfold maxLen at hs
  have e1 : (e != 0) = true := by simp [he]
  clear he
  replace hf := Lib.hid hf
  replace hD := Lib.hid hD
  go_enter Tryz.func23, Tryz.ntmps23
  go_wp2_with fail
  go_loop [4, 5] (fun at_ i => ∃ k : Nat, k ≤ s.size ∧ i = .int .i64 (k : Int) ∧ at_ = .int .i64 (-1)) (fun _ i => s.size - (intOf i).toNat)
  case atStart => exact ⟨0, Nat.zero_le _, rfl, rfl⟩
  case round =>
    obtain ⟨k, hk, rfl, rfl⟩ := hrel
    by_cases hlt : k < s.size
    · have hbt := bt_at s k hlt
      have h39 := hf.out k hlt
      have hl := bt_lt s k
      have u1 : (((bt s k : Nat) : Int) == 39) = false := by simp; omega
      have u2 : ((bt s k) == 39) = false := by simp; omega
      clear h39
      generalize bt s k = c at *
      go_wp2_with fail
      go_round
      case rel => exact ⟨k + 1, by omega, by go_num, rfl⟩
      case measure => simp [intOf]; omega
    · obtain rfl : k = s.size := by omega
      go_wp2_with (go_at_call 34; (with_reducible refine (hD.out _).mono ?_); rintro e w' ⟨rfl, rfl⟩)
      refine bodyPost_ret (v := .tuple #[.agg #[.slice none 0 0, .bool false, .bool false], .int .i64 e]) (by simp [results, Tryz.results23, go_sem]) rfl (PL_err _ _ _ ?_)
      go_grown
set_option maxRecDepth 100000 in
set_option maxHeartbeats 3200000 in
theorem refParse_no_big (s : ByteArray) (w : World) (c : Nat) (hs : s.size ≤ maxLen) (hf : ∀ k, k < s.size → bt s k ≠ 39) (hc : (2147483648 : Int) ≤ (c : Int))
    (hD : ∀ w, Calls Tryz.prog 34 #[.string s, .int .i64 10] w fun e' w' => e' = .returned (.int .i64 0) ∧ w' = w)
    (hC : ∀ w, Calls Tryz.prog 35 #[.string s, .int .i64 2147483648] w fun e' w' => e' = .returned (.int .i64 (c : Int)) ∧ w' = w) :
    Calls Tryz.prog 23 #[.string s] w (PL w (badP 3)) := by
  unfold maxLen at hs
  replace hf := Lib.hid hf
  replace hD := Lib.hid hD
  replace hC := Lib.hid hC
  go_enter Tryz.func23, Tryz.ntmps23
  go_wp2_with fail
  go_loop [4, 5] (fun at_ i => ∃ k : Nat, k ≤ s.size ∧ i = .int .i64 (k : Int) ∧ at_ = .int .i64 (-1)) (fun _ i => s.size - (intOf i).toNat)
  case atStart => exact ⟨0, Nat.zero_le _, rfl, rfl⟩
  case round =>
    obtain ⟨k, hk, rfl, rfl⟩ := hrel
    by_cases hlt : k < s.size
    · have hbt := bt_at s k hlt
      have h39 := hf.out k hlt
      have hl := bt_lt s k
      have u1 : (((bt s k : Nat) : Int) == 39) = false := by simp; omega
      have u2 : ((bt s k) == 39) = false := by simp; omega
      clear h39
      generalize bt s k = c9 at *
      go_wp2_with fail
      go_round
      case rel => exact ⟨k + 1, by omega, by go_num, rfl⟩
      case measure => simp [intOf]; omega
    · obtain rfl : k = s.size := by omega
      go_wp2_with (first | (go_at_call 34; (with_reducible refine (hD.out _).mono ?_); rintro e w' ⟨rfl, rfl⟩) | (go_at_call 35; (with_reducible refine (hC.out _).mono ?_); rintro e w' ⟨rfl, rfl⟩))
      refine bodyPost_ret (v := .tuple #[.agg #[.slice none 0 0, .bool false, .bool false], .int .i64 3]) (by simp [results, Tryz.results23, go_sem]) rfl (PL_err _ _ _ ?_)
      go_grown
set_option maxRecDepth 100000 in
set_option maxHeartbeats 3200000 in
theorem refParse_no_ok (s : ByteArray) (w : World) (c : Nat) (hs : s.size ≤ maxLen) (hf : ∀ k, k < s.size → bt s k ≠ 39) (hc : c < 2147483648)
    (hD : ∀ w, Calls Tryz.prog 34 #[.string s, .int .i64 10] w fun e' w' => e' = .returned (.int .i64 0) ∧ w' = w)
    (hC : ∀ w, Calls Tryz.prog 35 #[.string s, .int .i64 2147483648] w fun e' w' => e' = .returned (.int .i64 (c : Int)) ∧ w' = w)
    (hN : ∀ (w : World) (g : Nat), g = w.heap.size → Calls Tryz.prog 36 #[.int .i64 32, .slice (some ⟨g, 0, none⟩) 1 1] (w.alloc (.cells #[.int .u64 (c : Int)] 87)) (LB (w.alloc (.cells #[.int .u64 (c : Int)] 87)) 32 (tb c) 0)) :
    Calls Tryz.prog 23 #[.string s] w (PL w ⟨32, c, true, false, 0⟩) := by
  unfold maxLen at hs
  replace hf := Lib.hid hf
  replace hD := Lib.hid hD
  replace hC := Lib.hid hC
  replace hN := Lib.hid hN
  have ec : IntKind.u64.wrap (c : Int) = c := IntWalk.u64_in _ (by omega)
  have h0 : ¬ (c : Int) < 0 := by omega
  have h1 : ¬ (2147483648 : Int) ≤ (c : Int) := by omega
  have h2 : decide ((2147483648 : Int) ≤ (c : Int)) = false := by simp; omega
  replace hc := Lib.hid hc
  have R0 := Lib.hid (H3.new w 71 (.slice none 0 0) (.bool false) (.bool false))
  go_enter Tryz.func23, Tryz.ntmps23
  go_wp2_with fail
  go_loop [4, 5] (fun at_ i => ∃ k : Nat, k ≤ s.size ∧ i = .int .i64 (k : Int) ∧ at_ = .int .i64 (-1)) (fun _ i => s.size - (intOf i).toNat)
  case atStart => exact ⟨0, Nat.zero_le _, rfl, rfl⟩
  case round =>
    obtain ⟨k, hk, rfl, rfl⟩ := hrel
    by_cases hlt : k < s.size
    · have hbt := bt_at s k hlt
      have h39 := hf.out k hlt
      have hl := bt_lt s k
      have u1 : (((bt s k : Nat) : Int) == 39) = false := by simp; omega
      have u2 : ((bt s k) == 39) = false := by simp; omega
      clear h39
      generalize bt s k = c9 at *
      go_wp2_with fail
      go_round
      case rel => exact ⟨k + 1, by omega, by go_num, rfl⟩
      case measure => simp [intOf]; omega
    · obtain rfl : k = s.size := by omega
      go_wp2_with fail
      (with_reducible refine (hD.out _).mono ?_)
      rintro e w' ⟨rfl, hw'⟩
      subst hw'
      go_wp2_with fail
      (with_reducible refine (hC.out _).mono ?_)
      rintro e w' ⟨rfl, hw'⟩
      subst hw'
      clear hlt hk
      go_wp2_with fail
      (with_reducible refine (hN.out _ _ (by simp)).mono ?_)
      rintro e w1 ⟨A, c1, rfl, hA, hb1⟩
      have R1 := (R0.out.alloc _).over hb1
      have r1 := R1.all
      have rl := R1.lt
      have hbw1 : Below w.heap.size w w1 := below_call hb1 (by go_grown)
      have ap := Lib.hid (R1.apart hA (by decide))
      replace hA := Lib.hid hA
      clear hb1 R1 R0
      go_wp2_with fail
      refine bodyPost_ret (v := .tuple #[.agg #[.slice A 32 c1, .bool true, .bool false], .int .i64 0]) (by simp [results, Tryz.results23, go_sem, r1]) rfl ⟨A, c1, rfl, ?_, ?_⟩
      · exact hA.out.set3 ap.out _ _ _ _ _ _
      · go_grown
theorem tb_wbit (v : Nat) (hv : v < 2 ^ 64) (j : Nat) : wbit (fun _ => v) 1 j = tb v j := by
  unfold wbit tb
  by_cases h : j < 64
  · rw [show j / 64 = 0 by omega, show j % 64 = j by omega]; simp
  · rw [show decide (j / 64 < 1) = false by simp; omega, Bool.false_and, Nat.testBit_lt_two_pow (Nat.lt_of_lt_of_le hv (Nat.pow_le_pow_right (by decide) (by omega)))]
theorem refNew_one (n v : Nat) (w : World) (g : Nat) (hg : g = w.heap.size) (h1 : 1 ≤ n) (hn : n ≤ 128) (hv : v < 2 ^ 64) :
    Calls Tryz.prog 36 #[.int .i64 (n : Int), .slice (some ⟨g, 0, none⟩) 1 1] (w.alloc (.cells #[.int .u64 (v : Int)] 87)) (LB (w.alloc (.cells #[.int .u64 (v : Int)] 87)) n (tb v) 0) := by
  subst hg
  refine (refNew_ok n 1 1 _ (fun _ => v) _ h1 hn (RW_one w v) (fun _ _ => hv) (by decide)).mono ?_
  rintro e w' ⟨A, c, he, hA, hb⟩
  exact ⟨A, c, he, fun h => by
    obtain ⟨b, off, e1, hl, hc⟩ := hA h
    exact ⟨b, off, e1, hl, fun j hj => by rw [hc j hj, tb_wbit v hv j]⟩, hb⟩
/-- A text without an apostrophe. -/
theorem refParse_no (s : ByteArray) (w : World) (hs : s.size ≤ maxLen) (hf : ∀ k, k < s.size → bt s k ≠ 39) : Calls Tryz.prog 23 #[.string s] w (PL w (paV s)) := by
  rw [paV_no s hf]
  have hD := fun w => digits_t s 10 w hs
  unfold dgV at hD
  by_cases h0 : s.size = 0
  · rw [if_pos h0] at hD ⊢; exact refParse_no_err s w 6 hs hf (by decide) hD
  simp only [if_neg h0] at hD ⊢
  by_cases h2 : dA s 10 < s.size
  · simp only [if_pos h2] at hD ⊢; exact refParse_no_err s w 5 hs hf (by decide) hD
  simp only [if_neg h2] at hD ⊢
  have hC := fun w => decimal_t s 2147483648 w hs (by decide)
  generalize capF s 2147483648 s.size = c at *
  by_cases h3 : c < 2147483648
  · rw [if_pos h3]; exact refParse_no_ok s w c hs hf h3 hD hC (fun w g hg => refNew_one 32 c w g hg (by decide) (by decide) (by omega))
  · rw [if_neg h3]; exact refParse_no_big s w c hs hf (by omega) hD hC
end Go.Proofs.YtcifljbcoioogaaGreatDoor
