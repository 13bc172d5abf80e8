/-
  The walk of the reference's Parse, where there is an apostrophe behind digits.
-/
import Derived.Test.YtcifljbcoioogaaGreatDoorFo
import Derived.Deep.CutBlock
namespace Go.Proofs.YtcifljbcoioogaaGreatDoor
open Go.RowKit
set_option maxRecDepth 100000 in
set_option maxHeartbeats 6400000 in
theorem rP_p_other_good (s : ByteArray) (w : World) (q : Nat) (hs : s.size ≤ maxLen) (hq : q < s.size) (h39 : bt s q = 39) (hf : ∀ k, k < q → bt s k ≠ 39) (hp : 0 < q) (W : Nat)
    (hD : ∀ w, Calls Tryz.prog 34 #[.string (s.extract 0 q), .int .i64 10] w fun e' w' => e' = .returned (.int .i64 0) ∧ w' = w)
    (hC : ∀ w, Calls Tryz.prog 35 #[.string (s.extract 0 q), .int .i64 1000] w fun e' w' => e' = .returned (.int .i64 (W : Int)) ∧ w' = w)
    (r : ByteArray) (hr : s.extract (q + 1) s.size = r) (h0 : 0 < r.size) (h1 : bt r 0 ≠ 115) (h2 : bt r 0 ≠ 83) (b : Nat) (hcase : (bt r 0 = 98 ∧ b = 2) ∨ (bt r 0 = 66 ∧ b = 2) ∨ (bt r 0 = 111 ∧ b = 8) ∨ (bt r 0 = 79 ∧ b = 8) ∨ (bt r 0 = 100 ∧ b = 10) ∨ (bt r 0 = 68 ∧ b = 10) ∨ (bt r 0 = 104 ∧ b = 16) ∨ (bt r 0 = 72 ∧ b = 16))
    (d : ByteArray) (hd : r.extract 1 r.size = d) (e : Int) (X : Nat)
    (hE : ∀ w, Calls Tryz.prog 34 #[.string d, .int .i64 (b : Int)] w fun e' w' => e' = .returned (.int .i64 e) ∧ w' = w)
    (hN : e = 0 → 1 ≤ W → W ≤ 128 → ∀ w, Calls Tryz.prog 37 #[.string d, .int .i64 (b : Int), .int .i64 (W : Int)] w fun e w' => ∃ g, e = .returned (.slice (some ⟨g, 0, none⟩) W W) ∧ RA w' g W X ∧ Below w.heap.size w w') :
    Calls Tryz.prog 23 #[.string s] w (PL w (if e ≠ 0 then badP e else if W < 1 ∨ 128 < W then badP 2 else ⟨W, X, false, true, 0⟩)) := by
  unfold maxLen at hs
  have hpq : decide ((0 : Int) < (q : Int)) = true := by simp; omega
  have hpq2 : decide (0 < q) = true := by simp; omega
  replace hD := Lib.hid hD
  replace hC := Lib.hid hC
  have hrs : r.size = s.size - (q + 1) := by rw [← hr]; simp
  have hlt0 := Lib.hid (show q + 1 < s.size by omega)
  clear hrs
  obtain ⟨r1, r2⟩ := nemp r h0
  have hb0 := bt_at r 0 h0
  have hl0 := bt_lt r 0
  have h0i : (0 : Int) < (r.size : Int) := by omega
  have v1 : (((bt r 0 : Nat) : Int) == 115) = false := by simp; omega
  have v2 : (((bt r 0 : Nat) : Int) == 83) = false := by simp; omega
  have v3 : ((bt r 0) == 115) = false := by simp; omega
  have v4 : ((bt r 0) == 83) = false := by simp; omega
  clear h1 h2
  have T1 : 1 ≤ r.size := by omega
  have T2 : (1 : Int) ≤ (r.size : Int) := by omega
  generalize bt r 0 = c0 at *
  replace hE := Lib.hid hE
  replace hN := Lib.hid hN
  replace hcase := Lib.hid hcase
  have R0 := Lib.hid (H3.new w 71 (.slice none 0 0) (.bool false) (.bool false))
  obtain ⟨P0, hP0⟩ : ∃ P0 : PR, (if e ≠ 0 then badP e else if W < 1 ∨ 128 < W then badP 2 else ⟨W, X, false, true, 0⟩) = P0 := ⟨_, rfl⟩
  rw [hP0]
  replace hP0 := Lib.hid hP0
  replace hf := Lib.hid hf
  replace h39 := Lib.hid h39
  go_enter Tryz.func23, Tryz.ntmps23
  go_wp2_with fail
  go_loop [4, 5] (fun at_ i => ∃ k : Nat, i = .int .i64 (k : Int) ∧ ((k ≤ q ∧ at_ = .int .i64 (-1)) ∨ (k = q + 1 ∧ at_ = .int .i64 (q : Int)))) (fun _ i => s.size - (intOf i).toNat)
  case atStart => exact ⟨0, rfl, .inl ⟨Nat.zero_le _, rfl⟩⟩
  case round =>
    obtain ⟨k, rfl, ⟨hk, rfl⟩ | ⟨hk, rfl⟩⟩ := hrel
    · have hlt : k < s.size := by omega
      have hbt := bt_at s k hlt
      have hl := bt_lt s k
      by_cases e : k = q
      · subst e
        have h39' := h39.out
        rw [h39'] at hbt
        clear h39' hl hk
        go_wp2_with fail
        go_round
        case rel => exact ⟨k + 1, by go_num, .inr ⟨rfl, rfl⟩⟩
        case measure => simp [intOf]; omega
      · have h39' := hf.out k (by omega)
        have u1 : (((bt s k : Nat) : Int) == 39) = false := by simp; omega
        have u2 : ((bt s k) == 39) = false := by simp; omega
        clear h39'
        have hkq : k < q := by omega
        clear e hk
        generalize bt s k = c9 at *
        go_wp2_with fail
        go_round
        case rel => exact ⟨k + 1, by go_num, .inl ⟨by omega, rfl⟩⟩
        case measure => simp [intOf]; omega
    · subst hk
      have q0 : (0 : Int) ≤ (q : Int) := by omega
      have nq : ¬ (q : Int) < 0 := by omega
      have qs : (q : Int) + 1 ≤ (s.size : Int) := by omega
      have lt2 := hlt0.out
      have lt1 : (q : Int) + 1 < (s.size : Int) := by omega
      go_upto_block 2 with (first | (go_at_call 34; (with_reducible refine (hD.out _).mono ?_); rintro e' w' ⟨rfl, hw'⟩; subst hw') | (go_at_call 35; (with_reducible refine (hC.out _).mono ?_); rintro e' w' ⟨rfl, hw'⟩; subst hw'))
      go_cut [14] from 93 (fun bv wz => bv = .int .i64 (b : Int) ∧ wz = (w.alloc (.cells #[.slice none 0 0, .bool false, .bool false] 71)))
      case first =>
        rcases hcase.out with ⟨rfl, rfl⟩ | ⟨rfl, rfl⟩ | ⟨rfl, rfl⟩ | ⟨rfl, rfl⟩ | ⟨rfl, rfl⟩ | ⟨rfl, rfl⟩ | ⟨rfl, rfl⟩ | ⟨rfl, rfl⟩
        all_goals
          go_wp2_with fail
          go_meet
          exact ⟨rfl, rfl⟩
      case rest =>
        obtain ⟨rfl, rfl⟩ := hcut
        clear hcase
        go_wp2_with fail
        (with_reducible refine (hE.out _).mono ?_)
        rintro e' w' ⟨rfl, hw'⟩
        subst hw'
        by_cases he : e = 0
        case neg =>
          have hPe := Lib.hid (show P0 = badP e by rw [← hP0.out, if_pos he])
          have e1 : (e != 0) = true := by simp [he]
          have e2 : (e == 0) = false := by simp [he]
          clear he
          go_wp2_with fail
          refine bodyPost_ret (v := .tuple #[.agg #[.slice none 0 0, .bool false, .bool false], .int .i64 e]) (by simp [results, Tryz.results23, go_sem]) rfl ?_
          rw [hPe.out]
          refine PL_err _ _ _ ?_
          go_grown
        have e1 : (e != 0) = false := by simp [he]
        have e2 : (e == 0) = true := by simp [he]
        by_cases hw : W < 1 ∨ 128 < W
        case pos =>
          have hPe := Lib.hid (show P0 = badP 2 by rw [← hP0.out, if_neg (by simpa using he), if_pos hw])
          rcases hw with hw | hw
          · have k1 : decide ((W : Int) < 1) = true := by simp; omega
            have k2 : decide (W < 1) = true := by simp; omega
            clear he hw
            go_wp2_with fail
            refine bodyPost_ret (v := .tuple #[.agg #[.slice none 0 0, .bool false, .bool false], .int .i64 2]) (by simp [results, Tryz.results23, go_sem]) rfl ?_
            rw [hPe.out]
            refine PL_err _ _ _ ?_
            go_grown
          · have k1 : decide ((W : Int) < 1) = false := by simp; omega
            have k2 : decide (W < 1) = false := by simp; omega
            have k3 : decide (128 < (W : Int)) = true := by simp; omega
            have k4 : decide (128 < W) = true := by simp; omega
            clear he hw
            go_wp2_with fail
            refine bodyPost_ret (v := .tuple #[.agg #[.slice none 0 0, .bool false, .bool false], .int .i64 2]) (by simp [results, Tryz.results23, go_sem]) rfl ?_
            rw [hPe.out]
            refine PL_err _ _ _ ?_
            go_grown
        have hPe := Lib.hid (hP0.out.symm.trans (show _ = _ by rw [if_neg (by simpa using he), if_neg hw]))
        have hNm := Lib.hid (hN.out he (by omega) (by omega))
        have hW1 : 1 ≤ W := by omega
        have k1 : decide ((W : Int) < 1) = false := by simp; omega
        have k2 : decide (W < 1) = false := by simp; omega
        have k3 : decide (128 < (W : Int)) = false := by simp; omega
        have k4 : decide (128 < W) = false := by simp; omega
        clear hw he hN
        go_wp2_with fail
        (with_reducible refine (hNm.out _).mono ?_)
        rintro e' w1 ⟨g, rfl, hA, hb1⟩
        have R1 := (R0.out).over hb1
        have r1 := R1.all
        have rl := R1.lt
        have hbw1 : Below w.heap.size w w1 := below_call hb1 (by go_grown)
        have ap := Lib.hid (RA_apart hW1 hA R1)
        have hAr := Lib.hid hA.rb
        clear hb1 R1 R0 hA
        go_wp2_with fail
        refine bodyPost_ret (v := .tuple #[.agg #[.slice (some ⟨g, 0, none⟩) W W, .bool false, .bool true], .int .i64 0]) (by simp [results, Tryz.results23, go_sem, r1]) rfl ?_
        rw [hPe.out]
        refine ⟨_, _, rfl, ?_, ?_⟩
        · exact hAr.out.set3 ap.out _ _ _ _ _ _
        · go_grown
set_option maxRecDepth 100000 in
set_option maxHeartbeats 6400000 in
theorem rP_p_s_good (s : ByteArray) (w : World) (q : Nat) (hs : s.size ≤ maxLen) (hq : q < s.size) (h39 : bt s q = 39) (hf : ∀ k, k < q → bt s k ≠ 39) (hp : 0 < q) (W : Nat)
    (hD : ∀ w, Calls Tryz.prog 34 #[.string (s.extract 0 q), .int .i64 10] w fun e' w' => e' = .returned (.int .i64 0) ∧ w' = w)
    (hC : ∀ w, Calls Tryz.prog 35 #[.string (s.extract 0 q), .int .i64 1000] w fun e' w' => e' = .returned (.int .i64 (W : Int)) ∧ w' = w)
    (r : ByteArray) (hr : s.extract (q + 1) s.size = r) (h0 : 0 < r.size) (h1 : bt r 0 = 115) (t : ByteArray) (ht : r.extract 1 r.size = t) (k0 : 0 < t.size) (b : Nat) (hcase : (bt t 0 = 98 ∧ b = 2) ∨ (bt t 0 = 66 ∧ b = 2) ∨ (bt t 0 = 111 ∧ b = 8) ∨ (bt t 0 = 79 ∧ b = 8) ∨ (bt t 0 = 100 ∧ b = 10) ∨ (bt t 0 = 68 ∧ b = 10) ∨ (bt t 0 = 104 ∧ b = 16) ∨ (bt t 0 = 72 ∧ b = 16))
    (d : ByteArray) (hd : t.extract 1 t.size = d) (e : Int) (X : Nat)
    (hE : ∀ w, Calls Tryz.prog 34 #[.string d, .int .i64 (b : Int)] w fun e' w' => e' = .returned (.int .i64 e) ∧ w' = w)
    (hN : e = 0 → 1 ≤ W → W ≤ 128 → ∀ w, Calls Tryz.prog 37 #[.string d, .int .i64 (b : Int), .int .i64 (W : Int)] w fun e w' => ∃ g, e = .returned (.slice (some ⟨g, 0, none⟩) W W) ∧ RA w' g W X ∧ Below w.heap.size w w') :
    Calls Tryz.prog 23 #[.string s] w (PL w (if e ≠ 0 then badP e else if W < 1 ∨ 128 < W then badP 2 else ⟨W, X, true, true, 0⟩)) := by
  unfold maxLen at hs
  have hpq : decide ((0 : Int) < (q : Int)) = true := by simp; omega
  have hpq2 : decide (0 < q) = true := by simp; omega
  replace hD := Lib.hid hD
  replace hC := Lib.hid hC
  have hrs : r.size = s.size - (q + 1) := by rw [← hr]; simp
  have hlt0 := Lib.hid (show q + 1 < s.size by omega)
  clear hrs
  obtain ⟨r1, r2⟩ := nemp r h0
  have hb0 := bt_at r 0 h0
  have hl0 := bt_lt r 0
  have h0i : (0 : Int) < (r.size : Int) := by omega
  rw [h1] at hb0
  clear h1 hl0
  have r3 : 1 ≤ r.size := by omega
  have r4 : (1 : Int) ≤ (r.size : Int) := by omega
  obtain ⟨t1, t2⟩ := nemp t k0
  have hbk := bt_at t 0 k0
  have hlk := bt_lt t 0
  have T1 : 1 ≤ t.size := by omega
  have T2 : (1 : Int) ≤ (t.size : Int) := by omega
  generalize bt t 0 = c0 at *
  replace hE := Lib.hid hE
  replace hN := Lib.hid hN
  replace hcase := Lib.hid hcase
  have R0 := Lib.hid (H3.new w 71 (.slice none 0 0) (.bool false) (.bool false))
  obtain ⟨P0, hP0⟩ : ∃ P0 : PR, (if e ≠ 0 then badP e else if W < 1 ∨ 128 < W then badP 2 else ⟨W, X, true, true, 0⟩) = P0 := ⟨_, rfl⟩
  rw [hP0]
  replace hP0 := Lib.hid hP0
  replace hf := Lib.hid hf
  replace h39 := Lib.hid h39
  go_enter Tryz.func23, Tryz.ntmps23
  go_wp2_with fail
  go_loop [4, 5] (fun at_ i => ∃ k : Nat, i = .int .i64 (k : Int) ∧ ((k ≤ q ∧ at_ = .int .i64 (-1)) ∨ (k = q + 1 ∧ at_ = .int .i64 (q : Int)))) (fun _ i => s.size - (intOf i).toNat)
  case atStart => exact ⟨0, rfl, .inl ⟨Nat.zero_le _, rfl⟩⟩
  case round =>
    obtain ⟨k, rfl, ⟨hk, rfl⟩ | ⟨hk, rfl⟩⟩ := hrel
    · have hlt : k < s.size := by omega
      have hbt := bt_at s k hlt
      have hl := bt_lt s k
      by_cases e : k = q
      · subst e
        have h39' := h39.out
        rw [h39'] at hbt
        clear h39' hl hk
        go_wp2_with fail
        go_round
        case rel => exact ⟨k + 1, by go_num, .inr ⟨rfl, rfl⟩⟩
        case measure => simp [intOf]; omega
      · have h39' := hf.out k (by omega)
        have u1 : (((bt s k : Nat) : Int) == 39) = false := by simp; omega
        have u2 : ((bt s k) == 39) = false := by simp; omega
        clear h39'
        have hkq : k < q := by omega
        clear e hk
        generalize bt s k = c9 at *
        go_wp2_with fail
        go_round
        case rel => exact ⟨k + 1, by go_num, .inl ⟨by omega, rfl⟩⟩
        case measure => simp [intOf]; omega
    · subst hk
      have q0 : (0 : Int) ≤ (q : Int) := by omega
      have nq : ¬ (q : Int) < 0 := by omega
      have qs : (q : Int) + 1 ≤ (s.size : Int) := by omega
      have lt2 := hlt0.out
      have lt1 : (q : Int) + 1 < (s.size : Int) := by omega
      go_upto_block 2 with (first | (go_at_call 34; (with_reducible refine (hD.out _).mono ?_); rintro e' w' ⟨rfl, hw'⟩; subst hw') | (go_at_call 35; (with_reducible refine (hC.out _).mono ?_); rintro e' w' ⟨rfl, hw'⟩; subst hw'))
      go_cut [14] from 93 (fun bv wz => bv = .int .i64 (b : Int) ∧ wz = (w.alloc (.cells #[.slice none 0 0, .bool false, .bool false] 71)))
      case first =>
        rcases hcase.out with ⟨rfl, rfl⟩ | ⟨rfl, rfl⟩ | ⟨rfl, rfl⟩ | ⟨rfl, rfl⟩ | ⟨rfl, rfl⟩ | ⟨rfl, rfl⟩ | ⟨rfl, rfl⟩ | ⟨rfl, rfl⟩
        all_goals
          go_wp2_with fail
          go_meet
          exact ⟨rfl, rfl⟩
      case rest =>
        obtain ⟨rfl, rfl⟩ := hcut
        clear hcase
        go_wp2_with fail
        (with_reducible refine (hE.out _).mono ?_)
        rintro e' w' ⟨rfl, hw'⟩
        subst hw'
        by_cases he : e = 0
        case neg =>
          have hPe := Lib.hid (show P0 = badP e by rw [← hP0.out, if_pos he])
          have e1 : (e != 0) = true := by simp [he]
          have e2 : (e == 0) = false := by simp [he]
          clear he
          go_wp2_with fail
          refine bodyPost_ret (v := .tuple #[.agg #[.slice none 0 0, .bool false, .bool false], .int .i64 e]) (by simp [results, Tryz.results23, go_sem]) rfl ?_
          rw [hPe.out]
          refine PL_err _ _ _ ?_
          go_grown
        have e1 : (e != 0) = false := by simp [he]
        have e2 : (e == 0) = true := by simp [he]
        by_cases hw : W < 1 ∨ 128 < W
        case pos =>
          have hPe := Lib.hid (show P0 = badP 2 by rw [← hP0.out, if_neg (by simpa using he), if_pos hw])
          rcases hw with hw | hw
          · have k1 : decide ((W : Int) < 1) = true := by simp; omega
            have k2 : decide (W < 1) = true := by simp; omega
            clear he hw
            go_wp2_with fail
            refine bodyPost_ret (v := .tuple #[.agg #[.slice none 0 0, .bool false, .bool false], .int .i64 2]) (by simp [results, Tryz.results23, go_sem]) rfl ?_
            rw [hPe.out]
            refine PL_err _ _ _ ?_
            go_grown
          · have k1 : decide ((W : Int) < 1) = false := by simp; omega
            have k2 : decide (W < 1) = false := by simp; omega
            have k3 : decide (128 < (W : Int)) = true := by simp; omega
            have k4 : decide (128 < W) = true := by simp; omega
            clear he hw
            go_wp2_with fail
            refine bodyPost_ret (v := .tuple #[.agg #[.slice none 0 0, .bool false, .bool false], .int .i64 2]) (by simp [results, Tryz.results23, go_sem]) rfl ?_
            rw [hPe.out]
            refine PL_err _ _ _ ?_
            go_grown
        have hPe := Lib.hid (hP0.out.symm.trans (show _ = _ by rw [if_neg (by simpa using he), if_neg hw]))
        have hNm := Lib.hid (hN.out he (by omega) (by omega))
        have hW1 : 1 ≤ W := by omega
        have k1 : decide ((W : Int) < 1) = false := by simp; omega
        have k2 : decide (W < 1) = false := by simp; omega
        have k3 : decide (128 < (W : Int)) = false := by simp; omega
        have k4 : decide (128 < W) = false := by simp; omega
        clear hw he hN
        go_wp2_with fail
        (with_reducible refine (hNm.out _).mono ?_)
        rintro e' w1 ⟨g, rfl, hA, hb1⟩
        have R1 := (R0.out).over hb1
        have r1 := R1.all
        have rl := R1.lt
        have hbw1 : Below w.heap.size w w1 := below_call hb1 (by go_grown)
        have ap := Lib.hid (RA_apart hW1 hA R1)
        have hAr := Lib.hid hA.rb
        clear hb1 R1 R0 hA
        go_wp2_with fail
        refine bodyPost_ret (v := .tuple #[.agg #[.slice (some ⟨g, 0, none⟩) W W, .bool true, .bool true], .int .i64 0]) (by simp [results, Tryz.results23, go_sem, r1]) rfl ?_
        rw [hPe.out]
        refine ⟨_, _, rfl, ?_, ?_⟩
        · exact hAr.out.set3 ap.out _ _ _ _ _ _
        · go_grown
set_option maxRecDepth 100000 in
set_option maxHeartbeats 6400000 in
theorem rP_p_S_good (s : ByteArray) (w : World) (q : Nat) (hs : s.size ≤ maxLen) (hq : q < s.size) (h39 : bt s q = 39) (hf : ∀ k, k < q → bt s k ≠ 39) (hp : 0 < q) (W : Nat)
    (hD : ∀ w, Calls Tryz.prog 34 #[.string (s.extract 0 q), .int .i64 10] w fun e' w' => e' = .returned (.int .i64 0) ∧ w' = w)
    (hC : ∀ w, Calls Tryz.prog 35 #[.string (s.extract 0 q), .int .i64 1000] w fun e' w' => e' = .returned (.int .i64 (W : Int)) ∧ w' = w)
    (r : ByteArray) (hr : s.extract (q + 1) s.size = r) (h0 : 0 < r.size) (h1 : bt r 0 = 83) (t : ByteArray) (ht : r.extract 1 r.size = t) (k0 : 0 < t.size) (b : Nat) (hcase : (bt t 0 = 98 ∧ b = 2) ∨ (bt t 0 = 66 ∧ b = 2) ∨ (bt t 0 = 111 ∧ b = 8) ∨ (bt t 0 = 79 ∧ b = 8) ∨ (bt t 0 = 100 ∧ b = 10) ∨ (bt t 0 = 68 ∧ b = 10) ∨ (bt t 0 = 104 ∧ b = 16) ∨ (bt t 0 = 72 ∧ b = 16))
    (d : ByteArray) (hd : t.extract 1 t.size = d) (e : Int) (X : Nat)
    (hE : ∀ w, Calls Tryz.prog 34 #[.string d, .int .i64 (b : Int)] w fun e' w' => e' = .returned (.int .i64 e) ∧ w' = w)
    (hN : e = 0 → 1 ≤ W → W ≤ 128 → ∀ w, Calls Tryz.prog 37 #[.string d, .int .i64 (b : Int), .int .i64 (W : Int)] w fun e w' => ∃ g, e = .returned (.slice (some ⟨g, 0, none⟩) W W) ∧ RA w' g W X ∧ Below w.heap.size w w') :
    Calls Tryz.prog 23 #[.string s] w (PL w (if e ≠ 0 then badP e else if W < 1 ∨ 128 < W then badP 2 else ⟨W, X, true, true, 0⟩)) := by
  unfold maxLen at hs
  have hpq : decide ((0 : Int) < (q : Int)) = true := by simp; omega
  have hpq2 : decide (0 < q) = true := by simp; omega
  replace hD := Lib.hid hD
  replace hC := Lib.hid hC
  have hrs : r.size = s.size - (q + 1) := by rw [← hr]; simp
  have hlt0 := Lib.hid (show q + 1 < s.size by omega)
  clear hrs
  obtain ⟨r1, r2⟩ := nemp r h0
  have hb0 := bt_at r 0 h0
  have hl0 := bt_lt r 0
  have h0i : (0 : Int) < (r.size : Int) := by omega
  rw [h1] at hb0
  clear h1 hl0
  have r3 : 1 ≤ r.size := by omega
  have r4 : (1 : Int) ≤ (r.size : Int) := by omega
  obtain ⟨t1, t2⟩ := nemp t k0
  have hbk := bt_at t 0 k0
  have hlk := bt_lt t 0
  have T1 : 1 ≤ t.size := by omega
  have T2 : (1 : Int) ≤ (t.size : Int) := by omega
  generalize bt t 0 = c0 at *
  replace hE := Lib.hid hE
  replace hN := Lib.hid hN
  replace hcase := Lib.hid hcase
  have R0 := Lib.hid (H3.new w 71 (.slice none 0 0) (.bool false) (.bool false))
  obtain ⟨P0, hP0⟩ : ∃ P0 : PR, (if e ≠ 0 then badP e else if W < 1 ∨ 128 < W then badP 2 else ⟨W, X, true, true, 0⟩) = P0 := ⟨_, rfl⟩
  rw [hP0]
  replace hP0 := Lib.hid hP0
  replace hf := Lib.hid hf
  replace h39 := Lib.hid h39
  go_enter Tryz.func23, Tryz.ntmps23
  go_wp2_with fail
  go_loop [4, 5] (fun at_ i => ∃ k : Nat, i = .int .i64 (k : Int) ∧ ((k ≤ q ∧ at_ = .int .i64 (-1)) ∨ (k = q + 1 ∧ at_ = .int .i64 (q : Int)))) (fun _ i => s.size - (intOf i).toNat)
  case atStart => exact ⟨0, rfl, .inl ⟨Nat.zero_le _, rfl⟩⟩
  case round =>
    obtain ⟨k, rfl, ⟨hk, rfl⟩ | ⟨hk, rfl⟩⟩ := hrel
    · have hlt : k < s.size := by omega
      have hbt := bt_at s k hlt
      have hl := bt_lt s k
      by_cases e : k = q
      · subst e
        have h39' := h39.out
        rw [h39'] at hbt
        clear h39' hl hk
        go_wp2_with fail
        go_round
        case rel => exact ⟨k + 1, by go_num, .inr ⟨rfl, rfl⟩⟩
        case measure => simp [intOf]; omega
      · have h39' := hf.out k (by omega)
        have u1 : (((bt s k : Nat) : Int) == 39) = false := by simp; omega
        have u2 : ((bt s k) == 39) = false := by simp; omega
        clear h39'
        have hkq : k < q := by omega
        clear e hk
        generalize bt s k = c9 at *
        go_wp2_with fail
        go_round
        case rel => exact ⟨k + 1, by go_num, .inl ⟨by omega, rfl⟩⟩
        case measure => simp [intOf]; omega
    · subst hk
      have q0 : (0 : Int) ≤ (q : Int) := by omega
      have nq : ¬ (q : Int) < 0 := by omega
      have qs : (q : Int) + 1 ≤ (s.size : Int) := by omega
      have lt2 := hlt0.out
      have lt1 : (q : Int) + 1 < (s.size : Int) := by omega
      go_upto_block 2 with (first | (go_at_call 34; (with_reducible refine (hD.out _).mono ?_); rintro e' w' ⟨rfl, hw'⟩; subst hw') | (go_at_call 35; (with_reducible refine (hC.out _).mono ?_); rintro e' w' ⟨rfl, hw'⟩; subst hw'))
      go_cut [14] from 93 (fun bv wz => bv = .int .i64 (b : Int) ∧ wz = (w.alloc (.cells #[.slice none 0 0, .bool false, .bool false] 71)))
      case first =>
        rcases hcase.out with ⟨rfl, rfl⟩ | ⟨rfl, rfl⟩ | ⟨rfl, rfl⟩ | ⟨rfl, rfl⟩ | ⟨rfl, rfl⟩ | ⟨rfl, rfl⟩ | ⟨rfl, rfl⟩ | ⟨rfl, rfl⟩
        all_goals
          go_wp2_with fail
          go_meet
          exact ⟨rfl, rfl⟩
      case rest =>
        obtain ⟨rfl, rfl⟩ := hcut
        clear hcase
        go_wp2_with fail
        (with_reducible refine (hE.out _).mono ?_)
        rintro e' w' ⟨rfl, hw'⟩
        subst hw'
        by_cases he : e = 0
        case neg =>
          have hPe := Lib.hid (show P0 = badP e by rw [← hP0.out, if_pos he])
          have e1 : (e != 0) = true := by simp [he]
          have e2 : (e == 0) = false := by simp [he]
          clear he
          go_wp2_with fail
          refine bodyPost_ret (v := .tuple #[.agg #[.slice none 0 0, .bool false, .bool false], .int .i64 e]) (by simp [results, Tryz.results23, go_sem]) rfl ?_
          rw [hPe.out]
          refine PL_err _ _ _ ?_
          go_grown
        have e1 : (e != 0) = false := by simp [he]
        have e2 : (e == 0) = true := by simp [he]
        by_cases hw : W < 1 ∨ 128 < W
        case pos =>
          have hPe := Lib.hid (show P0 = badP 2 by rw [← hP0.out, if_neg (by simpa using he), if_pos hw])
          rcases hw with hw | hw
          · have k1 : decide ((W : Int) < 1) = true := by simp; omega
            have k2 : decide (W < 1) = true := by simp; omega
            clear he hw
            go_wp2_with fail
            refine bodyPost_ret (v := .tuple #[.agg #[.slice none 0 0, .bool false, .bool false], .int .i64 2]) (by simp [results, Tryz.results23, go_sem]) rfl ?_
            rw [hPe.out]
            refine PL_err _ _ _ ?_
            go_grown
          · have k1 : decide ((W : Int) < 1) = false := by simp; omega
            have k2 : decide (W < 1) = false := by simp; omega
            have k3 : decide (128 < (W : Int)) = true := by simp; omega
            have k4 : decide (128 < W) = true := by simp; omega
            clear he hw
            go_wp2_with fail
            refine bodyPost_ret (v := .tuple #[.agg #[.slice none 0 0, .bool false, .bool false], .int .i64 2]) (by simp [results, Tryz.results23, go_sem]) rfl ?_
            rw [hPe.out]
            refine PL_err _ _ _ ?_
            go_grown
        have hPe := Lib.hid (hP0.out.symm.trans (show _ = _ by rw [if_neg (by simpa using he), if_neg hw]))
        have hNm := Lib.hid (hN.out he (by omega) (by omega))
        have hW1 : 1 ≤ W := by omega
        have k1 : decide ((W : Int) < 1) = false := by simp; omega
        have k2 : decide (W < 1) = false := by simp; omega
        have k3 : decide (128 < (W : Int)) = false := by simp; omega
        have k4 : decide (128 < W) = false := by simp; omega
        clear hw he hN
        go_wp2_with fail
        (with_reducible refine (hNm.out _).mono ?_)
        rintro e' w1 ⟨g, rfl, hA, hb1⟩
        have R1 := (R0.out).over hb1
        have r1 := R1.all
        have rl := R1.lt
        have hbw1 : Below w.heap.size w w1 := below_call hb1 (by go_grown)
        have ap := Lib.hid (RA_apart hW1 hA R1)
        have hAr := Lib.hid hA.rb
        clear hb1 R1 R0 hA
        go_wp2_with fail
        refine bodyPost_ret (v := .tuple #[.agg #[.slice (some ⟨g, 0, none⟩) W W, .bool true, .bool true], .int .i64 0]) (by simp [results, Tryz.results23, go_sem, r1]) rfl ?_
        rw [hPe.out]
        refine ⟨_, _, rfl, ?_, ?_⟩
        · exact hAr.out.set3 ap.out _ _ _ _ _ _
        · go_grown
set_option maxRecDepth 100000 in
set_option maxHeartbeats 6400000 in
theorem rP_p_other_form (s : ByteArray) (w : World) (q : Nat) (hs : s.size ≤ maxLen) (hq : q < s.size) (h39 : bt s q = 39) (hf : ∀ k, k < q → bt s k ≠ 39) (hp : 0 < q) (W : Nat)
    (hD : ∀ w, Calls Tryz.prog 34 #[.string (s.extract 0 q), .int .i64 10] w fun e' w' => e' = .returned (.int .i64 0) ∧ w' = w)
    (hC : ∀ w, Calls Tryz.prog 35 #[.string (s.extract 0 q), .int .i64 1000] w fun e' w' => e' = .returned (.int .i64 (W : Int)) ∧ w' = w)
    (r : ByteArray) (hr : s.extract (q + 1) s.size = r) (h0 : 0 < r.size) (h1 : bt r 0 ≠ 115) (h2 : bt r 0 ≠ 83) (n0 : bt r 0 ≠ 98) (n1 : bt r 0 ≠ 66) (n2 : bt r 0 ≠ 111) (n3 : bt r 0 ≠ 79) (n4 : bt r 0 ≠ 100) (n5 : bt r 0 ≠ 68) (n6 : bt r 0 ≠ 104) (n7 : bt r 0 ≠ 72) :
    Calls Tryz.prog 23 #[.string s] w (PL w (badP 5)) := by
  unfold maxLen at hs
  have hpq : decide ((0 : Int) < (q : Int)) = true := by simp; omega
  have hpq2 : decide (0 < q) = true := by simp; omega
  replace hD := Lib.hid hD
  replace hC := Lib.hid hC
  have hrs : r.size = s.size - (q + 1) := by rw [← hr]; simp
  have hlt0 := Lib.hid (show q + 1 < s.size by omega)
  clear hrs
  obtain ⟨r1, r2⟩ := nemp r h0
  have hb0 := bt_at r 0 h0
  have hl0 := bt_lt r 0
  have h0i : (0 : Int) < (r.size : Int) := by omega
  have v1 : (((bt r 0 : Nat) : Int) == 115) = false := by simp; omega
  have v2 : (((bt r 0 : Nat) : Int) == 83) = false := by simp; omega
  have v3 : ((bt r 0) == 115) = false := by simp; omega
  have v4 : ((bt r 0) == 83) = false := by simp; omega
  clear h1 h2
  have m0 : (((bt r 0 : Nat) : Int) == 98) = false := by simp; omega
  have o0 : ((bt r 0) == 98) = false := by simp; omega
  clear n0
  have m1 : (((bt r 0 : Nat) : Int) == 66) = false := by simp; omega
  have o1 : ((bt r 0) == 66) = false := by simp; omega
  clear n1
  have m2 : (((bt r 0 : Nat) : Int) == 111) = false := by simp; omega
  have o2 : ((bt r 0) == 111) = false := by simp; omega
  clear n2
  have m3 : (((bt r 0 : Nat) : Int) == 79) = false := by simp; omega
  have o3 : ((bt r 0) == 79) = false := by simp; omega
  clear n3
  have m4 : (((bt r 0 : Nat) : Int) == 100) = false := by simp; omega
  have o4 : ((bt r 0) == 100) = false := by simp; omega
  clear n4
  have m5 : (((bt r 0 : Nat) : Int) == 68) = false := by simp; omega
  have o5 : ((bt r 0) == 68) = false := by simp; omega
  clear n5
  have m6 : (((bt r 0 : Nat) : Int) == 104) = false := by simp; omega
  have o6 : ((bt r 0) == 104) = false := by simp; omega
  clear n6
  have m7 : (((bt r 0 : Nat) : Int) == 72) = false := by simp; omega
  have o7 : ((bt r 0) == 72) = false := by simp; omega
  clear n7
  generalize bt r 0 = c0 at *
  replace hf := Lib.hid hf
  replace h39 := Lib.hid h39
  go_enter Tryz.func23, Tryz.ntmps23
  go_wp2_with fail
  go_loop [4, 5] (fun at_ i => ∃ k : Nat, i = .int .i64 (k : Int) ∧ ((k ≤ q ∧ at_ = .int .i64 (-1)) ∨ (k = q + 1 ∧ at_ = .int .i64 (q : Int)))) (fun _ i => s.size - (intOf i).toNat)
  case atStart => exact ⟨0, rfl, .inl ⟨Nat.zero_le _, rfl⟩⟩
  case round =>
    obtain ⟨k, rfl, ⟨hk, rfl⟩ | ⟨hk, rfl⟩⟩ := hrel
    · have hlt : k < s.size := by omega
      have hbt := bt_at s k hlt
      have hl := bt_lt s k
      by_cases e : k = q
      · subst e
        have h39' := h39.out
        rw [h39'] at hbt
        clear h39' hl hk
        go_wp2_with fail
        go_round
        case rel => exact ⟨k + 1, by go_num, .inr ⟨rfl, rfl⟩⟩
        case measure => simp [intOf]; omega
      · have h39' := hf.out k (by omega)
        have u1 : (((bt s k : Nat) : Int) == 39) = false := by simp; omega
        have u2 : ((bt s k) == 39) = false := by simp; omega
        clear h39'
        have hkq : k < q := by omega
        clear e hk
        generalize bt s k = c9 at *
        go_wp2_with fail
        go_round
        case rel => exact ⟨k + 1, by go_num, .inl ⟨by omega, rfl⟩⟩
        case measure => simp [intOf]; omega
    · subst hk
      have q0 : (0 : Int) ≤ (q : Int) := by omega
      have nq : ¬ (q : Int) < 0 := by omega
      have qs : (q : Int) + 1 ≤ (s.size : Int) := by omega
      have lt2 := hlt0.out
      have lt1 : (q : Int) + 1 < (s.size : Int) := by omega
      go_wp2_with (first | (go_at_call 34; (with_reducible refine (hD.out _).mono ?_); rintro e' w' ⟨rfl, hw'⟩; subst hw') | (go_at_call 35; (with_reducible refine (hC.out _).mono ?_); rintro e' w' ⟨rfl, hw'⟩; subst hw'))
      refine bodyPost_ret (v := .tuple #[.agg #[.slice none 0 0, .bool false, .bool false], .int .i64 5]) (by simp [results, Tryz.results23, go_sem]) rfl (PL_err _ _ _ ?_)
      go_grown
set_option maxRecDepth 100000 in
set_option maxHeartbeats 6400000 in
theorem rP_p_s_form (s : ByteArray) (w : World) (q : Nat) (hs : s.size ≤ maxLen) (hq : q < s.size) (h39 : bt s q = 39) (hf : ∀ k, k < q → bt s k ≠ 39) (hp : 0 < q) (W : Nat)
    (hD : ∀ w, Calls Tryz.prog 34 #[.string (s.extract 0 q), .int .i64 10] w fun e' w' => e' = .returned (.int .i64 0) ∧ w' = w)
    (hC : ∀ w, Calls Tryz.prog 35 #[.string (s.extract 0 q), .int .i64 1000] w fun e' w' => e' = .returned (.int .i64 (W : Int)) ∧ w' = w)
    (r : ByteArray) (hr : s.extract (q + 1) s.size = r) (h0 : 0 < r.size) (h1 : bt r 0 = 115) (t : ByteArray) (ht : r.extract 1 r.size = t) (k0 : 0 < t.size) (n0 : bt t 0 ≠ 98) (n1 : bt t 0 ≠ 66) (n2 : bt t 0 ≠ 111) (n3 : bt t 0 ≠ 79) (n4 : bt t 0 ≠ 100) (n5 : bt t 0 ≠ 68) (n6 : bt t 0 ≠ 104) (n7 : bt t 0 ≠ 72) :
    Calls Tryz.prog 23 #[.string s] w (PL w (badP 5)) := by
  unfold maxLen at hs
  have hpq : decide ((0 : Int) < (q : Int)) = true := by simp; omega
  have hpq2 : decide (0 < q) = true := by simp; omega
  replace hD := Lib.hid hD
  replace hC := Lib.hid hC
  have hrs : r.size = s.size - (q + 1) := by rw [← hr]; simp
  have hlt0 := Lib.hid (show q + 1 < s.size by omega)
  clear hrs
  obtain ⟨r1, r2⟩ := nemp r h0
  have hb0 := bt_at r 0 h0
  have hl0 := bt_lt r 0
  have h0i : (0 : Int) < (r.size : Int) := by omega
  rw [h1] at hb0
  clear h1 hl0
  have r3 : 1 ≤ r.size := by omega
  have r4 : (1 : Int) ≤ (r.size : Int) := by omega
  obtain ⟨t1, t2⟩ := nemp t k0
  have hbk := bt_at t 0 k0
  have hlk := bt_lt t 0
  have m0 : (((bt t 0 : Nat) : Int) == 98) = false := by simp; omega
  have o0 : ((bt t 0) == 98) = false := by simp; omega
  clear n0
  have m1 : (((bt t 0 : Nat) : Int) == 66) = false := by simp; omega
  have o1 : ((bt t 0) == 66) = false := by simp; omega
  clear n1
  have m2 : (((bt t 0 : Nat) : Int) == 111) = false := by simp; omega
  have o2 : ((bt t 0) == 111) = false := by simp; omega
  clear n2
  have m3 : (((bt t 0 : Nat) : Int) == 79) = false := by simp; omega
  have o3 : ((bt t 0) == 79) = false := by simp; omega
  clear n3
  have m4 : (((bt t 0 : Nat) : Int) == 100) = false := by simp; omega
  have o4 : ((bt t 0) == 100) = false := by simp; omega
  clear n4
  have m5 : (((bt t 0 : Nat) : Int) == 68) = false := by simp; omega
  have o5 : ((bt t 0) == 68) = false := by simp; omega
  clear n5
  have m6 : (((bt t 0 : Nat) : Int) == 104) = false := by simp; omega
  have o6 : ((bt t 0) == 104) = false := by simp; omega
  clear n6
  have m7 : (((bt t 0 : Nat) : Int) == 72) = false := by simp; omega
  have o7 : ((bt t 0) == 72) = false := by simp; omega
  clear n7
  generalize bt t 0 = c0 at *
  replace hf := Lib.hid hf
  replace h39 := Lib.hid h39
  go_enter Tryz.func23, Tryz.ntmps23
  go_wp2_with fail
  go_loop [4, 5] (fun at_ i => ∃ k : Nat, i = .int .i64 (k : Int) ∧ ((k ≤ q ∧ at_ = .int .i64 (-1)) ∨ (k = q + 1 ∧ at_ = .int .i64 (q : Int)))) (fun _ i => s.size - (intOf i).toNat)
  case atStart => exact ⟨0, rfl, .inl ⟨Nat.zero_le _, rfl⟩⟩
  case round =>
    obtain ⟨k, rfl, ⟨hk, rfl⟩ | ⟨hk, rfl⟩⟩ := hrel
    · have hlt : k < s.size := by omega
      have hbt := bt_at s k hlt
      have hl := bt_lt s k
      by_cases e : k = q
      · subst e
        have h39' := h39.out
        rw [h39'] at hbt
        clear h39' hl hk
        go_wp2_with fail
        go_round
        case rel => exact ⟨k + 1, by go_num, .inr ⟨rfl, rfl⟩⟩
        case measure => simp [intOf]; omega
      · have h39' := hf.out k (by omega)
        have u1 : (((bt s k : Nat) : Int) == 39) = false := by simp; omega
        have u2 : ((bt s k) == 39) = false := by simp; omega
        clear h39'
        have hkq : k < q := by omega
        clear e hk
        generalize bt s k = c9 at *
        go_wp2_with fail
        go_round
        case rel => exact ⟨k + 1, by go_num, .inl ⟨by omega, rfl⟩⟩
        case measure => simp [intOf]; omega
    · subst hk
      have q0 : (0 : Int) ≤ (q : Int) := by omega
      have nq : ¬ (q : Int) < 0 := by omega
      have qs : (q : Int) + 1 ≤ (s.size : Int) := by omega
      have lt2 := hlt0.out
      have lt1 : (q : Int) + 1 < (s.size : Int) := by omega
      go_wp2_with (first | (go_at_call 34; (with_reducible refine (hD.out _).mono ?_); rintro e' w' ⟨rfl, hw'⟩; subst hw') | (go_at_call 35; (with_reducible refine (hC.out _).mono ?_); rintro e' w' ⟨rfl, hw'⟩; subst hw'))
      refine bodyPost_ret (v := .tuple #[.agg #[.slice none 0 0, .bool false, .bool false], .int .i64 5]) (by simp [results, Tryz.results23, go_sem]) rfl (PL_err _ _ _ ?_)
      go_grown
set_option maxRecDepth 100000 in
set_option maxHeartbeats 6400000 in
theorem rP_p_S_form (s : ByteArray) (w : World) (q : Nat) (hs : s.size ≤ maxLen) (hq : q < s.size) (h39 : bt s q = 39) (hf : ∀ k, k < q → bt s k ≠ 39) (hp : 0 < q) (W : Nat)
    (hD : ∀ w, Calls Tryz.prog 34 #[.string (s.extract 0 q), .int .i64 10] w fun e' w' => e' = .returned (.int .i64 0) ∧ w' = w)
    (hC : ∀ w, Calls Tryz.prog 35 #[.string (s.extract 0 q), .int .i64 1000] w fun e' w' => e' = .returned (.int .i64 (W : Int)) ∧ w' = w)
    (r : ByteArray) (hr : s.extract (q + 1) s.size = r) (h0 : 0 < r.size) (h1 : bt r 0 = 83) (t : ByteArray) (ht : r.extract 1 r.size = t) (k0 : 0 < t.size) (n0 : bt t 0 ≠ 98) (n1 : bt t 0 ≠ 66) (n2 : bt t 0 ≠ 111) (n3 : bt t 0 ≠ 79) (n4 : bt t 0 ≠ 100) (n5 : bt t 0 ≠ 68) (n6 : bt t 0 ≠ 104) (n7 : bt t 0 ≠ 72) :
    Calls Tryz.prog 23 #[.string s] w (PL w (badP 5)) := by
  unfold maxLen at hs
  have hpq : decide ((0 : Int) < (q : Int)) = true := by simp; omega
  have hpq2 : decide (0 < q) = true := by simp; omega
  replace hD := Lib.hid hD
  replace hC := Lib.hid hC
  have hrs : r.size = s.size - (q + 1) := by rw [← hr]; simp
  have hlt0 := Lib.hid (show q + 1 < s.size by omega)
  clear hrs
  obtain ⟨r1, r2⟩ := nemp r h0
  have hb0 := bt_at r 0 h0
  have hl0 := bt_lt r 0
  have h0i : (0 : Int) < (r.size : Int) := by omega
  rw [h1] at hb0
  clear h1 hl0
  have r3 : 1 ≤ r.size := by omega
  have r4 : (1 : Int) ≤ (r.size : Int) := by omega
  obtain ⟨t1, t2⟩ := nemp t k0
  have hbk := bt_at t 0 k0
  have hlk := bt_lt t 0
  have m0 : (((bt t 0 : Nat) : Int) == 98) = false := by simp; omega
  have o0 : ((bt t 0) == 98) = false := by simp; omega
  clear n0
  have m1 : (((bt t 0 : Nat) : Int) == 66) = false := by simp; omega
  have o1 : ((bt t 0) == 66) = false := by simp; omega
  clear n1
  have m2 : (((bt t 0 : Nat) : Int) == 111) = false := by simp; omega
  have o2 : ((bt t 0) == 111) = false := by simp; omega
  clear n2
  have m3 : (((bt t 0 : Nat) : Int) == 79) = false := by simp; omega
  have o3 : ((bt t 0) == 79) = false := by simp; omega
  clear n3
  have m4 : (((bt t 0 : Nat) : Int) == 100) = false := by simp; omega
  have o4 : ((bt t 0) == 100) = false := by simp; omega
  clear n4
  have m5 : (((bt t 0 : Nat) : Int) == 68) = false := by simp; omega
  have o5 : ((bt t 0) == 68) = false := by simp; omega
  clear n5
  have m6 : (((bt t 0 : Nat) : Int) == 104) = false := by simp; omega
  have o6 : ((bt t 0) == 104) = false := by simp; omega
  clear n6
  have m7 : (((bt t 0 : Nat) : Int) == 72) = false := by simp; omega
  have o7 : ((bt t 0) == 72) = false := by simp; omega
  clear n7
  generalize bt t 0 = c0 at *
  replace hf := Lib.hid hf
  replace h39 := Lib.hid h39
  go_enter Tryz.func23, Tryz.ntmps23
  go_wp2_with fail
  go_loop [4, 5] (fun at_ i => ∃ k : Nat, i = .int .i64 (k : Int) ∧ ((k ≤ q ∧ at_ = .int .i64 (-1)) ∨ (k = q + 1 ∧ at_ = .int .i64 (q : Int)))) (fun _ i => s.size - (intOf i).toNat)
  case atStart => exact ⟨0, rfl, .inl ⟨Nat.zero_le _, rfl⟩⟩
  case round =>
    obtain ⟨k, rfl, ⟨hk, rfl⟩ | ⟨hk, rfl⟩⟩ := hrel
    · have hlt : k < s.size := by omega
      have hbt := bt_at s k hlt
      have hl := bt_lt s k
      by_cases e : k = q
      · subst e
        have h39' := h39.out
        rw [h39'] at hbt
        clear h39' hl hk
        go_wp2_with fail
        go_round
        case rel => exact ⟨k + 1, by go_num, .inr ⟨rfl, rfl⟩⟩
        case measure => simp [intOf]; omega
      · have h39' := hf.out k (by omega)
        have u1 : (((bt s k : Nat) : Int) == 39) = false := by simp; omega
        have u2 : ((bt s k) == 39) = false := by simp; omega
        clear h39'
        have hkq : k < q := by omega
        clear e hk
        generalize bt s k = c9 at *
        go_wp2_with fail
        go_round
        case rel => exact ⟨k + 1, by go_num, .inl ⟨by omega, rfl⟩⟩
        case measure => simp [intOf]; omega
    · subst hk
      have q0 : (0 : Int) ≤ (q : Int) := by omega
      have nq : ¬ (q : Int) < 0 := by omega
      have qs : (q : Int) + 1 ≤ (s.size : Int) := by omega
      have lt2 := hlt0.out
      have lt1 : (q : Int) + 1 < (s.size : Int) := by omega
      go_wp2_with (first | (go_at_call 34; (with_reducible refine (hD.out _).mono ?_); rintro e' w' ⟨rfl, hw'⟩; subst hw') | (go_at_call 35; (with_reducible refine (hC.out _).mono ?_); rintro e' w' ⟨rfl, hw'⟩; subst hw'))
      refine bodyPost_ret (v := .tuple #[.agg #[.slice none 0 0, .bool false, .bool false], .int .i64 5]) (by simp [results, Tryz.results23, go_sem]) rfl (PL_err _ _ _ ?_)
      go_grown
set_option maxRecDepth 100000 in
set_option maxHeartbeats 6400000 in
theorem rP_p_s_end (s : ByteArray) (w : World) (q : Nat) (hs : s.size ≤ maxLen) (hq : q < s.size) (h39 : bt s q = 39) (hf : ∀ k, k < q → bt s k ≠ 39) (hp : 0 < q) (W : Nat)
    (hD : ∀ w, Calls Tryz.prog 34 #[.string (s.extract 0 q), .int .i64 10] w fun e' w' => e' = .returned (.int .i64 0) ∧ w' = w)
    (hC : ∀ w, Calls Tryz.prog 35 #[.string (s.extract 0 q), .int .i64 1000] w fun e' w' => e' = .returned (.int .i64 (W : Int)) ∧ w' = w)
    (r : ByteArray) (hr : s.extract (q + 1) s.size = r) (h0 : 0 < r.size) (h1 : bt r 0 = 115) (t : ByteArray) (ht : r.extract 1 r.size = t) (k0 : t.size = 0) :
    Calls Tryz.prog 23 #[.string s] w (PL w (badP 6)) := by
  unfold maxLen at hs
  have hpq : decide ((0 : Int) < (q : Int)) = true := by simp; omega
  have hpq2 : decide (0 < q) = true := by simp; omega
  replace hD := Lib.hid hD
  replace hC := Lib.hid hC
  have hrs : r.size = s.size - (q + 1) := by rw [← hr]; simp
  have hlt0 := Lib.hid (show q + 1 < s.size by omega)
  clear hrs
  obtain ⟨r1, r2⟩ := nemp r h0
  have hb0 := bt_at r 0 h0
  have hl0 := bt_lt r 0
  have h0i : (0 : Int) < (r.size : Int) := by omega
  rw [h1] at hb0
  clear h1 hl0
  have r3 : 1 ≤ r.size := by omega
  have r4 : (1 : Int) ≤ (r.size : Int) := by omega
  obtain ⟨t1, t2⟩ := emp t k0
  replace hf := Lib.hid hf
  replace h39 := Lib.hid h39
  go_enter Tryz.func23, Tryz.ntmps23
  go_wp2_with fail
  go_loop [4, 5] (fun at_ i => ∃ k : Nat, i = .int .i64 (k : Int) ∧ ((k ≤ q ∧ at_ = .int .i64 (-1)) ∨ (k = q + 1 ∧ at_ = .int .i64 (q : Int)))) (fun _ i => s.size - (intOf i).toNat)
  case atStart => exact ⟨0, rfl, .inl ⟨Nat.zero_le _, rfl⟩⟩
  case round =>
    obtain ⟨k, rfl, ⟨hk, rfl⟩ | ⟨hk, rfl⟩⟩ := hrel
    · have hlt : k < s.size := by omega
      have hbt := bt_at s k hlt
      have hl := bt_lt s k
      by_cases e : k = q
      · subst e
        have h39' := h39.out
        rw [h39'] at hbt
        clear h39' hl hk
        go_wp2_with fail
        go_round
        case rel => exact ⟨k + 1, by go_num, .inr ⟨rfl, rfl⟩⟩
        case measure => simp [intOf]; omega
      · have h39' := hf.out k (by omega)
        have u1 : (((bt s k : Nat) : Int) == 39) = false := by simp; omega
        have u2 : ((bt s k) == 39) = false := by simp; omega
        clear h39'
        have hkq : k < q := by omega
        clear e hk
        generalize bt s k = c9 at *
        go_wp2_with fail
        go_round
        case rel => exact ⟨k + 1, by go_num, .inl ⟨by omega, rfl⟩⟩
        case measure => simp [intOf]; omega
    · subst hk
      have q0 : (0 : Int) ≤ (q : Int) := by omega
      have nq : ¬ (q : Int) < 0 := by omega
      have qs : (q : Int) + 1 ≤ (s.size : Int) := by omega
      have lt2 := hlt0.out
      have lt1 : (q : Int) + 1 < (s.size : Int) := by omega
      go_wp2_with (first | (go_at_call 34; (with_reducible refine (hD.out _).mono ?_); rintro e' w' ⟨rfl, hw'⟩; subst hw') | (go_at_call 35; (with_reducible refine (hC.out _).mono ?_); rintro e' w' ⟨rfl, hw'⟩; subst hw'))
      refine bodyPost_ret (v := .tuple #[.agg #[.slice none 0 0, .bool false, .bool false], .int .i64 6]) (by simp [results, Tryz.results23, go_sem]) rfl (PL_err _ _ _ ?_)
      go_grown
set_option maxRecDepth 100000 in
set_option maxHeartbeats 6400000 in
theorem rP_p_S_end (s : ByteArray) (w : World) (q : Nat) (hs : s.size ≤ maxLen) (hq : q < s.size) (h39 : bt s q = 39) (hf : ∀ k, k < q → bt s k ≠ 39) (hp : 0 < q) (W : Nat)
    (hD : ∀ w, Calls Tryz.prog 34 #[.string (s.extract 0 q), .int .i64 10] w fun e' w' => e' = .returned (.int .i64 0) ∧ w' = w)
    (hC : ∀ w, Calls Tryz.prog 35 #[.string (s.extract 0 q), .int .i64 1000] w fun e' w' => e' = .returned (.int .i64 (W : Int)) ∧ w' = w)
    (r : ByteArray) (hr : s.extract (q + 1) s.size = r) (h0 : 0 < r.size) (h1 : bt r 0 = 83) (t : ByteArray) (ht : r.extract 1 r.size = t) (k0 : t.size = 0) :
    Calls Tryz.prog 23 #[.string s] w (PL w (badP 6)) := by
  unfold maxLen at hs
  have hpq : decide ((0 : Int) < (q : Int)) = true := by simp; omega
  have hpq2 : decide (0 < q) = true := by simp; omega
  replace hD := Lib.hid hD
  replace hC := Lib.hid hC
  have hrs : r.size = s.size - (q + 1) := by rw [← hr]; simp
  have hlt0 := Lib.hid (show q + 1 < s.size by omega)
  clear hrs
  obtain ⟨r1, r2⟩ := nemp r h0
  have hb0 := bt_at r 0 h0
  have hl0 := bt_lt r 0
  have h0i : (0 : Int) < (r.size : Int) := by omega
  rw [h1] at hb0
  clear h1 hl0
  have r3 : 1 ≤ r.size := by omega
  have r4 : (1 : Int) ≤ (r.size : Int) := by omega
  obtain ⟨t1, t2⟩ := emp t k0
  replace hf := Lib.hid hf
  replace h39 := Lib.hid h39
  go_enter Tryz.func23, Tryz.ntmps23
  go_wp2_with fail
  go_loop [4, 5] (fun at_ i => ∃ k : Nat, i = .int .i64 (k : Int) ∧ ((k ≤ q ∧ at_ = .int .i64 (-1)) ∨ (k = q + 1 ∧ at_ = .int .i64 (q : Int)))) (fun _ i => s.size - (intOf i).toNat)
  case atStart => exact ⟨0, rfl, .inl ⟨Nat.zero_le _, rfl⟩⟩
  case round =>
    obtain ⟨k, rfl, ⟨hk, rfl⟩ | ⟨hk, rfl⟩⟩ := hrel
    · have hlt : k < s.size := by omega
      have hbt := bt_at s k hlt
      have hl := bt_lt s k
      by_cases e : k = q
      · subst e
        have h39' := h39.out
        rw [h39'] at hbt
        clear h39' hl hk
        go_wp2_with fail
        go_round
        case rel => exact ⟨k + 1, by go_num, .inr ⟨rfl, rfl⟩⟩
        case measure => simp [intOf]; omega
      · have h39' := hf.out k (by omega)
        have u1 : (((bt s k : Nat) : Int) == 39) = false := by simp; omega
        have u2 : ((bt s k) == 39) = false := by simp; omega
        clear h39'
        have hkq : k < q := by omega
        clear e hk
        generalize bt s k = c9 at *
        go_wp2_with fail
        go_round
        case rel => exact ⟨k + 1, by go_num, .inl ⟨by omega, rfl⟩⟩
        case measure => simp [intOf]; omega
    · subst hk
      have q0 : (0 : Int) ≤ (q : Int) := by omega
      have nq : ¬ (q : Int) < 0 := by omega
      have qs : (q : Int) + 1 ≤ (s.size : Int) := by omega
      have lt2 := hlt0.out
      have lt1 : (q : Int) + 1 < (s.size : Int) := by omega
      go_wp2_with (first | (go_at_call 34; (with_reducible refine (hD.out _).mono ?_); rintro e' w' ⟨rfl, hw'⟩; subst hw') | (go_at_call 35; (with_reducible refine (hC.out _).mono ?_); rintro e' w' ⟨rfl, hw'⟩; subst hw'))
      refine bodyPost_ret (v := .tuple #[.agg #[.slice none 0 0, .bool false, .bool false], .int .i64 6]) (by simp [results, Tryz.results23, go_sem]) rfl (PL_err _ _ _ ?_)
      go_grown
set_option maxRecDepth 100000 in
set_option maxHeartbeats 6400000 in
theorem rP_p_none_end (s : ByteArray) (w : World) (q : Nat) (hs : s.size ≤ maxLen) (hq : q < s.size) (h39 : bt s q = 39) (hf : ∀ k, k < q → bt s k ≠ 39) (hp : 0 < q) (W : Nat)
    (hD : ∀ w, Calls Tryz.prog 34 #[.string (s.extract 0 q), .int .i64 10] w fun e' w' => e' = .returned (.int .i64 0) ∧ w' = w)
    (hC : ∀ w, Calls Tryz.prog 35 #[.string (s.extract 0 q), .int .i64 1000] w fun e' w' => e' = .returned (.int .i64 (W : Int)) ∧ w' = w)
    (r : ByteArray) (hr : s.extract (q + 1) s.size = r) (h0 : r.size = 0) :
    Calls Tryz.prog 23 #[.string s] w (PL w (badP 6)) := by
  unfold maxLen at hs
  have hpq : decide ((0 : Int) < (q : Int)) = true := by simp; omega
  have hpq2 : decide (0 < q) = true := by simp; omega
  replace hD := Lib.hid hD
  replace hC := Lib.hid hC
  have hrs : r.size = s.size - (q + 1) := by rw [← hr]; simp
  have hlt0 := Lib.hid (show s.size = q + 1 by omega)
  clear hrs
  obtain ⟨r1, r2⟩ := emp r h0
  replace hf := Lib.hid hf
  replace h39 := Lib.hid h39
  go_enter Tryz.func23, Tryz.ntmps23
  go_wp2_with fail
  go_loop [4, 5] (fun at_ i => ∃ k : Nat, i = .int .i64 (k : Int) ∧ ((k ≤ q ∧ at_ = .int .i64 (-1)) ∨ (k = q + 1 ∧ at_ = .int .i64 (q : Int)))) (fun _ i => s.size - (intOf i).toNat)
  case atStart => exact ⟨0, rfl, .inl ⟨Nat.zero_le _, rfl⟩⟩
  case round =>
    obtain ⟨k, rfl, ⟨hk, rfl⟩ | ⟨hk, rfl⟩⟩ := hrel
    · have hlt : k < s.size := by omega
      have hbt := bt_at s k hlt
      have hl := bt_lt s k
      by_cases e : k = q
      · subst e
        have h39' := h39.out
        rw [h39'] at hbt
        clear h39' hl hk
        go_wp2_with fail
        go_round
        case rel => exact ⟨k + 1, by go_num, .inr ⟨rfl, rfl⟩⟩
        case measure => simp [intOf]; omega
      · have h39' := hf.out k (by omega)
        have u1 : (((bt s k : Nat) : Int) == 39) = false := by simp; omega
        have u2 : ((bt s k) == 39) = false := by simp; omega
        clear h39'
        have hkq : k < q := by omega
        clear e hk
        generalize bt s k = c9 at *
        go_wp2_with fail
        go_round
        case rel => exact ⟨k + 1, by go_num, .inl ⟨by omega, rfl⟩⟩
        case measure => simp [intOf]; omega
    · subst hk
      have q0 : (0 : Int) ≤ (q : Int) := by omega
      have nq : ¬ (q : Int) < 0 := by omega
      have qs : (q : Int) + 1 ≤ (s.size : Int) := by omega
      have lt2 := hlt0.out
      have lt1 : ¬ (q : Int) + 1 < (s.size : Int) := by omega
      have lt3 : ¬ q + 1 < s.size := by omega
      clear lt2
      go_wp2_with (first | (go_at_call 34; (with_reducible refine (hD.out _).mono ?_); rintro e' w' ⟨rfl, hw'⟩; subst hw') | (go_at_call 35; (with_reducible refine (hC.out _).mono ?_); rintro e' w' ⟨rfl, hw'⟩; subst hw'))
      all_goals
       refine bodyPost_ret (v := .tuple #[.agg #[.slice none 0 0, .bool false, .bool false], .int .i64 6]) (by simp [results, Tryz.results23, go_sem]) rfl (PL_err _ _ _ ?_)
       go_grown
end Go.Proofs.YtcifljbcoioogaaGreatDoor
