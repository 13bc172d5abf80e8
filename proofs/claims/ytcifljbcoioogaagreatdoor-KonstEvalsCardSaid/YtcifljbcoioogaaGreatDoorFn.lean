/-
  The walk of the reference's Parse, where there is an apostrophe (unfinished: the error ahead of it).
-/
import Derived.Test.YtcifljbcoioogaaGreatDoorFj
namespace Go.Proofs.YtcifljbcoioogaaGreatDoor
open Go.RowKit
set_option maxRecDepth 100000 in
set_option maxHeartbeats 3200000 in
theorem refParse_at_err (s : ByteArray) (w : World) (q : Nat) (e : Int) (hs : s.size ≤ maxLen) (hq : q < s.size) (h39 : bt s q = 39) (hf : ∀ k, k < q → bt s k ≠ 39) (hp : 0 < q) (he : e ≠ 0)
    (hD : ∀ w, Calls Tryz.prog 34 #[.string (s.extract 0 q), .int .i64 10] w fun e' w' => e' = .returned (.int .i64 e) ∧ w' = w) :
    Calls Tryz.prog 23 #[.string s] w (PL w (badP e)) := by
  unfold maxLen at hs
  have e1 : (e != 0) = true := by simp [he]
  clear he
  replace hf := Lib.hid hf
  replace h39 := Lib.hid h39
  replace hD := Lib.hid hD
  go_enter Tryz.func23, Tryz.ntmps23
  go_wp2_with fail
  go_loop [4, 5] (fun at_ i => ∃ k : Nat, i = .int .i64 (k : Int) ∧ ((k ≤ q ∧ at_ = .int .i64 (-1)) ∨ (k = q + 1 ∧ at_ = .int .i64 (q : Int)))) (fun _ i => s.size - (intOf i).toNat)
  case atStart => exact ⟨0, rfl, .inl ⟨Nat.zero_le _, rfl⟩⟩
  case round =>
    obtain ⟨k, rfl, ⟨hk, rfl⟩ | ⟨hk, rfl⟩⟩ := hrel
    · have hlt : k < s.size := by omega
      have hbt := bt_at s k hlt
      have hl := bt_lt s k
      by_cases e : k = q
      · subst e
        have h39' := h39.out
        rw [h39'] at hbt
        clear h39' hl hk
        go_wp2_with fail
        go_round
        case rel => exact ⟨k + 1, by go_num, .inr ⟨rfl, rfl⟩⟩
        case measure => simp [intOf]; omega
      · have h39' := hf.out k (by omega)
        have u1 : (((bt s k : Nat) : Int) == 39) = false := by simp; omega
        have u2 : ((bt s k) == 39) = false := by simp; omega
        clear h39'
        have hkq : k < q := by omega
        clear e hk
        generalize bt s k = c9 at *
        go_wp2_with fail
        go_round
        case rel => exact ⟨k + 1, by go_num, .inl ⟨by omega, rfl⟩⟩
        case measure => simp [intOf]; omega
    · subst hk
      have q0 : (0 : Int) ≤ (q : Int) := by omega
      have nq : ¬ (q : Int) < 0 := by omega
      have qs : (q : Int) ≤ (s.size : Int) := by omega
      go_wp2_with (go_at_call 34; (with_reducible refine (hD.out _).mono ?_); rintro e w' ⟨rfl, rfl⟩)
      all_goals
       refine bodyPost_ret (v := .tuple #[.agg #[.slice none 0 0, .bool false, .bool false], .int .i64 e]) (by simp [results, Tryz.results23, go_sem]) rfl (PL_err _ _ _ ?_)
       go_grown
end Go.Proofs.YtcifljbcoioogaaGreatDoor
