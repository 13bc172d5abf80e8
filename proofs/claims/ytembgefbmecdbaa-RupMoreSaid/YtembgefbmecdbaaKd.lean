/-
  The comparison of literals, whether neighbours are opposites, the test for a literal of no variable.
-/
import Derived.Test.YtembgefbmecdbaaKc
import Derived.Shelf.SlSortCmp.Kit1
namespace Go.Proofs.Ytembgefbmecdbaa
open Go.RowKit Go.Lib Go.Sort
theorem va_max (x : Int) : va x = max x (IntKind.i64.wrap (-x)) := by
  unfold va
  split <;> omega
theorem variable_t (x : Int) (w : World) : Calls Try.prog 37 #[.int .i64 x] w fun e w' => e = .returned (.int .i64 (va x)) ∧ w' = w := by
  rw [va_max, IntWalk.i64_left]
  go_enter Try.func37, Try.ntmps37
  go_wp2
  go_ret
  exact ⟨rfl, rfl⟩
theorem isNaN_t (x : Int) (w : World) : Calls Try.prog 58 #[.int .i64 x] w fun e w' => e = .returned (.bool false) ∧ w' = w := by
  go_enter Try.func58, Try.ntmps58
  go_wp2
  go_ret
  exact ⟨by simp, rfl⟩
def cmpI (x y : Int) : Int := if x < y then -1 else if y < x then 1 else 0
theorem Compare_t (x y : Int) (w : World) : Calls Try.prog 36 #[.int .i64 x, .int .i64 y] w fun e w' => e = .returned (.int .i64 (cmpI x y)) ∧ w' = w := by
  have hN := Lib.hid (fun x w => isNaN_t x w)
  by_cases h : x < y
  · have e := Lib.hid (show cmpI x y = -1 from if_pos h)
    go_enter Try.func36, Try.ntmps36
    go_wp2_with (go_at_call 58; (with_reducible refine (hN.out _ _).mono ?_); rintro e w' ⟨rfl, rfl⟩)
    go_ret
    exact ⟨by rw [e.out]; rfl, rfl⟩
  · by_cases h2 : y < x
    · have e := Lib.hid (show cmpI x y = 1 by unfold cmpI; rw [if_neg h, if_pos h2])
      go_enter Try.func36, Try.ntmps36
      go_wp2_with (go_at_call 58; (with_reducible refine (hN.out _ _).mono ?_); rintro e w' ⟨rfl, rfl⟩)
      go_ret
      exact ⟨by rw [e.out]; rfl, rfl⟩
    · have e := Lib.hid (show cmpI x y = 0 by unfold cmpI; rw [if_neg h, if_neg h2])
      go_enter Try.func36, Try.ntmps36
      go_wp2_with (go_at_call 58; (with_reducible refine (hN.out _ _).mono ?_); rintro e w' ⟨rfl, rfl⟩)
      go_ret
      exact ⟨by rw [e.out]; rfl, rfl⟩
theorem Or_t (a b : Int) (g : Nat) (w : World) (ha : w.cell? ⟨g, 0, none⟩ = some (.int .i64 a)) (hb : w.cell? ⟨g, 1, none⟩ = some (.int .i64 b)) :
    Calls Try.prog 35 #[.slice (some ⟨g, 0, none⟩) 2 2] w fun e w' => e = .returned (.int .i64 (if a = 0 then b else a)) ∧ w' = w := by
  by_cases h : a = 0
  · rw [if_pos h]
    subst h
    by_cases h2 : b = 0
    · subst h2
      go_enter Try.func35, Try.ntmps35
      go_wp2
      go_loopw [8] (fun i wr => ∃ k : Nat, k ≤ 2 ∧ i = .int .i64 (k : Int) ∧ wr = w) (fun i _ => 2 - (intOf i).toNat)
      case atStart => exact ⟨0, by decide, rfl, rfl⟩
      case round =>
        obtain ⟨k, hk, rfl, rfl⟩ := hrel
        by_cases hlt : k < 2
        · have hc : wr.cell? ⟨g, k, none⟩ = some (.int .i64 0) := by
            rcases (show k = 0 ∨ k = 1 by omega) with rfl | rfl
            · exact ha
            · exact hb
          go_wp2
          go_roundw
          case rel => exact ⟨k + 1, by omega, by go_num, trivial⟩
          case measure => simp [intOf]; omega
        · obtain rfl : k = 2 := by omega
          go_wp2
          go_ret
          exact ⟨rfl, rfl⟩
    · have hn : (b == 0) = false := by simpa using h2
      go_enter Try.func35, Try.ntmps35
      go_wp2
      go_loopw [8] (fun i wr => ∃ k : Nat, k ≤ 1 ∧ i = .int .i64 (k : Int) ∧ wr = w) (fun i _ => 2 - (intOf i).toNat)
      case atStart => exact ⟨0, by decide, rfl, rfl⟩
      case round =>
        obtain ⟨k, hk, rfl, rfl⟩ := hrel
        rcases (show k = 0 ∨ k = 1 by omega) with rfl | rfl
        · go_wp2
          go_roundw
          case rel => exact ⟨1, by omega, rfl, trivial⟩
          case measure => simp [intOf]
        · go_wp2
          go_ret
          exact ⟨rfl, rfl⟩
  · rw [if_neg h]
    have hn : (a == 0) = false := by simpa using h
    go_enter Try.func35, Try.ntmps35
    go_wp2
    go_loopw [8] (fun i wr => i = .int .i64 0 ∧ wr = w) (fun i _ => 0)
    case atStart => exact ⟨rfl, rfl⟩
    case round =>
      obtain ⟨rfl, rfl⟩ := hrel
      go_wp2
      go_ret
      exact ⟨rfl, rfl⟩
theorem cmpL_or (x y : Int) : (if cmpI (va x) (va y) = 0 then cmpI x y else cmpI (va x) (va y)) = cmpL x y := by
  unfold cmpI cmpL
  repeat' split
  all_goals first | rfl | omega
theorem byVariable_t (x y : Int) (w : World) : Calls Try.prog 20 #[.int .i64 x, .int .i64 y] w fun e w' => e = .returned (.int .i64 (cmpL x y)) ∧ ∃ o, w' = w.alloc o := by
  have hv := Lib.hid (fun x w => variable_t x w)
  have hC := Lib.hid (fun x y w => Compare_t x y w)
  have hO := Or_t
  have e := cmpL_or x y
  obtain ⟨a, ha⟩ : ∃ a, va x = a := ⟨_, rfl⟩
  obtain ⟨b, hb⟩ : ∃ b, va y = b := ⟨_, rfl⟩
  rw [← e, ha, hb]
  replace hO := fun g w => hO (cmpI a b) (cmpI x y) g w
  obtain ⟨r, hr⟩ : ∃ r, (if cmpI a b = 0 then cmpI x y else cmpI a b) = r := ⟨_, rfl⟩
  rw [hr] at hO ⊢
  clear e hr
  replace ha := Lib.hid ha
  replace hb := Lib.hid hb
  replace hO := Lib.hid hO
  replace hv := Lib.hid (show (∀ w, Calls Try.prog 37 #[.int .i64 x] w fun e w' => e = .returned (.int .i64 a) ∧ w' = w) ∧ ∀ w, Calls Try.prog 37 #[.int .i64 y] w fun e w' => e = .returned (.int .i64 b) ∧ w' = w from ⟨fun w => ha.out ▸ hv.out x w, fun w => hb.out ▸ hv.out y w⟩)
  go_enter Try.func20, Try.ntmps20
  go_wp2_with (first | (go_at_call 37; (with_reducible first | refine (hv.out.1 _).mono ?_ | refine (hv.out.2 _).mono ?_); rintro e w' ⟨rfl, rfl⟩) | (go_at_call 36; (with_reducible refine (hC.out _ _ _).mono ?_); rintro e w' ⟨rfl, rfl⟩))
  (with_reducible refine (hO.out _ _ ?_ ?_).mono ?_)
  · simp
  · simp
  rintro e w' ⟨rfl, rfl⟩
  go_wp2
  go_ret
  exact ⟨rfl, _, rfl⟩
theorem cmpLays (_B blk off size : Nat) (w : World) : CmpLays1 Try.prog 20 #[] (Value.int .i64) cmpL blk off size w := fun m os dk hs x y =>
  (byVariable_t x y _).mono fun e w' ⟨he, o, hw⟩ => ⟨he, 0, #[o], by rw [hw]; rfl⟩
theorem foreign_t (V : Nat) (x : Int) (g : Nat) (hV : V ≤ 60000) (w : World) (hc : w.cell? ⟨g, 0, none⟩ = some (.int .i64 (V : Int))) :
    Calls Try.prog 17 #[.int .i64 x, .pointer (some ⟨g, 0, none⟩)] w fun e w' => e = .returned (.bool (fgn V x)) ∧ ∃ q, w' = w.drewN q := by
  unfold fgn
  by_cases h0 : x = 0
  · subst h0
    go_enter Try.func17, Try.ntmps17
    go_wp2
    go_ret
    exact ⟨rfl, 0, rfl⟩
  · have n0 : (x == 0) = false := by simpa using h0
    rw [n0]
    by_cases h1 : x < -(V : Int)
    · have d1 : decide (x < -(V : Int)) = true := by simpa using h1
      go_enter Try.func17, Try.ntmps17
      go_wp2
      go_ret
      exact ⟨by simp [d1], 0, rfl⟩
    · have d1 : decide (x < -(V : Int)) = false := by simpa using h1
      go_enter Try.func17, Try.ntmps17
      go_wp2
      go_ret
      exact ⟨by simp, 0, rfl⟩
end Go.Proofs.Ytembgefbmecdbaa
