/-
  Short; the expressions of KonstWays and what Eval says of them; the state behind the statements' beginning.
-/
import Derived.Test.YtcifljbcoioogaaGreatDoorVj
import Derived.Test.YtcifljbcoioogaaGreatDoorVl
import Derived.Test.YtcifljbcoioogaaGreatDoorXs
namespace Go.Proofs.YtcifljbcoioogaaGreatDoor
open Go.RowKit Go.Lib Go.Maps
set_option maxRecDepth 100000 in
theorem Short_t (A : Option Addr) (n c : Nat) (w : World) (hc : n ≤ c) (h63 : c ≤ 9223372036854775807) (hA : 0 < n → ∃ b o : Nat, A = some ⟨b, o, none⟩) : Calls Tryz.prog 6 #[.slice A n c] w fun e w' => ∃ n' : Nat, n' ≤ n ∧ n' ≤ 300 ∧ e = .returned (.slice A n' c) ∧ w' = w := by
  by_cases h : 300 < n
  · obtain ⟨b, o, rfl⟩ := hA (by omega)
    have h1 : (300 : Int) < (n : Int) := by omega
    have h3 : 300 ≤ c := by omega
    have h4 : (300 : Int) ≤ (c : Int) := by omega
    go_enter Tryz.func6, Tryz.ntmps6
    go_wp2_with fail
    go_ret
    exact ⟨300, by omega, Nat.le_refl _, rfl, rfl⟩
  · have h1 : ¬ (300 : Int) < (n : Int) := by omega
    go_enter Tryz.func6, Tryz.ntmps6
    go_wp2_with fail
    go_ret
    exact ⟨n, Nat.le_refl _, by omega, rfl, rfl⟩
theorem cnt_dep : ∀ t : XT, t.cnt ≤ 4 ^ (t.dep + 1)
  | .z _ => by simp [XT.cnt, XT.dep]
  | .u _ x => by
    have h1 := cnt_dep x
    have h2 : 1 ≤ 4 ^ (x.dep + 1) := Nat.one_le_iff_ne_zero.2 (by simp)
    simp only [XT.cnt, XT.dep]
    rw [Nat.pow_succ 4 (x.dep + 1)]
    omega
  | .b _ x y => by
    have h1 := cnt_dep x
    have h2 := cnt_dep y
    have e1 : 4 ^ (x.dep + 1) ≤ 4 ^ (max x.dep y.dep + 1) := Nat.pow_le_pow_right (by decide) (by omega)
    have e2 : 4 ^ (y.dep + 1) ≤ 4 ^ (max x.dep y.dep + 1) := Nat.pow_le_pow_right (by decide) (by omega)
    have h3 : 1 ≤ 4 ^ (max x.dep y.dep + 1) := Nat.one_le_iff_ne_zero.2 (by simp)
    simp only [XT.cnt, XT.dep]
    rw [Nat.pow_succ 4 (max x.dep y.dep + 1)]
    omega
  | .t _ x y z => by
    have h1 := cnt_dep x
    have h2 := cnt_dep y
    have h3 := cnt_dep z
    have e1 : 4 ^ (x.dep + 1) ≤ 4 ^ (max x.dep (max y.dep z.dep) + 1) := Nat.pow_le_pow_right (by decide) (by omega)
    have e2 : 4 ^ (y.dep + 1) ≤ 4 ^ (max x.dep (max y.dep z.dep) + 1) := Nat.pow_le_pow_right (by decide) (by omega)
    have e3 : 4 ^ (z.dep + 1) ≤ 4 ^ (max x.dep (max y.dep z.dep) + 1) := Nat.pow_le_pow_right (by decide) (by omega)
    have h4 : 1 ≤ 4 ^ (max x.dep (max y.dep z.dep) + 1) := Nat.one_le_iff_ne_zero.2 (by simp)
    simp only [XT.cnt, XT.dep]
    rw [Nat.pow_succ 4 (max x.dep (max y.dep z.dep) + 1)]
    omega
end Go.Proofs.YtcifljbcoioogaaGreatDoor
