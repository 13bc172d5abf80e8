/-
  PROVED: for every two numbers the statement SatLuby returns true, and its arguments read afterwards as they read before: Luby returns the numbers of the series that the reference counts out one behind the other, and Enough the specified budgets. Conditions: those of the given row alone.
-/
import Derived.Test.YtpkmpbnedoldlaaGreatS25
import Derived.WalkKit
import Derived.ProofKit
import Derived.Lay
import Derived.OpenShut
import Derived.ChangeOld
namespace Go.Proofs.YtpkmpbnedoldlaaGreat
open Go Go.ChangeShapes Go.WideShapes Go.ChangeAt Go.RowKit Go.Lib
set_option maxRecDepth 100000 in
set_option maxHeartbeats 3200000 in
theorem sluby_t (i v : Int) (w : World) (hi : -9223372036854775808 ≤ i ∧ i ≤ 9223372036854775807) (hv : -9223372036854775808 ≤ v ∧ v ≤ 9223372036854775807) : Calls Tryz.prog 3 #[.int .i64 i, .int .i64 v] w (RV w (.bool true)) := by
  have hA := Lib.hid (awakeS_t w)
  obtain ⟨N, hN⟩ : ∃ N, max (-2) (min i 3000) = N := ⟨_, rfl⟩
  have hN0 : -2 ≤ N := by omega
  have hN1 : N ≤ 3000 := by omega
  obtain ⟨V, hV⟩ : ∃ V, max (-3) (min v 40) = V := ⟨_, rfl⟩
  have hV0 : -3 ≤ V := by omega
  have hV1 : V ≤ 40 := by omega
  obtain ⟨R, hR⟩ : ∃ R : Int, R = if N < 1 then 0 else ((lubN 13 N.toNat : Nat) : Int) := ⟨_, rfl⟩
  have hR2 : R = if N < 1 then 0 else ((sq (N.toNat - 1)).2 : Int) := by
    rw [hR]
    by_cases h : N < 1
    · rw [if_pos h, if_pos h]
    · have := (lub_sq (N.toNat - 1) (by omega)).1
      rw [if_neg h, if_neg h, ← this, show N.toNat - 1 + 1 = N.toNat by omega]
  have hL := fun W => luby_t N W hN0 hN1 R hR
  have hL2 := fun W => refLuby_t N W hN0 hN1 R hR2
  obtain ⟨P, hP⟩ : ∃ P : Int, P = if 35 < V then 4611686018427387904 else 6 * 3 ^ V.toNat := ⟨_, rfl⟩
  obtain ⟨P2, hP2⟩ : ∃ P : Int, P = if 35 < V + 1 then 4611686018427387904 else 6 * 3 ^ (V + 1).toNat := ⟨_, rfl⟩
  have hE := fun W => enough_t V W hV0 (by omega) P hP
  have hE2 := fun W => enough_t (V + 1) W (by omega) (by omega) P2 hP2
  have hne : (R != R) = false := by simp
  have key : (35 ≤ V ∧ P2 = 4611686018427387904) ∨ (V < 0 ∧ P = 6) ∨ (0 ≤ V ∧ V < 35 ∧ P2 = 3 * P ∧ 6 ≤ P ∧ P ≤ 300189270593998242) := by
    by_cases c1 : 35 ≤ V
    · exact .inl ⟨c1, by rw [hP2, if_pos (by omega)]⟩
    · by_cases c2 : V < 0
      · refine .inr (.inl ⟨c2, ?_⟩)
        rw [hP, if_neg (by omega), show V.toNat = 0 by omega]
        rfl
      · refine .inr (.inr ⟨by omega, by omega, ?_, ?_, ?_⟩)
        · rw [hP2, hP, if_neg (by omega), if_neg (by omega), show (V + 1).toNat = V.toNat + 1 by omega, Int.pow_succ]
          omega
        · rw [hP, if_neg (by omega)]
          have : (1 : Int) ≤ 3 ^ V.toNat := by
            have h := Nat.one_le_pow V.toNat 3 (by decide)
            exact_mod_cast h
          omega
        · rw [hP, if_neg (by omega)]
          have h := pow3_le V.toNat (by omega)
          rw [show (6 * (3 : Int) ^ V.toNat) = ((6 * 3 ^ V.toNat : Nat) : Int) by simp]
          omega
  replace hL := Lib.hid hL
  replace hL2 := Lib.hid hL2
  replace hE := Lib.hid hE
  replace hE2 := Lib.hid hE2
  replace key := Lib.hid key
  clear hR hR2 hP hP2
  go_enter Tryz.func3, Tryz.ntmps3
  go_wp2_with fail
  (with_reducible refine hA.out.mono ?_)
  rintro e w1 ⟨rfl, hb⟩
  replace hb := Lib.hid hb
  clear hA
  go_wp2_with fail
  clear hN
  (with_reducible refine (hL.out _).mono ?_)
  rintro e w2 ⟨rfl, hw2⟩
  subst hw2
  go_wp2_with fail
  (with_reducible refine (hL2.out _).mono ?_)
  rintro e w2 ⟨rfl, hw2⟩
  subst hw2
  clear hL hL2
  go_wp2_with fail
  clear hV
  (with_reducible refine (hE.out _).mono ?_)
  rintro e w2 ⟨rfl, hw2⟩
  subst hw2
  clear hE
  go_wp2_with fail
  (with_reducible refine (hE2.out _).mono ?_)
  rintro e w2 ⟨rfl, hw2⟩
  subst hw2
  clear hE2
  rcases key.out with ⟨k1, rfl⟩ | ⟨k1, rfl⟩ | ⟨k1, k2, rfl, k3, k4⟩
  · clear key
    go_wp2_with fail
    go_ret
    exact ⟨rfl, hb.out⟩
  · clear key
    go_wp2_with fail
    go_ret
    exact ⟨rfl, hb.out⟩
  · clear key
    go_wp2_with fail
    go_ret
    exact ⟨rfl, hb.out⟩
theorem own : ownKnob Tryz.prog.godebug = none := by kernel_rfl
set_option maxRecDepth 100000 in
theorem satLuby_lifted (os : Os) (started : os.Started) (H : Type) (enc : TypeId × Value → H) :
    ReturnsInHanded {} Tryz.checked os 3 .any (Rows.satLubySpec.pre6 enc Tryz.prog Tryz.f3 Rows.satLubyRow.domain false) (Rows.satLubySpec.post enc Tryz.prog Tryz.f3 false true false false) := by
  refine returnsInHanded_of_change (C := Tryz.checked) own started (by kernel_rfl) Tryz.func3
    (ChangeSpec.witness6 (enc := enc) (C := Tryz.checked) false ⟨#[], #[.int .i64 0, .int .i64 0], []⟩ 8 (by kernel_rfl) (by kernel_rfl) (by kernel_rfl) (by kernel_rfl)) ?_
  intro W base args ds gs before hval0 hW _ _
  have hval : ∀ (j : Nat) t v, Tryz.f3.params[j]? = some t → args[j]? = some v → Value.okWide Tryz.prog W .any base t v := hval0
  have hW' := hW
  obtain ⟨p, q, hA0, hV, rfl, hfz, hnd⟩ := hW
  have hA : DataW.TrodAll enc Tryz.prog W 0 (fun _ => true) true Tryz.f3.params.toList args.toList ds p := hA0
  rw [Tryz.params3] at hA hval
  obtain ⟨v0, vs0, d0, ds0, p0, q0, hargs, rfl, rfl, h0, r0⟩ := trodAll_cons hA
  obtain ⟨v1, vs1, d1, ds1, p1, q1, rfl, rfl, rfl, h1, r1⟩ := trodAll_cons r0
  obtain ⟨rfl, rfl, rfl⟩ := trodAll_nil r1
  obtain rfl : args = #[v0, v1] := by cases args; simp_all
  obtain ⟨rfl, rfl⟩ := trodVars_none hV
  obtain ⟨a0, rfl, rfl, rfl, w0⟩ := open_int Tryz.underlying3 (hval 0 3 v0 rfl rfl) h0
  obtain ⟨a1, rfl, rfl, rfl, w1⟩ := open_int Tryz.underlying3 (hval 1 3 v1 rfl rfl) h1
  have b0 : -9223372036854775808 ≤ a0 ∧ a0 ≤ 9223372036854775807 := by simpa [Lit.wf, IntKind.min, IntKind.max, IntKind.signed, IntKind.bits] using w0
  have b1 : -9223372036854775808 ≤ a1 ∧ a1 ≤ 9223372036854775807 := by simpa [Lit.wf, IntKind.min, IntKind.max, IntKind.signed, IntKind.bits] using w1
  clear hA0 hval0
  refine (sluby_t a0 a1 W b0 b1).mono fun e W' ⟨he, bel⟩ => ?_
  subst he
  exact ⟨_, rfl, _, _, _, [], _, [], hW', trodAll_mk1 (shut_bool Tryz.underlying4 _), (trodAll_cons_mk (shut_int Tryz.underlying3 w0) (trodAll_cons_mk (shut_int Tryz.underlying3 w1) trodAll_mk0)), rfl, bel.frame _, fun h => by cases h⟩
theorem satLuby_holds : Rows.SatLubySaid :=
  OpenClaim.holds_of_wide 3 Tryz.f3 rfl rfl rfl rfl rfl rfl rfl ⟨rfl, rfl, rfl, rfl, rfl⟩ rfl rfl rfl rfl rfl (by kernel_rfl) Tryz.func3 (by kernel_rfl)
    (of_decide_eq_true (by kernel_rfl)) (by unfold Func.isWrapper; first | (rw [if_pos (by decide +kernel)]; kernel_rfl) | (rw [if_neg (by decide +kernel)]; exact ⟨rfl, rfl⟩))
    (fun os started H enc _ => satLuby_lifted os started H enc)
#print axioms satLuby_holds
end Go.Proofs.YtpkmpbnedoldlaaGreat
