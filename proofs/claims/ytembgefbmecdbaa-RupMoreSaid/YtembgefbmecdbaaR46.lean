/-
  PROVED: for every input (a number of variables, lists of literals, two lists of numbers) the statement RupMore returns true, and its arguments read afterwards as they read before: what follows by unit propagation still follows with more clauses and with more assumptions. Conditions: those of the given row alone.
-/
import Derived.Test.YtembgefbmecdbaaR44
import Derived.Test.YtembgefbmecdbaaKu
import Derived.WalkKit
import Derived.ProofKit
import Derived.Lay
import Derived.OpenShut
import Derived.ChangeOld
namespace Go.Proofs.Ytembgefbmecdbaa
open Go Go.ChangeShapes Go.WideShapes Go.ChangeAt Go.RowKit Go.Lib
theorem own : ownKnob Try.prog.godebug = none := by kernel_rfl
theorem laidOut : laidOutB Try.prog = true := by kernel_rfl
theorem cells2i : Try.prog.cellsOf 24 = 2 := by kernel_rfl
theorem cellsLi : Try.prog.cellsOf 23 = 1 := by kernel_rfl
set_option maxRecDepth 100000 in
/-- An argument that is two slices of numbers. -/
theorem two_ints {H : Type} {enc : TypeId × Value → H} {W : World} {base : Nat} {v : Value} {d : DataW H} {p : List MemPlace} (hv : Value.okWide Try.prog W .any base 24 v) (h : DataW.Trod enc Try.prog W 0 (fun _ => true) true 24 v d p) (lt : ∀ x ∈ p, x.block < W.heap.size) :
    ∃ A1 L1 c1 A2 L2 c2, v = .agg #[.slice A1 (L1 : List Int).length c1, .slice A2 (L2 : List Int).length c2] ∧ RL W A1 L1 ∧ RL W A2 L2 ∧ L1.length ≤ 9223372036854775807 ∧ L2.length ≤ 9223372036854775807 := by
  simp only [Value.okWide, Try.underlying24] at hv
  obtain ⟨cs, rfl, hs, _⟩ := hv
  rw [cells2i] at hs
  obtain ⟨v0, v1, rfl⟩ : ∃ c0 c1, cs = #[c0, c1] := ⟨cs[0], cs[1], by
    refine Array.ext (by simp [hs]) fun i h1 h2 => ?_
    have : i < 2 := by simpa using h2
    obtain rfl | rfl : i = 0 ∨ i = 1 := by omega
    all_goals rfl⟩
  obtain ⟨fuel, hf⟩ := h
  obtain ⟨xs, m, _, hx, _, hn, hg⟩ := DataW.trod_array Try.underlying24 hf
  obtain ⟨y0, y1, rfl⟩ := two_of xs hn
  have h0 := hg 0 (by decide)
  have h1 := hg 1 (by decide)
  rw [cellsLi] at h0 h1
  simp only [Prod.mk.injEq] at hx
  have g0 : DataW.trod enc Try.prog W 0 (fun _ => true) true m 23 [v0] = some y0 := by simpa [Value.cells] using h0
  have g1 : DataW.trod enc Try.prog W 0 (fun _ => true) true m 23 [v1] = some y1 := by simpa [Value.cells] using h1
  have sl : ∀ {u : Value} {y : DataW H × List MemPlace}, DataW.trod enc Try.prog W 0 (fun _ => true) true m 23 [u] = some y → ∃ A n c, u = .slice A n c := by
    intro u y hu
    rcases Go.Deep.open_slice1 Try.underlying23 cellsI hu with ⟨hcs, _⟩ | ⟨a, len, cap, m, k, V, D, Pl, hcs, _, hl, _, hm, hx, hV⟩
    · exact ⟨none, 0, 0, by simpa using hcs⟩
    · exact ⟨some a, len, cap, by simpa using hcs⟩
  obtain ⟨A1, n1, c1, rfl⟩ := sl g0
  obtain ⟨A2, n2, c2, rfl⟩ := sl g1
  obtain ⟨L1, e1, hR1, _⟩ := ints_of (d := y0.1) (p := y0.2) ⟨m, g0⟩ fun x hx2 => lt x (by rw [hx.2]; simp [hx2])
  obtain ⟨L2, e2, hR2, _⟩ := ints_of (d := y1.1) (p := y1.2) ⟨m, g1⟩ fun x hx2 => lt x (by rw [hx.2]; simp [hx2])
  have b1 := (len_of Try.underlying23 cellsI (d := y0.1) (p := y0.2) ⟨m, g0⟩).2.2
  have b2 := (len_of Try.underlying23 cellsI (d := y1.1) (p := y1.2) ⟨m, g1⟩).2.2
  exact ⟨A1, L1, c1, A2, L2, c2, by rw [e1, e2], hR1, hR2, by omega, by omega⟩
set_option maxRecDepth 100000 in
theorem rupMore_lifted (os : Os) (started : os.Started) (H : Type) (enc : TypeId × Value → H) :
    ReturnsInHanded {} Try.checked os 3 .any (Rows.rupMoreSpec.pre6 enc Try.prog Try.f3 Rows.rupMoreRow.domain false) (Rows.rupMoreSpec.post enc Try.prog Try.f3 false true false false) := by
  refine returnsInHanded_of_change (C := Try.checked) own started (by kernel_rfl) Try.func3
    (ChangeSpec.witness6 (enc := enc) (C := Try.checked) false ⟨#[], #[.int .i64 0, .slice none 0 0, .agg #[.slice none 0 0, .slice none 0 0]], []⟩ 8 (by kernel_rfl) (by kernel_rfl) (by kernel_rfl) (by kernel_rfl)) ?_
  intro W base args ds gs before hval0 hW _ _
  have hval : ∀ (j : Nat) t v, Try.f3.params[j]? = some t → args[j]? = some v → Value.okWide Try.prog W .any base t v := hval0
  have hW' := hW
  obtain ⟨p, q, hA0, hV, rfl, hfz, hnd⟩ := hW
  have hA : DataW.TrodAll enc Try.prog W 0 (fun _ => true) true Try.f3.params.toList args.toList ds p := hA0
  rw [Try.params3] at hA hval
  obtain ⟨v0, vs0, d0, ds0, p0, q0, hargs, rfl, rfl, h0, r0⟩ := trodAll_cons hA
  obtain ⟨v1, vs1, d1, ds1, p1, q1, rfl, rfl, rfl, h1, r1⟩ := trodAll_cons r0
  obtain ⟨v2, vs2, d2, ds2, p2, q2, rfl, rfl, rfl, h2, r2⟩ := trodAll_cons r1
  obtain ⟨rfl, rfl, rfl⟩ := trodAll_nil r2
  obtain rfl : args = #[v0, v1, v2] := by cases args; simp_all
  obtain ⟨rfl, rfl⟩ := trodVars_none hV
  have k0 := h0
  have lt0 : ∀ x ∈ p0, x.block < W.heap.size := by obtain ⟨m, hm⟩ := k0; exact DataW.trod_lt m _ _ _ hm
  obtain ⟨x0, rfl, rfl, rfl, wx0⟩ := open_int Try.underlying3 (hval 0 3 v0 rfl rfl) h0
  have k1 := h1
  have lt1 : ∀ x ∈ p1, x.block < W.heap.size := by obtain ⟨m, hm⟩ := k1; exact DataW.trod_lt m _ _ _ hm
  have k2 := h2
  have lt2 : ∀ x ∈ p2, x.block < W.heap.size := by obtain ⟨m, hm⟩ := k2; exact DataW.trod_lt m _ _ _ hm
  obtain ⟨a1, len1, cap1, rfl⟩ := okWide_slice Try.underlying22 (hval 1 22 v1 rfl rfl)
  obtain ⟨L1, rfl, hR1, _⟩ := lists_of k1 lt1
  have hb1 := (len_of Try.underlying22 cellsS k1).2.2
  obtain ⟨A2, l2, c2, A3, l3, c3, rfl, hR2, hR3, hn2, hn3⟩ := two_ints (hval 2 24 v2 rfl rfl) k2 lt2
  clear hA0 hval0
  refine (law_t W x0 (max 0 (min x0 60)).toNat (by omega) a1 L1 cap1 hR1 (by omega) A2 l2 c2 hR2 hn2 A3 l3 c3 hR3 hn3).mono fun e W' ⟨he, bel⟩ => ?_
  subst he
  exact ⟨_, rfl, _, _, _, [], _, [], hW', trodAll_mk1 (shut_bool Try.underlying4 _), (trodAll_cons_mk (Below.trod laidOut (by kernel_rfl) (of_decide_eq_true (by kernel_rfl)) k0 bel lt0) (trodAll_cons_mk (Below.trod laidOut (by kernel_rfl) (of_decide_eq_true (by kernel_rfl)) k1 bel lt1) (trodAll_cons_mk (Below.trod laidOut (by kernel_rfl) (of_decide_eq_true (by kernel_rfl)) k2 bel lt2) trodAll_mk0))), rfl, bel.frame _, fun h => by cases h⟩
theorem rupMore_holds : Rows.RupMoreSaid :=
  OpenClaim.holds_of_wide 3 Try.f3 rfl rfl rfl rfl rfl rfl rfl ⟨rfl, rfl, rfl, rfl, rfl⟩ rfl rfl rfl rfl rfl (by kernel_rfl) Try.func3 (by kernel_rfl)
    (of_decide_eq_true (by kernel_rfl)) (by unfold Func.isWrapper; first | (rw [if_pos (by decide +kernel)]; kernel_rfl) | (rw [if_neg (by decide +kernel)]; exact ⟨rfl, rfl⟩))
    (fun os started H enc _ => rupMore_lifted os started H enc)
#print axioms rupMore_holds
end Go.Proofs.Ytembgefbmecdbaa
