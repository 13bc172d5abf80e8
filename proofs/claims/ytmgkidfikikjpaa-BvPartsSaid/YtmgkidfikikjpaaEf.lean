/-
  BvParts for every two lists of bits and every three integers.
  PROVED: for every two slices of bits and every three integers the statement BvParts returns true, and its arguments read afterwards as they read before: Slice, Put, Cat and Ext return the results of the reference, or its errors. Conditions: those of the given row alone.
-/
import Derived.Test.YtmgkidfikikjpaaEe
import Derived.Test.YtmgkidfikikjpaaPa
import Derived.Laws.IdiomArrays
namespace Go.Proofs.Ytmgkidfikikjpaa
open Go.RowKit
theorem short_pack2 (n0 c : Nat) (B : Option Addr) (f : Nat → Bool) (w : World) (hB : RB w B n0 f) (hc : n0 ≤ c) :
    ∃ n, n ≤ c ∧ RB w B n f ∧ ∀ w, Calls Try.prog 7 #[.slice B n0 c] w fun e w' => e = .returned (.slice B n c) ∧ w' = w := by
  by_cases h : n0 ≤ 140
  · exact ⟨n0, hc, hB, fun w => short_le n0 c B w h⟩
  · have hl := hB.less (show 140 ≤ n0 by omega)
    obtain ⟨b, off, rfl, _, _⟩ := hB (by omega)
    exact ⟨140, by omega, hl, fun w => short_gt n0 c b off w (by omega) hc⟩
theorem Parts_all (na0 nb0 ca cb : Nat) (q : Nat → Int) (A B : Option Addr) (f g : Nat → Bool) (w : World) (hA0 : RB w A na0 f) (hca : na0 ≤ ca) (hB0 : RB w B nb0 g) (hcb : nb0 ≤ cb) :
    Calls Try.prog 4 #[.slice A na0 ca, .slice B nb0 cb, .agg #[.int .i64 (q 0), .int .i64 (q 1), .int .i64 (q 2)]] w (RV w (.bool true)) := by
  obtain ⟨na, hac, hA, hSa⟩ := short_pack2 na0 ca A f w hA0 hca
  obtain ⟨nb, hbc, hB, hSb⟩ := short_pack2 nb0 cb B g w hB0 hcb
  have iz : ∀ (f : Nat → Bool) w, RB w none 0 f → Calls Try.prog 11 #[vv 0 0, .slice none 0 0] w (RV w (.bool true)) := fun f w h => Is_ok 0 0 none f w (by omega) h
  have key := fun (A1 B1 : Option Addr) (n m c1 c2 : Nat) (hn : n ≤ 128) (hm : m ≤ 128) (hc : n ≤ c1) =>
    And.intro (parts_slice n c1 (q 0) (q 1) A1 f hn hc) (And.intro (parts_put n m c1 c2 (q 0) A1 B1 f g hn hm hc) (And.intro (parts_cat n m c1 c2 A1 B1 f g hn hm) (And.intro (parts_ext n c1 (q 2) false A1 f hn) (And.intro (parts_ext n c1 (q 2) true A1 f hn) (parts_equal n m c1 c2 A1 B1 f g hn hm)))))
  by_cases ha : na ≤ 128 <;> by_cases hb : nb ≤ 128
  · obtain ⟨⟨k1, h1, e1, l1, s1, t1⟩, ⟨k2, h2, e2, l2, s2, t2⟩, ⟨k3, h3, e3, l3, s3, t3⟩, ⟨k4, h4, e4, l4, s4, t4⟩, ⟨k5, h5, e5, l5, s5, t5⟩, eb, s6, t6⟩ := key A B na nb ca cb ha hb hac
    exact Parts_ss na0 nb0 na nb ca cb na nb _ _ q A B f g w ha hb hA hB hSa hSb (own_pack na ca A f ha) (own_pack nb cb B g hb) (fun w h => Is_ok na ca A f w ha h) (fun w h => Is_ok nb cb B g w hb h)
      k1 h1 e1 l1 s1 t1 k2 h2 e2 l2 s2 t2 k3 h3 e3 l3 s3 t3 k4 h4 e4 l4 s4 t4 k5 h5 e5 l5 s5 t5 eb s6 t6
  · obtain ⟨⟨k1, h1, e1, l1, s1, t1⟩, ⟨k2, h2, e2, l2, s2, t2⟩, ⟨k3, h3, e3, l3, s3, t3⟩, ⟨k4, h4, e4, l4, s4, t4⟩, ⟨k5, h5, e5, l5, s5, t5⟩, eb, s6, t6⟩ := key A none na 0 ca 0 ha (by omega) hac
    exact Parts_sl na0 nb0 na nb ca cb na 0 _ 0 q A B f g w ha (by omega) hA hB hSa hSb (own_pack na ca A f ha) (fun w _ => Own_none nb cb B w (by omega)) (fun w h => Is_ok na ca A f w ha h) (iz g)
      k1 h1 e1 l1 s1 t1 k2 h2 e2 l2 s2 t2 k3 h3 e3 l3 s3 t3 k4 h4 e4 l4 s4 t4 k5 h5 e5 l5 s5 t5 eb s6 t6
  · obtain ⟨⟨k1, h1, e1, l1, s1, t1⟩, ⟨k2, h2, e2, l2, s2, t2⟩, ⟨k3, h3, e3, l3, s3, t3⟩, ⟨k4, h4, e4, l4, s4, t4⟩, ⟨k5, h5, e5, l5, s5, t5⟩, eb, s6, t6⟩ := key none B 0 nb 0 cb (by omega) hb (by omega)
    exact Parts_ls na0 nb0 na nb ca cb 0 nb 0 _ q A B f g w (by omega) hb hA hB hSa hSb (fun w _ => Own_none na ca A w (by omega)) (own_pack nb cb B g hb) (iz f) (fun w h => Is_ok nb cb B g w hb h)
      k1 h1 e1 l1 s1 t1 k2 h2 e2 l2 s2 t2 k3 h3 e3 l3 s3 t3 k4 h4 e4 l4 s4 t4 k5 h5 e5 l5 s5 t5 eb s6 t6
  · obtain ⟨⟨k1, h1, e1, l1, s1, t1⟩, ⟨k2, h2, e2, l2, s2, t2⟩, ⟨k3, h3, e3, l3, s3, t3⟩, ⟨k4, h4, e4, l4, s4, t4⟩, ⟨k5, h5, e5, l5, s5, t5⟩, eb, s6, t6⟩ := key none none 0 0 0 0 (by omega) (by omega) (by omega)
    exact Parts_ll na0 nb0 na nb ca cb 0 0 0 0 q A B f g w (by omega) (by omega) hA hB hSa hSb (fun w _ => Own_none na ca A w (by omega)) (fun w _ => Own_none nb cb B w (by omega)) (iz f) (iz g)
      k1 h1 e1 l1 s1 t1 k2 h2 e2 l2 s2 t2 k3 h3 e3 l3 s3 t3 k4 h4 e4 l4 s4 t4 k5 h5 e5 l5 s5 t5 eb s6 t6
end Go.Proofs.Ytmgkidfikikjpaa
namespace Go.Proofs.Ytmgkidfikikjpaa
open Go.ChangeShapes Go.WideShapes Go.ChangeAt Go.RowKit
theorem cells_int : Try.prog.cellsOf 3 = 1 := by kernel_rfl
theorem cells_three : Try.prog.cellsOf 37 = 3 := by kernel_rfl
/-- An array of three integers that can be read as data. -/
theorem three_ints {H : Type} {enc : TypeId × Value → H} {W : World} {base : Nat} {v : Value} {d : DataW H} {p : List MemPlace} (hv : Value.okWide Try.prog W .any base 37 v) (h : DataW.Trod enc Try.prog W 0 (fun _ => true) true 37 v d p) :
    ∃ q : Nat → Int, v = .agg #[.int .i64 (q 0), .int .i64 (q 1), .int .i64 (q 2)] := by
  simp only [Value.okWide, Try.underlying37] at hv
  obtain ⟨cs, rfl, hs, _⟩ := hv
  rw [cells_three] at hs
  obtain ⟨c0, c1, c2, rfl⟩ : ∃ c0 c1 c2, cs = #[c0, c1, c2] := ⟨cs[0], cs[1], cs[2], by
    refine Array.ext (by simp [hs]) fun i h1 h2 => ?_
    have : i < 3 := by simpa using h2
    obtain rfl | rfl | rfl : i = 0 ∨ i = 1 ∨ i = 2 := by omega
    all_goals rfl⟩
  obtain ⟨fuel, hf⟩ := h
  obtain ⟨y0, y1, y2, m, _, h0, h1, h2⟩ := trod_array3 Try.underlying37 cells_int hf
  obtain ⟨z0, e0, _, _⟩ := DataW.trod_int Try.underlying3 h0
  obtain ⟨z1, e1, _, _⟩ := DataW.trod_int Try.underlying3 h1
  obtain ⟨z2, e2, _, _⟩ := DataW.trod_int Try.underlying3 h2
  refine ⟨fun j => if j = 0 then z0 else if j = 1 then z1 else z2, ?_⟩
  simp at e0 e1 e2
  rw [e0, e1, e2]
  rfl
set_option maxRecDepth 100000 in
theorem parts_lifted (os : Os) (started : os.Started) (H : Type) (enc : TypeId × Value → H) :
    ReturnsInHanded {} Try.checked os 4 .any (Rows.bvPartsSpec.pre6 enc Try.prog Try.f4 Rows.bvPartsRow.domain false) (Rows.bvPartsSpec.post enc Try.prog Try.f4 false true false false) := by
  refine returnsInHanded_of_change (C := Try.checked) own started (by kernel_rfl) Try.func4
    (ChangeSpec.witness6 (enc := enc) (C := Try.checked) false ⟨#[], #[.slice none 0 0, .slice none 0 0, .agg #[.int .i64 0, .int .i64 0, .int .i64 0]], []⟩ 8 (by kernel_rfl) (by kernel_rfl) (by kernel_rfl) (by kernel_rfl)) ?_
  intro W base args ds gs before hval0 hW _ _
  have hval : ∀ (j : Nat) t v, Try.f4.params[j]? = some t → args[j]? = some v → Value.okWide Try.prog W .any base t v := hval0
  have hW' := hW
  obtain ⟨p, q, hA0, hV, rfl, hfz, hnd⟩ := hW
  have hA : DataW.TrodAll enc Try.prog W 0 (fun _ => true) true Try.f4.params.toList args.toList ds p := hA0
  rw [Try.params4] at hA hval
  obtain ⟨v0, vs0, d0, ds0, p0, q0, hargs, rfl, rfl, h0, r0⟩ := trodAll_cons hA
  obtain ⟨v1, vs1, d1, ds1, p1, q1, rfl, rfl, rfl, h1, r1⟩ := trodAll_cons r0
  obtain ⟨v2, vs2, d2, ds2, p2, q2, rfl, rfl, rfl, h2, r2⟩ := trodAll_cons r1
  obtain ⟨rfl, rfl, rfl⟩ := trodAll_nil r2
  obtain rfl : args = #[v0, v1, v2] := by cases args; simp_all
  obtain ⟨rfl, rfl⟩ := trodVars_none hV
  obtain ⟨a0, len0, cap0, rfl⟩ := okWide_slice Try.underlying22 (hval 0 22 v0 rfl rfl)
  have k0 := h0
  have lt0 : ∀ x ∈ p0, x.block < W.heap.size := by obtain ⟨m, hm⟩ := k0; exact DataW.trod_lt m _ _ _ hm
  obtain ⟨hc0, f0, w0⟩ := bits_of k0 lt0
  obtain ⟨a1, len1, cap1, rfl⟩ := okWide_slice Try.underlying22 (hval 1 22 v1 rfl rfl)
  have k1 := h1
  have lt1 : ∀ x ∈ p1, x.block < W.heap.size := by obtain ⟨m, hm⟩ := k1; exact DataW.trod_lt m _ _ _ hm
  obtain ⟨hc1, f1, w1⟩ := bits_of k1 lt1
  have k2 := h2
  have lt2 : ∀ x ∈ p2, x.block < W.heap.size := by obtain ⟨m, hm⟩ := k2; exact DataW.trod_lt m _ _ _ hm
  obtain ⟨q, rfl⟩ := three_ints (hval 2 37 v2 rfl rfl) k2
  clear hA0 hval0
  refine (Parts_all len0 len1 cap0 cap1 q a0 a1 f0 f1 W w0 hc0 w1 hc1).mono fun e W' ⟨he, bel⟩ => ?_
  subst he
  exact ⟨_, rfl, _, _, _, [], _, [], hW', trodAll_mk1 (shut_bool Try.underlying4 _), (trodAll_cons_mk (Below.trod laidOut (by kernel_rfl) (of_decide_eq_true (by kernel_rfl)) k0 bel lt0) (trodAll_cons_mk (Below.trod laidOut (by kernel_rfl) (of_decide_eq_true (by kernel_rfl)) k1 bel lt1) (trodAll_cons_mk (Below.trod laidOut (by kernel_rfl) (of_decide_eq_true (by kernel_rfl)) k2 bel lt2) trodAll_mk0))), rfl, bel.frame _, fun h => by cases h⟩
theorem parts_holds : Rows.BvPartsSaid :=
  OpenClaim.holds_of_wide 4 Try.f4 rfl rfl rfl rfl rfl rfl rfl ⟨rfl, rfl, rfl, rfl, rfl⟩ rfl rfl rfl rfl rfl (by kernel_rfl) Try.func4 (by kernel_rfl)
    (of_decide_eq_true (by kernel_rfl)) (by unfold Func.isWrapper; first | (rw [if_pos (by decide +kernel)]; kernel_rfl) | (rw [if_neg (by decide +kernel)]; exact ⟨rfl, rfl⟩))
    (fun os started H enc _ => parts_lifted os started H enc)
#print axioms parts_holds
end Go.Proofs.Ytmgkidfikikjpaa
