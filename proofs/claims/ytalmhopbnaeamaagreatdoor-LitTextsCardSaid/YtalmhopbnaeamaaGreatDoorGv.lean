/-
  PROVED: for every literal told by bits the statement LitTexts returns true, and its argument reads afterwards as it read before: its text and its integer are those of the reference, and its text, where it has one, is read back as the literal. Conditions: those of the given card alone (the tables of the library that it lists lie as the program's text lays them).
-/
import Derived.Test.YtalmhopbnaeamaaGreatDoorGu
namespace Go.Proofs.YtalmhopbnaeamaaGreatDoor
open Go Go.ChangeShapes Go.WideShapes Go.ChangeAt Go.RowKit Go.Lib
theorem Texts_all (n c : Nat) (A : Option Addr) (f : Nat → Bool) (sg sz : Bool) (w : World) (hT : LT w) (hA : RB w A n f) :
    Calls Tryz.prog 4 #[.agg #[.slice A n c, .bool sg, .bool sz]] w (RV w (.bool true)) := by
  have hW := fun w1 (hb : Below w.heap.size w w1) => lawake_t w1 (hT.on hb)
  by_cases h1 : n ≤ 128
  · have hO := fun w1 (hb : Below w.heap.size w w1) => LOwn_t n c A f sg sz w1 h1 (hA.keep hb)
    have hx := valB_lt f n
    have hAt := RB_tb hA
    have hR := fun w1 (hb : Below w.heap.size w w1) => refText_t n c A f sg sz w1 h1 (hA.keep hb)
    have hJ := fun w1 (hb : Below w.heap.size w w1) => refInt_t n c A f sg sz w1 h1 (hA.keep hb)
    generalize valB f n = x at *
    have tX := fun w1 (hb : Below w.heap.size w w1) => Text_t n x sg sz w1 (hT.on hb) h1 hx
    have hI := fun w1 => Int_t n x sg sz w1 h1 hx
    by_cases e1 : txL n x sg sz = []
    · have hb0 := (tx_nil n x sg sz).1 e1
      have hD0 : (⟨(txL n x sg sz).toArray⟩ : ByteArray).size = 0 := by rw [e1]; rfl
      by_cases h0 : n = 0
      · exact texts_b n c n x A sg sz w hW hO _ _ _ tX hR hI hJ hD0 h0
      · have h2 : sz = false ∧ n ≠ 32 := by
          unfold txB at hb0
          simpa [h0] using hb0
        exact texts_c n c n x A sg sz w hW hO _ _ _ tX hR hI hJ hD0 h2.1 h0 h2.2
    · have b1 : txB n sz = false := by
        cases h : txB n sz
        · rfl
        · exact absurd ((tx_nil n x sg sz).2 h) e1
      have hP : ∀ w1, Calls Tryz.prog 9 #[.string ⟨(txL n x sg sz).toArray⟩] w1 (RV w1 (.tuple #[lv n x sg sz, .int .i64 0])) := fun w1 => by
        have k := Parse_t ⟨(txL n x sg sz).toArray⟩ w1 (by have := tx_len n x sg sz h1 hx; show (txL n x sg sz).length ≤ maxLen; unfold maxLen; omega)
        rw [pa_tx n x sg sz h1 hx b1] at k
        exact k
      refine texts_d n c n x A sg sz w hW hO _ _ _ tX hR hI hJ (List.length_pos_iff.2 e1) hP (fun w1 => Told_t n x sg sz w1 h1 hx) (fun w1 g hb hg => ?_)
      have k := Same_t n n n c x x (some ⟨g, 0, none⟩) A sg sz sg sz w1 h1 hg (hAt.keep hb) hx hx
      rw [show (decide (n = n ∧ x = x) && sg == sg && sz == sz) = true by simp] at k
      exact k
  · exact texts_a n c 0 0 A sg sz w hW (fun w1 _ => LOwn_f n c A sg sz w1 (by omega))
set_option maxRecDepth 100000 in
theorem texts_lifted (os : Os) (started : os.Started) (H : Type) (enc : TypeId × Value → H) :
    ReturnsInHanded {} Tryz.checked os 4 .any (fun w args => (Rows.litTextsSpec.pre enc Tryz.prog Tryz.f4 [] false w args ∧ laidMetH Tryz.prog laid5 w) ∧ sizedMet enc Tryz.prog Tryz.f4 (OpenSpec.ofChange Rows.litTextsSpec) false w args)
      (Rows.litTextsSpec.post enc Tryz.prog Tryz.f4 false true false false) := by
  refine returnsInHanded_of_change_and (C := Tryz.checked) (X := fun w _ => laidMetH Tryz.prog laid5 w) (fun _ _ _ hh h => h.of_heap hh) own5 started (by kernel_rfl) Tryz.func4
    (ChangeSpec.witness_shaped (enc := enc) (C := Tryz.checked) (os := os) (X := fun w _ => laidMetH Tryz.prog laid5 w) false (World.laidAll Tryz.prog os laid5) #[.agg #[.slice none 0 0, .bool false, .bool false]] 8 (World.laidAll_os _ _ _)
      (witness_shape os _) (by kernel_rfl) (by kernel_rfl) (by kernel_rfl) (witness_met os _)) ?_
  intro W base args ds gs before hval0 hW _ _ hL _
  have hval : ∀ (j : Nat) t v, Tryz.f4.params[j]? = some t → args[j]? = some v → Value.okWide Tryz.prog W .any base t v := hval0
  have hW' := hW
  obtain ⟨p, q, hA0, hV, rfl, _, _⟩ := hW
  have hA : DataW.TrodAll enc Tryz.prog W 0 (fun _ => true) true Tryz.f4.params.toList args.toList ds p := hA0
  rw [Tryz.params4] at hA hval
  obtain ⟨v0, vs0, d0, ds0, p0, q0, hargs, rfl, rfl, h0, r0⟩ := trodAll_cons hA
  obtain ⟨rfl, rfl, rfl⟩ := trodAll_nil r0
  obtain rfl : args = #[v0] := by cases args; simp_all
  obtain ⟨rfl, rfl⟩ := trodVars_none hV
  have k0 := h0
  have lt0 : ∀ x ∈ p0, x.block < W.heap.size := by obtain ⟨m, hm⟩ := k0; exact DataW.trod_lt m _ _ _ hm
  obtain ⟨A, na, ca, f, ga, za, rfl, _, hRA⟩ := open_rlit (hval 0 34 v0 rfl rfl) h0 lt0
  clear hA0 hval0
  refine (Texts_all na ca A f ga za W (LT_of_laid hL) hRA).mono fun e W' ⟨he, bel⟩ => ?_
  subst he
  exact ⟨_, rfl, _, _, _, [], _, [], hW', trodAll_mk1 (shut_bool Tryz.underlying4 _), (trodAll_cons_mk (Below.trod laidOut (by kernel_rfl) (of_decide_eq_true (by kernel_rfl)) k0 bel lt0) trodAll_mk0), rfl, bel.frame _, fun h => by cases h⟩
theorem texts_holds : Rows.LitTextsSaid :=
  OpenClaim.holds_of_wide 4 Tryz.f4 rfl rfl rfl rfl rfl rfl rfl ⟨rfl, rfl, rfl, rfl, rfl⟩ rfl rfl rfl rfl rfl (by kernel_rfl) Tryz.func4 (by kernel_rfl)
    (of_decide_eq_true (by kernel_rfl)) (by unfold Func.isWrapper; first | (rw [if_pos (by decide +kernel)]; kernel_rfl) | (rw [if_neg (by decide +kernel)]; exact ⟨rfl, rfl⟩))
    (fun os started H enc _ => texts_lifted os started H enc)
theorem texts_card : Rows.LitTextsCardSaid :=
  Claim7.holds_tied_plain_at .later [] [.data, .data, .data, .data, .pinned] true Rows.litTextsCard.stood.harness false texts_holds (fun _ h => by cases h) (by kernel_rfl) (fun _ h => by cases h) litTexts_row_tie rfl ⟨rfl, rfl⟩ (by kernel_rfl) rfl
    (fun f fn hf hfn => by
      obtain rfl : f = 4 := Option.some.inj ((show Tryz.prog.funcNamed "sluicegate/sluicegatelaw02.LitTexts" = some 4 by kernel_rfl).symm.trans hf) |>.symm
      obtain rfl : fn = Tryz.f4 := (Option.some.inj (Tryz.func4.symm.trans hfn)).symm
      exact ⟨by kernel_rfl, fun j t ht => by
        rw [Tryz.params4] at ht
        have hm : t ∈ [34] := by simpa using Array.mem_of_getElem? ht
        have hall : ([34].all fun u => !Tryz.prog.wantsStandIn u) = true := by kernel_rfl
        exact (show Tryz.prog.wantsStandIn t = false by simpa using List.all_eq_true.1 hall t hm)⟩)
    (by kernel_rfl)
#print axioms texts_card
end Go.Proofs.YtalmhopbnaeamaaGreatDoor
