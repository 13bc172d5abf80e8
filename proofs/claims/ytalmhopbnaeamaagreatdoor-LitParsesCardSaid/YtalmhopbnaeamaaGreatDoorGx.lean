/-
  PROVED: for every text the statement LitParses returns true, and its argument reads afterwards as it read before: Parse returns the literal of the reference or its error, and the text of the literal is that of the reference and is read back as the same literal. Conditions: those of the given card alone (the tables of the library that it lists lie as the program's text lays them).
-/
import Derived.Test.YtalmhopbnaeamaaGreatDoorGw
namespace Go.Proofs.YtalmhopbnaeamaaGreatDoor
open Go Go.ChangeShapes Go.WideShapes Go.ChangeAt Go.RowKit Go.Lib
theorem Parses_u (u : ByteArray) (hu : u.size ≤ maxLen) : ∃ (n x : Nat) (sg sz : Bool) (e : Int), n ≤ 128 ∧ x < 2 ^ n ∧ (e = 0 → txB n sz = false) ∧
    (∀ w1, Calls Tryz.prog 9 #[.string u] w1 (RV w1 (.tuple #[lv n x sg sz, .int .i64 e]))) ∧ (∀ w1, Calls Tryz.prog 10 #[.string u] w1 (PL w1 ⟨n, x, sg, sz, e⟩)) := by
  have h1 := fun w1 => Parse_t u w1 hu
  have h2 := fun w1 => refParse_t u w1 hu
  obtain ⟨⟨h3, h4⟩, h5⟩ := paV_ok u
  obtain ⟨p, hp⟩ : ∃ p, paV u = p := ⟨_, rfl⟩
  simp only [hp] at h1 h2 h3 h4 h5
  obtain ⟨n, x, sg, sz, e⟩ := p
  exact ⟨n, x, sg, sz, e, h3, h4, h5, h1, h2⟩
theorem Parses_all (s : ByteArray) (w : World) (hT : LT w) (hs : s.size ≤ maxLen) : Calls Tryz.prog 3 #[.string s] w (RV w (.bool true)) := by
  have hW := fun w1 (hb : Below w.heap.size w w1) => lawake_t w1 (hT.on hb)
  have hs2 : s.size ≤ 9223372036854775807 := hs
  have main : ∀ u : ByteArray, u.size ≤ maxLen → (200 < s.size → s.extract 0 200 = u) → (s.size ≤ 200 → s = u) → Calls Tryz.prog 3 #[.string s] w (RV w (.bool true)) := by
    intro u hu hl hsh
    obtain ⟨n, x, sg, sz, e, hn, hx, hb, hP, hR⟩ := Parses_u u hu
    have hTo := fun w1 => Told_t n x sg sz w1 hn hx
    have hSm : ∀ (w1 : World) (g c : Nat) (A : Option Addr), RB w1 (some ⟨g, 0, none⟩) n (tb x) → RB w1 A n (tb x) → Calls Tryz.prog 11 #[.agg #[.slice (some ⟨g, 0, none⟩) n n, .bool sg, .bool sz], .agg #[.slice A n c, .bool sg, .bool sz]] w1 (RV w1 (.bool true)) := fun w1 g c A h1 h2 => by
      have k := Same_t n n n c x x (some ⟨g, 0, none⟩) A sg sz sg sz w1 hn h1 h2 hx hx
      rw [show (decide (n = n ∧ x = x) && sg == sg && sz == sz) = true by simp] at k
      exact k
    by_cases he : e = 0
    · have b1 := hb he
      have hX := fun w1 (hb : Below w.heap.size w w1) => Text_t n x sg sz w1 (hT.on hb) hn hx
      have hQ : ∀ w1, Calls Tryz.prog 9 #[.string ⟨(txL n x sg sz).toArray⟩] w1 (RV w1 (.tuple #[lv n x sg sz, .int .i64 0])) := fun w1 => by
        have k := Parse_t ⟨(txL n x sg sz).toArray⟩ w1 (by have := tx_len n x sg sz hn hx; show (txL n x sg sz).length ≤ maxLen; unfold maxLen; omega)
        rw [pa_tx n x sg sz hn hx b1] at k
        exact k
      have hY : ∀ (w1 : World) (c : Nat) (A : Option Addr), RB w1 A n (tb x) → Calls Tryz.prog 14 #[.agg #[.slice A n c, .bool sg, .bool sz]] w1 (RV w1 (.string ⟨(txL n x sg sz).toArray⟩)) := fun w1 c A h => by
        have k := refText_t n c A (tb x) sg sz w1 hn h
        rw [valB_tbl x n hx] at k
        exact k
      by_cases hz : 200 < s.size
      · exact parses_lo s u n x sg sz e w hs2 hz (hl hz) he hW hP hR hTo hSm _ hX hQ hY
      · exact parses_so s u n x sg sz e w hs2 (by omega) (hsh (by omega)) he hW hP hR hTo hSm _ hX hQ hY
    · by_cases hz : 200 < s.size
      · exact parses_le s u n x sg sz e w hs2 hz (hl hz) he hW hP hR hTo hSm
      · exact parses_se s u n x sg sz e w hs2 (by omega) (hsh (by omega)) he hW hP hR hTo hSm
  by_cases hz : 200 < s.size
  · exact main _ (ext_le s 0 200 hs) (fun _ => rfl) (fun h => absurd h (by omega))
  · exact main s hs (fun h => absurd h hz) (fun _ => rfl)
set_option maxRecDepth 100000 in
theorem parses_lifted (os : Os) (started : os.Started) (H : Type) (enc : TypeId × Value → H) :
    ReturnsInHanded {} Tryz.checked os 3 .any (fun w args => (Rows.litParsesSpec.pre enc Tryz.prog Tryz.f3 [] false w args ∧ laidMetH Tryz.prog laid5 w) ∧ sizedMet enc Tryz.prog Tryz.f3 (OpenSpec.ofChange Rows.litParsesSpec) false w args)
      (Rows.litParsesSpec.post enc Tryz.prog Tryz.f3 false true false false) := by
  refine returnsInHanded_of_change_and (C := Tryz.checked) (X := fun w _ => laidMetH Tryz.prog laid5 w) (fun _ _ _ hh h => h.of_heap hh) own5 started (by kernel_rfl) Tryz.func3
    (ChangeSpec.witness_shaped (enc := enc) (C := Tryz.checked) (os := os) (X := fun w _ => laidMetH Tryz.prog laid5 w) false (World.laidAll Tryz.prog os laid5) #[.string ⟨#[]⟩] 8 (World.laidAll_os _ _ _)
      (witness_shape os _) (by kernel_rfl) (by kernel_rfl) (by kernel_rfl) (witness_met os _)) ?_
  intro W base args ds gs before hval0 hW _ _ hL _
  have hval : ∀ (j : Nat) t v, Tryz.f3.params[j]? = some t → args[j]? = some v → Value.okWide Tryz.prog W .any base t v := hval0
  have hW' := hW
  obtain ⟨p, q, hA0, hV, rfl, _, _⟩ := hW
  have hA : DataW.TrodAll enc Tryz.prog W 0 (fun _ => true) true Tryz.f3.params.toList args.toList ds p := hA0
  rw [Tryz.params3] at hA hval
  obtain ⟨v0, d0, rfl, rfl, h0⟩ := trodAll_one hA
  obtain ⟨rfl, rfl⟩ := trodVars_none hV
  have k0 := h0
  have lt0 : ∀ x ∈ p, x.block < W.heap.size := by obtain ⟨m, hm⟩ := k0; exact DataW.trod_lt m _ _ _ hm
  obtain ⟨x, rfl, -, -, wx⟩ := ChangeMaps.open_string Tryz.underlying9 (hval 0 9 v0 rfl rfl) h0
  simp only [List.append_nil] at hW'
  refine (Parses_all x W (LT_of_laid hL) wx).mono fun e W' ⟨he, hb⟩ => ?_
  subst he
  exact ⟨_, rfl, _, _, _, [], _, [], hW', trodAll_mk1 (shut_bool Tryz.underlying4 _), trodAll_mk1 (Below.trod laidOut (by kernel_rfl) (of_decide_eq_true (by kernel_rfl)) k0 hb lt0), rfl, hb.frame _, fun h => by cases h⟩
theorem parses_holds : Rows.LitParsesSaid :=
  OpenClaim.holds_of_wide 3 Tryz.f3 rfl rfl rfl rfl rfl rfl rfl ⟨rfl, rfl, rfl, rfl, rfl⟩ rfl rfl rfl rfl rfl (by kernel_rfl) Tryz.func3 (by kernel_rfl)
    (of_decide_eq_true (by kernel_rfl)) (by unfold Func.isWrapper; first | (rw [if_pos (by decide +kernel)]; kernel_rfl) | (rw [if_neg (by decide +kernel)]; exact ⟨rfl, rfl⟩))
    (fun os started H enc _ => parses_lifted os started H enc)
theorem parses_card : Rows.LitParsesCardSaid :=
  Claim7.holds_tied_plain_at .later [] [.data, .data, .data, .data, .pinned] true Rows.litParsesCard.stood.harness false parses_holds (fun _ h => by cases h) (by kernel_rfl) (fun _ h => by cases h) litParses_row_tie rfl ⟨rfl, rfl⟩ (by kernel_rfl) rfl
    (fun f fn hf hfn => by
      obtain rfl : f = 3 := Option.some.inj ((show Tryz.prog.funcNamed "sluicegate/sluicegatelaw02.LitParses" = some 3 by kernel_rfl).symm.trans hf) |>.symm
      obtain rfl : fn = Tryz.f3 := (Option.some.inj (Tryz.func3.symm.trans hfn)).symm
      exact ⟨by kernel_rfl, fun j t ht => by
        rw [Tryz.params3] at ht
        have hm : t ∈ [9] := by simpa using Array.mem_of_getElem? ht
        have hall : ([9].all fun u => !Tryz.prog.wantsStandIn u) = true := by kernel_rfl
        exact (show Tryz.prog.wantsStandIn t = false by simpa using List.all_eq_true.1 hall t hm)⟩)
    (by kernel_rfl)
#print axioms parses_card
end Go.Proofs.YtalmhopbnaeamaaGreatDoor
