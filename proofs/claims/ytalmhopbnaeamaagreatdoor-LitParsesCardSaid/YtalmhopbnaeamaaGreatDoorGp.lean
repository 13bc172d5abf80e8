/-
  PROVED: for every two literals told by bits the statement LitUnlike returns true, and its arguments read afterwards as they read before: the texts of two literals of at most 128 bits that have texts are equal exactly if the literals are. Conditions: those of the given card alone (the tables of the library that it lists lie as the program's text lays them).
-/
import Derived.Test.YtalmhopbnaeamaaGreatDoorGn
import Derived.Test.YtalmhopbnaeamaaGreatDoorGk
import Derived.Test.YtalmhopbnaeamaaGreatDoorPa
import Derived.Lib.SmallJoins
namespace Go.Proofs.YtalmhopbnaeamaaGreatDoor
open Go Go.ChangeShapes Go.WideShapes Go.ChangeAt Go.RowKit Go.Lib
theorem RB_tb {w : World} {A : Option Addr} {n : Nat} {f : Nat → Bool} (h : RB w A n f) : RB w A n (tb (valB f n)) := fun hn => by
  obtain ⟨b, off, e, hl, hc⟩ := h hn
  exact ⟨b, off, e, hl, fun j hj => by rw [hc j hj, tb_val f n j hj]⟩
theorem tl_beq (a b : List UInt8) : ((⟨a.toArray⟩ : ByteArray).toList == (⟨b.toArray⟩ : ByteArray).toList) = decide (a = b) := by
  rw [Go.Lib.toList_data, Go.Lib.toList_data]
  show (a == b) = decide (a = b)
  cases h : decide (a = b)
  · simpa using h
  · simpa using h
/-- Two literals that have texts have one text exactly if they are one. -/
theorem tx_inj (n m x y : Nat) (sg sz sg2 sz2 : Bool) (hn : n ≤ 128) (hm : m ≤ 128) (hx : x < 2 ^ n) (hy : y < 2 ^ m) (h1 : txL n x sg sz ≠ []) (h2 : txL m y sg2 sz2 ≠ []) :
    (decide (n = m ∧ x = y) && sg == sg2 && sz == sz2) = decide (txL n x sg sz = txL m y sg2 sz2) := by
  have b1 : txB n sz = false := by
    cases h : txB n sz
    · rfl
    · exact absurd ((tx_nil n x sg sz).2 h) h1
  have b2 : txB m sz2 = false := by
    cases h : txB m sz2
    · rfl
    · exact absurd ((tx_nil m y sg2 sz2).2 h) h2
  by_cases h : txL n x sg sz = txL m y sg2 sz2
  · have p1 := pa_tx n x sg sz hn hx b1
    have p2 := pa_tx m y sg2 sz2 hm hy b2
    rw [h, p2] at p1
    simp only [PR.mk.injEq] at p1
    obtain ⟨rfl, rfl, rfl, rfl, _⟩ := p1
    simp
  · rw [decide_eq_false h]
    cases hd : (decide (n = m ∧ x = y) && sg == sg2 && sz == sz2)
    · rfl
    · simp only [Bool.and_eq_true, decide_eq_true_eq, beq_iff_eq] at hd
      obtain ⟨⟨⟨rfl, rfl⟩, rfl⟩, rfl⟩ := hd
      exact absurd rfl h
theorem Unlike_all (na nb ca cb : Nat) (A B : Option Addr) (f g : Nat → Bool) (ga za gb zb : Bool) (w : World) (hT : LT w) (hA : RB w A na f) (hB : RB w B nb g) :
    Calls Tryz.prog 6 #[.agg #[.slice A na ca, .bool ga, .bool za], .agg #[.slice B nb cb, .bool gb, .bool zb]] w (RV w (.bool true)) := by
  have hW := fun w1 (hb : Below w.heap.size w w1) => lawake_t w1 (hT.on hb)
  by_cases h1 : na ≤ 128
  · have hOa := fun w1 (hb : Below w.heap.size w w1) => LOwn_t na ca A f ga za w1 h1 (hA.keep hb)
    by_cases h2 : nb ≤ 128
    · have hOb := fun w1 (hb : Below w.heap.size w w1) => LOwn_t nb cb B g gb zb w1 h2 (hB.keep hb)
      have hx := valB_lt f na
      have hy := valB_lt g nb
      have hAt := RB_tb hA
      have hBt := RB_tb hB
      generalize valB f na = x at *
      generalize valB g nb = y at *
      have tX := fun w1 (hb : Below w.heap.size w w1) => Text_t na x ga za w1 (hT.on hb) h1 hx
      have tY := fun w1 (hb : Below w.heap.size w w1) => Text_t nb y gb zb w1 (hT.on hb) h2 hy
      by_cases e1 : txL na x ga za = []
      · exact unlike_c na nb ca cb na nb x y A B ga za gb zb w hW hOa hOb _ tX (by rw [e1]; rfl)
      · have l1 : 0 < (⟨(txL na x ga za).toArray⟩ : ByteArray).size := List.length_pos_iff.2 e1
        by_cases e2 : txL nb y gb zb = []
        · exact unlike_d na nb ca cb na nb x y A B ga za gb zb w hW hOa hOb _ _ tX tY l1 (by rw [e2]; rfl)
        · refine unlike_e na nb ca cb na nb x y A B ga za gb zb w hW hOa hOb _ _ tX tY (fun w1 hb => ?_) l1 (List.length_pos_iff.2 e2)
          rw [tl_beq, ← tx_inj na nb x y ga za gb zb h1 h2 hx hy e1 e2]
          exact Same_t na nb ca cb x y A B ga za gb zb w1 h1 (hAt.keep hb) (hBt.keep hb) hx hy
    · exact unlike_b na nb ca cb na 0 (valB f na) 0 A B ga za gb zb w hW hOa (fun w1 _ => LOwn_f nb cb B gb zb w1 (by omega))
  · have hOa := fun w1 (_ : Below w.heap.size w w1) => LOwn_f na ca A ga za w1 (by omega)
    by_cases h2 : nb ≤ 128
    · exact unlike_a na nb ca cb 0 nb 0 (valB g nb) A B ga za gb zb true w hW hOa (fun w1 hb => LOwn_t nb cb B g gb zb w1 h2 (hB.keep hb))
    · exact unlike_a na nb ca cb 0 0 0 0 A B ga za gb zb false w hW hOa (fun w1 _ => LOwn_f nb cb B gb zb w1 (by omega))
set_option maxRecDepth 100000 in
/-- An argument that is a literal told by bits. -/
theorem open_rlit {H : Type} {enc : TypeId × Value → H} {W : World} {r : Reach} {b0 : Nat} {v : Value} {d : DataW H} {p : List MemPlace}
    (hv : Value.okWide Tryz.prog W r b0 34 v) (h : DataW.Trod enc Tryz.prog W 0 (fun _ => true) true 34 v d p) (lt : ∀ x ∈ p, x.block < W.heap.size) :
    ∃ (A : Option Addr) (n c : Nat) (f : Nat → Bool) (sg sz : Bool), v = .agg #[.slice A n c, .bool sg, .bool sz] ∧ n ≤ c ∧ RB W A n f := by
  obtain ⟨v0, v1, v2, y0, y1, y2, k, rfl, rfl, rfl, h0, h1, h2⟩ := Go.Joins.open_agg3 Tryz.underlying34 (by kernel_rfl) (by kernel_rfl) hv h
  obtain ⟨b1, e1, _⟩ := DataW.trod_bool Tryz.underlying4 h1
  obtain ⟨b2, e2, _⟩ := DataW.trod_bool Tryz.underlying4 h2
  obtain rfl : v1 = .bool b1 := by simpa using e1
  obtain rfl : v2 = .bool b2 := by simpa using e2
  have hs : ∃ A n c, v0 = .slice A n c := by
    rcases Go.Deep.open_slice1 Tryz.underlying32 cells4 h0 with ⟨hcs, _⟩ | ⟨a, len, cap, m, k, V, D, Pl, hcs, _, hl, _, hm, hx, hV⟩
    · exact ⟨none, 0, 0, by simpa using hcs⟩
    · exact ⟨some a, len, cap, by simpa using hcs⟩
  obtain ⟨A, n, c, rfl⟩ := hs
  obtain ⟨hc, f, hf⟩ := bits_of (d := y0.1) (p := y0.2) ⟨k, h0⟩ (fun x hx => lt x (by simp [hx]))
  exact ⟨A, n, c, f, b1, b2, rfl, hc, hf⟩
set_option maxRecDepth 100000 in
theorem unlike_lifted (os : Os) (started : os.Started) (H : Type) (enc : TypeId × Value → H) :
    ReturnsInHanded {} Tryz.checked os 6 .any (fun w args => (Rows.litUnlikeSpec.pre enc Tryz.prog Tryz.f6 [] false w args ∧ laidMetH Tryz.prog laid5 w) ∧ sizedMet enc Tryz.prog Tryz.f6 (OpenSpec.ofChange Rows.litUnlikeSpec) false w args)
      (Rows.litUnlikeSpec.post enc Tryz.prog Tryz.f6 false true false false) := by
  refine returnsInHanded_of_change_and (C := Tryz.checked) (X := fun w _ => laidMetH Tryz.prog laid5 w) (fun _ _ _ hh h => h.of_heap hh) own5 started (by kernel_rfl) Tryz.func6
    (ChangeSpec.witness_shaped (enc := enc) (C := Tryz.checked) (os := os) (X := fun w _ => laidMetH Tryz.prog laid5 w) false (World.laidAll Tryz.prog os laid5) #[.agg #[.slice none 0 0, .bool false, .bool false], .agg #[.slice none 0 0, .bool false, .bool false]] 8 (World.laidAll_os _ _ _)
      (witness_shape os _) (by kernel_rfl) (by kernel_rfl) (by kernel_rfl) (witness_met os _)) ?_
  intro W base args ds gs before hval0 hW _ _ hL _
  have hval : ∀ (j : Nat) t v, Tryz.f6.params[j]? = some t → args[j]? = some v → Value.okWide Tryz.prog W .any base t v := hval0
  have hW' := hW
  obtain ⟨p, q, hA0, hV, rfl, _, _⟩ := hW
  have hA : DataW.TrodAll enc Tryz.prog W 0 (fun _ => true) true Tryz.f6.params.toList args.toList ds p := hA0
  rw [Tryz.params6] at hA hval
  obtain ⟨v0, vs0, d0, ds0, p0, q0, hargs, rfl, rfl, h0, r0⟩ := trodAll_cons hA
  obtain ⟨v1, vs1, d1, ds1, p1, q1, rfl, rfl, rfl, h1, r1⟩ := trodAll_cons r0
  obtain ⟨rfl, rfl, rfl⟩ := trodAll_nil r1
  obtain rfl : args = #[v0, v1] := by cases args; simp_all
  obtain ⟨rfl, rfl⟩ := trodVars_none hV
  have k0 := h0
  have lt0 : ∀ x ∈ p0, x.block < W.heap.size := by obtain ⟨m, hm⟩ := k0; exact DataW.trod_lt m _ _ _ hm
  have k1 := h1
  have lt1 : ∀ x ∈ p1, x.block < W.heap.size := by obtain ⟨m, hm⟩ := k1; exact DataW.trod_lt m _ _ _ hm
  obtain ⟨A, na, ca, f, ga, za, rfl, _, hRA⟩ := open_rlit (hval 0 34 v0 rfl rfl) h0 lt0
  obtain ⟨B, nb, cb, g, gb, zb, rfl, _, hRB⟩ := open_rlit (hval 1 34 v1 rfl rfl) h1 lt1
  clear hA0 hval0
  refine (Unlike_all na nb ca cb A B f g ga za gb zb W (LT_of_laid hL) hRA hRB).mono fun e W' ⟨he, bel⟩ => ?_
  subst he
  exact ⟨_, rfl, _, _, _, [], _, [], hW', trodAll_mk1 (shut_bool Tryz.underlying4 _), (trodAll_cons_mk (Below.trod laidOut (by kernel_rfl) (of_decide_eq_true (by kernel_rfl)) k0 bel lt0) (trodAll_cons_mk (Below.trod laidOut (by kernel_rfl) (of_decide_eq_true (by kernel_rfl)) k1 bel lt1) trodAll_mk0)), rfl, bel.frame _, fun h => by cases h⟩
theorem unlike_holds : Rows.LitUnlikeSaid :=
  OpenClaim.holds_of_wide 6 Tryz.f6 rfl rfl rfl rfl rfl rfl rfl ⟨rfl, rfl, rfl, rfl, rfl⟩ rfl rfl rfl rfl rfl (by kernel_rfl) Tryz.func6 (by kernel_rfl)
    (of_decide_eq_true (by kernel_rfl)) (by unfold Func.isWrapper; first | (rw [if_pos (by decide +kernel)]; kernel_rfl) | (rw [if_neg (by decide +kernel)]; exact ⟨rfl, rfl⟩))
    (fun os started H enc _ => unlike_lifted os started H enc)
theorem unlike_card : Rows.LitUnlikeCardSaid :=
  Claim7.holds_tied_plain_at .later [] [.data, .data, .data, .data, .pinned] true Rows.litUnlikeCard.stood.harness false unlike_holds (fun _ h => by cases h) (by kernel_rfl) (fun _ h => by cases h) litUnlike_row_tie rfl ⟨rfl, rfl⟩ (by kernel_rfl) rfl
    (fun f fn hf hfn => by
      obtain rfl : f = 6 := Option.some.inj ((show Tryz.prog.funcNamed "sluicegate/sluicegatelaw02.LitUnlike" = some 6 by kernel_rfl).symm.trans hf) |>.symm
      obtain rfl : fn = Tryz.f6 := (Option.some.inj (Tryz.func6.symm.trans hfn)).symm
      exact ⟨by kernel_rfl, fun j t ht => by
        rw [Tryz.params6] at ht
        have hm : t ∈ [34, 34] := by simpa using Array.mem_of_getElem? ht
        have hall : ([34, 34].all fun u => !Tryz.prog.wantsStandIn u) = true := by kernel_rfl
        exact (show Tryz.prog.wantsStandIn t = false by simpa using List.all_eq_true.1 hall t hm)⟩)
    (by kernel_rfl)
#print axioms unlike_card
end Go.Proofs.YtalmhopbnaeamaaGreatDoor
