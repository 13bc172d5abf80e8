/-
  PROVED: for every two literals told by bits the statement SluiceNumbers returns true, and its arguments read afterwards as they read before: two literals and their sum are written and read back, and the sum is the same, as bits and as integers. Conditions: those of the given card alone (the tables of the library that it lists lie as the program's text lays them).
-/
import Derived.Test.YtalmhopbnaeamaaGreatDoorGq
import Derived.Test.YtalmhopbnaeamaaGreatDoorGp
namespace Go.Proofs.YtalmhopbnaeamaaGreatDoor
open Go Go.ChangeShapes Go.WideShapes Go.ChangeAt Go.RowKit Go.Lib
theorem eq_sameS (n v : Nat) (w : World) : Calls Tryz.prog 24 #[vv n v, vv n v] w (RV w (.bool true)) := by
  have h := Equal_v n v n v w
  have e : eqB n v n v = true := by simp [eqB]
  rw [e] at h
  exact h
theorem inV_mod (n x : Nat) (sg : Bool) (h1 : 1 ≤ n) (hx : x < 2 ^ n) (h : (inV n x sg).2 = 0) :
    (∃ t : Int, (inV n x sg).1 = (x : Int) - t * ((2 ^ n : Nat) : Int)) ∧ -2147483648 ≤ (inV n x sg).1 ∧ (inV n x sg).1 ≤ 2147483647 := by
  unfold inV at *
  rw [if_neg (by omega)] at h ⊢
  generalize 2 ^ n = M at *
  by_cases c1 : (sg && x.testBit (n - 1)) = true
  · rw [if_pos c1] at h ⊢
    by_cases c2 : 2147483648 ≤ M - 1 - x
    · rw [if_pos c2] at h; exact absurd h (by decide)
    · rw [if_neg c2]
      refine ⟨⟨1, ?_⟩, ?_, ?_⟩ <;> dsimp only <;> omega
  · rw [if_neg c1] at h ⊢
    by_cases c2 : 2147483648 ≤ x
    · rw [if_pos c2] at h; exact absurd h (by decide)
    · rw [if_neg c2]
      refine ⟨⟨0, ?_⟩, ?_, ?_⟩ <;> dsimp only <;> omega
theorem sum_mod (n x z : Nat) (sg : Bool) (h1 : 1 ≤ n) (hx : x < 2 ^ n) (hz : z < 2 ^ n) (r1 : (inV n x sg).2 = 0) (r2 : (inV n z sg).2 = 0) (r3 : (inV n ((x + z) % 2 ^ n) sg).2 = 0) :
    IntKind.i64.wrap ((inV n x sg).1 + (inV n z sg).1) = (inV n x sg).1 + (inV n z sg).1 ∧ IntKind.i64.wrap ((inV n x sg).1 + (inV n z sg).1 - (inV n ((x + z) % 2 ^ n) sg).1) = (inV n x sg).1 + (inV n z sg).1 - (inV n ((x + z) % 2 ^ n) sg).1 ∧
      ((inV n x sg).1 + (inV n z sg).1 - (inV n ((x + z) % 2 ^ n) sg).1).tmod (2 ^ n) = 0 := by
  obtain ⟨⟨a, ha⟩, b1, b2⟩ := inV_mod n x sg h1 hx r1
  obtain ⟨⟨b, hb⟩, b3, b4⟩ := inV_mod n z sg h1 hz r2
  obtain ⟨⟨c, hc⟩, b5, b6⟩ := inV_mod n _ sg h1 (Nat.mod_lt _ (Nat.two_pow_pos n)) r3
  refine ⟨IntWalk.i64_in _ (by omega), IntWalk.i64_in _ (by omega), ?_⟩
  rw [ha, hb, hc]
  apply Int.tmod_eq_zero_of_dvd
  rw [show ((2 : Int) ^ n) = ((2 ^ n : Nat) : Int) by simp]
  have hd := Nat.div_add_mod (x + z) (2 ^ n)
  generalize 2 ^ n = M at *
  generalize hq : (x + z) / M = q at *
  generalize (x + z) % M = u at *
  refine ⟨(q : Int) - a - b + c, ?_⟩
  have e : ((x : Int) + z) = (M : Int) * q + u := by
    have := congrArg (Int.ofNat) hd
    simpa using this.symm
  have e2 : (M : Int) * ((q : Int) - a - b + c) = (M : Int) * q - a * M - b * M + c * M := by
    rw [Int.mul_add, Int.mul_sub, Int.mul_sub, Int.mul_comm (M : Int) a, Int.mul_comm (M : Int) b, Int.mul_comm (M : Int) c]
  rw [e2]
  omega
theorem Sluice_all (na nb ca cb : Nat) (A B : Option Addr) (f g : Nat → Bool) (gx za gy zb : Bool) (w : World) (hT : LT w) (hA : RB w A na f) (hB : RB w B nb g) :
    Calls Tryz.prog 7 #[.agg #[.slice A na ca, .bool gx, .bool za], .agg #[.slice B nb cb, .bool gy, .bool zb]] w (RV w (.bool true)) := by
  by_cases h1 : na ≤ 128
  · have hOa := fun w1 (hb : Below w.heap.size w w1) => LOwn_t na ca A f gx za w1 h1 (hA.keep hb)
    by_cases h2 : nb ≤ 128
    · have hOb := fun w1 (hb : Below w.heap.size w w1) => LOwn_t nb cb B g gy zb w1 h2 (hB.keep hb)
      by_cases h3 : na = 0
      · exact sn_c na nb ca cb na nb (valB f na) (valB g nb) A B gx za gy zb w hOa hOb (by simp; omega)
      by_cases h4 : nb = 0
      · exact sn_d na nb ca cb na nb (valB f na) (valB g nb) A B gx za gy zb w hOa hOb (by simp; omega) (by simp; omega)
      have hx := valB_lt f na
      have hy := valB_lt g nb
      generalize valB f na = x at *
      generalize valB g nb = y at *
      obtain ⟨z, hz, hX⟩ : ∃ z, z < 2 ^ na ∧ ∀ w1, Calls Tryz.prog 22 #[vv nb y, .int .i64 (na : Int), .bool gy] w1 (RV w1 (.tuple #[vv na z, .int .i64 0])) := by
        have hp := Nat.two_pow_pos na
        cases gy
        · exact ⟨y % 2 ^ na, Nat.mod_lt _ hp, fun w1 => Ext_u nb y na w1 (by omega) h2 hy (by omega) h1⟩
        · refine ⟨_, ?_, fun w1 => Ext_s nb y na _ w1 (by omega) h2 hy (by omega) h1 rfl⟩
          split
          · have := Nat.mod_lt (2 ^ nb - 1 - y) hp; omega
          · exact Nat.mod_lt _ hp
      have hu : (x + z) % 2 ^ na < 2 ^ na := Nat.mod_lt _ (Nat.two_pow_pos na)
      have hb0 : txB na true = false := by unfold txB; simp [h3]
      have par : ∀ (v : Nat) (s : Bool), v < 2 ^ na → ∀ w1, Calls Tryz.prog 9 #[.string ⟨(txL na v s true).toArray⟩] w1 (RV w1 (.tuple #[lv na v s true, .int .i64 0])) := fun v s hv w1 => by
        have k := Parse_t ⟨(txL na v s true).toArray⟩ w1 (by have := tx_len na v s true h1 hv; show (txL na v s true).length ≤ maxLen; unfold maxLen; omega)
        rw [pa_tx na v s true h1 hv hb0] at k
        exact k
      exact sn_main na nb ca cb na nb x y A B gx za gy zb w hOa hOb z ((x + z) % 2 ^ na) _ _ _ _ _ _ _ _ _ (by simp; omega) (by simp; omega) hX (fun w1 => Bin_0 na x z w1 (by omega) h1) (fun w1 => eq_sameS na _ w1)
        (fun w1 hb => Text_t na x gx true w1 (hT.on hb) h1 hx) (par x gx hx) (fun w1 hb => Text_t na z false true w1 (hT.on hb) h1 hz) (par z false hz) (fun w1 hb => Text_t na _ false true w1 (hT.on hb) h1 hu) (par _ false hu)
        (fun w1 => Int_t na x gx true w1 h1 hx) (fun w1 => Int_t na z gx true w1 h1 hz) (fun w1 => Int_t na _ gx true w1 h1 hu)
        (fun r1 r2 r3 _ => sum_mod na x z gx (by omega) hx hz r1 r2 r3)
    · exact sn_b na nb ca cb na 0 (valB f na) 0 A B gx za gy zb w hOa (fun w1 _ => LOwn_f nb cb B gy zb w1 (by omega))
  · have hOa := fun w1 (_ : Below w.heap.size w w1) => LOwn_f na ca A gx za w1 (by omega)
    by_cases h2 : nb ≤ 128
    · exact sn_a na nb ca cb 0 nb 0 (valB g nb) A B gx za gy zb true w hOa (fun w1 hb => LOwn_t nb cb B g gy zb w1 h2 (hB.keep hb))
    · exact sn_a na nb ca cb 0 0 0 0 A B gx za gy zb false w hOa (fun w1 _ => LOwn_f nb cb B gy zb w1 (by omega))
set_option maxRecDepth 100000 in
theorem sluice_lifted (os : Os) (started : os.Started) (H : Type) (enc : TypeId × Value → H) :
    ReturnsInHanded {} Tryz.checked os 7 .any (fun w args => (Rows.sluiceNumbersSpec.pre enc Tryz.prog Tryz.f7 [] false w args ∧ laidMetH Tryz.prog laid5 w) ∧ sizedMet enc Tryz.prog Tryz.f7 (OpenSpec.ofChange Rows.sluiceNumbersSpec) false w args)
      (Rows.sluiceNumbersSpec.post enc Tryz.prog Tryz.f7 false true false false) := by
  refine returnsInHanded_of_change_and (C := Tryz.checked) (X := fun w _ => laidMetH Tryz.prog laid5 w) (fun _ _ _ hh h => h.of_heap hh) own5 started (by kernel_rfl) Tryz.func7
    (ChangeSpec.witness_shaped (enc := enc) (C := Tryz.checked) (os := os) (X := fun w _ => laidMetH Tryz.prog laid5 w) false (World.laidAll Tryz.prog os laid5) #[.agg #[.slice none 0 0, .bool false, .bool false], .agg #[.slice none 0 0, .bool false, .bool false]] 8 (World.laidAll_os _ _ _)
      (witness_shape os _) (by kernel_rfl) (by kernel_rfl) (by kernel_rfl) (witness_met os _)) ?_
  intro W base args ds gs before hval0 hW _ _ hL _
  have hval : ∀ (j : Nat) t v, Tryz.f7.params[j]? = some t → args[j]? = some v → Value.okWide Tryz.prog W .any base t v := hval0
  have hW' := hW
  obtain ⟨p, q, hA0, hV, rfl, _, _⟩ := hW
  have hA : DataW.TrodAll enc Tryz.prog W 0 (fun _ => true) true Tryz.f7.params.toList args.toList ds p := hA0
  rw [Tryz.params7] at hA hval
  obtain ⟨v0, vs0, d0, ds0, p0, q0, hargs, rfl, rfl, h0, r0⟩ := trodAll_cons hA
  obtain ⟨v1, vs1, d1, ds1, p1, q1, rfl, rfl, rfl, h1, r1⟩ := trodAll_cons r0
  obtain ⟨rfl, rfl, rfl⟩ := trodAll_nil r1
  obtain rfl : args = #[v0, v1] := by cases args; simp_all
  obtain ⟨rfl, rfl⟩ := trodVars_none hV
  have k0 := h0
  have lt0 : ∀ x ∈ p0, x.block < W.heap.size := by obtain ⟨m, hm⟩ := k0; exact DataW.trod_lt m _ _ _ hm
  have k1 := h1
  have lt1 : ∀ x ∈ p1, x.block < W.heap.size := by obtain ⟨m, hm⟩ := k1; exact DataW.trod_lt m _ _ _ hm
  obtain ⟨A, na, ca, f, ga, za, rfl, _, hRA⟩ := open_rlit (hval 0 34 v0 rfl rfl) h0 lt0
  obtain ⟨B, nb, cb, g, gb, zb, rfl, _, hRB⟩ := open_rlit (hval 1 34 v1 rfl rfl) h1 lt1
  clear hA0 hval0
  refine (Sluice_all na nb ca cb A B f g ga za gb zb W (LT_of_laid hL) hRA hRB).mono fun e W' ⟨he, bel⟩ => ?_
  subst he
  exact ⟨_, rfl, _, _, _, [], _, [], hW', trodAll_mk1 (shut_bool Tryz.underlying4 _), (trodAll_cons_mk (Below.trod laidOut (by kernel_rfl) (of_decide_eq_true (by kernel_rfl)) k0 bel lt0) (trodAll_cons_mk (Below.trod laidOut (by kernel_rfl) (of_decide_eq_true (by kernel_rfl)) k1 bel lt1) trodAll_mk0)), rfl, bel.frame _, fun h => by cases h⟩
theorem sluice_holds : Rows.SluiceNumbersSaid :=
  OpenClaim.holds_of_wide 7 Tryz.f7 rfl rfl rfl rfl rfl rfl rfl ⟨rfl, rfl, rfl, rfl, rfl⟩ rfl rfl rfl rfl rfl (by kernel_rfl) Tryz.func7 (by kernel_rfl)
    (of_decide_eq_true (by kernel_rfl)) (by unfold Func.isWrapper; first | (rw [if_pos (by decide +kernel)]; kernel_rfl) | (rw [if_neg (by decide +kernel)]; exact ⟨rfl, rfl⟩))
    (fun os started H enc _ => sluice_lifted os started H enc)
theorem sluice_card : Rows.SluiceNumbersCardSaid :=
  Claim7.holds_tied_plain_at .later [] [.data, .data, .data, .data, .pinned] true Rows.sluiceNumbersCard.stood.harness false sluice_holds (fun _ h => by cases h) (by kernel_rfl) (fun _ h => by cases h) sluiceNumbers_row_tie rfl ⟨rfl, rfl⟩ (by kernel_rfl) rfl
    (fun f fn hf hfn => by
      obtain rfl : f = 7 := Option.some.inj ((show Tryz.prog.funcNamed "sluicegate/sluicegatetop.SluiceNumbers" = some 7 by kernel_rfl).symm.trans hf) |>.symm
      obtain rfl : fn = Tryz.f7 := (Option.some.inj (Tryz.func7.symm.trans hfn)).symm
      exact ⟨by kernel_rfl, fun j t ht => by
        rw [Tryz.params7] at ht
        have hm : t ∈ [34, 34] := by simpa using Array.mem_of_getElem? ht
        have hall : ([34, 34].all fun u => !Tryz.prog.wantsStandIn u) = true := by kernel_rfl
        exact (show Tryz.prog.wantsStandIn t = false by simpa using List.all_eq_true.1 hall t hm)⟩)
    (by kernel_rfl)
#print axioms sluice_card
end Go.Proofs.YtalmhopbnaeamaaGreatDoor
