/-
  Check: areDifferent.
-/
import Derived.Test.YtbmdnmjgijblpaaDoorE33
namespace Go.Proofs.YtbmdnmjgijblpaaDoor
open Go Go.RowKit Go.Lib Go.Maps
/-- The map of counts of the names ns. -/
structure CI (D : DU) (ns : List (List UInt8)) : Prop where
  im : IsMap D
  td : Maps.Tidy D
  hs : ∀ s, Maps.has D (.string s) = decide (s ∈ ns)
  vl : ∀ s, ∃ c : Nat, c ≤ ns.length ∧ D.atKey (.string s) (.lit (.int .i64 ((0 : Nat) : Int))) = .lit (.int .i64 (c : Int))
  le : Maps.size D ≤ ns.length
  nd : Maps.size D = ns.length ↔ ns.Nodup
theorem CI.new : CI (.map []) [] := ⟨isMap_empty, tidy_empty, fun _ => rfl, fun _ => ⟨0, Nat.le_refl _, rfl⟩, Nat.le_refl _, ⟨fun _ => List.nodup_nil, fun _ => rfl⟩⟩
theorem CI.put {D : DU} {ns : List (List UInt8)} (h : CI D ns) (x : List UInt8) (c : Nat) (hc : c ≤ ns.length) : CI (D.put (.string x) (.lit (.int .i64 ((c : Int) + 1)))) (ns ++ [x]) := by
  have hsz := size_put h.td (k := .string x) (d := (.lit (.int .i64 ((c : Int) + 1)) : DU))
  rw [h.hs x] at hsz
  refine ⟨h.im.put _ _, h.td.put (by exact trivial) _, fun s => ?_, fun s => ?_, ?_, ?_⟩
  · by_cases e : s = x
    · subst e
      rw [has_put_same h.im (by exact trivial)]
      simp
    · have hne : Lit.string s ≠ Lit.string x := fun h' => e (by injection h')
      rw [has_put_other hne, h.hs s]
      simp [e]
  · by_cases e : s = x
    · subst e
      exact ⟨c + 1, by simp; omega, by rw [atKey_put_same h.im (by exact trivial)]; rfl⟩
    · have hne : Lit.string s ≠ Lit.string x := fun h' => e (by injection h')
      obtain ⟨c', h1, h2⟩ := h.vl s
      exact ⟨c', by simp; omega, by rw [atKey_put_other hne]; exact h2⟩
  · rw [hsz, List.length_append]
    have := h.le
    split <;> simp <;> omega
  · rw [hsz, List.length_append, List.nodup_append]
    by_cases e : x ∈ ns
    · have := h.le
      simp only [e, decide_true, if_true]
      constructor
      · intro h2
        simp at h2
        omega
      · rintro ⟨_, _, h3⟩
        exact absurd rfl (h3 x e x (by simp))
    · simp only [e, decide_false, Bool.false_eq_true, if_false]
      simp only [List.length_cons, List.length_nil]
      constructor
      · intro h2
        exact ⟨h.nd.1 (by omega), by simp, fun a ha b hb hab => by
          rw [List.mem_singleton] at hb
          subst hb
          subst hab
          exact e ha⟩
      · rintro ⟨h2, _, _⟩
        rw [h.nd.2 h2]
theorem CI.look {w : World} {m n : Nat} {D : DU} {ns : List (List UInt8)} (h : MapIs w m n D) (ha : CI D ns) (x : List UInt8) (hx : x.length ≤ 1000) :
    ∃ c : Nat, c ≤ ns.length ∧ (Instr.lookup 62 (.map (some m)) (.string (bt x)) false).run Tryd.prog w = .ok (.int .i64 (c : Int)) w := by
  obtain ⟨c, h1, h2, _⟩ := World.ownsMap.lookup_int h kS Tryd.underlying62 Tryd.underlying3 (zI w) (key_s x hx)
  obtain ⟨c', h3, h4⟩ := ha.vl x
  have e : c = (c' : Int) := by
    have h5 := h2.symm.trans h4
    exact (Lit.int.inj (DataW.lit.inj h5)).2
  exact ⟨c', h3, by rw [← e]; exact h1⟩
theorem CI.store {w : World} {m n : Nat} {D : DU} (h : MapIs w m n D) (x : List UInt8) (hx : x.length ≤ 1000) (hn : n < 100000) (c : Nat) (hc : c ≤ 100000) :
    ∃ w', (Instr.mapUpdate 62 (.map (some m)) (.string (bt x)) (.int .i64 ((c : Int) + 1))).run Tryd.prog w = .ok () w' ∧ MapIs w' m (n + 1) (D.put (.string x) (.lit (.int .i64 ((c : Int) + 1)))) ∧ w.grownBy w' (some m) :=
  World.ownsMap.update h kS Tryd.underlying62 (by unfold maxLen; omega) (key_s x hx) (plainElem_int Tryd.underlying3 (WalkArith.wf_i64 (n := (c : Int) + 1) (by omega)))
set_option maxRecDepth 100000 in
set_option maxHeartbeats 3200000 in
theorem diff_t (vs : List NV) (A : Option Addr) (c : Nat) (w : World) (hA : RVs w A vs) (hn : ∀ x ∈ vs, x.1.length ≤ 1000) (hl : vs.length ≤ 10000) :
    Calls Tryd.prog 28 #[.slice A vs.length c] w fun e w' => e = .returned (.bool (decide (vs.map Prod.fst).Nodup)) ∧ Below w.heap.size w w' := by
  have hmm := @run_makeMap Tryd.prog
  obtain ⟨nv, hnv⟩ : ∃ n, vs.length = n := ⟨_, rfl⟩
  have hm0 := World.ownsMap_made (H := Unit) w Tryd.prog 9 (plainElem (H := Unit) Tryd.prog 3)
  have hb0 := vnew w (.map #[] 0)
  rw [hnv] at hl ⊢
  obtain ⟨m, hm⟩ : ∃ m, w.heap.size = m := ⟨_, rfl⟩
  rw [hm] at hm0
  obtain ⟨R, hR⟩ : ∃ R, decide (vs.map Prod.fst).Nodup = R := ⟨_, rfl⟩
  rw [hR]
  have hI0 : Hid (∃ n D, n ≤ 0 ∧ MapIs (w.alloc (.map #[] 0)) m n D ∧ CI D ((vs.take 0).map Prod.fst) ∧ Below w.heap.size w (w.alloc (.map #[] 0))) := Lib.hid ⟨0, _, Nat.le_refl _, hm0, CI.new, hb0⟩
  replace hA := Lib.hid hA
  replace hn := Lib.hid hn
  replace hnv := Lib.hid hnv
  replace hR := Lib.hid hR
  replace hm := Lib.hid hm
  clear hm0 hb0
  go_enter Tryd.func28, Tryd.ntmps28
  go_wp2_with fail
  rw [hm.out]
  go_loopw [9] (fun i wr => ∃ k : Nat, k ≤ nv ∧ i = .int .i64 (k : Int) ∧ Hid (∃ n D, n ≤ k ∧ MapIs wr m n D ∧ CI D ((vs.take k).map Prod.fst) ∧ Below w.heap.size w wr)) (fun i _ => nv - (RowKit.intOf i).toNat)
  case atStart => exact ⟨0, Nat.zero_le _, rfl, hI0⟩
  case round =>
    obtain ⟨k, hk, rfl, hI⟩ := hrel
    clear hI0
    by_cases hlt : k < nv
    · have hkl : k < vs.length := by have := hnv.out; omega
      obtain ⟨x, hx⟩ : ∃ x, vs[k]? = some x := ⟨_, List.getElem?_eq_getElem hkl⟩
      obtain ⟨n, D, hnk, hM, hC, hbw⟩ := hI.out
      obtain ⟨b, rfl, hb, hc⟩ := hA.out.over hbw (by omega)
      obtain ⟨x0, x1⟩ := hc k x hx
      have hxl := hn.out x (List.mem_of_getElem? hx)
      have hbA := vnew wr (.cells #[.string (bt x.1), iz (x.2 : Int)] 30)
      have hM1 : MapIs (wr.alloc (.cells #[.string (bt x.1), iz (x.2 : Int)] 30)) m n D := hM.alloc _
      obtain ⟨cc, hcc, hlk⟩ := CI.look hM1 hC x.1 hxl
      have hck : cc ≤ k := by rw [List.length_map, List.length_take] at hcc; omega
      obtain ⟨w2, hst, hM2, hg2⟩ := CI.store hM1 x.1 hxl (by omega) cc (by omega)
      have hC2 := hC.put x.1 cc hcc
      have htk : (vs.take (k + 1)).map Prod.fst = (vs.take k).map Prod.fst ++ [x.1] := by
        rw [List.take_succ_eq_append_getElem hkl, List.map_append]
        simp [(List.getElem?_eq_some_iff.1 hx).2]
      rw [← htk] at hC2
      have hlow2 : Below w.heap.size w w2 := (below_step hbw hbA).grown hg2 (by have := (below_step hbw hbA).size; omega) (fun q hq => by cases hq; have := hm.out; omega)
      have hI2 : Hid (∃ n D, n ≤ k + 1 ∧ MapIs w2 m n D ∧ CI D ((vs.take (k + 1)).map Prod.fst) ∧ Below w.heap.size w w2) := Lib.hid ⟨n + 1, _, by omega, hM2, hC2, hlow2⟩
      obtain ⟨S, hS⟩ : ∃ S, bt x.1 = S := ⟨_, rfl⟩
      obtain ⟨u, hu⟩ : ∃ u : Int, (x.2 : Int) = u := ⟨_, rfl⟩
      rw [hS] at x0 hlk hst
      rw [hu] at x1 hlk hst
      have e1 : IntKind.i64.wrap ((cc : Int) + 1) = (cc : Int) + 1 := IntWalk.i64_in _ (by omega)
      clear hI hc hx hM hC hM1 hbA hC2 htk hlow2 hM2 hg2 hS hu hcc hbw hkl hxl
      go_wp2_with fail
      go_roundw
      case rel => exact ⟨k + 1, by omega, by go_num, hI2⟩
      case measure => simp [RowKit.intOf]; omega
    · obtain rfl : k = nv := by omega
      obtain ⟨n, D, hnk, hM, hC, hbw⟩ := hI.out
      have hlen := fun ty => World.ownsMap.len hM Tryd.underlying62 ty
      have hle := hC.le
      have hnd := hC.nd
      rw [List.length_map, List.take_of_length_le (by have := hnv.out; omega), hnv.out] at hle hnd
      obtain ⟨z, hz⟩ : ∃ z, Maps.size D = z := ⟨_, rfl⟩
      have hzz : (((z : Nat) : Int) == (k : Int)) = R := by
        rw [← hR.out]
        rw [hz] at hnd
        by_cases h : (vs.map Prod.fst).Nodup
        · rw [decide_eq_true h]
          have := hnd.2 h
          simp; omega
        · rw [decide_eq_false h]
          have : z ≠ k := fun e => h (hnd.1 e)
          simp; omega
      rw [hz] at hlen
      replace hbw := Lib.hid hbw
      clear hI hM hC hnd hz hle
      go_wp2_with fail
      go_ret
      exact ⟨by simp only ; rfl, hbw.out⟩
end Go.Proofs.YtbmdnmjgijblpaaDoor
