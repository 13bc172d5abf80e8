/-
  AigGrows walked.
-/
import Derived.Test.YtinfkjflomdhbaaGu
import Derived.Laws.AppendOwnNone
namespace Go.Proofs.Ytinfkjflomdhbaa
open Go.RowKit Go.Lib Go.Maps
theorem plain_al2 (A : Option Addr) (c0 : Nat) (l : List AC) (w : World) (hA : AL w A l) : Calls Try.prog 8 #[.slice A l.length c0] w fun e w' => ∃ A' c', e = .returned (.slice A' (plainA l).length c') ∧ AL w' A' (plainA l) ∧ Below w.heap.size w w' ∧ (A' = none → c' = 0) :=
  (plain_t A c0 l w hA).mono fun e w' ⟨A', c', he, ho, hb⟩ => by
    have hnl : A' = none → c' = 0 := fun h => by
      rcases ho.2 with ⟨e, _⟩ | ⟨g, cap, cur, e, _⟩
      · injection e
      · injection e with e1
        rw [h] at e1
        cases e1
    obtain ⟨A9, c9, e9, h9⟩ := AL.of_own ho rfl
    cases e9
    exact ⟨_, _, he, h9, hb, hnl⟩
theorem acells_at {w : World} {b o : Nat} {l : List AC} (h : ∀ j (h : j < l.length), XA w b (o + j * 4) l[j]) (j : Nat) (u : Value) (hj : (acells l)[j]? = some u) : w.cell? ⟨b, o + j, none⟩ = some u := by
  have hlt : j < l.length * 4 := by
    rw [← acells_len]
    exact (List.getElem?_eq_some_iff.1 hj).1
  have hi : j / 4 < l.length := by omega
  obtain ⟨h0, h1, h2, h3⟩ := acells_get l (j / 4) hi
  obtain ⟨x0, x1, x2, x3⟩ := h (j / 4) hi
  have hr : j = j / 4 * 4 ∨ j = j / 4 * 4 + 1 ∨ j = j / 4 * 4 + 2 ∨ j = j / 4 * 4 + 3 := by omega
  rcases hr with e | e | e | e
  · rw [e, h0] at hj; cases hj; rw [show o + j = o + j / 4 * 4 by omega]; exact x0
  · rw [e, h1] at hj; cases hj; rw [show o + j = o + j / 4 * 4 + 1 by omega]; exact x1
  · rw [e, h2] at hj; cases hj; rw [show o + j = o + j / 4 * 4 + 2 by omega]; exact x2
  · rw [e, h3] at hj; cases hj; rw [show o + j = o + j / 4 * 4 + 3 by omega]; exact x3
theorem acells_one (l : List AC) : ∀ u ∈ acells l, u.oneCell' = true := fun u hu => by
  unfold acells at hu
  obtain ⟨x, _, hx⟩ := List.mem_flatMap.1 hu
  simp at hx
  rcases hx with rfl | rfl | rfl | rfl <;> rfl
section
variable {w : World} {ops : Array Oper} {rest : List Oper} {o : Oper} {a : Act} {Q : Exit → Act → World → Prop}
/-- An append of whatever slice of acts behind a slice that the call owns. -/
theorem wpList_append_AL (hgd : o.guard = none) (s x : Operand) (ho : o.op = .call { callee := .builtin .append, args := #[s, x], argTypes := #[22, 22] })
    (base : Nat) (v : Value) (n : Nat) (xs : List Value) (hs : a.eval s = v) (hown : w.ownsRow base 52 4 v n xs)
    (A : Option Addr) (m c : Nat) (l : List AC) (hl : l.length = m) (hx : a.eval x = .slice A m c) (hnil : A = none → c = 0) (hR : AL w A l) (hm : n + m ≤ 1000000) (hbase : base ≤ w.heap.size)
    (h : ∀ v' w', w'.ownsRow base 52 4 v' (n + m) (xs ++ acells l) → w.grownBy w' v.ownBlock → wpList Try.prog ops Q rest (a.put o.dst v') w') : wpList Try.prog ops Q (o :: rest) a w := by
  obtain ⟨i0, hi, hz0, hz1, hz2⟩ := info_parts info_act
  cases A with
  | none =>
    have hl0 : l = [] := by
      cases l with
      | nil => rfl
      | cons y l => obtain ⟨b, off, e, _⟩ := hR (by simp); cases e
    subst hl0
    obtain rfl : m = 0 := by simpa using hl.symm
    rw [hnil rfl] at hx
    refine wpList_append_own_none hgd s x 22 ho base 52 i0 4 Try.underlying22 hi v n xs hs hown hx (h v w ?_ ⟨rfl, rfl, rfl, Nat.le_refl _, fun _ _ _ => rfl⟩)
    simpa [acells] using hown
  | some ad =>
    refine wpList_append_own w hgd s x 22 ho base 52 i0 (.agg #[.int .i64 0, .int .i64 0, .int .i64 0, .int .i64 0]) 4 32 Try.underlying22 hi hz0 hz1 hz2 rfl (by decide) v n xs hs hown ad m c (acells l) hx (by rw [acells_len, hl]) (fun j u hj => ?_) (acells_one l) (by unfold maxLen; omega) (by omega) hbase (fun v' w' h1 h2 _ => h v' w' h1 h2)
    have hlt : j < l.length * 4 := by
      rw [← acells_len]
      exact (List.getElem?_eq_some_iff.1 hj).1
    obtain ⟨b, off, e, _, hc⟩ := hR (by omega)
    cases e
    have hadd : ∀ o x, (⟨b, o, none⟩ : Addr).add x = ⟨b, o + x, none⟩ := fun o x => by unfold Addr.add; split <;> simp_all
    rw [hadd]
    exact acells_at hc j u hj
end
set_option maxRecDepth 100000 in
set_option maxHeartbeats 6400000 in
theorem grows_t (A Am Ai : Option Addr) (c0 cm ci : Nat) (l lm : List AC) (ins : List Bool) (w : World) (hA : AL w A l) (hM : AL w Am lm) (hB : BL w Ai ins) (hci : ins.length ≤ ci) :
    Calls Try.prog 6 #[.slice A l.length c0, .slice Am lm.length cm, .slice Ai ins.length ci] w (RV w (.bool true)) := by
  have hAw := awake_t w
  have hP := fun W (h : Below w.heap.size w W) => plain_al2 A c0 l W (hA.over h)
  have hP2 := fun W (h : Below w.heap.size w W) => plain_al2 Am cm lm W (hM.over h)
  have hpl := plainA_len l
  have hpl2 := plainA_len lm
  have hmk := plain_k l
  have hmk2 := plain_k lm
  obtain ⟨n0, hn0⟩ : ∃ n, l.length = n := ⟨_, rfl⟩
  obtain ⟨n1, hn1⟩ : ∃ n, lm.length = n := ⟨_, rfl⟩
  rw [hn0] at hP ⊢
  rw [hn1] at hP2 ⊢
  obtain ⟨m, hm⟩ : ∃ m, plainA l = m := ⟨_, rfl⟩
  obtain ⟨m2, hm2⟩ : ∃ m, plainA lm = m := ⟨_, rfl⟩
  rw [hm] at hP hpl hmk
  rw [hm2] at hP2 hpl2 hmk2
  have hal : (m ++ m2).length = m.length + m2.length := List.length_append
  have hBd := fun (A : Option Addr) (c : Nat) W (h : AL W A m) => build_rd A c m W h hmk (by omega)
  have hBd2 := fun (A : Option Addr) (c : Nat) W (h : AL W A (m ++ m2)) => build_rd A c (m ++ m2) W h (fun x hx => by
    rcases List.mem_append.1 hx with e | e
    · exact hmk x e
    · exact hmk2 x e) (by omega)
  have hok := bdA_ok m
  have hok2 := bdA_ok (m ++ m2)
  obtain ⟨hpF, hpL⟩ := bdA_pre m m2
  have hEv := fun (B p : Nat) (W : World) (h : GI W B p (bdA m).F) (h2 : Below w.heap.size w W) => Eval_t Ai ci ins W h (hB.over h2) hci
  have hEv2 := fun (B p : Nat) (W : World) (h : GI W B p (bdA (m ++ m2)).F) (h2 : Below w.heap.size w W) => Eval_t Ai ci ins W h (hB.over h2) hci
  have hLn := fun (B p : Nat) (W : World) (h : GI W B p (bdA m).F) => Len_t W h
  have hLn2 := fun (B p : Nat) (W : World) (h : GI W B p (bdA (m ++ m2)).F) => Len_t W h
  obtain ⟨F, hF⟩ : ∃ F, (bdA m).F = F := ⟨_, rfl⟩
  obtain ⟨L, hL⟩ : ∃ L, (bdA m).L = L := ⟨_, rfl⟩
  obtain ⟨F2, hF2⟩ : ∃ F, (bdA (m ++ m2)).F = F := ⟨_, rfl⟩
  obtain ⟨L2, hL2⟩ : ∃ L, (bdA (m ++ m2)).L = L := ⟨_, rfl⟩
  have hwf := hok.wf
  have hll := hok.ln
  have hfl := hok.fl
  have hlt := hok.lt
  have hwf2 := hok2.wf
  have hll2 := hok2.ln
  have hfl2 := hok2.fl
  rw [hF] at hEv hwf hfl hlt hLn hpF hBd
  rw [hL] at hll hlt hpL hBd
  rw [hF2] at hEv2 hwf2 hfl2 hLn2 hpF hBd2
  rw [hL2] at hll2 hpL hBd2
  have hle : F.length ≤ F2.length := hpF.length_le
  have hvl := evT_len F ins hwf.pos
  have hvl2 := evT_len F2 ins hwf2.pos
  have hvp := fun k (h : k < L.length) => VL_pre hpF ins (L[k]) (hlt _ (List.getElem_mem h))
  have hLp : ∀ k (h : k < L.length), L2.getD k 0 = L[k] := fun k h => by
    obtain ⟨t, ht⟩ := hpL
    rw [← ht, List.getD_eq_getElem?_getD, List.getElem?_append_left h, List.getElem?_eq_getElem h]
    rfl
  have hlL : L.length ≤ L2.length := hpL.length_le
  obtain ⟨N, hN⟩ : ∃ N, F.length = N := ⟨_, rfl⟩
  obtain ⟨N2, hN2⟩ : ∃ N, F2.length = N := ⟨_, rfl⟩
  rw [hN] at hEv hfl hlt hvl hLn hle
  rw [hN2] at hEv2 hfl2 hvl2 hLn2 hle
  obtain ⟨mn, hmn⟩ : ∃ n, m.length = n := ⟨_, rfl⟩
  obtain ⟨mn2, hmn2⟩ : ∃ n, m2.length = n := ⟨_, rfl⟩
  rw [hmn] at hP hpl hBd hll hfl hal
  rw [hmn2] at hP2 hpl2 hal
  rw [hal] at hBd2 hll2 hfl2
  obtain ⟨ni, hni⟩ : ∃ n, ins.length = n := ⟨_, rfl⟩
  rw [hni] at hEv hEv2 ⊢
  unfold VL at hvp
  obtain ⟨V, hV⟩ : ∃ V, (evT F ins).1 = V := ⟨_, rfl⟩
  obtain ⟨V2, hV2⟩ : ∃ V, (evT F2 ins).1 = V := ⟨_, rfl⟩
  rw [hV] at hEv hvl hvp
  rw [hV2] at hEv2 hvl2 hvp
  unfold RV at hAw
  unfold RW at hLn hLn2
  have hmnb : mn ≤ 60 := hpl
  have hmnb2 : mn2 ≤ 60 := hpl2
  have hNb : N ≤ 1000 := by omega
  have hN2b : N2 ≤ 1000 := by omega
  replace hAw := Lib.hid hAw
  replace hP := Lib.hid hP
  replace hP2 := Lib.hid hP2
  replace hBd := Lib.hid hBd
  replace hBd2 := Lib.hid hBd2
  replace hEv := Lib.hid hEv
  replace hEv2 := Lib.hid hEv2
  replace hLn := Lib.hid hLn
  replace hLn2 := Lib.hid hLn2
  replace hll := Lib.hid hll
  replace hll2 := Lib.hid hll2
  replace hlt := Lib.hid hlt
  replace hvl := Lib.hid hvl
  replace hvl2 := Lib.hid hvl2
  replace hvp := Lib.hid hvp
  replace hLp := Lib.hid hLp
  replace hlL := Lib.hid hlL
  replace hmn := Lib.hid hmn
  replace hmn2 := Lib.hid hmn2
  replace hal := Lib.hid hal
  clear hA hM hB hci hn0 hn1 hm hm2 hmk hmk2 hok hok2 hF hL hF2 hL2 hwf hwf2 hN hN2 hni hV hV2 hpF hpL hfl hfl2 hpl hpl2
  go_enter Try.func6, Try.ntmps6
  go_wp2_with fail
  (with_reducible refine hAw.out.mono ?_)
  rintro e w1 ⟨rfl, hb1⟩
  replace hb1 := Lib.hid hb1
  go_wp2_with fail
  (with_reducible refine (hP.out _ hb1.out).mono ?_)
  rintro e w2 ⟨A2, c2, rfl, hA2, hb2, hnl2⟩
  replace hb2 := Lib.hid (hb1.out.trans (hb2.mono hb1.out.size))
  replace hA2 := Lib.hid hA2
  replace hnl2 := Lib.hid hnl2
  clear hb1
  go_wp2_with fail
  (with_reducible refine (hBd.out _ _ _ hA2.out).mono ?_)
  rintro e w3 ⟨p, A3, c3, rfl, hg3, hl3, hb3⟩
  have hb3' := hb2.out.trans (hb3.mono hb2.out.size)
  replace hA3 := Lib.hid (hA2.out.over hb3)
  replace hb3 := Lib.hid hb3'
  replace hg3 := Lib.hid hg3
  replace hl3 := Lib.hid hl3
  clear hb2 hA2 hb3'
  have hx3 := (Below.refl w3.heap.size w3).alloc (Nat.le_refl _) (.cells #[] 52)
  have ho3 := World.ownsRow_made w3 (e := 52) (size := 4) (base := w3.heap.size) #[] 0 (Nat.le_refl _) (by decide) rfl
  have hA3' := hA3.out.over hx3
  replace hA3' := Lib.hid hA3'
  replace ho3 := Lib.hid ho3
  replace hx3 := Lib.hid hx3
  go_wp2_with (first
    | (at_builtin; refine wpList_append_AL rfl _ _ rfl w3.heap.size _ 0 [] rfl ho3.out A2 mn c2 m hmn.out rfl hnl2.out hA3'.out (by omega) hx3.out.size ?_; intro v4 w4 ho4 hg4; replace ho4 := Lib.hid ho4; replace hg4 := Lib.hid hg4)
    | fail)
  have hbe4 : Below w3.heap.size w3 w4 := hx3.out.grown hg4.out hx3.out.size (fun q hq => by cases hq; exact Nat.le_refl _)
  have hbw4 := hb3.out.trans (hbe4.mono hb3.out.size)
  replace hbe4 := Lib.hid hbe4
  replace hbw4 := Lib.hid hbw4
  clear hg4 ho3 hA3' hx3
  (with_reducible refine (hP2.out _ hbw4.out).mono ?_)
  rintro e w5 ⟨A5, c5, rfl, hA5, hb5, hnl5⟩
  have ho5 := own_keepT ho4.out fun b hb => hb5.block b (own_ltT ho4.out b hb).2
  have hbe5 : Below w3.heap.size w3 w5 := hbe4.out.trans (hb5.mono hbe4.out.size)
  have hlow5 := own_ltT ho5
  have hfin6 : ∀ v6 w6, w6.ownsRow w3.heap.size 52 4 v6 (0 + mn + mn2) ([] ++ acells m ++ acells m2) → w5.grownBy w6 v4.ownBlock → (∃ A6 c6, v6 = .slice A6 (mn + mn2) c6 ∧ AL w6 A6 (m ++ m2)) ∧ Below w3.heap.size w3 w6 := fun v6 w6 ho6 hg6 => by
    have e : [] ++ acells m ++ acells m2 = acells (m ++ m2) := by rw [acells_app, List.nil_append]
    rw [e] at ho6
    obtain ⟨A6, c6, e6, h6⟩ := AL.of_own ho6 (by rw [List.length_append, hmn.out, hmn2.out]; omega)
    rw [List.length_append, hmn.out, hmn2.out] at e6
    exact ⟨⟨A6, c6, e6, h6⟩, hbe5.grown hg6 hbe5.size (fun q hq => (hlow5 q hq).1)⟩
  replace hfin6 := Lib.hid hfin6
  replace ho5 := Lib.hid ho5
  replace hA5 := Lib.hid hA5
  replace hnl5 := Lib.hid hnl5
  have hz5 := hbe5.size
  replace hz5 := Lib.hid hz5
  clear ho4 hbe4 hbw4 hb5 hbe5 hlow5
  go_wp2_with (first
    | (at_builtin; refine wpList_append_AL rfl _ _ rfl w3.heap.size _ (0 + mn) ([] ++ acells m) rfl ho5.out A5 mn2 c5 m2 hmn2.out rfl hnl5.out hA5.out (by omega) hz5.out ?_; intro v6 w6 ho6 hg6; obtain ⟨⟨A6, c6, rfl, hA6⟩, hbe6⟩ := hfin6.out v6 w6 ho6 hg6; replace hA6 := Lib.hid hA6; replace hbe6 := Lib.hid hbe6; clear ho6 hg6)
    | fail)
  clear ho5 hA5 hnl5 hz5 hfin6
  (with_reducible refine (hBd2.out _ _ _ hA6.out).mono ?_)
  rintro e w7 ⟨p2, A7, c7, rfl, hg7, hl7, hb7⟩
  have hbe7 : Below w3.heap.size w3 w7 := hbe6.out.trans (hb7.mono hbe6.out.size)
  have hgA := hg3.out.over hbe7
  have hlA := hl3.out.over hbe7
  have hbw7 := hb3.out.trans (hbe7.mono hb3.out.size)
  replace hgA := Lib.hid hgA
  replace hlA := Lib.hid hlA
  replace hbw7 := Lib.hid hbw7
  replace hg7 := Lib.hid hg7
  replace hl7 := Lib.hid hl7
  clear hb7 hbe7 hbe6 hA6 hg3 hl3 hb3 hA3
  have hnl : ¬ N2 < N := by omega
  go_wp2_with fail
  (with_reducible refine (hLn2.out _ _ _ hg7.out).mono ?_)
  rintro e w9 ⟨rfl, hw9⟩
  subst hw9
  go_wp2_with fail
  (with_reducible refine (hLn.out _ _ _ hgA.out).mono ?_)
  rintro e w9 ⟨rfl, hw9⟩
  subst hw9
  go_wp2_with fail
  (with_reducible refine (hEv.out _ _ _ hgA.out hbw7.out).mono ?_)
  rintro e w8 ⟨g8, c8, rfl, hv8, hb8⟩
  have hg8 := hg7.out.over hb8
  have hlA8 := hlA.out.over hb8
  have hl8 := hl7.out.over hb8
  have hbw8 := hbw7.out.trans (hb8.mono hbw7.out.size)
  replace hg8 := Lib.hid hg8
  replace hlA8 := Lib.hid hlA8
  replace hl8 := Lib.hid hl8
  replace hbw8 := Lib.hid hbw8
  replace hv8 := Lib.hid hv8
  clear hb8 hg7 hgA hlA hl7 hbw7 hLn hLn2 hEv
  go_wp2_with fail
  (with_reducible refine (hEv2.out _ _ _ hg8.out hbw8.out).mono ?_)
  rintro e w9 ⟨g9, c9, rfl, hv9, hb9⟩
  have hlA9 := hlA8.out.over hb9
  have hl9 := hl8.out.over hb9
  have hbw9 := hbw8.out.trans (hb9.mono hbw8.out.size)
  have hv8' := hv8.out.over hb9
  replace hlA9 := Lib.hid hlA9
  replace hl9 := Lib.hid hl9
  replace hbw9 := Lib.hid hbw9
  replace hv9 := Lib.hid hv9
  replace hv8' := Lib.hid hv8'
  clear hb9 hg8 hlA8 hl8 hbw8 hEv2 hv8
  rw [hll.out]
  go_wp2_with fail
  go_loopw [59] (fun iw wr => ∃ k : Nat, k ≤ mn ∧ iw = .int .i64 (k : Int) ∧ ∃ q, wr = w9.drewN q) (fun iw _ => mn - (intOf iw).toNat)
  case atStart => exact ⟨0, Nat.zero_le _, rfl, 0, rfl⟩
  case round =>
    obtain ⟨k, hk, rfl, q, rfl⟩ := hrel
    by_cases hltk : k < mn
    · have hkL : k < L.length := by rw [hll.out]; exact hltk
      have hkL2 : k < L2.length := Nat.lt_of_lt_of_le hkL hlL.out
      obtain ⟨gl, rfl, hgl, hcl⟩ := hlA9.out (by omega)
      obtain ⟨gr, rfl, hgr, hcr⟩ := hl9.out (by omega)
      have c0 := hcl k hkL
      have d0 := hcr k hkL2
      have hLk : L.getD k 0 = L[k] := by rw [List.getD_eq_getElem?_getD, List.getElem?_eq_getElem hkL]; rfl
      rw [hLk] at c0
      rw [hLp.out k hkL] at d0
      have hlk := hlt.out _ (List.getElem_mem hkL)
      have hvk := hvp.out k hkL
      obtain ⟨x, hx⟩ : ∃ x, L[k] = x := ⟨_, rfl⟩
      rw [hx] at c0 d0 hlk hvk
      have hxb : x < 1000000 := by omega
      obtain ⟨v, hv⟩ : ∃ v, isV V x = v := ⟨_, rfl⟩
      rw [hv] at hvk
      have hI1 := fun n => Is_q (c := c8) hv8'.out hvl.out (by omega) hxb hv n
      have hI2 := fun n => Is_q (c := c9) hv9.out hvl2.out (by omega) hxb hvk n
      rw [hll2.out]
      replace hI1 := Lib.hid hI1
      replace hI2 := Lib.hid hI2
      replace hlk := Lib.hid hlk
      replace hvk := Lib.hid hvk
      have hkm : k < mn + mn2 := by omega
      clear hcl hcr hLk hx hv hkL hkL2
      go_wp2_with fail
      (with_reducible refine (hI1.out _).mono ?_)
      rintro e w6 ⟨rfl, q1, hw6⟩
      subst hw6
      go_wp2_with fail
      (with_reducible refine (hI2.out _).mono ?_)
      rintro e w6 ⟨rfl, q2, hw6⟩
      subst hw6
      go_wp2_with fail
      go_roundw
      case rel => exact ⟨k + 1, by omega, by go_num, q2, rfl⟩
      case measure => simp [intOf]; omega
    · obtain rfl : k = mn := by omega
      have hfin := hbw9.out.trans ((bdn w9 q).mono hbw9.out.size)
      replace hfin := Lib.hid hfin
      go_wp2_with fail
      go_ret
      exact ⟨rfl, hfin.out⟩
end Go.Proofs.Ytinfkjflomdhbaa
