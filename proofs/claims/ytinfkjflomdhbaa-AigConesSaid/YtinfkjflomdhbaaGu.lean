/-
  AigMeans walked.
-/
import Derived.Test.YtinfkjflomdhbaaGp
import Derived.Test.YtinfkjflomdhbaaGr
import Derived.Test.YtinfkjflomdhbaaGt
namespace Go.Proofs.Ytinfkjflomdhbaa
open Go.RowKit Go.Lib Go.Maps
theorem dnn (w : World) (a b : Nat) : (w.drewN a).drewN b = w.drewN (a + b) := by simp
theorem plain_k (l : List AC) : ∀ x ∈ plainA l, 0 ≤ x.k ∧ x.k < 6 := plainA_k l
/-- Literals in a slice. -/
def LR (w : World) (A : Option Addr) (L : List Nat) : Prop := 0 < L.length → ∃ g : Nat, A = some ⟨g, 0, none⟩ ∧ g < w.heap.size ∧ ∀ j, j < L.length → w.cell? ⟨g, j, none⟩ = some (.int .i64 ((L.getD j 0 : Nat) : Int))
theorem LR.over {w w' : World} {A : Option Addr} {l : List Nat} (h : LR w A l) (k : Below w.heap.size w w') : LR w' A l := fun h0 => by
  obtain ⟨b, e, hb, hc⟩ := h h0
  exact ⟨b, e, Nat.lt_of_lt_of_le hb k.size, fun j hj => (k.cell (p := ⟨b, j, none⟩) hb).trans (hc j hj)⟩
/-- Bools in a slice that begins at its block's head. -/
def BR (w : World) (A : Option Addr) (L : List Bool) : Prop := 0 < L.length → ∃ g : Nat, A = some ⟨g, 0, none⟩ ∧ g < w.heap.size ∧ ∀ j, j < L.length → w.cell? ⟨g, j, none⟩ = some (.bool (L.getD j false))
theorem BR.over {w w' : World} {A : Option Addr} {l : List Bool} (h : BR w A l) (k : Below w.heap.size w w') : BR w' A l := fun h0 => by
  obtain ⟨b, e, hb, hc⟩ := h h0
  exact ⟨b, e, Nat.lt_of_lt_of_le hb k.size, fun j hj => (k.cell (p := ⟨b, j, none⟩) hb).trans (hc j hj)⟩
theorem plain_al (A : Option Addr) (c0 : Nat) (l : List AC) (w : World) (hA : AL w A l) : Calls Try.prog 8 #[.slice A l.length c0] w fun e w' => ∃ A' c', e = .returned (.slice A' (plainA l).length c') ∧ AL w' A' (plainA l) ∧ Below w.heap.size w w' :=
  (plain_t A c0 l w hA).mono fun e w' ⟨A', c', he, ho, hb⟩ => by
    obtain ⟨A9, c9, e9, h9⟩ := AL.of_own ho rfl
    cases e9
    exact ⟨_, _, he, h9, hb⟩
theorem build_rd (A : Option Addr) (c0 : Nat) (l : List AC) (w : World) (hA : AL w A l) (hK : ∀ x ∈ l, 0 ≤ x.k ∧ x.k < 6) (hn : l.length ≤ 120) : Calls Try.prog 9 #[.slice A l.length c0] w fun e w' =>
    ∃ p A' c', e = .returned (.tuple #[pg p, .slice A' (bdA l).L.length c', .bool true]) ∧ GI w' w.heap.size p (bdA l).F ∧ LR w' A' (bdA l).L ∧ Below w.heap.size w w' :=
  (build_st A c0 l w hA hK hn).mono fun e w' ⟨p, v, he, hg, ho, hb⟩ => by
    obtain ⟨A9, c9, e9, h9⟩ := RL.of_own ho rfl
    subst e9
    exact ⟨p, A9, c9, he, hg, h9, hb⟩
theorem refEval_rd (A Ai : Option Addr) (c0 ci : Nat) (l : List AC) (ins : List Bool) (w : World) (hA : AL w A l) (hB : BL w Ai ins) (hK : ∀ x ∈ l, 0 ≤ x.k ∧ x.k < 6) (hn : l.length ≤ 120) :
    Calls Try.prog 10 #[.slice A l.length c0, .slice Ai ins.length ci] w fun e w' => ∃ A' c', e = .returned (.slice A' l.length c') ∧ BR w' A' (refR l ins).1 ∧ Below w.heap.size w w' :=
  (refEval_t A Ai c0 ci l ins w hA hB hK hn).mono fun e w' ⟨v, he, ho, hb⟩ => by
    obtain ⟨A9, c9, e9, h9⟩ := BL.of_own ho (refR_len l ins).symm
    subst e9
    rw [refR_len] at he
    exact ⟨A9, c9, he, h9, hb⟩
theorem Is_q {A : Option Addr} {c a N : Nat} {V : List Bool} {v : Bool} {W : World} (hB : BL W A V) (hN : V.length = N) (hn : N ≤ 1000000) (ha : a < 1000000) (hv : isV V a = v) (n : Nat) :
    Calls Try.prog 13 #[.slice A N c, .int .i64 (a : Int)] (W.drewN n) (fun e w' => e = .returned (.bool v) ∧ ∃ m, w' = W.drewN m) := by
  subst hN hv
  exact (Is_t A c V a (W.drewN n) (hB.over (bdn W n)) hn ha).mono fun e w' ⟨he, q2, h2⟩ => ⟨he, n + q2, by rw [h2, dnn]⟩
set_option maxRecDepth 100000 in
set_option maxHeartbeats 6400000 in
theorem means_t (A Ai : Option Addr) (c0 ci : Nat) (l : List AC) (ins : List Bool) (w : World) (hA : AL w A l) (hB : BL w Ai ins) (hci : ins.length ≤ ci) :
    Calls Try.prog 3 #[.slice A l.length c0, .slice Ai ins.length ci] w (RV w (.bool true)) := by
  have hAw := awake_t w
  have hP := fun W (h : Below w.heap.size w W) => plain_al A c0 l W (hA.over h)
  have hpl := plainA_len l
  obtain ⟨n0, hn0⟩ : ∃ n, l.length = n := ⟨_, rfl⟩
  rw [hn0] at hP ⊢
  obtain ⟨m, hm⟩ : ∃ m, plainA l = m := ⟨_, rfl⟩
  have hmk := plain_k l
  rw [hm] at hP hpl hmk
  have hBd := fun (A : Option Addr) (c : Nat) W (h : AL W A m) => build_rd A c m W h hmk (by omega)
  have hRf := fun (A : Option Addr) (c : Nat) W (h : AL W A m) (h2 : Below w.heap.size w W) => refEval_rd A Ai c ci m ins W h (hB.over h2) hmk (by omega)
  have hEv := fun (B p : Nat) (W : World) (h : GI W B p (bdA m).F) (h2 : Below w.heap.size w W) => Eval_t Ai ci ins W h (hB.over h2) hci
  have hok := bdA_ok m
  have hrr := refR_ok m ins
  have hLn := fun (B p : Nat) (W : World) (h : GI W B p (bdA m).F) => Len_t W h
  obtain ⟨F, hF⟩ : ∃ F, (bdA m).F = F := ⟨_, rfl⟩
  obtain ⟨L, hL⟩ : ∃ L, (bdA m).L = L := ⟨_, rfl⟩
  have hwf := hok.wf
  have hll := hok.ln
  have hfl := hok.fl
  have hlt := hok.lt
  have hrv := hrr.v
  rw [hF] at hEv hwf hfl hlt hrv hLn
  rw [hL] at hll hlt hrv
  obtain ⟨N, hN⟩ : ∃ N, F.length = N := ⟨_, rfl⟩
  have hvl := evT_len F ins hwf.pos
  have hpos := hwf.pos
  rw [hN] at hEv hfl hlt hvl hpos hLn
  obtain ⟨mn, hmn⟩ : ∃ n, m.length = n := ⟨_, rfl⟩
  rw [hmn] at hP hpl hBd hRf hll hfl
  obtain ⟨ni, hni⟩ : ∃ n, ins.length = n := ⟨_, rfl⟩
  rw [hni] at hRf hEv ⊢
  have hno : VL F ins 0 = false := VL_no F ins
  have hye : VL F ins 1 = true := VL_yes F ins (by omega)
  have hfar : isV (evT F ins).1 (2 * N) = false := by unfold isV; rw [if_neg (by omega)]
  have hvn := fun k (h : k < L.length) => VL_nt F ins (L[k]) (by rw [hN]; exact hlt _ (List.getElem_mem h))
  unfold VL at hno hye hvn hrv
  obtain ⟨V, hV⟩ : ∃ V, (evT F ins).1 = V := ⟨_, rfl⟩
  have hVF := Lib.hid hV
  rw [hV] at hEv hvl hno hye hfar hvn hrv
  rw [hF, hL] at hBd
  obtain ⟨o, ho⟩ : ∃ o, (refR m ins).1 = o := ⟨_, rfl⟩
  rw [ho] at hRf hrv
  have hol : o.length = mn := by rw [hrv, List.length_map, hll]
  unfold RV at hAw
  unfold RW at hLn
  replace hAw := Lib.hid hAw
  replace hP := Lib.hid hP
  replace hBd := Lib.hid hBd
  replace hRf := Lib.hid hRf
  replace hEv := Lib.hid hEv
  replace hLn := Lib.hid hLn
  replace hll := Lib.hid hll
  replace hfl := Lib.hid hfl
  replace hlt := Lib.hid hlt
  replace hvl := Lib.hid hvl
  replace hno := Lib.hid hno
  replace hye := Lib.hid hye
  replace hfar := Lib.hid hfar
  replace hvn := Lib.hid hvn
  replace hrv := Lib.hid hrv
  replace hol := Lib.hid hol
  replace hpl := Lib.hid hpl
  clear hA hB hci hn0 hm hmk hok hrr hF hL hwf hN hmn hni hV ho hpos
  go_enter Try.func3, Try.ntmps3
  go_wp2_with fail
  (with_reducible refine hAw.out.mono ?_)
  rintro e w1 ⟨rfl, hb1⟩
  replace hb1 := Lib.hid hb1
  go_wp2_with fail
  (with_reducible refine (hP.out _ hb1.out).mono ?_)
  rintro e w2 ⟨A2, c2, rfl, hA2, hb2⟩
  replace hb2 := Lib.hid (hb1.out.trans (hb2.mono hb1.out.size))
  replace hA2 := Lib.hid hA2
  clear hb1
  go_wp2_with fail
  (with_reducible refine (hBd.out _ _ _ hA2.out).mono ?_)
  rintro e w3 ⟨p, A3, c3, rfl, hg3, hl3, hb3⟩
  have hb3' := hb2.out.trans (hb3.mono hb2.out.size)
  replace hA3 := Lib.hid (hA2.out.over hb3)
  replace hb3 := Lib.hid hb3'
  replace hg3 := Lib.hid hg3
  replace hl3 := Lib.hid hl3
  clear hb2 hA2 hb3'
  go_wp2_with fail
  (with_reducible refine (hRf.out _ _ _ hA3.out hb3.out).mono ?_)
  rintro e w4 ⟨A4, c4, rfl, hr4, hb4⟩
  have hb4' := hb3.out.trans (hb4.mono hb3.out.size)
  replace hg4 := Lib.hid (hg3.out.over hb4)
  replace hl4 := Lib.hid (hl3.out.over hb4)
  replace hb4 := Lib.hid hb4'
  replace hr4 := Lib.hid hr4
  clear hb3 hA3 hg3 hl3 hb4'
  go_wp2_with fail
  (with_reducible refine (hEv.out _ _ _ hg4.out hb4.out).mono ?_)
  rintro e w5 ⟨g5, c5, rfl, hv5, hb5⟩
  have hb5' := hb4.out.trans (hb5.mono hb4.out.size)
  have hg5 := hg4.out.over hb5
  have hl5 := hl4.out.over hb5
  have hr5 := hr4.out.over hb5
  clear hb4 hg4 hl4 hr4 hb5
  have hLq := fun q => hLn.out _ p (w5.drewN q) (hg5.over (bdn w5 q))
  have hvq : ∀ q, BL (w5.drewN q) (some ⟨g5, 0, none⟩) V := fun q => hv5.over (bdn w5 q)
  have hIs : ∀ (x q : Nat), x < 1000000 → Calls Try.prog 13 #[.slice (some ⟨g5, 0, none⟩) N c5, .int .i64 (x : Int)] (w5.drewN q) (fun e w' => e = .returned (.bool (isV V x)) ∧ ∃ q2, w' = w5.drewN q2) := fun x q hx => by
    have h1 := Is_t (some ⟨g5, 0, none⟩) c5 V x (w5.drewN q) (hvq q) (by rw [hvl.out]; have := hfl.out; have := hpl.out; omega) hx
    rw [hvl.out] at h1
    exact h1.mono fun e w' ⟨he, q2, h2⟩ => ⟨he, q + q2, by rw [h2, dnn]⟩
  have hI0 := fun q => hIs 0 q (by decide)
  have hI1 := fun q => hIs 1 q (by decide)
  have hIf := fun q => hIs (2 * N) q (by have := hfl.out; have := hpl.out; omega)
  rw [hno.out] at hI0
  rw [hye.out] at hI1
  rw [hfar.out] at hIf
  have hIn : Calls Try.prog 13 #[.slice (some ⟨g5, 0, none⟩) N c5, .int .i64 (-1)] w5 (fun e w' => e = .returned (.bool false) ∧ ∃ q2, w' = w5.drewN q2) := Is_neg (some ⟨g5, 0, none⟩) N c5 w5
  have hNb : N ≤ 1000 := by have := hfl.out; have := hpl.out; omega
  have e2N : ((2 * N : Nat) : Int) = 2 * (N : Int) := by simp
  rw [e2N] at hIf
  simp only [Int.natCast_zero, Int.natCast_one] at hI0 hI1
  clear e2N
  replace hLq := Lib.hid hLq
  replace hI0 := Lib.hid hI0
  replace hI1 := Lib.hid hI1
  replace hIf := Lib.hid hIf
  replace hIn := Lib.hid hIn
  replace hIs := Lib.hid hIs
  replace hb5 := Lib.hid hb5'
  replace hl5 := Lib.hid hl5
  replace hr5 := Lib.hid hr5
  replace hv5 := Lib.hid hv5
  clear hb5' hvq hg5
  have hL0 := hLq.out 0
  rw [World.drewN_zero] at hL0
  replace hL0 := Lib.hid hL0
  go_wp2_with fail
  (with_reducible refine (hL0.out).mono ?_)
  rintro e w9 ⟨rfl, hw9⟩
  subst hw9
  go_wp2_with fail
  (with_reducible refine hIn.out.mono ?_)
  rintro e w6 ⟨rfl, q1, hw6⟩
  subst hw6
  go_wp2_with fail
  (with_reducible refine (hLq.out q1).mono ?_)
  rintro e w9 ⟨rfl, hw9⟩
  subst hw9
  go_wp2_with fail
  (with_reducible refine (hIf.out q1).mono ?_)
  rintro e w6 ⟨rfl, q2, hw6⟩
  subst hw6
  go_wp2_with fail
  (with_reducible refine (hI0.out q2).mono ?_)
  rintro e w6 ⟨rfl, q3, hw6⟩
  subst hw6
  go_wp2_with fail
  (with_reducible refine (hI1.out q3).mono ?_)
  rintro e w6 ⟨rfl, q4, hw6⟩
  subst hw6
  clear hL0 hIn hIf hI0 hI1 hLq
  rw [hll.out]
  have hLb : mn ≤ 60 := hpl.out
  go_wp2_with fail
  go_loopw [57] (fun iw wr => ∃ k : Nat, k ≤ mn ∧ iw = .int .i64 (k : Int) ∧ ∃ q, wr = w5.drewN q) (fun iw _ => mn - (intOf iw).toNat)
  case atStart => exact ⟨0, Nat.zero_le _, rfl, q4, rfl⟩
  case round =>
    obtain ⟨k, hk, rfl, q, rfl⟩ := hrel
    by_cases hltk : k < mn
    · have hkL : k < L.length := by rw [hll.out]; exact hltk
      obtain ⟨gl, rfl, hgl, hcl⟩ := hl5.out (by omega)
      obtain ⟨gr, rfl, hgr, hcr⟩ := hr5.out (by rw [hol.out]; omega)
      have c0 := hcl k hkL
      have d0 := hcr k (by rw [hol.out]; exact hltk)
      have hLk : L.getD k 0 = L[k] := by rw [List.getD_eq_getElem?_getD, List.getElem?_eq_getElem hkL]; rfl
      rw [hLk] at c0
      have hlk := hlt.out _ (List.getElem_mem hkL)
      have hvk := hvn.out k hkL
      have hok : o.getD k false = isV V L[k] := by
        rw [hrv.out, List.getD_eq_getElem?_getD, List.getElem?_map, List.getElem?_eq_getElem hkL]
        rfl
      rw [hok] at d0
      obtain ⟨x, hx⟩ : ∃ x, L[k] = x := ⟨_, rfl⟩
      rw [hx] at c0 d0 hlk hvk
      have hxb : x < 1000000 := by have := hfl.out; omega
      have hz := nt_lt (a := x)
      have hIx := fun q => hIs.out x q hxb
      have hIz := fun q => hIs.out (nt x) q (by have := hfl.out; omega)
      rw [hvk] at hIz
      have hNx := fun W => Not_t x W hxb
      unfold RW at hNx
      obtain ⟨z, hzz⟩ : ∃ z, nt x = z := ⟨_, rfl⟩
      rw [hzz] at hIz hNx
      obtain ⟨v, hv⟩ : ∃ v, isV V x = v := ⟨_, rfl⟩
      rw [hv] at d0 hIx hIz
      obtain ⟨W, hW⟩ : ∃ W, w5.drewN q = W := ⟨_, rfl⟩
      have cW : W.cell? ⟨gl, k, none⟩ = some (.int .i64 (x : Int)) := by rw [← hW]; exact c0
      have dW : W.cell? ⟨gr, k, none⟩ = some (.bool v) := by rw [← hW]; exact d0
      have lW : gl < W.heap.size := by rw [← hW]; exact hgl
      have rW : gr < W.heap.size := by rw [← hW]; exact hgr
      have hvW : BL W (some ⟨g5, 0, none⟩) V := by rw [← hW]; exact hv5.out.over (bdn w5 q)
      have hxN : N ≤ 1000000 := by have := hfl.out; omega
      have hIx2 := fun n => Is_q (c := c5) hvW hvl.out hxN hxb hv n
      have hIz2 := fun n => Is_q (c := c5) (a := z) (v := !v) hvW hvl.out hxN (by have := hfl.out; omega) (by rw [← hzz, hvk, hv]) n
      have hfb : Below w5.heap.size w5 W := by rw [← hW]; exact bdn w5 q
      rw [hW]
      replace hIx2 := Lib.hid hIx2
      replace hIz2 := Lib.hid hIz2
      replace hNx := Lib.hid hNx
      replace hzz := Lib.hid hzz
      replace hlk := Lib.hid hlk
      replace hvk := Lib.hid hvk
      clear hcl hcr c0 d0 hLk hok hx hIx hIz hz hvW hv hkL hfb
      cases v with
      | false =>
        go_wp2_with fail
        go_quiet ((first | (go_at_call 14; (with_reducible refine (hNx.out _).mono ?_); exact (fun e w1 ⟨he, hw1⟩ => ⟨he, _, hw1.symm⟩)) | (go_at_call 13; first | ((with_reducible refine (hIx2.out _).mono ?_); exact (fun e w1 ⟨he, hw1⟩ => ⟨he, hw1⟩)) | ((with_reducible refine (hIz2.out _).mono ?_); exact (fun e w1 ⟨he, hw1⟩ => ⟨he, hw1⟩)))))
        go_wp2_with fail
        go_roundw
        case rel => exact ⟨k + 1, by omega, by go_num, q + nq, by rw [← hW, dnn]⟩
        case measure => simp [intOf]; omega
      | true =>
        go_wp2_with fail
        go_quiet ((first | (go_at_call 14; (with_reducible refine (hNx.out _).mono ?_); exact (fun e w1 ⟨he, hw1⟩ => ⟨he, _, hw1.symm⟩)) | (go_at_call 13; first | ((with_reducible refine (hIx2.out _).mono ?_); exact (fun e w1 ⟨he, hw1⟩ => ⟨he, hw1⟩)) | ((with_reducible refine (hIz2.out _).mono ?_); exact (fun e w1 ⟨he, hw1⟩ => ⟨he, hw1⟩)))))
        go_wp2_with fail
        go_roundw
        case rel => exact ⟨k + 1, by omega, by go_num, q + nq, by rw [← hW, dnn]⟩
        case measure => simp [intOf]; omega
    · obtain rfl : k = mn := by omega
      have hfin := hb5.out.trans ((bdn w5 q).mono hb5.out.size)
      replace hfin := Lib.hid hfin
      go_wp2_with fail
      go_ret
      exact ⟨rfl, hfin.out⟩
end Go.Proofs.Ytinfkjflomdhbaa
