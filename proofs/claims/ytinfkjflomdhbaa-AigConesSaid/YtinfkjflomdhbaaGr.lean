/-
  Graph.Eval: the value of each node.
-/
import Derived.Test.YtinfkjflomdhbaaGq
namespace Go.Proofs.Ytinfkjflomdhbaa
open Go.RowKit Go.Lib Go.Maps
theorem made_bools (N : Nat) : madeCells (Value.bool false).cells (N * 1) = (bcl (List.replicate N false)).toArray := by
  apply Array.ext'
  unfold madeCells bcl
  simp [Value.cells]
  apply List.ext_getElem
  · simp
  · intro i h1 h2
    simp [Nat.mod_one]
theorem set_app (p : List Bool) (m k : Nat) (v : Bool) (h : p.length = k) : (p ++ List.replicate (m + 1) false).set k v = p ++ [v] ++ List.replicate m false := by
  rw [List.set_append_right _ _ (by omega), show k - p.length = 0 by omega, List.replicate_succ, List.set_cons_zero, List.append_assoc]
  rfl
theorem bcl_set (xs : List Bool) (k : Nat) (v : Bool) : (bcl xs).toArray.setIfInBounds k (.bool v) = (bcl (xs.set k v)).toArray := by
  apply Array.ext'
  unfold bcl
  simp [List.map_set]
theorem bcl_cell {w : World} {g : Nat} {xs : List Bool} {T : TypeId} (h : w.heap[g]? = some (.cells (bcl xs).toArray T (0, 0))) (j : Nat) (hj : j < xs.length) : w.cell? ⟨g, j, none⟩ = some (.bool (xs.getD j false)) := by
  rw [Lib.cell_of_heap h]
  unfold bcl
  simp [hj, List.getD_eq_getElem?_getD]
/-- The nodes' values so far, and false behind them. -/
def vlk (F : List PN) (ins : List Bool) (k : Nat) : List Bool := (evT (F.take k) ins).1 ++ List.replicate (F.length - k) false
theorem vlk_len (F : List PN) (ins : List Bool) (k : Nat) (h1 : 0 < k) (h2 : k ≤ F.length) : (vlk F ins k).length = F.length := by
  unfold vlk
  rw [List.length_append, evT_len _ _ (by rw [List.length_take]; omega), List.length_take, List.length_replicate]
  omega
theorem vlk_set (F : List PN) (ins : List Bool) (k : Nat) (v : Bool) (h1 : 0 < k) (h2 : k < F.length) (hv : (evT (F.take (k + 1)) ins).1 = (evT (F.take k) ins).1 ++ [v]) : (vlk F ins k).set k v = vlk F ins (k + 1) := by
  unfold vlk
  rw [hv, show F.length - k = (F.length - (k + 1)) + 1 by omega]
  exact set_app _ _ _ _ (by rw [evT_len _ _ (by rw [List.length_take]; omega), List.length_take]; omega)
theorem vlk_isV (F : List PN) (ins : List Bool) (k a : Nat) (h1 : 0 < k) (h2 : k ≤ F.length) (ha : a / 2 < k) : isV (vlk F ins k) a = isV (evT (F.take k) ins).1 a := by
  unfold vlk
  rw [isV_append]
  rw [evT_len _ _ (by rw [List.length_take]; omega), List.length_take]
  omega
theorem vlk_end (F : List PN) (ins : List Bool) : vlk F ins F.length = (evT F ins).1 := by
  unfold vlk
  rw [List.take_length, Nat.sub_self]
  simp
set_option maxRecDepth 100000 in
set_option maxHeartbeats 6400000 in
theorem Eval_t {B p : Nat} {F : List PN} (Ai : Option Addr) (ci : Nat) (ins : List Bool) (w : World) (h : GI w B p F) (hB : BL w Ai ins) (hci : ins.length ≤ ci) :
    Calls Try.prog 11 #[pg p, .slice Ai ins.length ci] w fun e w' => ∃ g c, e = .returned (.slice (some ⟨g, 0, none⟩) F.length c) ∧ BL w' (some ⟨g, 0, none⟩) (evT F ins).1 ∧ Below w.heap.size w w' := by
  obtain ⟨i0, hi, hz0, hz1, hz2⟩ := info_parts info_bool
  have hwf := h.wf
  have hpos := hwf.pos
  have hsm := h.sm
  have hL := Len_t w h
  obtain ⟨N, hN⟩ : ∃ n, F.length = n := ⟨_, rfl⟩
  rw [hN] at hL hpos hsm ⊢
  unfold RW at hL
  have hb1 : i0.bytes * N ≤ 281474976710656 := by rw [hz2]; omega
  have hb2 : N ≤ maxLen := by unfold maxLen; omega
  have ht1 : F.take 1 = [(0, 0)] := by
    have := hwf.hd
    cases F with
    | nil => simp at this
    | cons q F => simp at this; simp [this]
  have hF : ∀ k, k < N → ∃ q : PN, F[k]? = some q ∧ F.take (k + 1) = F.take k ++ [q] := fun k hk => ⟨F[k]'(by omega), List.getElem?_eq_getElem (by omega), List.take_succ_eq_append_getElem (by omega)⟩
  replace hL := Lib.hid hL
  replace hN := Lib.hid hN
  replace hF := Lib.hid hF
  replace ht1 := Lib.hid ht1
  replace hb1 := Lib.hid hb1
  replace hb2 := Lib.hid hb2
  replace h := Lib.hid h
  replace hB := Lib.hid hB
  replace hwf := Lib.hid hwf
  go_enter Try.func11, Try.ntmps11
  go_wp2_with fail
  (with_reducible refine hL.out.mono ?_)
  rintro e w9 ⟨rfl, hw9⟩
  subst hw9
  go_wp2_with (first
    | (at_make; refine wpList_make_full _ rfl _ _ 23 rfl w.heap.size 4 i0 (.bool false) 1 Try.underlying23 hi hz0 hz1 .i64 .i64 (N : Int) (N : Int) N rfl rfl rfl rfl hb1.out hb2.out (Nat.le_refl _) ?_; intro w1 ho1 hg1; replace ho1 := Lib.hid ho1; replace hg1 := Lib.hid hg1)
    | fail)
  obtain ⟨g, hg⟩ : ∃ g, w.heap.size = g := ⟨_, rfl⟩
  have hblk : w1.heap[g]? = some (.cells (bcl (vlk F ins 1)).toArray 4 (0, 0)) := by
    have h1 := ho1.out
    obtain ⟨h2, h3⟩ := h1
    rcases h3 with ⟨e, h4⟩ | ⟨g', cap, cur, e, hb, hgg, _, _, hsz, ht⟩
    · omega
    · cases e
      rw [hg] at hgg
      rw [hgg]
      have hcur : cur = (bcl (List.replicate N false)).toArray := by
        rw [← made_bools]
        apply Array.ext'
        rw [← ht, List.take_of_length_le (by simp; omega)]
      have hv1 : vlk F ins 1 = List.replicate N false := by
        unfold vlk
        rw [ht1.out, hN.out, show N = (N - 1) + 1 by omega, List.replicate_succ]
        rfl
      rw [hcur, hv1]
  have hbe1 : Below w.heap.size w w1 := ⟨hg1.out.os, hg1.out.tape, hg1.out.output, hg1.out.size, fun k hk => hg1.out.block k hk (by simp)⟩
  have hg2 : w.heap.size ≤ g := by omega
  have hr1 : ins = (evT (F.take 1) ins).2 := by rw [ht1.out]; rfl
  rw [hg]
  replace hblk := Lib.hid hblk
  replace hbe1 := Lib.hid hbe1
  replace hr1 := Lib.hid hr1
  replace hg := Lib.hid hg
  clear ho1 hg1 hL hb1 hb2
  go_wp2_with fail
  go_loopw [1, 6] (fun sv iw wr => ∃ (k : Nat) (rem : List Bool) (Ar : Option Addr) (cr : Nat), 0 < k ∧ k ≤ N ∧ iw = .int .i64 (k : Int) ∧ sv = .slice Ar rem.length cr ∧ rem.length ≤ cr ∧ rem = (evT (F.take k) ins).2 ∧ BL w Ar rem ∧ wr.heap[g]? = some (.cells (bcl (vlk F ins k)).toArray 4 (0, 0)) ∧ Below w.heap.size w wr) (fun _ iw _ => N - (intOf iw).toNat)
  case atStart => exact ⟨1, ins, Ai, ci, by omega, by omega, rfl, rfl, hci, hr1.out, hB.out, hblk.out, hbe1.out⟩
  case round =>
    obtain ⟨k, rem, Ar, cr, hk0, hk, rfl, rfl, hrc, hrem, hBr, hbk, hbw⟩ := hrel
    clear hblk hbe1 hr1 hci
    have hvl := vlk_len F ins k hk0 (by rw [hN.out]; exact hk)
    rw [hN.out] at hvl
    by_cases hlt : k < N
    · obtain ⟨⟨a, b⟩, hq, htk⟩ := hF.out k hlt
      have hok := hwf.out.ok k _ hq
      have hev := evT_snoc (F.take k) (a, b) ins (by rw [List.length_take, hN.out]; omega)
      rw [← htk] at hev
      have hgi := h.out.over hbw
      have hFan := Fan_t k (a, b) wr hgi hq
      simp only at hFan hok hev
      have gl := lt_of_get hbk
      have gz : wr.frozen? ⟨g, k, none⟩ = false := Lib.frozen_of_heap hbk k
      have gc : wr.cell? ⟨g, k, none⟩ = some (.bool ((vlk F ins k).getD k false)) := bcl_cell hbk k (by rw [hvl]; exact hlt)
      have hset := fun v => heap_set wr g k _ _ (.bool v) hbk
      simp only [bcl_set] at hset
      have hbs : ∀ v, Below w.heap.size w (wr.setCell ⟨g, k, none⟩ (.bool v)) := fun v => Below.setCell (p := ⟨g, k, none⟩) hbw hg2 _
      by_cases ha : a = 0
      · have e1 : stepV (evT (F.take k) ins) (a, b) = ((evT (F.take k) ins).1 ++ [rem.headD false], rem.tail) := by
          unfold stepV; rw [if_pos ha, hrem]
        rw [e1] at hev
        have hv1 := vlk_set F ins k (rem.headD false) hk0 (by rw [hN.out]; exact hlt) (by rw [hev])
        have hr2 : rem.tail = (evT (F.take (k + 1)) ins).2 := by rw [hev]
        have hd : decide (a ≠ 0) = false := by simp [ha]
        rw [hd] at hFan
        replace hFan := Lib.hid hFan
        replace hv1 := Lib.hid hv1
        replace hr2 := Lib.hid hr2
        replace hset := Lib.hid hset
        replace hbs := Lib.hid hbs
        replace hbk := Lib.hid hbk
        replace hvl := Lib.hid hvl
        replace hbw := Lib.hid hbw
        clear hev e1 htk hok hgi ha hd hq
        cases rem with
        | nil =>
          have hrl : ([] : List Bool).length = 0 := rfl
          replace hrem := Lib.hid hrem
          replace hBr := Lib.hid hBr
          clear gc gz
          go_wp2_with fail
          (with_reducible refine hFan.out.mono ?_)
          rintro e w2 ⟨rfl, q, hw2⟩
          subst hw2
          go_wp2_with fail
          go_roundw
          case rel =>
            refine ⟨k + 1, [], Ar, cr, by omega, by omega, by go_num, rfl, by simp, hr2.out, fun h0 => by simp at h0, ?_, hbw.out.trans ((bdn wr q).mono hbw.out.size)⟩
            rw [← hv1.out]
            have e3 : (vlk F ins k).set k (([] : List Bool).headD false) = vlk F ins k := by
              unfold vlk
              have e4 : (evT (F.take k) ins).1.length = k := by rw [evT_len _ _ (by rw [List.length_take, hN.out]; omega), List.length_take, hN.out]; omega
              rw [show F.length - k = (F.length - (k + 1)) + 1 by rw [hN.out]; omega, set_app _ _ _ _ e4, List.replicate_succ, List.append_assoc]
              rfl
            rw [e3]
            exact hbk.out
          case measure => simp [intOf]; omega
        | cons x rem =>
          obtain ⟨bi, oi, rfl, hbi, hci⟩ := hBr (by simp)
          have c0 := (hbw.out.cell (p := ⟨bi, oi + 0, none⟩) hbi).trans (hci 0 (by simp))
          simp only [List.getD_cons_zero, Nat.add_zero] at c0
          have hBt : BL w (some ⟨bi, oi + 1, none⟩) rem := fun h0 => ⟨bi, oi + 1, rfl, hbi, fun j hj => by
            have := hci (j + 1) (by simp; omega)
            rw [List.getD_cons_succ] at this
            rw [Nat.add_assoc, Nat.add_comm 1 j]
            exact this⟩
          obtain ⟨nr, hnr⟩ : ∃ n, rem.length = n := ⟨_, rfl⟩
          have hnl : (x :: rem).length = nr + 1 := by rw [List.length_cons, hnr]
          rw [hnl] at hrc ⊢
          have r1 : 1 ≤ nr + 1 := by omega
          have r2 : 1 ≤ cr := by omega
          replace hrem := Lib.hid hrem
          replace hBr := Lib.hid hBr
          replace hBt := Lib.hid hBt
          replace hnr := Lib.hid hnr
          replace hnl := Lib.hid hnl
          clear hci
          go_wp2_with fail
          (with_reducible refine hFan.out.mono ?_)
          rintro e w2 ⟨rfl, q, hw2⟩
          subst hw2
          go_wp2_with fail
          go_region
          have hBL : BL w (if cr = 1 then some ⟨bi, oi, none⟩ else some ⟨bi, oi + 1, none⟩) rem := fun h0 => by
            rw [if_neg (by have := hnr.out; omega)]
            exact hBt.out h0
          have hss : ((wr.drewN (q + 1)).setCell ⟨g, k, none⟩ (.bool x)).heap[g]? = some (.cells (bcl (vlk F ins (k + 1))).toArray 4 (0, 0)) := by
            rw [← hv1.out, ← bcl_set]
            exact heap_set (wr.drewN (q + 1)) g k _ _ (.bool x) hbk.out
          have hsb : Below w.heap.size w ((wr.drewN (q + 1)).setCell ⟨g, k, none⟩ (.bool x)) := Below.setCell (p := ⟨g, k, none⟩) (hbw.out.trans ((bdn wr (q + 1)).mono hbw.out.size)) hg2 _
          replace hBL := Lib.hid hBL
          replace hss := Lib.hid hss
          replace hsb := Lib.hid hsb
          clear c0 gc gz hBt hBr hbk hbw hset hbs
          obtain ⟨AA, hAA⟩ : ∃ AA, (if cr = 1 then some (⟨bi, oi, none⟩ : Addr) else some ⟨bi, oi + 1, none⟩) = AA := ⟨_, rfl⟩
          rw [hAA] at hBL ⊢
          clear hAA
          go_wp2_with fail
          go_roundw
          case rel => exact ⟨k + 1, rem, AA, cr - 1, by omega, by omega, by go_num, by rw [hnr.out], by rw [hnr.out]; omega, hr2.out, hBL.out, hss.out, hsb.out⟩
          case measure => simp [intOf]; omega
      · have hab : 2 ≤ a ∧ a < b ∧ b / 2 < k := by
          rcases hok with e | e
          · exact absurd (Prod.mk.inj e).1 ha
          · exact ⟨e.1, e.2.1, e.2.2.1⟩
        have e1 : stepV (evT (F.take k) ins) (a, b) = ((evT (F.take k) ins).1 ++ [isV (vlk F ins k) a && isV (vlk F ins k) b], rem) := by
          unfold stepV; rw [if_neg ha, hrem, vlk_isV F ins k a hk0 (by rw [hN.out]; exact hk) (by omega), vlk_isV F ins k b hk0 (by rw [hN.out]; exact hk) (by omega)]
        rw [e1] at hev
        have hv1 := vlk_set F ins k (isV (vlk F ins k) a && isV (vlk F ins k) b) hk0 (by rw [hN.out]; exact hlt) (by rw [hev])
        have hr2 : rem = (evT (F.take (k + 1)) ins).2 := by rw [hev]
        have hd : decide (a ≠ 0) = true := by simp [ha]
        rw [hd] at hFan
        have hIs : ∀ (W : World) (x c : Nat), Below wr.heap.size wr W → x < 1000000 → Calls Try.prog 13 #[.slice (some ⟨g, 0, none⟩) N c, .int .i64 (x : Int)] W (dnq W (.bool (isV (vlk F ins k) x))) := fun W x c hW hx => by
          have h1 := Is_t (some ⟨g, 0, none⟩) c (vlk F ins k) x W (fun _ => ⟨g, 0, rfl, Nat.lt_of_lt_of_le gl hW.size, fun j hj => by
            rw [Nat.zero_add]
            exact (hW.cell (p := ⟨g, j, none⟩) gl).trans (bcl_cell hbk j hj)⟩) (by rw [hvl]; omega) hx
          rw [hvl] at h1
          exact h1
        have hIa := fun q => hIs (wr.drewN q) a N (bdn wr q) (by omega)
        have hIb := fun q => hIs (wr.drewN q) b N (bdn wr q) (by omega)
        obtain ⟨va, hva⟩ : ∃ va, isV (vlk F ins k) a = va := ⟨_, rfl⟩
        obtain ⟨vb, hvb⟩ : ∃ vb, isV (vlk F ins k) b = vb := ⟨_, rfl⟩
        rw [hva] at hIa hv1
        rw [hvb] at hIb hv1
        unfold dnq at hIa hIb
        obtain ⟨nr, hnr⟩ : ∃ n, rem.length = n := ⟨_, rfl⟩
        rw [hnr] at hrc ⊢
        replace hFan := Lib.hid hFan
        replace hv1 := Lib.hid hv1
        replace hr2 := Lib.hid hr2
        replace hbk := Lib.hid hbk
        replace hvl := Lib.hid hvl
        replace hbw := Lib.hid hbw
        replace hIa := Lib.hid hIa
        replace hIb := Lib.hid hIb
        replace hBr := Lib.hid hBr
        replace hnr := Lib.hid hnr
        replace hrem := Lib.hid hrem
        clear hev e1 htk hok hgi ha hd hq hIs hva hvb hset hbs hab
        have hss : ∀ Q, ((wr.drewN Q).setCell ⟨g, k, none⟩ (.bool (va && vb))).heap[g]? = some (.cells (bcl (vlk F ins (k + 1))).toArray 4 (0, 0)) := fun Q => by
          rw [← hv1.out, ← bcl_set]
          exact heap_set (wr.drewN Q) g k _ _ (.bool (va && vb)) hbk.out
        have hsb : ∀ Q, Below w.heap.size w ((wr.drewN Q).setCell ⟨g, k, none⟩ (.bool (va && vb))) := fun Q => Below.setCell (p := ⟨g, k, none⟩) (hbw.out.trans ((bdn wr Q).mono hbw.out.size)) hg2 _
        replace hss := Lib.hid hss
        replace hsb := Lib.hid hsb
        cases va with
        | false =>
          go_wp2_with fail
          (with_reducible refine hFan.out.mono ?_)
          rintro e w2 ⟨rfl, q, hw2⟩
          subst hw2
          go_wp2_with fail
          (with_reducible refine (hIa.out _).mono ?_)
          rintro e w2 ⟨rfl, q2, hw2⟩
          subst hw2
          go_wp2_with fail
          go_roundw
          case rel => exact ⟨k + 1, rem, Ar, cr, by omega, by omega, by go_num, by rw [hnr.out], by rw [hnr.out]; omega, hr2.out, hBr.out, hss.out _, hsb.out _⟩
          case measure => simp [intOf]; omega
        | true =>
          go_wp2_with fail
          (with_reducible refine hFan.out.mono ?_)
          rintro e w2 ⟨rfl, q, hw2⟩
          subst hw2
          go_wp2_with fail
          (with_reducible refine (hIa.out _).mono ?_)
          rintro e w2 ⟨rfl, q2, hw2⟩
          subst hw2
          go_wp2_with fail
          (with_reducible refine (hIb.out _).mono ?_)
          rintro e w2 ⟨rfl, q3, hw2⟩
          subst hw2
          go_wp2_with fail
          go_roundw
          case rel => exact ⟨k + 1, rem, Ar, cr, by omega, by omega, by go_num, by rw [hnr.out], by rw [hnr.out]; omega, hr2.out, hBr.out, hss.out _, hsb.out _⟩
          case measure => simp [intOf]; omega
    · obtain rfl : k = N := by omega
      have hve := vlk_end F ins
      rw [hN.out] at hve
      rw [hve] at hbk hvl
      have hBf : ∀ W, Below wr.heap.size wr W → BL W (some ⟨g, 0, none⟩) (evT F ins).1 := fun W hW _ => ⟨g, 0, rfl, Nat.lt_of_lt_of_le (lt_of_get hbk) hW.size, fun j hj => by
        rw [Nat.zero_add]
        exact (hW.cell (p := ⟨g, j, none⟩) (lt_of_get hbk)).trans (bcl_cell hbk j hj)⟩
      replace hBf := Lib.hid hBf
      replace hbw := Lib.hid hbw
      clear hbk hve hvl hBr hrem
      obtain ⟨nr, hnr⟩ : ∃ n, rem.length = n := ⟨_, rfl⟩
      rw [hnr]
      clear hnr hrc
      go_wp2_with fail
      go_ret
      exact ⟨g, k, rfl, hBf.out _ (Below.refl _ _), hbw.out⟩
end Go.Proofs.Ytinfkjflomdhbaa
