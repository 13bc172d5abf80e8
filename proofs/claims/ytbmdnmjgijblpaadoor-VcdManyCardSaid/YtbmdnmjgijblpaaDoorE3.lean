/-
  vcd's reader: next.
-/
import Derived.Test.YtbmdnmjgijblpaaDoorE1
namespace Go.Proofs.YtbmdnmjgijblpaaDoor
open Go Go.RowKit Go.Lib
/-- From i on the text is bl (blanks), wd (a word), rest. -/
structure NW (T : List UInt8) (i : Nat) (bl wd rest : List UInt8) : Prop where
  e : T.drop i = bl ++ (wd ++ rest)
  hb : ∀ c, c ∈ bl → vblk c.toNat = true
  hw : ∀ c, c ∈ wd → vblk c.toNat = false
  hr : ∀ c, rest.head? = some c → vblk c.toNat = true
  h0 : wd = [] → rest = []
section
variable {T : List UInt8} {i : Nat} {bl wd rest : List UInt8}
theorem NW.at1 (h : NW T i bl wd rest) {j : Nat} (hj : j < bl.length) : ∃ c, T[i + j]? = some c ∧ vblk c.toNat = true := by
  refine ⟨bl[j], ?_, h.hb _ (List.getElem_mem hj)⟩
  rw [← List.getElem?_drop, h.e, List.getElem?_append_left hj, List.getElem?_eq_getElem hj]
theorem NW.at2 (h : NW T i bl wd rest) {j : Nat} (hj : j < wd.length) : ∃ c, T[i + bl.length + j]? = some c ∧ vblk c.toNat = false := by
  refine ⟨wd[j], ?_, h.hw _ (List.getElem_mem hj)⟩
  rw [Nat.add_assoc, ← List.getElem?_drop, h.e, List.getElem?_append_right (by omega), Nat.add_sub_cancel_left, List.getElem?_append_left hj, List.getElem?_eq_getElem hj]
theorem NW.at3 (h : NW T i bl wd rest) (hr : rest ≠ []) : ∃ c, T[i + bl.length + wd.length]? = some c ∧ vblk c.toNat = true := by
  cases rest with
  | nil => exact absurd rfl hr
  | cons c r =>
    refine ⟨c, ?_, h.hr c rfl⟩
    rw [Nat.add_assoc, ← List.getElem?_drop, h.e, List.getElem?_append_right (by omega), Nat.add_sub_cancel_left, List.getElem?_append_right (Nat.le_refl _), Nat.sub_self]
    rfl
theorem NW.len (h : NW T i bl wd rest) (hi : i ≤ T.length) : i + bl.length + wd.length + rest.length = T.length := by
  have := congrArg List.length h.e
  simp only [List.length_drop, List.length_append] at this
  omega
theorem NW.cut (h : NW T i bl wd rest) : (bt T).extract (i + bl.length) (i + bl.length + wd.length) = bt wd := by
  apply ByteArray.ext
  rw [ByteArray.data_extract]
  apply Array.toList_inj.1
  simp only [Array.toList_extract, List.extract_eq_take_drop]
  rw [← List.drop_drop, h.e, List.drop_append_of_le_length (Nat.le_refl _), List.drop_length, List.nil_append, show i + bl.length + wd.length - (i + bl.length) = wd.length by omega, List.take_append_of_le_length (Nat.le_refl _), List.take_length]
end
/-- The reader at each place and line. -/
structure MK (T : List UInt8) (mk : Nat → Nat → VR) : Prop where
  t : ∀ j ln, (mk j ln).T = T
  i : ∀ j ln, (mk j ln).i = j
  l : ∀ j ln, (mk j ln).ln = ln
  u : ∀ j ln j' ln', { mk j ln with i := j', ln := ln' } = mk j' ln'
theorem MK.pass {T : List UInt8} {mk : Nat → Nat → VR} (m : MK T mk) (hT : T.length ≤ 1048576) (W : World) (q j ln : Nat) (hx : VX W q (mk j ln)) (hj : j < T.length) (hln : ln ≤ j + 1) : Calls Tryd.prog 67 #[pp q] W fun e w' => e = .returned (.tuple #[]) ∧ ∃ ln, VX w' q (mk (j + 1) ln) ∧ ln ≤ j + 2 ∧ KV q W w' := by
  have := pass_t W q (mk j ln) hx (by rw [m.i, m.t]; exact hj) (by rw [m.t]; exact hT) (by rw [m.l, m.i]; exact hln)
  simp only [m.i, m.u] at this
  exact this
theorem MK.cells {T : List UInt8} {mk : Nat → Nat → VR} (m : MK T mk) {W : World} {q j ln : Nat} (hx : VX W q (mk j ln)) : W.cell? ⟨q, 0, none⟩ = some (.string (bt T)) ∧ W.cell? ⟨q, 1, none⟩ = some (iz (j : Int)) ∧ W.cell? ⟨q, 2, none⟩ = some (iz (ln : Int)) ∧ q < W.heap.size := by
  have a := hx.c 0
  have b := hx.c 1
  have c := hx.c 2
  simp only [vrc, m.t, m.i, m.l] at a b c
  exact ⟨a, b, c, hx.lt⟩
/-- What next leaves: the word wd, the reader behind it. -/
def NP (w : World) (q : Nat) (mk : Nat → Nat → VR) (wd : List UInt8) (P : Nat) (e : Ending) (w' : World) : Prop := ∃ ln : Nat, e = .returned (.agg #[.string (bt wd), iz (ln : Int)]) ∧ VX w' q (mk P ln) ∧ ln ≤ P + 1 ∧ KV q w w'
set_option maxRecDepth 100000 in
set_option maxHeartbeats 3200000 in
theorem next_m (w : World) (q : Nat) (T : List UInt8) (mk : Nat → Nat → VR) (m : MK T mk) (i0 l0 : Nat) (h : VX w q (mk i0 l0)) (hT : T.length ≤ 1048576) (hi : i0 ≤ T.length) (hl : l0 ≤ i0 + 1) {bl wd rest : List UInt8} (hN : NW T i0 bl wd rest) :
    Calls Tryd.prog 52 #[pp q] w (NP w q mk wd (i0 + bl.length + wd.length)) := by
  have hlen := hN.len hi
  have hba := (Below.refl w.heap.size w).alloc (Nat.le_refl _) (.cells #[.string (bt []), iz 0] 76)
  obtain ⟨w1, hw1⟩ : ∃ W, w.alloc (.cells #[.string (bt []), iz 0] 76) = W := ⟨_, rfl⟩
  have hv1 : CV w1 w.heap.size #[.string (bt []), iz 0] 76 := by rw [← hw1]; unfold CV; exact Array.getElem?_push_size ..
  have hst : VX w1 q (mk i0 l0) := by rw [← hw1]; exact h.over hba
  rw [hw1] at hba
  have hqw : q ≠ w.heap.size := Nat.ne_of_lt h.lt
  obtain ⟨S, hS⟩ : ∃ S, bt T = S := ⟨_, rfl⟩
  have hsz : S.size = T.length := by rw [← hS]; rfl
  have hQ : ∀ (k : Nat) (c : UInt8) (b : Bool), T[k]? = some c → vblk c.toNat = b → ∃ hk : k < S.size, ∀ W, Calls Tryd.prog 66 #[.int .u8 (((S[k]'hk).toNat : Nat) : Int)] W fun e w' => e = .returned (.bool b) ∧ w' = W := by
    intro k c b hc hb
    have hk : k < T.length := by
      rcases Nat.lt_or_ge k T.length with f | f
      · exact f
      · rw [List.getElem?_eq_none f] at hc; cases hc
    subst hS
    refine ⟨hk, fun W => ?_⟩
    rw [byte_at T k hk c hc]
    refine (vblk_t c.toNat c.toNat_lt W).mono ?_
    rintro e w' ⟨rfl, hw⟩
    exact ⟨by rw [hb], hw.symm⟩
  have hpass := fun W j ln hx hj hln => m.pass hT W q j ln hx hj hln
  have hcut := hN.cut
  have hc0 := fun W j ln (hx : VX W q (mk j ln)) => m.cells hx
  simp only [hS] at hcut hc0
  have e1 : ∀ j, j < bl.length → ∃ c, T[i0 + j]? = some c ∧ vblk c.toNat = true := fun j hj => hN.at1 hj
  have e2 : ∀ j, j < wd.length → ∃ c, T[i0 + bl.length + j]? = some c ∧ vblk c.toNat = false := fun j hj => hN.at2 hj
  have e3 : rest ≠ [] → ∃ c, T[i0 + bl.length + wd.length]? = some c ∧ vblk c.toNat = true := hN.at3
  have e4 : rest = [] → i0 + bl.length + wd.length = S.size := fun e => by rw [e] at hlen; simpa [hsz] using hlen
  have e5 := hN.h0
  have hSS : S.size ≤ 1048576 := by omega
  have hlw : i0 + bl.length + wd.length ≤ S.size := by omega
  obtain ⟨nb, hnb⟩ : ∃ i, bl.length = i := ⟨_, rfl⟩
  obtain ⟨nw, hnw⟩ : ∃ i, wd.length = i := ⟨_, rfl⟩
  simp only [hnb, hnw] at e1 e2 e3 e4 hcut hlw ⊢
  obtain ⟨p, hP⟩ : ∃ p, i0 + nb + nw = p := ⟨_, rfl⟩
  rw [hP] at hcut hlw ⊢
  simp only [hP] at e3 e4
  replace hP := Lib.hid hP
  have hwd : nw = 0 ↔ wd = [] := by rw [← hnw]; exact List.length_eq_zero_iff
  simp only [← hsz] at hpass
  replace hpass := Lib.hid hpass
  replace hQ := Lib.hid hQ
  replace e1 := Lib.hid e1
  replace e2 := Lib.hid e2
  replace e3 := Lib.hid e3
  replace e4 := Lib.hid e4
  replace e5 := Lib.hid e5
  replace hwd := Lib.hid hwd
  replace hcut := Lib.hid hcut
  replace hc0 := Lib.hid hc0
  replace hst := Lib.hid hst
  replace hba := Lib.hid hba
  replace hv1 := Lib.hid hv1
  replace hqw := Lib.hid hqw
  replace hw1 := Lib.hid hw1
  have hlt := Lib.hid h.lt
  clear hN hS hsz hi h hlen hnb hnw hT m
  go_enter Tryd.func52, Tryd.ntmps52
  go_wp2_with fail
  rw [show w.alloc (.cells #[.string { data := #[] }, .int .i64 0] 76) = w1 from hw1.out]
  go_loopg [] nb (fun g wr => ∃ ln, g ≤ nb ∧ Hid (VX wr q (mk (i0 + (nb - g)) ln)) ∧ ln ≤ i0 + (nb - g) + 1 ∧ Hid (KV q w1 wr))
  case atStart => exact ⟨l0, Nat.le_refl _, by rw [Nat.sub_self]; exact hst, by omega, Lib.hid (KV.refl _ _)⟩
  case round =>
    obtain ⟨ln, hg, hx, hln, hk⟩ := hrel
    obtain ⟨j, hj⟩ : ∃ j, nb - gk = j := ⟨_, rfl⟩
    rw [hj] at hx hln
    obtain ⟨ij, hij⟩ : ∃ ij, i0 + j = ij := ⟨_, rfl⟩
    rw [hij] at hx hln
    obtain ⟨c0, c1, c2, ql⟩ := hc0.out _ _ _ hx.out
    by_cases hg0 : gk = 0
    · subst hg0
      obtain rfl : j = nb := by omega
      have hp : ij + nw = p := by have := hP.out; omega
      have hip : ij ≤ p := by omega
      have e2' : ∀ k, k < nw → ∃ c, T[ij + k]? = some c ∧ vblk c.toNat = false := fun k hk => by have := e2.out k hk; rw [hij] at this; exact this
      replace hcut := Lib.hid (show S.extract ij p = bt wd from by have := hcut.out; rw [hij] at this; exact this)
      replace hij := Lib.hid hij
      replace hp := Lib.hid hp
      replace e2' := Lib.hid e2'
      replace hj := Lib.hid hj
      have hqw' := hqw.out
      have hend : ∀ W, Hid (KV q w1 W) → W.cell? ⟨w.heap.size, 0, none⟩ = some (.string (bt [])) ∧ W.cell? ⟨w.heap.size, 1, none⟩ = some (iz 0) ∧ w.heap.size < W.heap.size ∧ W.frozen? ⟨w.heap.size, 0, none⟩ = false ∧ W.frozen? ⟨w.heap.size, 1, none⟩ = false := fun W hW => by
        have := hW.out.keep hv1.out hqw'.symm
        exact ⟨this.c 0, this.c 1, this.lt, this.fz 0, this.fz 1⟩
      have hfin : ∀ W ln, Hid (KV q w1 W) → VX W q (mk p ln) → ln ≤ p + 1 → NP w q mk wd p (.returned (.agg #[.string (bt wd), iz (ln : Int)])) ((W.setCell ⟨w.heap.size, 0, none⟩ (.string (bt wd))).setCell ⟨w.heap.size, 1, none⟩ (iz (ln : Int))) := by
        intro W ln hW hx hl
        have hk1 : KV q w W := (KV.below hba.out).trans hW.out
        exact ⟨ln, rfl, (hx.far _ _ hqw').far _ _ hqw', hl, ⟨hk1.os, hk1.tape, hk1.output, by simpa using hk1.size, fun k hk hkw => (Below.heap_setCell _ _ _ k (by show k ≠ w.heap.size; omega)).trans ((Below.heap_setCell _ _ _ k (by show k ≠ w.heap.size; omega)).trans (hk1.blk k hk hkw))⟩⟩
      replace hend := Lib.hid hend
      replace hfin := Lib.hid hfin
      replace hx := Lib.hid (fun n => hx.out.over (vbdn wr n))
      replace hk := Lib.hid (fun n => Lib.hid (hk.out.trans (KV.below (vbdn wr n))))
      clear hst e1 e2 hqw' hqw hba hv1 c2
      by_cases hw0 : nw = 0
      · have hpS : ij = S.size := by have h1 := e4.out (e5.out (hwd.out.1 hw0)); have h2 := hp.out; omega
        have t1 : decide (ij < S.size) = false := by simp; omega
        replace hpS := Lib.hid hpS
        replace hw0 := Lib.hid hw0
        go_wp2_with fail
        go_quiet (fail)
        clear t1
        go_wp2_with fail
        go_loopg [] nw (fun g wr2 => ∃ ln, g ≤ nw ∧ Hid (VX wr2 q (mk (ij + (nw - g)) ln)) ∧ ln ≤ ij + (nw - g) + 1 ∧ Hid (KV q w1 wr2))
        case atStart => exact ⟨ln, Nat.le_refl _, by rw [Nat.sub_self]; exact Lib.hid (hx.out _), by omega, hk.out _⟩
        case round =>
          obtain ⟨ln2, hg2, hx2, hln2, hk2⟩ := hrel
          obtain ⟨j2, hj2⟩ : ∃ j2, nw - gk = j2 := ⟨_, rfl⟩
          rw [hj2] at hx2 hln2
          obtain ⟨ip, hip2⟩ : ∃ ip, ij + j2 = ip := ⟨_, rfl⟩
          rw [hip2] at hx2 hln2
          obtain ⟨c0, c1, c2, ql⟩ := hc0.out _ _ _ hx2.out
          clear hx hk
          by_cases hg0 : gk = 0
          · subst hg0
            obtain rfl : ip = p := by have := hp.out; omega
            obtain ⟨v0, v1, vl, vf0, vf1⟩ := hend.out wr hk2
            have hdone := Lib.hid (fun n => hfin.out (wr.drewN n) ln2 (Lib.hid (hk2.out.trans (KV.below (vbdn wr n)))) (hx2.out.over (vbdn wr n)) hln2)
            have hkk : q ≠ w.heap.size := Nat.ne_of_lt hlt.out
            have hkq : ∀ {W : World} {i j : Nat} {u x : Value}, W.cell? ⟨q, i, none⟩ = some x → (W.setCell ⟨w.heap.size, j, none⟩ u).cell? ⟨q, i, none⟩ = some x := fun h => (World.cell?_setCell_other _ _ _ _ (fun e => hkk (congrArg Addr.block e).symm)).trans h
            replace hkk := Lib.hid hkk
            have hcut2 := hcut.out
            clear hip2 hj2 hend hfin hx2 hk2 e2' hln2
            by_cases hre : rest = []
            · have hpS := e4.out hre
              have t1 : decide (ip < S.size) = false := by simp; omega
              replace hpS := Lib.hid hpS
              replace hre := Lib.hid hre
              go_wp2_with fail
              go_quiet (fail)
              clear t1
              go_wp2_with fail
              go_region_held3 (fun w' => w'.cell? ⟨q, 0, none⟩ = some (.string S) ∧ w'.cell? ⟨q, 1, none⟩ = some (iz (ip : Int)) ∧ w'.cell? ⟨q, 2, none⟩ = some (iz (ln2 : Int))) (first | exact ⟨c0, c1, c2⟩ | exact ⟨hkq c0, hkq c1, hkq c2⟩ | exact ⟨hkq (hkq c0), hkq (hkq c1), hkq (hkq c2)⟩) (fail)
              all_goals (
                go_wp2_with fail
                exact bodyPost_ret (v := .agg #[.string (bt wd), iz (ln2 : Int)]) (by simp [results, Tryd.results52, go_sem, v0, v1]) rfl (hdone.out _))
            · obtain ⟨c, hc, hv⟩ := e3.out hre
              obtain ⟨hk3, hq⟩ := hQ.out ip c true hc hv
              have t1 : decide ((ip : Int) < (S.size : Int)) = true := by simp; omega
              replace hq := Lib.hid hq
              replace hre := Lib.hid hre
              replace hc := Lib.hid hc
              replace hv := Lib.hid hv
              go_wp2_with fail
              go_quiet ((go_at_call 66; exact Calls.quiet_of_same (hq.out _)))
              clear t1 hq
              go_wp2_with fail
              go_region_held3 (fun w' => w'.cell? ⟨q, 0, none⟩ = some (.string S) ∧ w'.cell? ⟨q, 1, none⟩ = some (iz (ip : Int)) ∧ w'.cell? ⟨q, 2, none⟩ = some (iz (ln2 : Int))) (first | exact ⟨c0, c1, c2⟩ | exact ⟨hkq c0, hkq c1, hkq c2⟩ | exact ⟨hkq (hkq c0), hkq (hkq c1), hkq (hkq c2)⟩) (fail)
              all_goals (
                go_wp2_with fail
                exact bodyPost_ret (v := .agg #[.string (bt wd), iz (ln2 : Int)]) (by simp [results, Tryd.results52, go_sem, v0, v1]) rfl (hdone.out _))
          · obtain ⟨g, rfl⟩ : ∃ g, gk = g + 1 := ⟨gk - 1, by omega⟩
            obtain ⟨c, hc, hv⟩ := e2'.out j2 (by omega)
            rw [hip2] at hc
            obtain ⟨hk3, hq⟩ := hQ.out ip c false hc hv
            have t1 : decide ((ip : Int) < (S.size : Int)) = true := by simp; omega
            have hj3 : ij + (nw - g) = ip + 1 := by omega
            have hps := fun n => hpass.out (wr.drewN n) ip ln2 (hx2.out.over (vbdn _ n)) hk3 hln2
            replace hq := Lib.hid hq
            replace hps := Lib.hid hps
            replace hj3 := Lib.hid hj3
            replace hc := Lib.hid hc
            replace hv := Lib.hid hv
            clear hip2 hj2 hx2 c2 hend hfin
            go_wp2_with fail
            go_quiet ((go_at_call 66; exact Calls.quiet_of_same (hq.out _)))
            go_wp2_with fail
            (with_reducible refine (hps.out _).mono ?_)
            rintro e w2 ⟨rfl, ln3, hx3, hln3, hk4⟩
            have hk5 := Lib.hid (hk2.out.trans ((KV.below (vbdn wr _)).trans hk4))
            replace hx3 := Lib.hid hx3
            clear hps hk4
            go_wp2_with fail
            go_roundg g
            case measure => omega
            case rel => exact ⟨ln3, by omega, by rw [hj3.out]; exact hx3, by have := hj3.out; omega, hk5⟩
      · obtain ⟨c, hc, hv⟩ := e2'.out 0 (by omega)
        rw [Nat.add_zero] at hc
        obtain ⟨hk2, hq⟩ := hQ.out ij c false hc hv
        have t1 : decide ((ij : Int) < (S.size : Int)) = true := by simp; omega
        replace hq := Lib.hid hq
        replace hc := Lib.hid hc
        replace hv := Lib.hid hv
        replace hw0 := Lib.hid hw0
        go_wp2_with fail
        go_quiet ((go_at_call 66; exact Calls.quiet_of_same (hq.out _)))
        clear t1 hq
        go_wp2_with fail
        go_loopg [] nw (fun g wr2 => ∃ ln, g ≤ nw ∧ Hid (VX wr2 q (mk (ij + (nw - g)) ln)) ∧ ln ≤ ij + (nw - g) + 1 ∧ Hid (KV q w1 wr2))
        case atStart => exact ⟨ln, Nat.le_refl _, by rw [Nat.sub_self]; exact Lib.hid (hx.out _), by omega, hk.out _⟩
        case round =>
          obtain ⟨ln2, hg2, hx2, hln2, hk2⟩ := hrel
          obtain ⟨j2, hj2⟩ : ∃ j2, nw - gk = j2 := ⟨_, rfl⟩
          rw [hj2] at hx2 hln2
          obtain ⟨ip, hip2⟩ : ∃ ip, ij + j2 = ip := ⟨_, rfl⟩
          rw [hip2] at hx2 hln2
          obtain ⟨c0, c1, c2, ql⟩ := hc0.out _ _ _ hx2.out
          clear hx hk
          by_cases hg0 : gk = 0
          · subst hg0
            obtain rfl : ip = p := by have := hp.out; omega
            obtain ⟨v0, v1, vl, vf0, vf1⟩ := hend.out wr hk2
            have hdone := Lib.hid (fun n => hfin.out (wr.drewN n) ln2 (Lib.hid (hk2.out.trans (KV.below (vbdn wr n)))) (hx2.out.over (vbdn wr n)) hln2)
            have hkk : q ≠ w.heap.size := Nat.ne_of_lt hlt.out
            have hkq : ∀ {W : World} {i j : Nat} {u x : Value}, W.cell? ⟨q, i, none⟩ = some x → (W.setCell ⟨w.heap.size, j, none⟩ u).cell? ⟨q, i, none⟩ = some x := fun h => (World.cell?_setCell_other _ _ _ _ (fun e => hkk (congrArg Addr.block e).symm)).trans h
            replace hkk := Lib.hid hkk
            have hcut2 := hcut.out
            clear hip2 hj2 hend hfin hx2 hk2 e2' hln2
            by_cases hre : rest = []
            · have hpS := e4.out hre
              have t1 : decide (ip < S.size) = false := by simp; omega
              replace hpS := Lib.hid hpS
              replace hre := Lib.hid hre
              go_wp2_with fail
              go_quiet (fail)
              clear t1
              go_wp2_with fail
              go_region_held3 (fun w' => w'.cell? ⟨q, 0, none⟩ = some (.string S) ∧ w'.cell? ⟨q, 1, none⟩ = some (iz (ip : Int)) ∧ w'.cell? ⟨q, 2, none⟩ = some (iz (ln2 : Int))) (first | exact ⟨c0, c1, c2⟩ | exact ⟨hkq c0, hkq c1, hkq c2⟩ | exact ⟨hkq (hkq c0), hkq (hkq c1), hkq (hkq c2)⟩) (fail)
              all_goals (
                go_wp2_with fail
                exact bodyPost_ret (v := .agg #[.string (bt wd), iz (ln2 : Int)]) (by simp [results, Tryd.results52, go_sem, v0, v1]) rfl (hdone.out _))
            · obtain ⟨c, hc, hv⟩ := e3.out hre
              obtain ⟨hk3, hq⟩ := hQ.out ip c true hc hv
              have t1 : decide ((ip : Int) < (S.size : Int)) = true := by simp; omega
              replace hq := Lib.hid hq
              replace hre := Lib.hid hre
              replace hc := Lib.hid hc
              replace hv := Lib.hid hv
              go_wp2_with fail
              go_quiet ((go_at_call 66; exact Calls.quiet_of_same (hq.out _)))
              clear t1 hq
              go_wp2_with fail
              go_region_held3 (fun w' => w'.cell? ⟨q, 0, none⟩ = some (.string S) ∧ w'.cell? ⟨q, 1, none⟩ = some (iz (ip : Int)) ∧ w'.cell? ⟨q, 2, none⟩ = some (iz (ln2 : Int))) (first | exact ⟨c0, c1, c2⟩ | exact ⟨hkq c0, hkq c1, hkq c2⟩ | exact ⟨hkq (hkq c0), hkq (hkq c1), hkq (hkq c2)⟩) (fail)
              all_goals (
                go_wp2_with fail
                exact bodyPost_ret (v := .agg #[.string (bt wd), iz (ln2 : Int)]) (by simp [results, Tryd.results52, go_sem, v0, v1]) rfl (hdone.out _))
          · obtain ⟨g, rfl⟩ : ∃ g, gk = g + 1 := ⟨gk - 1, by omega⟩
            obtain ⟨c, hc, hv⟩ := e2'.out j2 (by omega)
            rw [hip2] at hc
            obtain ⟨hk3, hq⟩ := hQ.out ip c false hc hv
            have t1 : decide ((ip : Int) < (S.size : Int)) = true := by simp; omega
            have hj3 : ij + (nw - g) = ip + 1 := by omega
            have hps := fun n => hpass.out (wr.drewN n) ip ln2 (hx2.out.over (vbdn _ n)) hk3 hln2
            replace hq := Lib.hid hq
            replace hps := Lib.hid hps
            replace hj3 := Lib.hid hj3
            replace hc := Lib.hid hc
            replace hv := Lib.hid hv
            clear hip2 hj2 hx2 c2 hend hfin
            go_wp2_with fail
            go_quiet ((go_at_call 66; exact Calls.quiet_of_same (hq.out _)))
            go_wp2_with fail
            (with_reducible refine (hps.out _).mono ?_)
            rintro e w2 ⟨rfl, ln3, hx3, hln3, hk4⟩
            have hk5 := Lib.hid (hk2.out.trans ((KV.below (vbdn wr _)).trans hk4))
            replace hx3 := Lib.hid hx3
            clear hps hk4
            go_wp2_with fail
            go_roundg g
            case measure => omega
            case rel => exact ⟨ln3, by omega, by rw [hj3.out]; exact hx3, by have := hj3.out; omega, hk5⟩
    · obtain ⟨g, rfl⟩ : ∃ g, gk = g + 1 := ⟨gk - 1, by omega⟩
      obtain ⟨c, hc, hv⟩ := e1.out j (by omega)
      rw [hij] at hc
      obtain ⟨hk2, hq⟩ := hQ.out ij c true hc hv
      have t1 : decide ((ij : Int) < (S.size : Int)) = true := by simp; omega
      have hj2 : i0 + (nb - g) = ij + 1 := by omega
      have hps := fun n => hpass.out (wr.drewN n) ij ln (hx.out.over (vbdn _ n)) hk2 hln
      replace hq := Lib.hid hq
      replace hps := Lib.hid hps
      replace hj2 := Lib.hid hj2
      replace hc := Lib.hid hc
      replace hv := Lib.hid hv
      clear hij hj hx hst c2
      go_wp2_with fail
      go_quiet ((go_at_call 66; exact Calls.quiet_of_same (hq.out _)))
      go_wp2_with fail
      (with_reducible refine (hps.out _).mono ?_)
      rintro e w2 ⟨rfl, ln2, hx2, hln2, hk3⟩
      have hk4 := Lib.hid (hk.out.trans ((KV.below (vbdn wr _)).trans hk3))
      replace hx2 := Lib.hid hx2
      clear hps hk3
      go_wp2_with fail
      go_roundg g
      case measure => omega
      case rel => exact ⟨ln2, by omega, by rw [hj2.out]; exact hx2, by have := hj2.out; omega, hk4⟩
end Go.Proofs.YtbmdnmjgijblpaaDoor
