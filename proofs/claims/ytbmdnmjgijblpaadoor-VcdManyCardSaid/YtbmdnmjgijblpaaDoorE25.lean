/-
  time: a time more.
-/
import Derived.Test.YtbmdnmjgijblpaaDoorE23
namespace Go.Proofs.YtbmdnmjgijblpaaDoor
open Go Go.RowKit Go.Lib Go.Maps
theorem info_row : (Tryd.prog.info? 27).map (fun i => (i.zero, i.size, i.bytes)) = some (some (.slice none 0 0), 1, 24) := by kernel_rfl
set_option maxRecDepth 100000 in
set_option maxHeartbeats 3200000 in
theorem time_n {B q : Nat} {T top : List UInt8} {ids : List (List UInt8)} {vs : List NV} {rows : List (List (Nat × Nat))} {l : List (UInt8 × List UInt8)} {ds : List UInt8} {k : Nat} {r : List (Nat × Nat)} (w : World) (h : TQ w B q T top ids vs rows l) (hk : rows.length = k + 1) (hr : rows[k]? = some r) (hrl : r.length ≤ 300) (hl : rows.length < 200) (hds : ds.length ≤ 6) (hu : Lib.parseUintB 32 ds = .ok (k + 1)) (ln : Nat) :
    Calls Tryd.prog 41 #[pp q, .agg #[.string (bt (35 :: ds)), iz (ln : Int)]] w fun e w' => e = .returned (.tuple #[]) ∧ TE w B q T top ids vs (rows ++ [r]) l w' := by
  obtain ⟨i0, hi0, hz0, hz1, hz2⟩ := info_parts info_row
  obtain ⟨v, vals, m, n, D, rv, p, h⟩ := h
  have hb1 := vnew w (.cells #[.string (bt (35 :: ds)), iz (ln : Int)] 76)
  have hg1 : CV (w.alloc (.cells #[.string (bt (35 :: ds)), iz (ln : Int)] 76)) w.heap.size #[.string (bt (35 :: ds)), iz (ln : Int)] 76 := by unfold CV; exact Array.getElem?_push_size ..
  obtain ⟨w1, hw1⟩ : ∃ W, w.alloc (.cells #[.string (bt (35 :: ds)), iz (ln : Int)] 76) = W := ⟨_, rfl⟩
  rw [hw1] at hb1 hg1
  have h1 := h.over hb1
  have hBw : B ≤ w.heap.size := by have := h.b; have := h.r.lt; omega
  have hD : Calls Tryd.prog 56 #[.string (bt ds), .int .i64 6] w1 fun e w' => e = .returned (.tuple #[iz ((k + 1 : Nat) : Int), .bool true]) ∧ Below w1.heap.size w1 w' := dec_t ds 6 (k + 1) hds (by omega) hu (by omega) w1
  -- the last row
  have hkr : k < rv.length := by rw [h.t.rl, hk]; omega
  obtain ⟨vr, hvr⟩ : ∃ vr, rv[k]? = some vr := ⟨_, List.getElem?_eq_getElem hkr⟩
  have hrw := h.t.is k r vr hr hvr
  obtain ⟨Ar, cr, hvre⟩ := own_shape hrw.1
  subst hvre
  obtain ⟨gV, cV, hvals, _, _, hcV, _⟩ := own_some h.t.row (by rw [hk]; omega)
  rw [hk] at hvals
  subst hvals
  have hadd0 : ∀ (b y : Nat), (⟨b, 0, none⟩ : Addr).add y = ⟨b, y, none⟩ := fun b y => by unfold Addr.add; split <;> simp_all
  have cgV : w.cell? ⟨gV, k, none⟩ = some (.slice Ar r.length cr) := by rw [← hadd0]; exact h.t.row.cells rfl _ _ hvr
  obtain ⟨cs, hcs, q4, q5, q6⟩ := h.r.cvT
  have hql := hcs.lt
  have hVl := lt_of_get hcV
  have hbase : ∀ W, Below w1.heap.size w1 W → Below w.heap.size w W := fun W hb => below_step hb1 hb
  have hst : ∀ W, Below w1.heap.size w1 W → W.cell? ⟨q, 5, none⟩ = some (.slice (some ⟨gV, 0, none⟩) (k + 1) cV) ∧ W.cell? ⟨gV, k, none⟩ = some (.slice Ar r.length cr) ∧ q < W.heap.size ∧ gV < W.heap.size := fun W hb => by
    have hb2 := hbase W hb
    exact ⟨(hb2.cell (p := ⟨q, 5, none⟩) hql).trans q5, (hb2.cell (p := ⟨gV, k, none⟩) hVl).trans cgV, Nat.lt_of_lt_of_le hql hb2.size, Nat.lt_of_lt_of_le hVl hb2.size⟩
  have hcl : ∀ W, Below w1.heap.size w1 W → Calls Tryd.prog 58 #[.slice Ar r.length cr] W fun e W' => ∃ A3 c3, e = .returned (.slice A3 r.length c3) ∧ Below w1.heap.size w1 W' ∧ (W'.alloc (Obj.cells #[.slice A3 r.length c3] 27)).ownsRow B 27 1 (.slice (some ⟨gV, 0, none⟩) (k + 1) cV) (k + 1) rv ∧ B ≤ (W'.alloc (Obj.cells #[.slice A3 r.length c3] 27)).heap.size ∧ ∀ w3 g cap, w3.ownsRow B 27 1 (.slice (some ⟨g, 0, none⟩) (k + 1 + 1) cap) (k + 1 + 1) (rv ++ [.slice A3 r.length c3]) → (W'.alloc (Obj.cells #[.slice A3 r.length c3] 27)).grownBy w3 (some gV) → (w3.cell? ⟨q, 5, none⟩ = some (.slice (some ⟨gV, 0, none⟩) (k + 1) cV) ∧ q < w3.heap.size ∧ w3.frozen? ⟨q, 5, none⟩ = false) ∧ TE w B q T top ids vs (rows ++ [r]) l (w3.setCell ⟨q, 5, none⟩ (.slice (some ⟨g, 0, none⟩) (k + 1 + 1) cap)) := fun W hb => by
    have hbW := hbase W hb
    have hRW := h.over hbW
    refine (Clone_t r _ B W (hrw.over hbW) hrl).mono ?_
    rintro e W' ⟨v', rfl, hr3, hb3⟩
    obtain ⟨A3, c3, e3⟩ := own_shape hr3.1
    subst e3
    have hb4 := below_step hb3 (vnew W' (Obj.cells #[.slice A3 r.length c3] 27))
    have hR4 := hRW.over hb4
    have ho4 := hR4.t.row
    rw [hk] at ho4
    refine ⟨A3, c3, rfl, below_step hb hb3, ho4, Nat.le_trans hBw (Nat.le_trans hbW.size hb4.size), fun w3 g cap ho hg => ⟨?_, ?_⟩⟩
    · obtain ⟨cs4, hc4, _, q54, _⟩ := hR4.r.cvT
      have h5 : CV w3 q cs4 64 := (hg.block q hc4.lt fun e => by
        obtain ⟨c9, x9⟩ := own_blk hR4.t.row q e.symm
        have : some (Obj.cells cs4 64 (0, 0)) = some (.cells c9 27 (0, 0)) := hc4.symm.trans x9
        cases this).trans hc4
      exact ⟨by rw [h5.c 5, ← hc4.c 5]; exact q54, h5.lt, h5.fz 5⟩
    · have hm := TR.more hRW hb3 hr3 hk.symm hl ho hg
      exact ⟨hm.1, (VW.below hbW).trans hm.2⟩
  have hx := bt_rest 35 ds
  obtain ⟨S, hS⟩ : ∃ S, bt (35 :: ds) = S := ⟨_, rfl⟩
  obtain ⟨S2, hS2⟩ : ∃ S, bt ds = S := ⟨_, rfl⟩
  have hSl : 1 ≤ S.size := by rw [← hS]; show 1 ≤ (35 :: ds).length; simp
  have hSm : S.size ≤ 7 := by rw [← hS]; show (35 :: ds).length ≤ 7; simp; omega
  rw [hS, hS2] at hx
  rw [hS2] at hD
  rw [hS] at hw1 hg1 ⊢
  have a0 : w1.cell? ⟨w.heap.size, 0, none⟩ = some (.string S) := hg1.c 0
  have al := hg1.lt
  obtain ⟨g, hg⟩ : ∃ g, w.heap.size = g := ⟨_, rfl⟩
  rw [hg] at a0 al
  obtain ⟨k5, _, kl, _⟩ := hst w1 (Below.refl _ _)
  obtain ⟨N2, hN2⟩ : ∃ n, k + 1 = n := ⟨_, rfl⟩
  obtain ⟨Nr, hNr⟩ : ∃ n, r.length = n := ⟨_, rfl⟩
  simp only [hN2, hNr] at hD hst hcl k5 q5
  rw [hNr] at hrl
  have hk2 : k < N2 := by omega
  have hNl : N2 < 200 := by omega
  have hs1 : (N2 : Int) - 1 = (k : Int) := by omega
  have hs2 : IntKind.i64.wrap (k : Int) = (k : Int) := IntWalk.i64_in _ (by omega)
  have hs3 : IntKind.i64.wrap ((N2 : Int) - 1) = (k : Int) := by rw [hs1]; exact hs2
  have hs5 : (k : Int) < (N2 : Int) := by omega
  have d200 : ((N2 : Int) == 200) = false := by simp; omega
  have d0 : ((N2 : Int) == 0) = false := by simp; omega
  have hx1 : N2 + 1 ≤ maxLen := by unfold maxLen; omega
  have hx2 : (N2 + 1) * 24 ≤ 140737488355328 := by omega
  have hone : ∀ A c, ∀ u ∈ [Value.slice A Nr c], u.oneCell' = true := by simp [Value.oneCell']
  replace hD := Lib.hid hD
  replace hst := Lib.hid hst
  replace hcl := Lib.hid hcl
  replace hw1 := Lib.hid hw1
  replace hg := Lib.hid hg
  replace hN2 := Lib.hid hN2
  replace hNr := Lib.hid hNr
  replace hx1 := Lib.hid hx1
  replace hx2 := Lib.hid hx2
  replace hone := Lib.hid hone
  clear h h1 hcs hb1 hg1 hS hS2 hds hu q4 q6 hVl hbase cgV hcV hvr hrw hkr hadd0 hBw hl hr hk
  go_enter Tryd.func41, Tryd.ntmps41
  go_wp2_with fail
  rw [hw1.out, hg.out]
  (with_reducible refine hD.out.mono ?_)
  rintro e w2 ⟨rfl, hb2⟩
  obtain ⟨k52, cg2, kl2, vl2⟩ := hst.out w2 hb2
  have hbd : Below w1.heap.size w1 w2.drew := below_step hb2 ((Below.refl _ w2).drew)
  replace hbd := Lib.hid hbd
  clear hD a0 al k5 kl hw1 hg q5 hql
  go_upto_region 3 with fail
  go_region_law
    (first
      | (go_simp; go_at_call 58; (with_reducible refine (hcl.out _ hbd.out).mono ?_); rintro e w7 ⟨A3, c3, rfl, hb7, ho7, hB7, hA7⟩; obtain ⟨kk1, _, ql7, _⟩ := hst.out w7 hb7; have hsz7 : (w7.alloc (Obj.cells #[.slice A3 Nr c3] 27)).heap.size = w7.heap.size + 1 := (by simp); have hnw7 := World.news_of_block (heap_alloc_new w7 (Obj.cells #[.slice A3 Nr c3] 27)); have hone7 := hone.out A3 c3; replace ho7 := Lib.hid ho7; replace hB7 := Lib.hid hB7; replace hA7 := Lib.hid hA7; replace hsz7 := Lib.hid hsz7; replace hnw7 := Lib.hid hnw7; replace hone7 := Lib.hid hone7; clear hb7; go_wp2_with fail)
      | (refine step_append_lies _ rfl (.tmp 25) (.tmp 36) 24 rfl B 27 i0 (.slice none 0 0) 1 24 Tryd.underlying24 hi0 hz0 hz1 hz2 rfl (by decide) _ N2 rv (by simp [Act.eval]) ho7.out ⟨w7.heap.size, 0, none⟩ 1 1 [.slice A3 Nr c3] (by simp [Act.eval]) rfl hnw7.out hone7.out (by decide) hx1.out hx2.out hB7.out (w7.heap.size + 1) hsz7.out ?_; intro g2 cap w6 ho6 hg6 hgb hlt6; obtain ⟨⟨kk6, ql6, qf6⟩, hE6⟩ := hA7.out w6 g2 cap ho6 hg6; replace hE6 := Lib.hid hE6; clear ho6 hg6 hgb))
  all_goals (
    clear ho7 hB7 hA7 hsz7 hnw7 hone7 kk6 qf6 kk1
    go_wp2_with fail
    exact bodyPost_end (v := .tuple #[]) (by simp [results, Tryd.results41, go_sem]) rfl ⟨rfl, hE6.out⟩)
end Go.Proofs.YtbmdnmjgijblpaaDoor
