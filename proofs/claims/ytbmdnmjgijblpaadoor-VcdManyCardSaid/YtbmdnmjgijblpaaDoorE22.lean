/-
  change: a word of digits and an Id.
-/
import Derived.Test.YtbmdnmjgijblpaaDoorE21
namespace Go.Proofs.YtbmdnmjgijblpaaDoor
open Go Go.RowKit Go.Lib Go.Maps
theorem cut_b (ds : List UInt8) (w : World) : Calls Tryd.prog 59 #[.string (bt (98 :: ds)), .string ⟨#[98]⟩] w fun e w' => e = .returned (.tuple #[.string (bt ds), .bool true]) ∧ w' = w := by
  have h := Tryd.strings_CutPrefix (bt (98 :: ds)) ⟨#[98]⟩ w
  refine h.mono ?_
  rintro e w' ⟨rfl, rfl⟩
  refine ⟨?_, rfl⟩
  simp [Lib.trimPrefix, Lib.hasPrefix]
theorem TQ.far {w : World} {B q : Nat} {T top : List UInt8} {ids : List (List UInt8)} {vs : List NV} {rows : List (List (Nat × Nat))} {l : List (UInt8 × List UInt8)} (h : TQ w B q T top ids vs rows l) {b i : Nat} {cs : Array Value} (u : Value) (hb : CV w b cs 76) : TQ (w.setCell ⟨b, i, none⟩ u) B q T top ids vs rows l := by
  obtain ⟨v, vals, m, n, D, rv, p, h⟩ := h
  have hn : b ≠ q := fun e => by
    obtain ⟨cs2, hc, _⟩ := h.r.cvT
    subst e
    have : some (Obj.cells cs 76 (0, 0)) = some (.cells cs2 64 (0, 0)) := hb.symm.trans hc
    cases this
  exact ⟨v, vals, m, n, D, rv, p, h.b, h.d.kp fun g hg => Below.heap_setCell w _ u g (h.d.ne hb (by decide) g hg), h.t.kp fun g hg => Below.heap_setCell w _ u g (h.t.ne hb (by decide) (by decide) g hg), h.r.far hn⟩
theorem TQ.ne {w : World} {B q : Nat} {T top : List UInt8} {ids : List (List UInt8)} {vs : List NV} {rows : List (List (Nat × Nat))} {l : List (UInt8 × List UInt8)} (h : TQ w B q T top ids vs rows l) {b : Nat} {cs : Array Value} (hb : CV w b cs 76) : b ≠ q := fun e => by
  obtain ⟨v, vals, m, n, D, rv, p, h⟩ := h
  obtain ⟨cs2, hc, _⟩ := h.r.cvT
  subst e
  have : some (Obj.cells cs 76 (0, 0)) = some (.cells cs2 64 (0, 0)) := hb.symm.trans hc
  cases this
theorem VW.new {B q : Nat} {w W : World} {b i : Nat} (h : VW B q w W) (hb : w.heap.size ≤ b) (_hB : B ≤ w.heap.size) (u : Value) : VW B q w (W.setCell ⟨b, i, none⟩ u) :=
  ⟨h.os, h.tape, h.output, Nat.le_trans h.size (by simp), fun k hk hs => (Below.heap_setCell W _ u k (fun e => by have e' : k = b := e; omega)).trans (h.low k hk hs), fun k cs T f hc a1 a2 a3 a4 => (Below.heap_setCell W _ u k (fun e => by have e' : k = b := e; have := lt_of_get hc; omega)).trans (h.oth k cs T f hc a1 a2 a3 a4)⟩
set_option maxRecDepth 100000 in
set_option maxHeartbeats 6400000 in
theorem change_t {B q : Nat} {T top : List UInt8} {ids : List (List UInt8)} {vs : List NV} {rows : List (List (Nat × Nat))} {l : List (UInt8 × List UInt8)} {c : UInt8} {id ds : List UInt8} (hT : T.length ≤ 1048576) (w : World) (h : TQ w B q T top ids vs rows ((c, id) :: l)) (hds : ds.length ≤ 128) (hd0 : ds ≠ []) (hbin : ds.all (fun c => vbin c.toNat) = true) (hid : id.length ≤ 1000) (ln : Nat)
    {i : Nat} (hi : idn ids id = some i) {x : NV} (hx : vs[i]? = some x) (hx1 : ds.length ≤ x.2) (hx2 : x.2 ≤ 128) {k : Nat} {r : List (Nat × Nat)} (hk : rows.length = k + 1) (hr : rows[k]? = some r) (hrl : r.length = vs.length) :
    Calls Tryd.prog 42 #[pp q, .agg #[.string (bt (98 :: ds)), iz (ln : Int)]] w fun e w' => e = .returned (.tuple #[]) ∧ TE w B q T top ids vs (rows.set k (r.set i (x.2, valB (dgs ds) x.2))) l w' := by
  have hb1 := vnew w (.cells #[.string (bt (98 :: ds)), iz (ln : Int)] 76)
  have hg1 : CV (w.alloc (.cells #[.string (bt (98 :: ds)), iz (ln : Int)] 76)) w.heap.size #[.string (bt (98 :: ds)), iz (ln : Int)] 76 := by unfold CV; exact Array.getElem?_push_size ..
  obtain ⟨w1, hw1⟩ : ∃ W, w.alloc (.cells #[.string (bt (98 :: ds)), iz (ln : Int)] 76) = W := ⟨_, rfl⟩
  rw [hw1] at hb1 hg1
  have h1 := h.over hb1
  have hV1 : VW B q w w1 := VW.below hb1
  have hBw : B ≤ w.heap.size := by
    obtain ⟨v, vals, m, n, D, rv, p, h⟩ := h
    have := h.b
    have := h.r.lt
    omega
  have hC := cut_b ds w1
  have hEv := fun W => every_t 61 #[] (enters_of Tryd.func61 (by kernel_rfl) rfl) vbin (fun c w hc => bin_t c hc w) ds (by omega) W
  rw [hbin] at hEv
  have hxr := bt_rest 98 ds
  have hTk := fun W (h : TQ W B q T top ids vs rows ((c, id) :: l)) => h.take hT
  obtain ⟨n1, n2⟩ := bt_ne hd0
  obtain ⟨S, hS⟩ : ∃ S, bt (98 :: ds) = S := ⟨_, rfl⟩
  have hvec := fun W => vector_t x.2 ds W (by have : 0 < ds.length := List.length_pos_iff.2 hd0; omega) hx2 hx1
  have hSl : 1 ≤ S.size := by rw [← hS]; show 1 ≤ (98 :: ds).length; simp
  have hSm : S.size ≤ 129 := by rw [← hS]; show (98 :: ds).length ≤ 129; simp; omega
  obtain ⟨S2, hS2⟩ : ∃ S, bt ds = S := ⟨_, rfl⟩
  have hS2l : S2.size = ds.length := by rw [← hS2]; rfl
  obtain ⟨S3, hS3⟩ : ∃ S, bt id = S := ⟨_, rfl⟩
  simp only [hS, hS2] at hxr hC hEv n1 n2 hvec
  simp only [hS3] at hTk
  rw [hS] at hw1 hg1 ⊢
  have a0 : w1.cell? ⟨w.heap.size, 0, none⟩ = some (.string S) := hg1.c 0
  have a1 : w1.cell? ⟨w.heap.size, 1, none⟩ = some (iz (ln : Int)) := hg1.c 1
  have al := hg1.lt
  obtain ⟨g, hg⟩ : ∃ g, w.heap.size = g := ⟨_, rfl⟩
  rw [hg] at a0 a1 al hg1
  replace hw1 := Lib.hid hw1
  replace hg := Lib.hid hg
  replace hC := Lib.hid hC
  replace hEv := Lib.hid hEv
  replace hTk := Lib.hid hTk
  replace hvec := Lib.hid hvec
  replace h1 := Lib.hid h1
  replace hV1 := Lib.hid hV1
  replace hS := Lib.hid hS
  replace hS2 := Lib.hid hS2
  replace hS3 := Lib.hid hS3
  replace hS2l := Lib.hid hS2l
  replace hi := Lib.hid hi
  replace hx := Lib.hid hx
  replace hx1 := Lib.hid hx1
  replace hx2 := Lib.hid hx2
  replace hk := Lib.hid hk
  replace hr := Lib.hid hr
  replace hrl := Lib.hid hrl
  replace hg1 := Lib.hid hg1
  replace hBw := Lib.hid hBw
  have hgw : Hid (w.heap.size ≤ w1.heap.size) := Lib.hid hb1.size
  clear h hb1 hbin hds hd0
  go_enter Tryd.func42, Tryd.ntmps42
  go_wp2_with fail
  rw [hw1.out, hg.out]
  (with_reducible refine hC.out.mono ?_)
  rintro e w2 ⟨rfl, hw2⟩
  subst hw2
  clear hC
  go_wp2_with fail
  go_region
  have hbx : Below w2.heap.size w2 (w2.alloc (.cells #[.string S2, .int .i64 (ln : Int)] 76)).drew := ((Below.refl _ w2).alloc (Nat.le_refl _) _).drew
  have hg6 : CV (w2.alloc (.cells #[.string S2, .int .i64 (ln : Int)] 76)).drew w2.heap.size #[.string S2, iz (ln : Int)] 76 := by unfold CV; exact Array.getElem?_push_size ..
  obtain ⟨w3, hw3⟩ : ∃ W, (w2.alloc (.cells #[.string S2, .int .i64 (ln : Int)] 76)).drew = W := ⟨_, rfl⟩
  rw [hw3] at hbx hg6 ⊢
  have h3 := h1.out.over hbx
  have hV3 := hV1.out.trans (VW.below (B := B) (q := q) hbx)
  obtain ⟨g6, hg6e⟩ : ∃ g, w2.heap.size = g := ⟨_, rfl⟩
  rw [hg6e] at hg6 ⊢
  have hgw6 : w.heap.size ≤ g6 := by rw [← hg6e]; exact hgw.out
  have b0 : w3.cell? ⟨g6, 0, none⟩ = some (.string S2) := hg6.c 0
  have bl := hg6.lt
  have hE3 := Lib.hid (hEv.out w3)
  have hT3 := Lib.hid (hTk.out w3 h3)
  have hn6 := h3.ne hg6
  replace h3 := Lib.hid h3
  replace hV3 := Lib.hid hV3
  replace hg6 := Lib.hid hg6
  replace hgw6 := Lib.hid hgw6
  replace hn6 := Lib.hid hn6
  clear h1 hV1 hEv hTk hbx hw3 hg6e a0 a1 al hg1 hgw
  go_wp2_with fail
  (with_reducible refine hE3.out.mono ?_)
  rintro e w4 ⟨rfl, hw4⟩
  subst hw4
  clear hE3
  go_wp2_with fail
  (with_reducible refine hT3.out.mono ?_)
  rintro e w4 ⟨ln4, rfl, h4, hV4⟩
  have hg4 := hV4.cv hg6.out hn6.out (by decide) (by decide) (by decide)
  have c0 : w4.cell? ⟨g6, 0, none⟩ = some (.string S2) := hg4.c 0
  have c1 : w4.cell? ⟨g6, 1, none⟩ = some (iz (ln : Int)) := hg4.c 1
  have cl := hg4.lt
  have cf0 := hg4.fz 0
  have cf1 := hg4.fz 1
  have h5a := h4.far (i := 0) (.string S3) hg4
  have hg5a := hg4.set 0 (.string S3)
  have h5 := h5a.far (i := 1) (iz (ln4 : Int)) hg5a
  have hg5 : CV ((w4.setCell ⟨g6, 0, none⟩ (.string S3)).setCell ⟨g6, 1, none⟩ (iz (ln4 : Int))) g6 #[.string S3, iz (ln4 : Int)] 76 := hg5a.set 1 (iz (ln4 : Int))
  have hV5 := ((hV3.out.trans hV4).new (i := 0) hgw6.out hBw.out (.string S3)).new (i := 1) hgw6.out hBw.out (iz (ln4 : Int))
  obtain ⟨w5, hw5⟩ : ∃ W, (w4.setCell ⟨g6, 0, none⟩ (.string S3)).setCell ⟨g6, 1, none⟩ (iz (ln4 : Int)) = W := ⟨_, rfl⟩
  rw [hw5] at h5 hg5 hV5
  replace h5 := Lib.hid h5
  replace hg5 := Lib.hid hg5
  replace hV5 := Lib.hid hV5
  replace hw5 := Lib.hid hw5
  clear hT3 h3 hV3 hg6 h4 hV4 hg4 h5a hg5a b0 bl
  go_upto_region 10 with fail
  rw [show (w4.setCell ⟨g6, 0, none⟩ (.string S3)).setCell ⟨g6, 1, none⟩ (.int .i64 (ln4 : Int)) = w5 from hw5.out]
  clear hw5 c0 c1 cl cf0 cf1
  obtain ⟨v, vals, m, n, D, rv, p, hR⟩ := h5.out
  obtain ⟨cs5, hc5, q4, q5, q6⟩ := hR.r.cvT
  have ql := hc5.lt
  have d0 : w5.cell? ⟨g6, 0, none⟩ = some (.string S3) := hg5.out.c 0
  have dl := hg5.out.lt
  obtain ⟨cc, hlk, hcc⟩ := look_id hR.d.mp hR.d.ag id hid
  rw [hcc i hi.out, hi.out, hS3.out] at hlk
  have hlk1 := hlk 0
  obtain ⟨A, cv, hv, hrv⟩ := hR.d.rv
  have hil : i < vs.length := (List.getElem?_eq_some_iff.1 hx.out).1
  obtain ⟨gv, rfl, hgv, hgc⟩ := hrv (by omega)
  have e1 := (hgc i x hx.out).2
  obtain ⟨N, hN⟩ : ∃ N, vs.length = N := ⟨_, rfl⟩
  rw [hN] at hv hil
  subst hv
  obtain ⟨u, hu⟩ : ∃ u, x.2 = u := ⟨_, rfl⟩
  rw [hu] at e1
  -- the last row
  have hkr : k < rv.length := by rw [hR.t.rl, hk.out]; omega
  obtain ⟨vr, hvr⟩ : ∃ vr, rv[k]? = some vr := ⟨_, List.getElem?_eq_getElem hkr⟩
  have hrw := hR.t.is k r vr hr.out hvr
  have hrn : r.length = N := by rw [hrl.out, hN]
  obtain ⟨gr, cr, hvre, hBr, hgr, hcr⟩ := hrw.at_ (by rw [hrn]; omega)
  rw [hrn] at hvre
  subst hvre
  obtain ⟨gV, cV, hvals, _, _, hcV, _⟩ := own_some hR.t.row (by rw [hk.out]; omega)
  rw [hk.out] at hvals
  subst hvals
  have hadd0 : ∀ (b y : Nat), (⟨b, 0, none⟩ : Addr).add y = ⟨b, y, none⟩ := fun b y => by unfold Addr.add; split <;> simp_all
  have cgV : w5.cell? ⟨gV, k, none⟩ = some (.slice (some ⟨gr, 0, none⟩) N cr) := by rw [← hadd0]; exact hR.t.row.cells rfl _ _ hvr
  have hcell : ∀ j, j < N * 3 → ∃ y, w5.cell? ⟨gr, j, none⟩ = some y := fun j hj => by
    have hj2 : j < (rcells r).length := by rw [rcells_len, hrn]; exact hj
    exact ⟨_, by rw [← hadd0]; exact hcr j _ (List.getElem?_eq_getElem hj2)⟩
  obtain ⟨curr, hcurr⟩ := own_blk hrw.1 gr rfl
  have hgrq : q ≠ gr := fun e => by
    subst e
    have : some (Obj.cells cs5 64 (0, 0)) = some (.cells curr 34 (0, 0)) := hc5.symm.trans hcurr
    cases this
  have hgrV : gV ≠ gr := fun e => by
    subst e
    rw [hcV] at hcurr
    cases hcurr
  have hafter : ∀ W, Below w5.heap.size w5 W → (W.cell? ⟨q, 5, none⟩ = some (.slice (some ⟨gV, 0, none⟩) (k + 1) cV) ∧ W.cell? ⟨gV, k, none⟩ = some (.slice (some ⟨gr, 0, none⟩) N cr)) ∧ (∃ y, W.cell? ⟨gr, i * 3, none⟩ = some y) ∧ (∃ y, W.cell? ⟨gr, i * 3 + 1, none⟩ = some y) ∧ (∃ y, W.cell? ⟨gr, i * 3 + 2, none⟩ = some y) ∧ gr < W.heap.size ∧ (∀ j, W.frozen? ⟨gr, j, none⟩ = false) ∧ ∀ X, TE w B q T top ids vs (rows.set k (r.set i (u, X))) l (put3 W gr i (u, X)) := fun W hb => by
    have hcW : W.heap[gr]? = some (.cells curr 34 (0, 0)) := (hb.block gr hgr).trans hcurr
    refine ⟨⟨(hb.cell (p := ⟨q, 5, none⟩) ql).trans q5, (hb.cell (p := ⟨gV, k, none⟩) (lt_of_get hcV)).trans cgV⟩, ?_, ?_, ?_, Nat.lt_of_lt_of_le hgr hb.size, fun j => Lib.frozen_of_heap hcW j, fun X => ?_⟩
    · obtain ⟨y, hy⟩ := hcell (i * 3) (by omega)
      exact ⟨y, (hb.cell (p := ⟨gr, i * 3, none⟩) hgr).trans hy⟩
    · obtain ⟨y, hy⟩ := hcell (i * 3 + 1) (by omega)
      exact ⟨y, (hb.cell (p := ⟨gr, i * 3 + 1, none⟩) hgr).trans hy⟩
    · obtain ⟨y, hy⟩ := hcell (i * 3 + 2) (by omega)
      exact ⟨y, (hb.cell (p := ⟨gr, i * 3 + 2, none⟩) hgr).trans hy⟩
    · have hR2 := hR.over hb
      have hg' : B ≤ gr := hBr
      have htx := hR2.t.vec hr.out (by rw [hrn]; exact hvr) (by rw [hrn]; exact hil) (u, X)
      have hvw : VW B q W (put3 W gr i (u, X)) := VW.put3 (u, X) hg' ⟨curr, hcW⟩
      have hcq := hc5.over hb
      have hrx : RX (put3 W gr i (u, X)) q (mkT T top _ _ m) T p l := ((hR2.r.far (Ne.symm hgrq)).far (Ne.symm hgrq)).far (Ne.symm hgrq)
      have hdx : DX (put3 W gr i (u, X)) B ids vs _ m n D := hR2.d.kp fun b hb2 => put3_far _ _ _ _ b fun e => by
        rcases hb2 with hb2 | hb2
        · obtain ⟨c9, h9⟩ := own_blk hR2.d.row b hb2
          rw [e, hcW] at h9
          cases h9
        · obtain ⟨es, c9, h9⟩ := hR2.d.map_obj
          rw [← hb2, e, hcW] at h9
          cases h9
      exact ⟨⟨_, _, m, n, D, rv, p, hR.b, hdx, htx, hrx⟩, (hV5.out.trans (VW.below hb)).trans hvw⟩
  have hks : ∀ {W0 : World} {j : Nat} {y : Value}, (W0.cell? ⟨q, 5, none⟩ = some (.slice (some ⟨gV, 0, none⟩) (k + 1) cV) ∧ W0.cell? ⟨gV, k, none⟩ = some (.slice (some ⟨gr, 0, none⟩) N cr)) → ((W0.setCell ⟨gr, j, none⟩ y).cell? ⟨q, 5, none⟩ = some (.slice (some ⟨gV, 0, none⟩) (k + 1) cV) ∧ (W0.setCell ⟨gr, j, none⟩ y).cell? ⟨gV, k, none⟩ = some (.slice (some ⟨gr, 0, none⟩) N cr)) := fun {W0 j y} h => by
    have a1 := Below.heap_setCell W0 ⟨gr, j, none⟩ y q hgrq
    have a2 := Below.heap_setCell W0 ⟨gr, j, none⟩ y gV hgrV
    refine ⟨Eq.trans ?_ h.1, Eq.trans ?_ h.2⟩
    · unfold World.cell?; simp only [a1]
    · unfold World.cell?; simp only [a2]
  have kk : w5.cell? ⟨q, 5, none⟩ = some (.slice (some ⟨gV, 0, none⟩) (k + 1) cV) ∧ w5.cell? ⟨gV, k, none⟩ = some (.slice (some ⟨gr, 0, none⟩) N cr) := ⟨q5, cgV⟩
  have hlu : S2.size ≤ u := by rw [hS2l.out, ← hu]; exact hx1.out
  have hu2 : u ≤ 128 := by rw [← hu]; exact hx2.out
  have hN3 : N ≤ 300 := by rw [← hN]; exact hR.d.sm
  replace hR := Lib.hid hR
  replace hN := Lib.hid hN
  replace hu := Lib.hid hu
  replace hcc := Lib.hid hcc
  have hk200 : k < 200 := by have := hR.t.sm; rw [hk.out] at this; omega
  obtain ⟨N2, hN2⟩ : ∃ n, k + 1 = n := ⟨_, rfl⟩
  simp only [hN2] at hafter hks kk q5
  have hs1 : (N2 : Int) - 1 = (k : Int) := by omega
  have hs3 : IntKind.i64.wrap ((N2 : Int) - 1) = (k : Int) := by rw [hs1]; exact IntWalk.i64_in _ (by omega)
  have hs4 : k < N2 := by omega
  have hs5 : (k : Int) < (N2 : Int) := by omega
  have hs6 : IntKind.i64.wrap (k : Int) = (k : Int) := IntWalk.i64_in _ (by omega)
  have hs8 : (0 : Int) ≤ (k : Int) := by omega
  have hs9 : (k : Int) ≤ (N2 : Int) := by omega
  have hs11 : N2 ≤ 200 := by omega
  replace hN2 := Lib.hid hN2
  replace hafter := Lib.hid hafter
  replace hvec := hvec.out
  rw [hu.out] at hvec
  obtain ⟨X, hX⟩ : ∃ X, valB (dgs ds) u = X := ⟨_, rfl⟩
  rw [hX] at hvec
  replace hvec := Lib.hid hvec
  replace hX := Lib.hid hX
  have hcur : Hid (∃ curr, w5.heap[gr]? = some (.cells curr 34 (0, 0))) := Lib.hid ⟨_, hcurr⟩
  clear hc5 hgc hrv hkr hvr hrw hrn hBr hgr hcr hcV hadd0 hcell hcurr hgrq hgrV hcur
  go_wp2_with fail
  go_quiet (fail)
  go_upto_region 14 with fail
  have hV7 : ∀ n W, Below (w5.drewN n).heap.size (w5.drewN n) W → Below w5.heap.size w5 W := fun n W hb => below_step (vbdn w5 n) hb
  replace hV7 := Lib.hid hV7
  clear hlk hlk1 e1 d0 dl q6 n1 n2
  go_region_held3 (fun w' => w'.cell? ⟨q, 5, none⟩ = some (.slice (some ⟨gV, 0, none⟩) N2 cV) ∧ w'.cell? ⟨gV, k, none⟩ = some (.slice (some ⟨gr, 0, none⟩) N cr)) (first | exact kk1 | exact hks kk1 | exact hks (hks kk1) | exact hks (hks (hks kk1)) | exact kk)
    (first
      | (go_at_call 62; (with_reducible refine (hvec.out _).mono ?_); rintro e w7 ⟨rfl, hb7⟩; obtain ⟨kk1, ⟨y0, z0⟩, ⟨y1, z1⟩, ⟨y2, z2⟩, zl, zf, hE⟩ := hafter.out w7 (hV7.out _ w7 hb7); replace hE := Lib.hid (hE X)))
  all_goals (
    have hF : TE w B q T top ids vs (rows.set k (r.set i (x.2, valB (dgs ds) x.2))) l (put3 w7 gr i (u, X)) := by
      rw [hu.out, hX.out]
      exact hE.out
    replace hF := Lib.hid hF
    clear hE
    go_wp2_with fail
    exact bodyPost_end (v := .tuple #[]) (by simp [results, Tryd.results42, go_sem]) rfl ⟨rfl, hF.out⟩)
end Go.Proofs.YtbmdnmjgijblpaaDoor
