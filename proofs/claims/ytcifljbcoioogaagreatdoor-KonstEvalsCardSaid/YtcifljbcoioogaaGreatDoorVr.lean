/-
  The walk of KonstEvals.
-/
import Derived.Test.YtcifljbcoioogaaGreatDoorVm
import Derived.Test.YtcifljbcoioogaaGreatDoorTp
import Derived.Deep.Cut
namespace Go.Proofs.YtcifljbcoioogaaGreatDoor
open Go.RowKit Go.Lib Go.Maps
/-- Bytes in a slice. -/
def BY (w : World) (A : Option Addr) (n : Nat) : Prop := 0 < n → ∃ b o : Nat, A = some ⟨b, o, none⟩ ∧ b < w.heap.size ∧ ∀ i, i < n → ∃ u : Nat, u < 256 ∧ w.cell? ⟨b, o + i, none⟩ = some (.int .u8 (u : Int))
theorem BY.over {w w' : World} {A : Option Addr} {n : Nat} (h : BY w A n) (k : Below w.heap.size w w') : BY w' A n := fun h0 => by
  obtain ⟨b, o, e, hb, hc⟩ := h h0
  exact ⟨b, o, e, Nat.lt_of_lt_of_le hb k.size, fun i hi => by obtain ⟨u, hu, h1⟩ := hc i hi; exact ⟨u, hu, (k.cell (p := ⟨b, o + i, none⟩) hb).trans h1⟩⟩
theorem BY.mk {w : World} {A : Option Addr} {n n' c : Nat} (h : BY w A n) (hn : n' ≤ n) (h3 : n' ≤ 300) : MKm (w.alloc (.cells #[.slice A n' c, .int .i64 0] 28)) w.heap.size (w.heap.size + 1) := by
  refine ⟨by omega, by simp, A, n', c, 0, heap_alloc_new w _, Nat.zero_le _, h3, fun h0 => ?_⟩
  obtain ⟨b, o, e, hb, hc⟩ := h (by omega)
  refine ⟨b, o, e, by omega, by omega, fun i hi => ?_⟩
  obtain ⟨u, hu, h1⟩ := hc i (by omega)
  exact ⟨u, hu, (((Below.refl _ w).alloc (Nat.le_refl _) _).cell (p := ⟨b, o + i, none⟩) hb).trans h1⟩
theorem XAr.up {w w' : World} {t : XT} {A : Option Addr} (h : XAr w w.heap.size t A) (k : Below w.heap.size w w') : XAr w' w'.heap.size t A := (h.over k).mono k.size
theorem envT_inE (l : List NE) : ∀ x ∈ envT l, InR x.2 := by
  intro x hx
  unfold envT at hx
  obtain ⟨y, _, rfl⟩ := List.mem_map.1 hx
  exact clamp_in y.2
theorem envT_szE (l : List NE) (h : ∀ x ∈ l, x.1.size ≤ maxLen) : ∀ x ∈ envT l, x.1.size ≤ maxLen := by
  intro x hx
  unfold envT at hx
  obtain ⟨y, hy, rfl⟩ := List.mem_map.1 hx
  exact h y (List.mem_of_mem_take hy)
theorem envT_lenE (l : List NE) : (envT l).length ≤ 12 := by unfold envT; rw [List.length_map, List.length_take]; omega
/-- Behind the beginning: the tree's variable, the names, as a map and as a list. -/
structure KE (w : World) (gm gv : Nat) (t : XT) (A : Option Addr) (c : Nat) (mo : Option Nat) (l : List NE) (E : Option Addr) (a : World) : Prop where
  e : BX a gm 33 t.h A t.args.length c
  x : XAr a a.heap.size t A
  v : E1 a gv 39 (.map mo)
  m : EnvIs a (.map mo) (keyL l)
  n : NOk a E l
  k : Below w.heap.size w a
theorem KE.over {w a b : World} {gm gv : Nat} {t : XT} {A : Option Addr} {c : Nat} {mo : Option Nat} {l : List NE} {E : Option Addr} (h : KE w gm gv t A c mo l E a) (k : Below a.heap.size a b) : KE w gm gv t A c mo l E b :=
  ⟨h.e.ov k, h.x.up k, h.v.over k, h.m.over (Keep.of_below (F := fun _ => False) k) (fun _ _ hf => hf), h.n.over k, below_call k h.k⟩
set_option maxRecDepth 100000 in
set_option maxHeartbeats 12800000 in
theorem evals_t (B : Option Addr) (bn bc : Nat) (E : Option Addr) (ec : Nat) (l : List NE) (w : World) (hT : LT w) (hB : BY w B bn) (hbc : bn ≤ bc) (hb47 : bc ≤ 9223372036854775807) (hA : NL w E l) (hN : l.length ≤ 9223372036854775807) (hsz : ∀ x ∈ l, x.1.size ≤ maxLen) :
    Calls Tryz.prog 3 #[.slice B bn bc, .slice E l.length ec] w (RV w (.bool true)) := by
  have hAw := awake_t w hT
  have hEn := fun W (q : NL W E l) => Env_t E ec l W q hN hsz
  have hSh := fun W => Short_t B bn bc W hbc hb47 fun h0 => by
    obtain ⟨b, o, e, _⟩ := hB h0
    exact ⟨b, o, e⟩
  have hLin := envT_inE l
  have hLsz := envT_szE l hsz
  have hLln := envT_lenE l
  obtain ⟨L, hL⟩ : ∃ L, envT l = L := ⟨_, rfl⟩
  rw [hL] at hEn hLin hLsz hLln
  obtain ⟨N, hNe⟩ : ∃ N, l.length = N := ⟨_, rfl⟩
  rw [hNe] at hEn ⊢
  unfold EW at hEn
  unfold RV at hAw
  have hMk := fun (W : World) (p : Nat) (q : MKm W p (p + 1)) => MakeExpr_t p (p + 1) 4 5 W (by decide) (by decide) q
  unfold MXm at hMk
  replace hAw := Lib.hid hAw
  replace hEn := Lib.hid hEn
  replace hSh := Lib.hid hSh
  replace hMk := Lib.hid hMk
  replace hT := Lib.hid hT
  replace hA := Lib.hid hA
  replace hB := Lib.hid hB
  replace hLin := Lib.hid hLin
  replace hLsz := Lib.hid hLsz
  replace hLln := Lib.hid hLln
  clear hL hNe hN hsz
  go_enter Tryz.func3, Tryz.ntmps3
  go_wp2_with fail
  (with_reducible refine hAw.out.mono ?_)
  rintro e w2 ⟨rfl, hk2⟩
  obtain ⟨gb, hgb⟩ : ∃ gb, w2.heap.size = gb := ⟨_, rfl⟩
  have hgw : w.heap.size ≤ gb := hgb ▸ hk2.size
  replace hk2 := Lib.hid hk2
  go_wp2_with fail
  (with_reducible refine (hSh.out _).mono ?_)
  rintro e w' ⟨n', hn', hn3, rfl, hwq⟩
  replace hwq := hwq.symm
  subst hwq
  have hMK := (hB.out.over hk2.out).mk (c := bc) hn' hn3
  have hbm := (Below.refl w2.heap.size w2).alloc (Nat.le_refl _) (.cells #[.slice B n' bc, .int .i64 0] 28)
  have hk3 := below_call hbm hk2.out
  rw [hgb] at hMK
  go_upto_region 4 with fail
  obtain ⟨w3, hw3⟩ : ∃ W, w2.alloc (.cells #[.slice B n' bc, .int .i64 0] 28) = W := ⟨_, rfl⟩
  rw [hw3] at hMK hk3 ⊢
  clear hbm hk2 hw3
  replace hMK := Lib.hid hMK
  replace hk3 := Lib.hid hk3
  go_wp2_with fail
  (with_reducible refine (hMk.out _ _ hMK.out).mono ?_)
  rintro e w4 ⟨t, A1, c1, rfl, hWt, hdt, hXt, hMK4, hk4⟩
  have hz3 : gb < w3.heap.size := hMK.out.lt
  have hwx := pl_wx t 1 hWt.wx
  have hcn4 := cnt_dep t
  have hXt4 : XQ w4 (· < w4.heap.size) t A1 := hXt.over (fun _ _ => rfl) fun b hb => hb.2
  have hkb4 : Below w.heap.size w w4 := hk3.out.trans (hk4.below hk3.out.size fun b hb => by omega)
  have hpw : 4 ^ (t.dep + 1) ≤ 4 ^ 6 := Nat.pow_le_pow_right (by decide) (by omega)
  have hPl := fun W (q : XQ W (· < W.heap.size) t A1) => Placed_all t A1 c1 1 W (by decide) (by omega) q
  have hOw := fun (A : Option Addr) (c : Nat) W (q : XQ W (· < W.heap.size) (pl t 1) A) => Own_all (pl t 1) A c W q
  unfold PLR at hPl
  unfold TRt at hOw
  obtain ⟨T, hTe⟩ : ∃ T, pl t 1 = T := ⟨_, rfl⟩
  have hTh : T.h = ⟨t.h.k, 1, 1, 1, t.h.s⟩ := by rw [← hTe, pl_h]; rfl
  have hTl : T.args.length = t.args.length := by rw [← hTe, pl_len]
  rw [hTe] at hPl hOw hwx
  obtain ⟨k, hke⟩ : ∃ k, t.h.k = k := ⟨_, rfl⟩
  obtain ⟨s, hse⟩ : ∃ s, t.h.s = s := ⟨_, rfl⟩
  obtain ⟨cn, hcne⟩ : ∃ cn : Int, 1 + (t.cnt : Nat) = cn := ⟨_, rfl⟩
  rw [hke, hse] at hTh hPl
  rw [hcne] at hPl
  clear hWt hdt hXt hMK4 hk4 hcn4 hpw hMK hk3 hTe hcne hke hse hz3 hgb
  replace hPl := Lib.hid hPl
  replace hOw := Lib.hid hOw
  replace hwx := Lib.hid hwx
  replace hXt4 := Lib.hid hXt4
  replace hkb4 := Lib.hid hkb4
  replace hTh := Lib.hid hTh
  replace hTl := Lib.hid hTl
  go_wp2_with fail
  (with_reducible refine (hPl.out _ hXt4.out).mono ?_)
  rintro e w5 ⟨A2, c2, rfl, hX5, hb5⟩
  have hb6 := (Below.refl w5.heap.size w5).alloc (Nat.le_refl _) (.cells #[.int .i64 k, .int .i64 1, .int .i64 1, .int .i64 1, .string s, .slice A2 t.args.length c2] 33)
  have hX6 : XAr (w5.alloc (.cells #[.int .i64 k, .int .i64 1, .int .i64 1, .int .i64 1, .string s, .slice A2 t.args.length c2] 33)) (w5.alloc (.cells #[.int .i64 k, .int .i64 1, .int .i64 1, .int .i64 1, .string s, .slice A2 t.args.length c2] 33)).heap.size T A2 := (XQ.ar (F := fun b => b < w5.heap.size) (fun b hb => hb) (hX5.over (fun _ _ => rfl) fun b hb => hb.2)).up hb6
  have hkb6 := below_call hb6 (below_call hb5 hkb4.out)
  have hM6 : BX (w5.alloc (.cells #[.int .i64 k, .int .i64 1, .int .i64 1, .int .i64 1, .string s, .slice A2 t.args.length c2] 33)) w5.heap.size 33 ⟨k, 1, 1, 1, s⟩ A2 t.args.length c2 := BX.new w5 33 ⟨k, 1, 1, 1, s⟩ A2 t.args.length c2
  obtain ⟨gm, hgm⟩ : ∃ gm, w5.heap.size = gm := ⟨_, rfl⟩
  rw [hgm] at hM6
  clear hXt4 hkb4 hX5 hb5 hb6
  replace hX6 := Lib.hid hX6
  replace hkb6 := Lib.hid hkb6
  replace hM6 := Lib.hid hM6
  go_upto_region 5 with fail
  obtain ⟨w6, hw6⟩ : ∃ W, w5.alloc (.cells #[.int .i64 k, .int .i64 1, .int .i64 1, .int .i64 1, .string s, .slice A2 t.args.length c2] 33) = W := ⟨_, rfl⟩
  rw [hw6] at hX6 hkb6 hM6 ⊢
  clear hw6
  replace hM6 := hM6.out
  rw [← hTh.out, ← hTl.out] at hM6
  replace hM6 := Lib.hid hM6
  have hA6 := Lib.hid (hA.out.over hkb6.out)
  go_wp2_with fail
  (with_reducible refine (hEn.out _ hA6.out).mono ?_)
  rintro e w9 ⟨mo, v2, rfl, hM9, ho9, hb9⟩
  obtain ⟨A9, c9, rfl⟩ := own_shape ho9
  have hNL := (own_NL ho9).1
  have hb10 := (Below.refl w9.heap.size w9).alloc (Nat.le_refl _) (.cells #[.map mo] 39)
  have hV : E1 (w9.alloc (.cells #[.map mo] 39)) w9.heap.size 39 (.map mo) := heap_alloc_new w9 _
  have hM10 := hM9.over (Keep.of_below (F := fun _ => False) hb10) fun _ _ hf => hf
  have hKE : KE w gm w9.heap.size T A2 c2 mo L A9 (w9.alloc (.cells #[.map mo] 39)) :=
    ⟨(hM6.out.ov hb9).ov hb10, (hX6.out.up hb9).up hb10, hV, hM10, ⟨hNL.over hb10, by have := hLln.out; omega, fun j hj => hLsz.out _ (List.getElem_mem hj), fun j hj => hLin.out _ (List.getElem_mem hj)⟩, below_call hb10 (below_call hb9 hkb6.out)⟩
  obtain ⟨gv, hgv⟩ : ∃ gv, w9.heap.size = gv := ⟨_, rfl⟩
  rw [hgv] at hKE
  have hEl := fun (A : Option Addr) (c : Nat) (W : World) (q1 : EnvIs W (.map mo) (keyL L)) (q2 : XAr W W.heap.size T A) => Eval_t T A c mo (keyL L) W q1 q2 hwx.out
  have hRl := fun (W : World) (q1 : NOk W A9 L) (q2 : XAr W W.heap.size T A2) => rev_all A9 L c9 T A2 c2 W q1 q2 hwx.out
  have hre : ev (envB (keyL L)) T = ev (lookN L) T := rfl
  rw [hre] at hEl
  obtain ⟨r, hr⟩ : ∃ r, ev (lookN L) T = r := ⟨_, rfl⟩
  rw [hr] at hEl hRl
  unfold KO at hEl
  unfold RE ov at hRl
  clear hX6 hkb6 hM6 hA6 hb10 hV hM10 hM9 ho9 hb9 hNL hr hre hTh hTl hPl hwx hgw
  replace hEl := Lib.hid hEl
  replace hRl := Lib.hid hRl
  go_upto_region 6 with fail
  obtain ⟨z4, hz4⟩ : ∃ W, w9.alloc (.cells #[.map mo] 39) = W := ⟨_, rfl⟩
  rw [hz4] at hKE ⊢
  clear hz4
  have hK4 := Lib.hid hKE
  clear hKE
  go_cut [10, 11, 12] from 14 (fun xv pv ev wz => xv = .int .i64 r.n ∧ ev = .int .i64 r.e ∧ ∃ g0, pv = .pointer (some ⟨g0, 0, none⟩) ∧ E3 wz g0 30 r.f r.l r.c ∧ Below z4.heap.size z4 wz)
  case first =>
    obtain ⟨u0, hu0⟩ : ∃ W, z4.drew = W := ⟨_, rfl⟩
    have hbd : Below z4.heap.size z4 z4.drew := (Below.refl _ _).drew
    have hS0 := hK4.out.over hbd
    rw [hu0] at hS0 hbd
    have hB0 := hbd
    clear hbd
    have hC0 := (⟨hS0.e, hS0.v⟩ : BX u0 gm 33 T.h A2 T.args.length c2 ∧ E1 u0 gv 39 (.map mo))
    replace hS0 := Lib.hid hS0
    replace hB0 := Lib.hid hB0
    replace hC0 := Lib.hid hC0
    refine region_anyT (n := 11) (S := (fun w' => BX w' gm 33 T.h A2 T.args.length c2 ∧ E1 w' gv 39 (.map mo))) (by kernel_rfl) ?_
    rw [hu0]
    refine anyT_take (i := 0) (v := .agg #[.int .i64 T.h.k, .int .i64 T.h.f, .int .i64 T.h.l, .int .i64 T.h.c, .string T.h.s, .slice A2 T.args.length c2]) rfl (by kernel_rfl) (by kernel_rfl) (fun _ _ _ h => h) (Or.inl ⟨by rfl, ?_⟩) hC0.out ?_
    · intro w' hw'
      obtain ⟨q0, q1, q2, q3, q4, q5⟩ := hw'.1.all
      obtain ⟨s0, sf, sl⟩ := hw'.2.all
      clear hw'
      go_simp
      try with_reducible rfl
    try simp only [Act.put, List.getElem_toArray, List.getElem_cons_zero, List.setIfInBounds_toArray, List.set_cons_zero, List.set_cons_succ]
    refine anyT_take (i := 2) (v := .agg #[.map mo]) rfl (by kernel_rfl) (by kernel_rfl) (fun _ _ _ h => h) (Or.inl ⟨by rfl, ?_⟩) hC0.out ?_
    · intro w' hw'
      obtain ⟨q0, q1, q2, q3, q4, q5⟩ := hw'.1.all
      obtain ⟨s0, sf, sl⟩ := hw'.2.all
      clear hw'
      go_simp
      try with_reducible rfl
    try simp only [Act.put, List.getElem_toArray, List.getElem_cons_zero, List.getElem_cons_succ, List.setIfInBounds_toArray, List.set_cons_zero, List.set_cons_succ]
    clear hC0
    refine anyT_pair (i := 1) (j := 8) (by kernel_rfl) ?_ ?_
    ·
      refine wpOp_step rfl (fun K hK => ?_)
      replace hK := Lib.hid hK
      go_simp
      (with_reducible refine (hOw.out _ _ _ (XAr.q hS0.out.x)).mono ?_)
      rintro e u1 ⟨Ao, co, rfl, hTq, hb⟩
      have hS1 := hS0.out.over hb
      have hB1 := below_call hb hB0.out
      have hT1 : XAr u1 u1.heap.size T Ao := XQ.ar (F := fun b => b < u1.heap.size) (fun b hb => hb) (hTq.over (fun _ _ => rfl) fun b hb => hb.2)
      refine hK.out _ _ ⟨fun _ => ⟨hS1.e, hS1.v⟩, ?_⟩
      clear hK K hb hTq hS0 hB0 
      replace hS1 := Lib.hid hS1
      replace hB1 := Lib.hid hB1
      replace hT1 := Lib.hid hT1
      try simp only [Act.put, List.getElem_toArray, List.getElem_cons_zero, List.getElem_cons_succ, List.setIfInBounds_toArray, List.set_cons_zero, List.set_cons_succ]
      refine anyT_pair (i := 3) (j := 8) (by kernel_rfl) ?_ ?_
      ·
        refine wpOp_step rfl (fun K hK => ?_)
        replace hK := Lib.hid hK
        go_simp
        (with_reducible refine (hEl.out _ _ _ hS1.out.m hT1.out).mono ?_)
        rintro e u2 ⟨rfl, hb⟩
        have hS2 := hS1.out.over hb
        have hB2 := below_call hb hB1.out
        refine hK.out _ _ ⟨fun _ => ⟨hS2.e, hS2.v⟩, ?_⟩
        clear hK K hb hS1 hB1 hT1
        replace hS2 := Lib.hid hS2
        replace hB2 := Lib.hid hB2
        try simp only [Act.put, List.getElem_toArray, List.getElem_cons_zero, List.getElem_cons_succ, List.setIfInBounds_toArray, List.set_cons_zero, List.set_cons_succ]
        refine anyT_take (i := 4) (v := .tuple #[.int .i64 r.n, .agg #[.int .i64 r.f, .int .i64 r.l, .int .i64 r.c], .int .i64 r.e]) rfl (by kernel_rfl) (by kernel_rfl) (fun _ _ _ h => h) (Or.inl ⟨by rfl, ?_⟩) ⟨hS2.out.e, hS2.out.v⟩ ?_
        · intro w' hw'
          obtain ⟨q0, q1, q2, q3, q4, q5⟩ := hw'.1.all
          obtain ⟨s0, sf, sl⟩ := hw'.2.all
          clear hw'
          go_simp
          try with_reducible rfl
        try simp only [Act.put, List.getElem_toArray, List.getElem_cons_zero, List.getElem_cons_succ, List.setIfInBounds_toArray, List.set_cons_zero, List.set_cons_succ]
        refine anyT_take (i := 5) (v := .int .i64 r.n) rfl (by kernel_rfl) (by kernel_rfl) (fun _ _ _ h => h) (Or.inl ⟨by rfl, ?_⟩) ⟨hS2.out.e, hS2.out.v⟩ ?_
        · intro w' hw'
          obtain ⟨q0, q1, q2, q3, q4, q5⟩ := hw'.1.all
          obtain ⟨s0, sf, sl⟩ := hw'.2.all
          clear hw'
          go_simp
          try with_reducible rfl
        try simp only [Act.put, List.getElem_toArray, List.getElem_cons_zero, List.getElem_cons_succ, List.setIfInBounds_toArray, List.set_cons_zero, List.set_cons_succ]
        refine anyT_take (i := 6) (v := .agg #[.int .i64 r.f, .int .i64 r.l, .int .i64 r.c]) rfl (by kernel_rfl) (by kernel_rfl) (fun _ _ _ h => h) (Or.inl ⟨by rfl, ?_⟩) ⟨hS2.out.e, hS2.out.v⟩ ?_
        · intro w' hw'
          obtain ⟨q0, q1, q2, q3, q4, q5⟩ := hw'.1.all
          obtain ⟨s0, sf, sl⟩ := hw'.2.all
          clear hw'
          go_simp
          try with_reducible rfl
        try simp only [Act.put, List.getElem_toArray, List.getElem_cons_zero, List.getElem_cons_succ, List.setIfInBounds_toArray, List.set_cons_zero, List.set_cons_succ]
        refine anyT_take (i := 7) (v := .int .i64 r.e) rfl (by kernel_rfl) (by kernel_rfl) (fun _ _ _ h => h) (Or.inl ⟨by rfl, ?_⟩) ⟨hS2.out.e, hS2.out.v⟩ ?_
        · intro w' hw'
          obtain ⟨q0, q1, q2, q3, q4, q5⟩ := hw'.1.all
          obtain ⟨s0, sf, sl⟩ := hw'.2.all
          clear hw'
          go_simp
          try with_reducible rfl
        try simp only [Act.put, List.getElem_toArray, List.getElem_cons_zero, List.getElem_cons_succ, List.setIfInBounds_toArray, List.set_cons_zero, List.set_cons_succ]
        refine anyT_one (i := 8) (by kernel_rfl) ?_
        refine wpOp_step rfl (fun K hK => ?_)
        replace hK := Lib.hid hK
        have hba := (Below.refl u2.heap.size u2).alloc (Nat.le_refl _) (.cells #[.int .i64 0, .int .i64 0, .int .i64 0] 30)
        have hS3 := hS2.out.over hba
        have hB3 := below_call hba hB2.out
        have hP3 := E3.new u2 30 0 0 0
        obtain ⟨g0, hg0⟩ : ∃ g, u2.heap.size = g := ⟨_, rfl⟩
        rw [hg0] at hP3
        have hg1 : z4.heap.size ≤ g0 := by have := hB2.out.size; omega
        obtain ⟨u3, hu3⟩ : ∃ W, u2.alloc (.cells #[.int .i64 0, .int .i64 0, .int .i64 0] 30) = W := ⟨_, rfl⟩
        rw [hu3] at hS3 hB3 hP3
        go_simp
        refine hK.out _ _ ⟨fun _ => ⟨hS3.e, hS3.v⟩, ?_⟩
        clear hK K hba hS2 hB2 
        replace hS3 := Lib.hid hS3
        replace hB3 := Lib.hid hB3
        replace hP3 := Lib.hid hP3
        try simp only [Act.put, List.getElem_toArray, List.getElem_cons_zero, List.getElem_cons_succ, List.setIfInBounds_toArray, List.set_cons_zero, List.set_cons_succ]
        obtain ⟨p0, p1, p2, pf, pl⟩ := hP3.out.all
        refine anyT_one (i := 9) (by kernel_rfl) ?_
        refine wpOp_step rfl (fun K hK => ?_)
        replace hK := Lib.hid hK
        go_simp
        refine hK.out _ _ ⟨fun _ => ⟨hS3.out.e, hS3.out.v⟩, ?_⟩
        clear hK K
        try simp only [Act.put, List.getElem_toArray, List.getElem_cons_zero, List.getElem_cons_succ, List.setIfInBounds_toArray, List.set_cons_zero, List.set_cons_succ]
        have hbs : Below z4.heap.size z4 (((u3.setCell ⟨g0, 0, none⟩ (.int .i64 r.f)).setCell ⟨g0, 1, none⟩ (.int .i64 r.l)).setCell ⟨g0, 2, none⟩ (.int .i64 r.c)) := hB3.out.trans ((Keep.set3 u3 g0 0 1 2 _ _ _).below (Nat.le_trans hB3.out.size (Nat.le_refl _)) fun b hb => by omega)
        have hPs : E3 (((u3.setCell ⟨g0, 0, none⟩ (.int .i64 r.f)).setCell ⟨g0, 1, none⟩ (.int .i64 r.l)).setCell ⟨g0, 2, none⟩ (.int .i64 r.c)) g0 30 r.f r.l r.c := heap_set _ g0 2 _ _ _ (heap_set _ g0 1 _ _ _ (heap_set _ g0 0 _ _ _ hP3.out))
        have hKs := hK4.out.over hbs
        have hSs := (⟨hKs.e, hKs.v⟩ : BX (((u3.setCell ⟨g0, 0, none⟩ (.int .i64 r.f)).setCell ⟨g0, 1, none⟩ (.int .i64 r.l)).setCell ⟨g0, 2, none⟩ (.int .i64 r.c)) gm 33 T.h A2 T.args.length c2 ∧ E1 (((u3.setCell ⟨g0, 0, none⟩ (.int .i64 r.f)).setCell ⟨g0, 1, none⟩ (.int .i64 r.l)).setCell ⟨g0, 2, none⟩ (.int .i64 r.c)) gv 39 (.map mo))
        clear hKs hS3 hB3 hP3
        replace hbs := Lib.hid hbs
        replace hPs := Lib.hid hPs
        replace hSs := Lib.hid hSs
        refine anyT_one (i := 10) (by kernel_rfl) ?_
        refine wpOp_step rfl (fun K hK => ?_)
        replace hK := Lib.hid hK
        go_simp
        refine hK.out _ _ ⟨fun _ => hSs.out, ?_⟩
        clear hK K hSs p0 p1 p2 pf pl
        try simp only [Act.put, List.getElem_toArray, List.getElem_cons_zero, List.getElem_cons_succ, List.setIfInBounds_toArray, List.set_cons_zero, List.set_cons_succ]
        refine anyT_one (i := 11) (by kernel_rfl) ?_
        refine wpOp_step rfl (fun K hK => ?_)
        replace hK := Lib.hid hK
        go_simp
        refine hK.out _ _ ⟨fun h => absurd h (by decide), ?_⟩
        clear hK K
        try simp only [Act.put, List.getElem_toArray, List.getElem_cons_zero, List.getElem_cons_succ, List.setIfInBounds_toArray, List.set_cons_zero, List.set_cons_succ]
        refine anyT_done (by kernel_rfl) ?_ _
        go_wp2_with fail
        go_meet
        case rel => exact ⟨rfl, rfl, g0, rfl, hPs.out, hbs.out⟩
      ·
        refine wpOp_step rfl (fun K hK => ?_)
        replace hK := Lib.hid hK
        have hba := (Below.refl u1.heap.size u1).alloc (Nat.le_refl _) (.cells #[.int .i64 0, .int .i64 0, .int .i64 0] 30)
        have hS2 := hS1.out.over hba
        have hB2 := below_call hba hB1.out
        have hT2 := hT1.out.up hba
        have hP2 := E3.new u1 30 0 0 0
        obtain ⟨g0, hg0⟩ : ∃ g, u1.heap.size = g := ⟨_, rfl⟩
        rw [hg0] at hP2
        have hg1 : z4.heap.size ≤ g0 := by have := hB1.out.size; omega
        obtain ⟨u2, hu2⟩ : ∃ W, u1.alloc (.cells #[.int .i64 0, .int .i64 0, .int .i64 0] 30) = W := ⟨_, rfl⟩
        rw [hu2] at hS2 hB2 hP2 hT2
        go_simp
        refine hK.out _ _ ⟨fun _ => ⟨hS2.e, hS2.v⟩, ?_⟩
        clear hK K hba hS1 hB1 hT1
        replace hS2 := Lib.hid hS2
        replace hB2 := Lib.hid hB2
        replace hP2 := Lib.hid hP2
        replace hT2 := Lib.hid hT2
        try simp only [Act.put, List.getElem_toArray, List.getElem_cons_zero, List.getElem_cons_succ, List.setIfInBounds_toArray, List.set_cons_zero, List.set_cons_succ]
        refine anyT_one (i := 3) (by kernel_rfl) ?_
        refine wpOp_step rfl (fun K hK => ?_)
        replace hK := Lib.hid hK
        go_simp
        (with_reducible refine (hEl.out _ _ _ hS2.out.m hT2.out).mono ?_)
        rintro e u3 ⟨rfl, hb⟩
        have hS3 := hS2.out.over hb
        have hB3 := below_call hb hB2.out
        have hP3 := hP2.out.over hb
        refine hK.out _ _ ⟨fun _ => ⟨hS3.e, hS3.v⟩, ?_⟩
        clear hK K hb hS2 hB2 hP2 hT2
        replace hS3 := Lib.hid hS3
        replace hB3 := Lib.hid hB3
        replace hP3 := Lib.hid hP3
        try simp only [Act.put, List.getElem_toArray, List.getElem_cons_zero, List.getElem_cons_succ, List.setIfInBounds_toArray, List.set_cons_zero, List.set_cons_succ]
        refine anyT_take (i := 4) (v := .tuple #[.int .i64 r.n, .agg #[.int .i64 r.f, .int .i64 r.l, .int .i64 r.c], .int .i64 r.e]) rfl (by kernel_rfl) (by kernel_rfl) (fun _ _ _ h => h) (Or.inl ⟨by rfl, ?_⟩) ⟨hS3.out.e, hS3.out.v⟩ ?_
        · intro w' hw'
          obtain ⟨q0, q1, q2, q3, q4, q5⟩ := hw'.1.all
          obtain ⟨s0, sf, sl⟩ := hw'.2.all
          clear hw'
          go_simp
          try with_reducible rfl
        try simp only [Act.put, List.getElem_toArray, List.getElem_cons_zero, List.getElem_cons_succ, List.setIfInBounds_toArray, List.set_cons_zero, List.set_cons_succ]
        refine anyT_take (i := 5) (v := .int .i64 r.n) rfl (by kernel_rfl) (by kernel_rfl) (fun _ _ _ h => h) (Or.inl ⟨by rfl, ?_⟩) ⟨hS3.out.e, hS3.out.v⟩ ?_
        · intro w' hw'
          obtain ⟨q0, q1, q2, q3, q4, q5⟩ := hw'.1.all
          obtain ⟨s0, sf, sl⟩ := hw'.2.all
          clear hw'
          go_simp
          try with_reducible rfl
        try simp only [Act.put, List.getElem_toArray, List.getElem_cons_zero, List.getElem_cons_succ, List.setIfInBounds_toArray, List.set_cons_zero, List.set_cons_succ]
        refine anyT_take (i := 6) (v := .agg #[.int .i64 r.f, .int .i64 r.l, .int .i64 r.c]) rfl (by kernel_rfl) (by kernel_rfl) (fun _ _ _ h => h) (Or.inl ⟨by rfl, ?_⟩) ⟨hS3.out.e, hS3.out.v⟩ ?_
        · intro w' hw'
          obtain ⟨q0, q1, q2, q3, q4, q5⟩ := hw'.1.all
          obtain ⟨s0, sf, sl⟩ := hw'.2.all
          clear hw'
          go_simp
          try with_reducible rfl
        try simp only [Act.put, List.getElem_toArray, List.getElem_cons_zero, List.getElem_cons_succ, List.setIfInBounds_toArray, List.set_cons_zero, List.set_cons_succ]
        refine anyT_take (i := 7) (v := .int .i64 r.e) rfl (by kernel_rfl) (by kernel_rfl) (fun _ _ _ h => h) (Or.inl ⟨by rfl, ?_⟩) ⟨hS3.out.e, hS3.out.v⟩ ?_
        · intro w' hw'
          obtain ⟨q0, q1, q2, q3, q4, q5⟩ := hw'.1.all
          obtain ⟨s0, sf, sl⟩ := hw'.2.all
          clear hw'
          go_simp
          try with_reducible rfl
        try simp only [Act.put, List.getElem_toArray, List.getElem_cons_zero, List.getElem_cons_succ, List.setIfInBounds_toArray, List.set_cons_zero, List.set_cons_succ]
        obtain ⟨p0, p1, p2, pf, pl⟩ := hP3.out.all
        refine anyT_one (i := 9) (by kernel_rfl) ?_
        refine wpOp_step rfl (fun K hK => ?_)
        replace hK := Lib.hid hK
        go_simp
        refine hK.out _ _ ⟨fun _ => ⟨hS3.out.e, hS3.out.v⟩, ?_⟩
        clear hK K
        try simp only [Act.put, List.getElem_toArray, List.getElem_cons_zero, List.getElem_cons_succ, List.setIfInBounds_toArray, List.set_cons_zero, List.set_cons_succ]
        have hbs : Below z4.heap.size z4 (((u3.setCell ⟨g0, 0, none⟩ (.int .i64 r.f)).setCell ⟨g0, 1, none⟩ (.int .i64 r.l)).setCell ⟨g0, 2, none⟩ (.int .i64 r.c)) := hB3.out.trans ((Keep.set3 u3 g0 0 1 2 _ _ _).below (Nat.le_trans hB3.out.size (Nat.le_refl _)) fun b hb => by omega)
        have hPs : E3 (((u3.setCell ⟨g0, 0, none⟩ (.int .i64 r.f)).setCell ⟨g0, 1, none⟩ (.int .i64 r.l)).setCell ⟨g0, 2, none⟩ (.int .i64 r.c)) g0 30 r.f r.l r.c := heap_set _ g0 2 _ _ _ (heap_set _ g0 1 _ _ _ (heap_set _ g0 0 _ _ _ hP3.out))
        have hKs := hK4.out.over hbs
        have hSs := (⟨hKs.e, hKs.v⟩ : BX (((u3.setCell ⟨g0, 0, none⟩ (.int .i64 r.f)).setCell ⟨g0, 1, none⟩ (.int .i64 r.l)).setCell ⟨g0, 2, none⟩ (.int .i64 r.c)) gm 33 T.h A2 T.args.length c2 ∧ E1 (((u3.setCell ⟨g0, 0, none⟩ (.int .i64 r.f)).setCell ⟨g0, 1, none⟩ (.int .i64 r.l)).setCell ⟨g0, 2, none⟩ (.int .i64 r.c)) gv 39 (.map mo))
        clear hKs hS3 hB3 hP3
        replace hbs := Lib.hid hbs
        replace hPs := Lib.hid hPs
        replace hSs := Lib.hid hSs
        refine anyT_one (i := 10) (by kernel_rfl) ?_
        refine wpOp_step rfl (fun K hK => ?_)
        replace hK := Lib.hid hK
        go_simp
        refine hK.out _ _ ⟨fun _ => hSs.out, ?_⟩
        clear hK K hSs p0 p1 p2 pf pl
        try simp only [Act.put, List.getElem_toArray, List.getElem_cons_zero, List.getElem_cons_succ, List.setIfInBounds_toArray, List.set_cons_zero, List.set_cons_succ]
        refine anyT_one (i := 11) (by kernel_rfl) ?_
        refine wpOp_step rfl (fun K hK => ?_)
        replace hK := Lib.hid hK
        go_simp
        refine hK.out _ _ ⟨fun h => absurd h (by decide), ?_⟩
        clear hK K
        try simp only [Act.put, List.getElem_toArray, List.getElem_cons_zero, List.getElem_cons_succ, List.setIfInBounds_toArray, List.set_cons_zero, List.set_cons_succ]
        refine anyT_done (by kernel_rfl) ?_ _
        go_wp2_with fail
        go_meet
        case rel => exact ⟨rfl, rfl, g0, rfl, hPs.out, hbs.out⟩
    ·
      refine wpOp_step rfl (fun K hK => ?_)
      replace hK := Lib.hid hK
      have hba := (Below.refl u0.heap.size u0).alloc (Nat.le_refl _) (.cells #[.int .i64 0, .int .i64 0, .int .i64 0] 30)
      have hS1 := hS0.out.over hba
      have hB1 := below_call hba hB0.out
      have hP1 := E3.new u0 30 0 0 0
      obtain ⟨g0, hg0⟩ : ∃ g, u0.heap.size = g := ⟨_, rfl⟩
      rw [hg0] at hP1
      have hg1 : z4.heap.size ≤ g0 := by have := hB0.out.size; omega
      obtain ⟨u1, hu1⟩ : ∃ W, u0.alloc (.cells #[.int .i64 0, .int .i64 0, .int .i64 0] 30) = W := ⟨_, rfl⟩
      rw [hu1] at hS1 hB1 hP1
      go_simp
      refine hK.out _ _ ⟨fun _ => ⟨hS1.e, hS1.v⟩, ?_⟩
      clear hK K hba hS0 hB0 
      replace hS1 := Lib.hid hS1
      replace hB1 := Lib.hid hB1
      replace hP1 := Lib.hid hP1
      try simp only [Act.put, List.getElem_toArray, List.getElem_cons_zero, List.getElem_cons_succ, List.setIfInBounds_toArray, List.set_cons_zero, List.set_cons_succ]
      refine anyT_one (i := 1) (by kernel_rfl) ?_
      refine wpOp_step rfl (fun K hK => ?_)
      replace hK := Lib.hid hK
      go_simp
      (with_reducible refine (hOw.out _ _ _ (XAr.q hS1.out.x)).mono ?_)
      rintro e u2 ⟨Ao, co, rfl, hTq, hb⟩
      have hS2 := hS1.out.over hb
      have hB2 := below_call hb hB1.out
      have hP2 := hP1.out.over hb
      have hT2 : XAr u2 u2.heap.size T Ao := XQ.ar (F := fun b => b < u2.heap.size) (fun b hb => hb) (hTq.over (fun _ _ => rfl) fun b hb => hb.2)
      refine hK.out _ _ ⟨fun _ => ⟨hS2.e, hS2.v⟩, ?_⟩
      clear hK K hb hTq hS1 hB1 hP1
      replace hS2 := Lib.hid hS2
      replace hB2 := Lib.hid hB2
      replace hP2 := Lib.hid hP2
      replace hT2 := Lib.hid hT2
      try simp only [Act.put, List.getElem_toArray, List.getElem_cons_zero, List.getElem_cons_succ, List.setIfInBounds_toArray, List.set_cons_zero, List.set_cons_succ]
      refine anyT_one (i := 3) (by kernel_rfl) ?_
      refine wpOp_step rfl (fun K hK => ?_)
      replace hK := Lib.hid hK
      go_simp
      (with_reducible refine (hEl.out _ _ _ hS2.out.m hT2.out).mono ?_)
      rintro e u3 ⟨rfl, hb⟩
      have hS3 := hS2.out.over hb
      have hB3 := below_call hb hB2.out
      have hP3 := hP2.out.over hb
      refine hK.out _ _ ⟨fun _ => ⟨hS3.e, hS3.v⟩, ?_⟩
      clear hK K hb hS2 hB2 hP2 hT2
      replace hS3 := Lib.hid hS3
      replace hB3 := Lib.hid hB3
      replace hP3 := Lib.hid hP3
      try simp only [Act.put, List.getElem_toArray, List.getElem_cons_zero, List.getElem_cons_succ, List.setIfInBounds_toArray, List.set_cons_zero, List.set_cons_succ]
      refine anyT_take (i := 4) (v := .tuple #[.int .i64 r.n, .agg #[.int .i64 r.f, .int .i64 r.l, .int .i64 r.c], .int .i64 r.e]) rfl (by kernel_rfl) (by kernel_rfl) (fun _ _ _ h => h) (Or.inl ⟨by rfl, ?_⟩) ⟨hS3.out.e, hS3.out.v⟩ ?_
      · intro w' hw'
        obtain ⟨q0, q1, q2, q3, q4, q5⟩ := hw'.1.all
        obtain ⟨s0, sf, sl⟩ := hw'.2.all
        clear hw'
        go_simp
        try with_reducible rfl
      try simp only [Act.put, List.getElem_toArray, List.getElem_cons_zero, List.getElem_cons_succ, List.setIfInBounds_toArray, List.set_cons_zero, List.set_cons_succ]
      refine anyT_take (i := 5) (v := .int .i64 r.n) rfl (by kernel_rfl) (by kernel_rfl) (fun _ _ _ h => h) (Or.inl ⟨by rfl, ?_⟩) ⟨hS3.out.e, hS3.out.v⟩ ?_
      · intro w' hw'
        obtain ⟨q0, q1, q2, q3, q4, q5⟩ := hw'.1.all
        obtain ⟨s0, sf, sl⟩ := hw'.2.all
        clear hw'
        go_simp
        try with_reducible rfl
      try simp only [Act.put, List.getElem_toArray, List.getElem_cons_zero, List.getElem_cons_succ, List.setIfInBounds_toArray, List.set_cons_zero, List.set_cons_succ]
      refine anyT_take (i := 6) (v := .agg #[.int .i64 r.f, .int .i64 r.l, .int .i64 r.c]) rfl (by kernel_rfl) (by kernel_rfl) (fun _ _ _ h => h) (Or.inl ⟨by rfl, ?_⟩) ⟨hS3.out.e, hS3.out.v⟩ ?_
      · intro w' hw'
        obtain ⟨q0, q1, q2, q3, q4, q5⟩ := hw'.1.all
        obtain ⟨s0, sf, sl⟩ := hw'.2.all
        clear hw'
        go_simp
        try with_reducible rfl
      try simp only [Act.put, List.getElem_toArray, List.getElem_cons_zero, List.getElem_cons_succ, List.setIfInBounds_toArray, List.set_cons_zero, List.set_cons_succ]
      refine anyT_take (i := 7) (v := .int .i64 r.e) rfl (by kernel_rfl) (by kernel_rfl) (fun _ _ _ h => h) (Or.inl ⟨by rfl, ?_⟩) ⟨hS3.out.e, hS3.out.v⟩ ?_
      · intro w' hw'
        obtain ⟨q0, q1, q2, q3, q4, q5⟩ := hw'.1.all
        obtain ⟨s0, sf, sl⟩ := hw'.2.all
        clear hw'
        go_simp
        try with_reducible rfl
      try simp only [Act.put, List.getElem_toArray, List.getElem_cons_zero, List.getElem_cons_succ, List.setIfInBounds_toArray, List.set_cons_zero, List.set_cons_succ]
      obtain ⟨p0, p1, p2, pf, pl⟩ := hP3.out.all
      refine anyT_one (i := 9) (by kernel_rfl) ?_
      refine wpOp_step rfl (fun K hK => ?_)
      replace hK := Lib.hid hK
      go_simp
      refine hK.out _ _ ⟨fun _ => ⟨hS3.out.e, hS3.out.v⟩, ?_⟩
      clear hK K
      try simp only [Act.put, List.getElem_toArray, List.getElem_cons_zero, List.getElem_cons_succ, List.setIfInBounds_toArray, List.set_cons_zero, List.set_cons_succ]
      have hbs : Below z4.heap.size z4 (((u3.setCell ⟨g0, 0, none⟩ (.int .i64 r.f)).setCell ⟨g0, 1, none⟩ (.int .i64 r.l)).setCell ⟨g0, 2, none⟩ (.int .i64 r.c)) := hB3.out.trans ((Keep.set3 u3 g0 0 1 2 _ _ _).below (Nat.le_trans hB3.out.size (Nat.le_refl _)) fun b hb => by omega)
      have hPs : E3 (((u3.setCell ⟨g0, 0, none⟩ (.int .i64 r.f)).setCell ⟨g0, 1, none⟩ (.int .i64 r.l)).setCell ⟨g0, 2, none⟩ (.int .i64 r.c)) g0 30 r.f r.l r.c := heap_set _ g0 2 _ _ _ (heap_set _ g0 1 _ _ _ (heap_set _ g0 0 _ _ _ hP3.out))
      have hKs := hK4.out.over hbs
      have hSs := (⟨hKs.e, hKs.v⟩ : BX (((u3.setCell ⟨g0, 0, none⟩ (.int .i64 r.f)).setCell ⟨g0, 1, none⟩ (.int .i64 r.l)).setCell ⟨g0, 2, none⟩ (.int .i64 r.c)) gm 33 T.h A2 T.args.length c2 ∧ E1 (((u3.setCell ⟨g0, 0, none⟩ (.int .i64 r.f)).setCell ⟨g0, 1, none⟩ (.int .i64 r.l)).setCell ⟨g0, 2, none⟩ (.int .i64 r.c)) gv 39 (.map mo))
      clear hKs hS3 hB3 hP3
      replace hbs := Lib.hid hbs
      replace hPs := Lib.hid hPs
      replace hSs := Lib.hid hSs
      refine anyT_one (i := 10) (by kernel_rfl) ?_
      refine wpOp_step rfl (fun K hK => ?_)
      replace hK := Lib.hid hK
      go_simp
      refine hK.out _ _ ⟨fun _ => hSs.out, ?_⟩
      clear hK K hSs p0 p1 p2 pf pl
      try simp only [Act.put, List.getElem_toArray, List.getElem_cons_zero, List.getElem_cons_succ, List.setIfInBounds_toArray, List.set_cons_zero, List.set_cons_succ]
      refine anyT_one (i := 11) (by kernel_rfl) ?_
      refine wpOp_step rfl (fun K hK => ?_)
      replace hK := Lib.hid hK
      go_simp
      refine hK.out _ _ ⟨fun h => absurd h (by decide), ?_⟩
      clear hK K
      try simp only [Act.put, List.getElem_toArray, List.getElem_cons_zero, List.getElem_cons_succ, List.setIfInBounds_toArray, List.set_cons_zero, List.set_cons_succ]
      refine anyT_done (by kernel_rfl) ?_ _
      go_wp2_with fail
      go_meet
      case rel => exact ⟨rfl, rfl, g0, rfl, hPs.out, hbs.out⟩
  case rest =>
    obtain ⟨rfl, rfl, gP, rfl, hP, hbz⟩ := hcut
    have hK5 := hK4.out.over hbz
    obtain ⟨e0, e1, e2, e3, e4, e5⟩ := hK5.e.all
    have el := hK5.e.lt
    replace hK5 := Lib.hid hK5
    replace hP := Lib.hid hP
    clear hK4 hbz
    go_wp2_with fail
    (with_reducible refine (hRl.out _ hK5.out.n hK5.out.x).mono ?_)
    rintro e y1 ⟨rfl, hb1⟩
    have hP1 := hP.out.over hb1
    obtain ⟨p0, p1, p2, pf, pl⟩ := hP1.all
    have hkf := Lib.hid (below_call hb1 hK5.out.k)
    clear hb1 hK5 hP hP1 e0 e1 e2 e3 e4 e5 el
    go_wp2_with fail
    go_ret
    exact ⟨rfl, by have hq := hkf.out; have hz := hq.size; go_grown⟩
end Go.Proofs.YtcifljbcoioogaaGreatDoor
