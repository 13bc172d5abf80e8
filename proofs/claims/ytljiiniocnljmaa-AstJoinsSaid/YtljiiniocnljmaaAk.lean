/-
  The walk of AstAsks.
-/
import Derived.Test.YtljiiniocnljmaaAi
import Derived.Deep.Cut
namespace Go.Proofs.Ytljiiniocnljmaa
open Go.RowKit Go.Lib
/-- Both trees in memory, behind the makers. -/
structure AS (w : World) (gx ge : Nat) (t : XT) (n : Nat) (A1 : Option Addr) (c1 : Nat) (A2 : Option Addr) (c2 : Nat) (a : World) : Prop where
  x : BX a gx 32 t.h A1 n c1
  e : BX a ge 36 t.h A2 n c2
  qx : XQ a (· < a.heap.size) t A1
  qe : XQ a (· < a.heap.size) t A2
  k : Below w.heap.size w a
theorem XQ.belowed' {w w' : World} {t : XT} {A : Option Addr} (h : XQ w (· < w.heap.size) t A) (k : Below w.heap.size w w') : XQ w' (· < w'.heap.size) t A := h.over (fun _b hb => k.block _b hb) (fun _b hb => Nat.lt_of_lt_of_le hb k.size)
theorem AS.over {w a b : World} {gx ge n c1 c2 : Nat} {t : XT} {A1 A2 : Option Addr} (h : AS w gx ge t n A1 c1 A2 c2 a) (k : Below a.heap.size a b) : AS w gx ge t n A1 c1 A2 c2 b :=
  ⟨h.x.ov k, h.e.ov k, h.qx.belowed' k, h.qe.belowed' k, below_call k h.k⟩
set_option maxRecDepth 100000 in
set_option maxHeartbeats 12800000 in
theorem asks_t (B : Option Addr) (bn bc : Nat) (w : World) (hB : BY w B bn) (hbc : bn ≤ bc) (hb47 : bc ≤ 9223372036854775807) :
    Calls Try.prog 3 #[.slice B bn bc] w (RV w (.bool true)) := by
  have hAw := awake_t w
  have hSh := fun W => Short_t B bn bc W hbc hb47 fun h0 => by
    obtain ⟨b, o, e, _⟩ := hB h0
    exact ⟨b, o, e⟩
  unfold RV at hAw
  have hMk := fun (W : World) (p : Nat) (q : MKm W p (p + 1)) => MakeExpr_t p (p + 1) 4 5 W (by decide) (by decide) q
  unfold MXm at hMk
  replace hAw := Lib.hid hAw
  replace hSh := Lib.hid hSh
  replace hMk := Lib.hid hMk
  replace hB := Lib.hid hB
  go_enter Try.func3, Try.ntmps3
  go_wp2_with fail
  (with_reducible refine hAw.out.mono ?_)
  rintro e w2 ⟨rfl, hk2⟩
  obtain ⟨gb, hgb⟩ : ∃ gb, w2.heap.size = gb := ⟨_, rfl⟩
  have hgw : w.heap.size ≤ gb := hgb ▸ hk2.size
  replace hk2 := Lib.hid hk2
  go_wp2_with fail
  (with_reducible refine (hSh.out _).mono ?_)
  rintro e w' ⟨n', hn', hn3, rfl, hwq⟩
  replace hwq := hwq.symm
  subst hwq
  have hMK := (hB.out.over hk2.out).mk (c := bc) hn' hn3
  have hbm := (Below.refl w2.heap.size w2).alloc (Nat.le_refl _) (.cells #[.slice B n' bc, .int .i64 0] 27)
  have hk3 := below_call hbm hk2.out
  rw [hgb] at hMK
  go_upto_region 4 with fail
  obtain ⟨w3, hw3⟩ : ∃ W, w2.alloc (.cells #[.slice B n' bc, .int .i64 0] 27) = W := ⟨_, rfl⟩
  rw [hw3] at hMK hk3 ⊢
  clear hbm hk2 hw3
  replace hMK := Lib.hid hMK
  replace hk3 := Lib.hid hk3
  go_wp2_with fail
  (with_reducible refine (hMk.out _ _ hMK.out).mono ?_)
  rintro e w4 ⟨t, A1, c1, rfl, hWt, hdt, hXt, hMK4, hk4⟩
  have hz3 : gb < w3.heap.size := hMK.out.lt
  have hXt4 : XQ w4 (· < w4.heap.size) t A1 := hXt.over (fun _ _ => rfl) fun b hb => hb.2
  have hkb4 : Below w.heap.size w w4 := hk3.out.trans (hk4.below hk3.out.size fun b hb => by omega)
  have hnd : t.nds ≤ 5000 := by
    have h1 := nds_dep t
    have h2 : 4 ^ (t.dep + 1) ≤ 4 ^ 6 := Nat.pow_le_pow_right (by decide) (by omega)
    omega
  have hb5 := (Below.refl w4.heap.size w4).alloc (Nat.le_refl _) (.cells #[.int .i64 t.h.k, .int .i64 t.h.f, .int .i64 t.h.l, .int .i64 t.h.c, .string t.h.s, .slice A1 t.args.length c1] 32)
  have hx5 := BX.new w4 32 t.h A1 t.args.length c1
  have hq5 := hXt4.belowed' hb5
  have hk5 := below_call hb5 hkb4
  have hOw := fun W (q : XQ W (· < W.heap.size) t A1) => Own_all t A1 c1 W q
  unfold TRt at hOw
  obtain ⟨gx, hgx⟩ : ∃ g, w4.heap.size = g := ⟨_, rfl⟩
  rw [hgx] at hx5
  have hd9 : t.dep ≤ 900 := by omega
  have hn9 : t.nds ≤ 1000000 := by omega
  have hNa := fun (A : Option Addr) (c : Nat) W (q : XQ W (· < W.heap.size) t A) => Names_t t A c W q hd9 hn9
  have hDe := fun (A : Option Addr) (c : Nat) W (q : XQ W (· < W.heap.size) t A) => Depth_t t A c W q hd9 hn9
  have hNo := fun (A : Option Addr) (c : Nat) W (q : XQ W (· < W.heap.size) t A) => names_all t A c none 0 [] W q hWt ⟨SN.nil _ _, fun _ => rfl, Nat.le_refl _, Nat.zero_le _, fun ad e => by cases e⟩ (by simpa using hn9)
  have hRd := fun (A : Option Addr) (c : Nat) W (q : XQ W (· < W.heap.size) t A) => rdep_all t A c W q hd9
  rw [← nms_nmp] at hNo
  unfold RV at hDe hRd
  obtain ⟨L, hLe⟩ : ∃ L, insAll [] t.nms = L := ⟨_, rfl⟩
  have hLl : L.length ≤ 1000000 := by
    have h1 := insAll_len t.nmp []
    have h2 := nmp_len t
    rw [← nms_nmp] at h1 h2
    rw [hLe] at h1
    simp at h1
    omega
  rw [hLe] at hNa hNo
  obtain ⟨D, hD⟩ : ∃ D : Int, (t.dep : Int) + 1 = D := ⟨_, rfl⟩
  rw [hD] at hDe hRd
  clear hWt hdt hXt hMK4 hk4 hMK hk3 hz3 hgb hXt4 hkb4 hb5 hnd hLe hD hd9 hn9
  go_upto_region 5 with fail
  obtain ⟨w5, hw5⟩ : ∃ W, w4.alloc (.cells #[.int .i64 t.h.k, .int .i64 t.h.f, .int .i64 t.h.l, .int .i64 t.h.c, .string t.h.s, .slice A1 t.args.length c1] 32) = W := ⟨_, rfl⟩
  rw [hw5] at hx5 hq5 hk5 ⊢
  obtain ⟨n, hn⟩ : ∃ n, t.args.length = n := ⟨_, rfl⟩
  rw [hn] at hx5 hOw hNa hNo hDe hRd ⊢
  clear hw5
  replace hNo : ∀ (A : Option Addr) (c : Nat) W, XQ W (· < W.heap.size) t A → Calls Try.prog 10 #[.slice none 0 0, .agg #[.int .i64 t.h.k, .int .i64 t.h.f, .int .i64 t.h.l, .int .i64 t.h.c, .string t.h.s, .slice A n c]] W fun e w' => ∃ O' oc', e = .returned (.slice O' L.length oc') ∧ SL w' O' oc' L ∧ Below W.heap.size W w' := hNo
  obtain ⟨m0, m1, m2, m3, m4, m5⟩ := hx5.all
  have ml := hx5.lt
  replace hx5 := Lib.hid hx5
  replace hq5 := Lib.hid hq5
  replace hk5 := Lib.hid hk5
  replace hOw := Lib.hid hOw
  replace hNa := Lib.hid hNa
  replace hDe := Lib.hid hDe
  replace hNo := Lib.hid hNo
  replace hRd := Lib.hid hRd
  replace hLl := Lib.hid hLl
  go_wp2_with fail
  (with_reducible refine (hOw.out _ hq5.out).mono ?_)
  rintro e w6 ⟨A2, c2, rfl, hX6, hb6⟩
  have hb7 := (Below.refl w6.heap.size w6).alloc (Nat.le_refl _) (.cells #[.int .i64 t.h.k, .int .i64 t.h.f, .int .i64 t.h.l, .int .i64 t.h.c, .string t.h.s, .slice A2 n c2] 36)
  have he7 := BX.new w6 36 t.h A2 n c2
  have hX6' : XQ w6 (· < w6.heap.size) t A2 := hX6.over (fun _ _ => rfl) fun b hb => hb.2
  obtain ⟨ge, hge⟩ : ∃ g, w6.heap.size = g := ⟨_, rfl⟩
  rw [hge] at he7
  have hAS : AS w gx ge t n A1 c1 A2 c2 (w6.alloc (.cells #[.int .i64 t.h.k, .int .i64 t.h.f, .int .i64 t.h.l, .int .i64 t.h.c, .string t.h.s, .slice A2 n c2] 36)) := ⟨(hx5.out.ov hb6).ov hb7, he7, (hq5.out.belowed' hb6).belowed' hb7, hX6'.belowed' hb7, below_call hb7 (below_call hb6 hk5.out)⟩
  clear hx5 hq5 hk5 hX6 hb6 hb7 he7 hX6' m0 m1 m2 m3 m4 m5 ml hOw
  go_upto_region 6 with fail
  obtain ⟨z, hz⟩ : ∃ W, w6.alloc (.cells #[.int .i64 t.h.k, .int .i64 t.h.f, .int .i64 t.h.l, .int .i64 t.h.c, .string t.h.s, .slice A2 n c2] 36) = W := ⟨_, rfl⟩
  rw [hz] at hAS ⊢
  clear hz hge hgx
  replace hAS := Lib.hid hAS
  go_cut [6, 7] from 9 (fun lv wv wz => ∃ A6 c6 A7 c7, lv = .slice A6 L.length c6 ∧ wv = .slice A7 L.length c7 ∧ SN wz A6 L ∧ SN wz A7 L ∧ AS w gx ge t n A1 c1 A2 c2 wz)
  case first =>
    obtain ⟨u0, hu0⟩ : ∃ W, z.drew = W := ⟨_, rfl⟩
    have hbd : Below z.heap.size z z.drew := (Below.refl _ _).drew
    have hS0 := hAS.out.over hbd
    rw [hu0] at hbd hS0
    have hC0 := Lib.hid (⟨hS0.e, hS0.x⟩ : BX u0 ge 36 t.h A2 n c2 ∧ BX u0 gx 32 t.h A1 n c1)
    replace hS0 := Lib.hid hS0
    refine region_anyT (n := 5) (S := (fun w' => BX w' ge 36 t.h A2 n c2 ∧ BX w' gx 32 t.h A1 n c1)) (by kernel_rfl) ?_
    rw [hu0]
    clear hbd
    refine anyT_take (i := 0) (v := .agg #[.int .i64 t.h.k, .int .i64 t.h.f, .int .i64 t.h.l, .int .i64 t.h.c, .string t.h.s, .slice A2 n c2]) rfl (by kernel_rfl) (by kernel_rfl) (fun _ _ _ h => h) (Or.inl ⟨by rfl, ?_⟩) hC0.out ?_
    · intro w' hw'
      obtain ⟨q0, q1, q2, q3, q4, q5⟩ := hw'.1.all
      obtain ⟨s0, s1, s2, s3, s4, s5⟩ := hw'.2.all
      clear hw'
      go_simp
      try with_reducible rfl
    try simp only [Act.put, List.getElem_toArray, List.getElem_cons_zero, List.setIfInBounds_toArray, List.set_cons_zero, List.set_cons_succ]
    refine anyT_take (i := 2) (v := .agg #[.int .i64 t.h.k, .int .i64 t.h.f, .int .i64 t.h.l, .int .i64 t.h.c, .string t.h.s, .slice A1 n c1]) rfl (by kernel_rfl) (by kernel_rfl) (fun _ _ _ h => h) (Or.inl ⟨by rfl, ?_⟩) hC0.out ?_
    · intro w' hw'
      obtain ⟨q0, q1, q2, q3, q4, q5⟩ := hw'.1.all
      obtain ⟨s0, s1, s2, s3, s4, s5⟩ := hw'.2.all
      clear hw'
      go_simp
      try with_reducible rfl
    try simp only [Act.put, List.getElem_toArray, List.getElem_cons_zero, List.getElem_cons_succ, List.setIfInBounds_toArray, List.set_cons_zero, List.set_cons_succ]
    clear hC0
    refine anyT_one (i := 1) (by kernel_rfl) ?_
    refine wpOp_step rfl (fun K hK => ?_)
    replace hK := Lib.hid hK
    go_simp
    (with_reducible refine (hNa.out _ _ _ hS0.out.qe).mono ?_)
    rintro e u1 ⟨v, rfl, hv⟩
    have hb := hv.2
    obtain ⟨A6, c6, rfl, hN1⟩ := hv.sn
    have hS1 := hS0.out.over hb
    refine hK.out _ _ ⟨fun _ => ⟨hS1.e, hS1.x⟩, ?_⟩
    clear hK K hb hv hS0 
    replace hS1 := Lib.hid hS1
    replace hN1 := Lib.hid hN1
    try simp only [Act.put, List.getElem_toArray, List.getElem_cons_zero, List.getElem_cons_succ, List.setIfInBounds_toArray, List.set_cons_zero, List.set_cons_succ]
    refine anyT_one (i := 3) (by kernel_rfl) ?_
    refine wpOp_step rfl (fun K hK => ?_)
    replace hK := Lib.hid hK
    go_simp
    (with_reducible refine (hNo.out _ _ _ hS1.out.qx).mono ?_)
    rintro e u2 ⟨A7, c7, rfl, hv, hb⟩
    have hW2 := hv.s
    have hS2 := hS1.out.over hb
    have hN2 := hN1.out.over hb
    refine hK.out _ _ ⟨fun _ => ⟨hS2.e, hS2.x⟩, ?_⟩
    clear hK K hb hv hS1 hN1
    replace hS2 := Lib.hid hS2
    replace hN2 := Lib.hid hN2
    replace hW2 := Lib.hid hW2
    try simp only [Act.put, List.getElem_toArray, List.getElem_cons_zero, List.getElem_cons_succ, List.setIfInBounds_toArray, List.set_cons_zero, List.set_cons_succ]
    refine anyT_one (i := 4) (by kernel_rfl) ?_
    refine wpOp_step rfl (fun K hK => ?_)
    replace hK := Lib.hid hK
    go_simp
    refine hK.out _ _ ⟨fun _ => ⟨hS2.out.e, hS2.out.x⟩, ?_⟩
    clear hK K
    try simp only [Act.put, List.getElem_toArray, List.getElem_cons_zero, List.getElem_cons_succ, List.setIfInBounds_toArray, List.set_cons_zero, List.set_cons_succ]
    refine anyT_one (i := 5) (by kernel_rfl) ?_
    refine wpOp_step rfl (fun K hK => ?_)
    replace hK := Lib.hid hK
    go_simp
    refine hK.out _ _ ⟨fun _ => ⟨hS2.out.e, hS2.out.x⟩, ?_⟩
    clear hK K
    try simp only [Act.put, List.getElem_toArray, List.getElem_cons_zero, List.getElem_cons_succ, List.setIfInBounds_toArray, List.set_cons_zero, List.set_cons_succ]
    refine anyT_done (by kernel_rfl) ?_ _
    go_wp2_with fail
    go_meet
    case rel => exact ⟨A6, c6, A7, c7, rfl, rfl, hN2.out, hW2.out, hS2.out⟩
  case rest =>
    obtain ⟨A6, c6, A7, c7, rfl, rfl, hS6, hS7, hAS2⟩ := hcut
    clear hAS hNa hNo
    rename World => z2
    replace hS6 := Lib.hid hS6
    replace hS7 := Lib.hid hS7
    replace hAS := Lib.hid hAS2
    clear hAS2
    go_upto_region 7 with fail
    go_cut [34] from 9 (fun cv wz => cv = .bool false ∧ SN wz A6 L ∧ SN wz A7 L ∧ Below w.heap.size w wz)
    case first =>
      obtain ⟨u0, hu0⟩ : ∃ W, z2.drew = W := ⟨_, rfl⟩
      have hbd : Below z2.heap.size z2 z2.drew := (Below.refl _ _).drew
      have hS0 := hAS.out.over hbd
      rw [hu0] at hbd hS0
      have hN0 := Lib.hid (hS6.out.over hbd)
      have hW0 := Lib.hid (hS7.out.over hbd)
      have hC0 := Lib.hid (⟨hS0.e, hS0.x⟩ : BX u0 ge 36 t.h A2 n c2 ∧ BX u0 gx 32 t.h A1 n c1)
      replace hS0 := Lib.hid hS0
      refine region_anyT (n := 11) (S := (fun w' => BX w' ge 36 t.h A2 n c2 ∧ BX w' gx 32 t.h A1 n c1)) (by kernel_rfl) ?_
      rw [hu0]
      clear hbd
      refine anyT_take (i := 0) (v := .agg #[.int .i64 t.h.k, .int .i64 t.h.f, .int .i64 t.h.l, .int .i64 t.h.c, .string t.h.s, .slice A2 n c2]) rfl (by kernel_rfl) (by kernel_rfl) (fun _ _ _ h => h) (Or.inl ⟨by rfl, ?_⟩) hC0.out ?_
      · intro w' hw'
        obtain ⟨q0, q1, q2, q3, q4, q5⟩ := hw'.1.all
        obtain ⟨s0, s1, s2, s3, s4, s5⟩ := hw'.2.all
        clear hw'
        go_simp
        try with_reducible rfl
      try simp only [Act.put, List.getElem_toArray, List.getElem_cons_zero, List.setIfInBounds_toArray, List.set_cons_zero, List.set_cons_succ]
      refine anyT_take (i := 2) (v := .agg #[.int .i64 t.h.k, .int .i64 t.h.f, .int .i64 t.h.l, .int .i64 t.h.c, .string t.h.s, .slice A1 n c1]) rfl (by kernel_rfl) (by kernel_rfl) (fun _ _ _ h => h) (Or.inl ⟨by rfl, ?_⟩) hC0.out ?_
      · intro w' hw'
        obtain ⟨q0, q1, q2, q3, q4, q5⟩ := hw'.1.all
        obtain ⟨s0, s1, s2, s3, s4, s5⟩ := hw'.2.all
        clear hw'
        go_simp
        try with_reducible rfl
      try simp only [Act.put, List.getElem_toArray, List.getElem_cons_zero, List.getElem_cons_succ, List.setIfInBounds_toArray, List.set_cons_zero, List.set_cons_succ]
      clear hC0
      refine anyT_one (i := 1) (by kernel_rfl) ?_
      refine wpOp_step rfl (fun K hK => ?_)
      replace hK := Lib.hid hK
      go_simp
      (with_reducible refine (hDe.out _ _ _ hS0.out.qe).mono ?_)
      rintro e u1 ⟨rfl, hb⟩
      have hS1 := hS0.out.over hb
      have hN1 := hN0.out.over hb
      have hW1 := hW0.out.over hb
      refine hK.out _ _ ⟨fun _ => ⟨hS1.e, hS1.x⟩, ?_⟩
      clear hK K hb hS0 hN0 hW0
      replace hS1 := Lib.hid hS1
      replace hN1 := Lib.hid hN1
      replace hW1 := Lib.hid hW1
      try simp only [Act.put, List.getElem_toArray, List.getElem_cons_zero, List.getElem_cons_succ, List.setIfInBounds_toArray, List.set_cons_zero, List.set_cons_succ]
      refine anyT_one (i := 3) (by kernel_rfl) ?_
      refine wpOp_step rfl (fun K hK => ?_)
      replace hK := Lib.hid hK
      go_simp
      (with_reducible refine (hRd.out _ _ _ hS1.out.qx).mono ?_)
      rintro e u2 ⟨rfl, hb⟩
      have hS2 := hS1.out.over hb
      have hN2 := hN1.out.over hb
      have hW2 := hW1.out.over hb
      refine hK.out _ _ ⟨fun _ => ⟨hS2.e, hS2.x⟩, ?_⟩
      clear hK K hb hS1 hN1 hW1
      replace hS2 := Lib.hid hS2
      replace hN2 := Lib.hid hN2
      replace hW2 := Lib.hid hW2
      try simp only [Act.put, List.getElem_toArray, List.getElem_cons_zero, List.getElem_cons_succ, List.setIfInBounds_toArray, List.set_cons_zero, List.set_cons_succ]
      refine anyT_take (i := 4) (v := .bool false) rfl (by kernel_rfl) (by kernel_rfl) (fun _ _ _ h => h) (Or.inl ⟨by rfl, ?_⟩) ⟨hS2.out.e, hS2.out.x⟩ ?_
      · intro w' hw'
        obtain ⟨q0, q1, q2, q3, q4, q5⟩ := hw'.1.all
        obtain ⟨s0, s1, s2, s3, s4, s5⟩ := hw'.2.all
        clear hw'
        go_simp
        try with_reducible rfl
      try simp only [Act.put, List.getElem_toArray, List.getElem_cons_zero, List.getElem_cons_succ, List.setIfInBounds_toArray, List.set_cons_zero, List.set_cons_succ]
      refine anyT_take (i := 5) (v := .bool false) rfl (by kernel_rfl) (by kernel_rfl) (fun _ _ _ h => h) (Or.inl ⟨by rfl, ?_⟩) ⟨hS2.out.e, hS2.out.x⟩ ?_
      · intro w' hw'
        obtain ⟨q0, q1, q2, q3, q4, q5⟩ := hw'.1.all
        obtain ⟨s0, s1, s2, s3, s4, s5⟩ := hw'.2.all
        clear hw'
        go_simp
        try with_reducible rfl
      try simp only [Act.put, List.getElem_toArray, List.getElem_cons_zero, List.getElem_cons_succ, List.setIfInBounds_toArray, List.set_cons_zero, List.set_cons_succ]
      refine anyT_take (i := 6) (v := .slice A6 L.length c6) rfl (by kernel_rfl) (by kernel_rfl) (fun _ _ _ h => h) (Or.inl ⟨by rfl, ?_⟩) ⟨hS2.out.e, hS2.out.x⟩ ?_
      · intro w' hw'
        obtain ⟨q0, q1, q2, q3, q4, q5⟩ := hw'.1.all
        obtain ⟨s0, s1, s2, s3, s4, s5⟩ := hw'.2.all
        clear hw'
        go_simp
        try with_reducible rfl
      try simp only [Act.put, List.getElem_toArray, List.getElem_cons_zero, List.getElem_cons_succ, List.setIfInBounds_toArray, List.set_cons_zero, List.set_cons_succ]
      refine anyT_take (i := 7) (v := .int .i64 (L.length : Int)) rfl (by kernel_rfl) (by kernel_rfl) (fun _ _ _ h => h) (Or.inl ⟨by rfl, ?_⟩) ⟨hS2.out.e, hS2.out.x⟩ ?_
      · intro w' hw'
        obtain ⟨q0, q1, q2, q3, q4, q5⟩ := hw'.1.all
        obtain ⟨s0, s1, s2, s3, s4, s5⟩ := hw'.2.all
        clear hw'
        go_simp
        try with_reducible rfl
      try simp only [Act.put, List.getElem_toArray, List.getElem_cons_zero, List.getElem_cons_succ, List.setIfInBounds_toArray, List.set_cons_zero, List.set_cons_succ]
      refine anyT_take (i := 8) (v := .slice A7 L.length c7) rfl (by kernel_rfl) (by kernel_rfl) (fun _ _ _ h => h) (Or.inl ⟨by rfl, ?_⟩) ⟨hS2.out.e, hS2.out.x⟩ ?_
      · intro w' hw'
        obtain ⟨q0, q1, q2, q3, q4, q5⟩ := hw'.1.all
        obtain ⟨s0, s1, s2, s3, s4, s5⟩ := hw'.2.all
        clear hw'
        go_simp
        try with_reducible rfl
      try simp only [Act.put, List.getElem_toArray, List.getElem_cons_zero, List.getElem_cons_succ, List.setIfInBounds_toArray, List.set_cons_zero, List.set_cons_succ]
      refine anyT_take (i := 9) (v := .int .i64 (L.length : Int)) rfl (by kernel_rfl) (by kernel_rfl) (fun _ _ _ h => h) (Or.inl ⟨by rfl, ?_⟩) ⟨hS2.out.e, hS2.out.x⟩ ?_
      · intro w' hw'
        obtain ⟨q0, q1, q2, q3, q4, q5⟩ := hw'.1.all
        obtain ⟨s0, s1, s2, s3, s4, s5⟩ := hw'.2.all
        clear hw'
        go_simp
        try with_reducible rfl
      try simp only [Act.put, List.getElem_toArray, List.getElem_cons_zero, List.getElem_cons_succ, List.setIfInBounds_toArray, List.set_cons_zero, List.set_cons_succ]
      refine anyT_take (i := 10) (v := .bool false) rfl (by kernel_rfl) (by kernel_rfl) (fun _ _ _ h => h) (Or.inl ⟨by rfl, ?_⟩) ⟨hS2.out.e, hS2.out.x⟩ ?_
      · intro w' hw'
        obtain ⟨q0, q1, q2, q3, q4, q5⟩ := hw'.1.all
        obtain ⟨s0, s1, s2, s3, s4, s5⟩ := hw'.2.all
        clear hw'
        go_simp
        try with_reducible rfl
      try simp only [Act.put, List.getElem_toArray, List.getElem_cons_zero, List.getElem_cons_succ, List.setIfInBounds_toArray, List.set_cons_zero, List.set_cons_succ]
      refine anyT_one (i := 11) (by kernel_rfl) ?_
      refine wpOp_step rfl (fun K hK => ?_)
      replace hK := Lib.hid hK
      go_simp
      refine hK.out _ _ ⟨fun h => absurd h (by decide), ?_⟩
      clear hK K
      try simp only [Act.put, List.getElem_toArray, List.getElem_cons_zero, List.getElem_cons_succ, List.setIfInBounds_toArray, List.set_cons_zero, List.set_cons_succ]
      refine anyT_done (by kernel_rfl) ?_ _
      go_wp2_with fail
      go_meet
      case rel => exact ⟨rfl, hN2.out, hW2.out, hS2.out.k⟩
    case rest =>
      obtain ⟨rfl, hS6, hS7, hKz⟩ := hcut
      rename World => z3
      clear hAS hDe hRd
      obtain ⟨N, hN⟩ : ∃ N, L.length = N := ⟨_, rfl⟩
      rw [hN]
      replace hS6 := Lib.hid hS6
      replace hS7 := Lib.hid hS7
      replace hKz := Lib.hid hKz
      replace hN := Lib.hid hN
      go_wp2_with fail
      go_loopw [37] (fun iv wr => ∃ (k : Nat), k ≤ N ∧ iv = .int .i64 (k : Int) ∧ SN wr A6 L ∧ SN wr A7 L ∧ Below w.heap.size w wr) (fun iv _ => N - (RowKit.intOf iv).toNat)
      case atStart => exact ⟨0, Nat.zero_le _, rfl, hS6.out, hS7.out, hKz.out⟩
      case round =>
        obtain ⟨k, hk, rfl, hr6, hr7, hrk⟩ := hrel
        clear hS6 hS7 hKz
        by_cases hlt : k < N
        · have hkl : k < L.length := by rw [hN.out]; exact hlt
          have hw1 : IntKind.i64.wrap ((k : Int) + 1) = (k : Int) + 1 := IntWalk.i64_in _ (by have := hLl.out; have := hN.out; omega)
          obtain ⟨b6, o6, rfl, hb6, hc6⟩ := hr6 (by omega)
          obtain ⟨b7, o7, rfl, hb7, hc7⟩ := hr7 (by omega)
          have hk6 := hc6 k hkl
          have hk7 := hc7 k hkl
          obtain ⟨E, hE⟩ : ∃ E : ByteArray, ⟨(L[k]).toArray⟩ = E := ⟨_, rfl⟩
          have hk6' : wr.cell? ⟨b6, o6 + k, none⟩ = some (.string E) := by rw [hk6, ← hE]
          have hk7' : wr.cell? ⟨b7, o7 + k, none⟩ = some (.string E) := by rw [hk7, ← hE]
          have hee : (E.toList == E.toList) = true := by simp
          replace hr6 := Lib.hid hr6
          replace hr7 := Lib.hid hr7
          replace hrk := Lib.hid hrk
          clear hc6 hc7 hk6 hk7 hE
          go_wp2_with fail
          go_quiet (fail)
          go_wp2_with fail
          go_roundw
          case rel => exact ⟨k + 1, by omega, by go_num, hr6.out.over (bdn wr nq), hr7.out.over (bdn wr nq), below_call (bdn wr nq) hrk.out⟩
          case measure => (simp [RowKit.intOf]; omega)
        · obtain rfl : k = N := by omega
          replace hrk := Lib.hid hrk
          clear hr6 hr7
          go_wp2_with fail
          go_ret
          exact ⟨rfl, by have hq := hrk.out; have hzq := hq.size; go_grown⟩
end Go.Proofs.Ytljiiniocnljmaa
