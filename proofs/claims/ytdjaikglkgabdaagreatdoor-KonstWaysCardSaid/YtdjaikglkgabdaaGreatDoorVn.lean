/-
  KonstWays: up to the names.
-/
import Derived.Test.YtdjaikglkgabdaaGreatDoorVj
import Derived.Deep.Cut
import Derived.Test.YtdjaikglkgabdaaGreatDoorRt
namespace Go.Proofs.YtdjaikglkgabdaaGreatDoor
open Go.RowKit Go.Lib Go.Maps
/-- Behind the beginning: the bad name's variable, the tree's, the names', the tables. -/
structure KS (w : World) (gb ge gv : Nat) (t : XT) (A : Option Addr) (c : Nat) (mo : Option Nat) (es : List (List UInt8 × Int)) (a : World) : Prop where
  b : BX a gb 36 badH none 0 0
  e : BX a ge 36 t.h A t.args.length c
  x : XAr a a.heap.size t A
  v : E1 a gv 26 (.map mo)
  m : EnvIs a (.map mo) es
  t : LT a
  k : Below w.heap.size w a
theorem KS.over {w a b : World} {gb ge gv : Nat} {t : XT} {A : Option Addr} {c : Nat} {mo : Option Nat} {es : List (List UInt8 × Int)} (h : KS w gb ge gv t A c mo es a) (k : Below a.heap.size a b) : KS w gb ge gv t A c mo es b :=
  ⟨h.b.ov k, h.e.ov k, (h.x.over k).mono k.size, h.v.over k, h.m.over (Keep.of_below (F := fun _ => False) k) (fun _ _ hf => hf), h.t.on k, below_call k h.k⟩
theorem KS.drew {w a : World} {gb ge gv : Nat} {t : XT} {A : Option Addr} {c : Nat} {mo : Option Nat} {es : List (List UInt8 × Int)} (h : KS w gb ge gv t A c mo es a) : KS w gb ge gv t A c mo es a.drew := h.over ((Below.refl _ a).drew)
theorem KS.alloc {w a : World} {gb ge gv : Nat} {t : XT} {A : Option Addr} {c : Nat} {mo : Option Nat} {es : List (List UInt8 × Int)} (h : KS w gb ge gv t A c mo es a) (o : Obj) : KS w gb ge gv t A c mo es (a.alloc o) := h.over ((Below.refl _ a).alloc (Nat.le_refl _) o)
/-- Bytes in a slice. -/
def BY (w : World) (A : Option Addr) (n : Nat) : Prop := 0 < n → ∃ b o : Nat, A = some ⟨b, o, none⟩ ∧ b < w.heap.size ∧ ∀ i, i < n → ∃ u : Nat, u < 256 ∧ w.cell? ⟨b, o + i, none⟩ = some (.int .u8 (u : Int))
theorem BY.over {w w' : World} {A : Option Addr} {n : Nat} (h : BY w A n) (k : Below w.heap.size w w') : BY w' A n := fun h0 => by
  obtain ⟨b, o, e, hb, hc⟩ := h h0
  exact ⟨b, o, e, Nat.lt_of_lt_of_le hb k.size, fun i hi => by obtain ⟨u, hu, h1⟩ := hc i hi; exact ⟨u, hu, (k.cell (p := ⟨b, o + i, none⟩) hb).trans h1⟩⟩
theorem BY.mk {w : World} {A : Option Addr} {n n' c : Nat} (h : BY w A n) (hn : n' ≤ n) (h3 : n' ≤ 300) : MKm (w.alloc (.cells #[.slice A n' c, .int .i64 0] 49)) w.heap.size (w.heap.size + 1) := by
  refine ⟨by omega, by simp, A, n', c, 0, heap_alloc_new w _, Nat.zero_le _, h3, fun h0 => ?_⟩
  obtain ⟨b, o, e, hb, hc⟩ := h (by omega)
  refine ⟨b, o, e, by omega, by omega, fun i hi => ?_⟩
  obtain ⟨u, hu, h1⟩ := hc i (by omega)
  exact ⟨u, hu, (((Below.refl _ w).alloc (Nat.le_refl _) _).cell (p := ⟨b, o + i, none⟩) hb).trans h1⟩
theorem XAr.up {w w' : World} {t : XT} {A : Option Addr} (h : XAr w w.heap.size t A) (k : Below w.heap.size w w') : XAr w' w'.heap.size t A := (h.over k).mono k.size
def WAY (k : Int) (t : XT) : XT := .t (opH 5 ⟨#[]⟩) (XVal k) (if k = 0 then .z badH else t) (if k = 0 then t else .z badH)
theorem WAY_z (t : XT) : WAY 0 t = .t (opH 5 ⟨#[]⟩) (XVal 0) (.z badH) t := rfl
theorem WAY_n (k : Int) (h : ¬ k = 0) (t : XT) : WAY k t = .t (opH 5 ⟨#[]⟩) (XVal k) t (.z badH) := by unfold WAY; rw [if_neg h, if_neg h]
theorem WAY_wx (k : Int) (hk : InR k) (t : XT) (ht : WX t) : WX (WAY k t) := by
  unfold WAY
  by_cases h : k = 0
  · rw [if_pos h, if_pos h]; exact wx_way _ k hk _ _ wx_bad ht
  · rw [if_neg h, if_neg h]; exact wx_way _ k hk _ _ ht wx_bad
theorem WAY_ev (env : ByteArray → Option Int) (k : Int) (hk : InR k) (t : XT) : ev env (WAY k t) = ev env t := by
  unfold WAY
  rw [ev_way env k hk]
  by_cases h : k = 0
  · rw [if_pos h, if_pos h]
  · rw [if_neg h, if_neg h]
/-- Behind both evaluations: their places too. -/
structure K2 (w : World) (gb ge gv : Nat) (t : XT) (A : Option Addr) (c : Nat) (mo : Option Nat) (es : List (List UInt8 × Int)) (gP gQ : Nat) (f l cc : Int) (a : World) : Prop where
  ks : KS w gb ge gv t A c mo es a
  p : E3 a gP 30 f l cc
  q : E3 a gQ 30 f l cc
theorem K2.over {w a b : World} {gb ge gv : Nat} {t : XT} {A : Option Addr} {c : Nat} {mo : Option Nat} {es : List (List UInt8 × Int)} {gP gQ : Nat} {f l cc : Int} (h : K2 w gb ge gv t A c mo es gP gQ f l cc a) (k : Below a.heap.size a b) : K2 w gb ge gv t A c mo es gP gQ f l cc b := ⟨h.ks.over k, h.p.over k, h.q.over k⟩
set_option maxRecDepth 100000 in
set_option maxHeartbeats 12800000 in
theorem ways_t (B : Option Addr) (bn bc : Nat) (n : Int) (E : Option Addr) (ec : Nat) (l : List NE) (w : World) (hT : LT w) (hB : BY w B bn) (hbc : bn ≤ bc) (hb47 : bc ≤ 9223372036854775807) (hA : NL w E l) (hN : l.length ≤ 9223372036854775807) (hsz : ∀ x ∈ l, x.1.size ≤ maxLen) :
    Calls Tryz.prog 6 #[.slice B bn bc, .int .i64 n, .slice E l.length ec] w (RV w (.bool true)) := by
  have hAw := awake_t w hT
  have hEn := fun W (q : NL W E l) => Env_t E ec l W q hN hsz
  have hSh := fun W => Short_t B bn bc W hbc hb47 fun h0 => by
    obtain ⟨b, o, e, _⟩ := hB h0
    exact ⟨b, o, e⟩
  have hci : InR (clampN n) := clamp_in n
  have hcn : max (-2147483648) (min n 2147483647) = clampN n := rfl
  obtain ⟨L, hL⟩ : ∃ L, envT l = L := ⟨_, rfl⟩
  obtain ⟨kk, hkk⟩ : ∃ kk, clampN n = kk := ⟨_, rfl⟩
  rw [hL] at hEn
  rw [hkk] at hci hcn
  obtain ⟨N, hNe⟩ : ∃ N, l.length = N := ⟨_, rfl⟩
  rw [hNe] at hEn ⊢
  unfold EW at hEn
  unfold RV at hAw
  have hMk := fun (W : World) (p : Nat) (q : MKm W p (p + 1)) => MakeExpr_t p (p + 1) 3 4 W (by decide) (by decide) q
  unfold MXm at hMk
  have hFi := fun (W : World) (mo : Option Nat) (q : EnvIs W (.map mo) (keyL L)) => Find_t ⟨#[110, 111, 32, 115, 117, 99, 104, 32, 110, 97, 109, 101]⟩ (.map mo) (keyL L) W (by decide) q
  unfold FI at hFi
  obtain ⟨oo, hoo⟩ : ∃ oo, envL (keyL L) ((⟨#[110, 111, 32, 115, 117, 99, 104, 32, 110, 97, 109, 101]⟩ : ByteArray)).data.toList = oo := ⟨_, rfl⟩
  rw [hoo] at hFi
  replace hAw := Lib.hid hAw
  replace hEn := Lib.hid hEn
  replace hSh := Lib.hid hSh
  replace hMk := Lib.hid hMk
  replace hFi := Lib.hid hFi
  replace hT := Lib.hid hT
  replace hA := Lib.hid hA
  replace hB := Lib.hid hB
  replace hci := Lib.hid hci
  replace hoo := Lib.hid hoo
  clear hkk hL hNe hN hsz
  go_enter Tryz.func6, Tryz.ntmps6
  go_wp2_with fail
  (with_reducible refine hAw.out.mono ?_)
  rintro e w1 ⟨rfl, hb1⟩
  -- bad
  have hbx : BX (w1.alloc (.cells #[.int .i64 2, .int .i64 1, .int .i64 1, .int .i64 99, .string ⟨#[110, 111, 32, 115, 117, 99, 104, 32, 110, 97, 109, 101]⟩, .slice none 0 0] 36)) w1.heap.size 36 badH none 0 0 := BX.new w1 36 badH none 0 0
  have hk2 := below_call ((Below.refl w1.heap.size w1).alloc (Nat.le_refl _) (.cells #[.int .i64 2, .int .i64 1, .int .i64 1, .int .i64 99, .string ⟨#[110, 111, 32, 115, 117, 99, 104, 32, 110, 97, 109, 101]⟩, .slice none 0 0] 36)) hb1
  obtain ⟨gb, hgb⟩ : ∃ gb, w1.heap.size = gb := ⟨_, rfl⟩
  have hgw : w.heap.size ≤ gb := hgb ▸ hb1.size
  rw [hgb] at hbx
  have hz2 : (w1.alloc (.cells #[.int .i64 2, .int .i64 1, .int .i64 1, .int .i64 99, .string ⟨#[110, 111, 32, 115, 117, 99, 104, 32, 110, 97, 109, 101]⟩, .slice none 0 0] 36)).heap.size = gb + 1 := by simp [hgb]
  clear hb1
  go_upto_region 4 with fail
  obtain ⟨w2, hw2⟩ : ∃ W, w1.alloc (.cells #[.int .i64 2, .int .i64 1, .int .i64 1, .int .i64 99, .string ⟨#[110, 111, 32, 115, 117, 99, 104, 32, 110, 97, 109, 101]⟩, .slice none 0 0] 36) = W := ⟨_, rfl⟩
  rw [hw2] at hbx hk2 hz2 ⊢
  clear hw2
  replace hbx := Lib.hid hbx
  replace hk2 := Lib.hid hk2
  go_wp2_with fail
  (with_reducible refine (hSh.out _).mono ?_)
  rintro e w' ⟨n', hn', hn3, rfl, hwq⟩
  replace hwq := hwq.symm
  subst hwq
  have hMK := (hB.out.over hk2.out).mk (c := bc) hn' hn3
  have hbm := (Below.refl w2.heap.size w2).alloc (Nat.le_refl _) (.cells #[.slice B n' bc, .int .i64 0] 49)
  have hbx3 := hbx.out.al (.cells #[.slice B n' bc, .int .i64 0] 49)
  have hk3 := below_call hbm hk2.out
  rw [hz2] at hMK
  go_upto_region 5 with fail
  obtain ⟨w3, hw3⟩ : ∃ W, w2.alloc (.cells #[.slice B n' bc, .int .i64 0] 49) = W := ⟨_, rfl⟩
  rw [hw3] at hMK hbx3 hk3 ⊢
  clear hbm hbx hk2 hw3
  replace hMK := Lib.hid hMK
  replace hbx3 := Lib.hid hbx3
  replace hk3 := Lib.hid hk3
  go_wp2_with fail
  (with_reducible refine (hMk.out _ _ hMK.out).mono ?_)
  rintro e w4 ⟨t, A1, c1, rfl, hWt, hdt, hXt, hMK4, hk4⟩
  have hz3 : gb + 1 < w3.heap.size := hMK.out.lt
  have hbx4 := hbx3.out.keep hk4 (by omega)
  have hwx := pl_wx t 1 hWt.wx
  have hcn4 := cnt_dep t
  have hXt4 : XQ w4 (· < w4.heap.size) t A1 := hXt.over (fun _ _ => rfl) fun b hb => hb.2
  have hkb4 : Below w.heap.size w w4 := hk3.out.trans (hk4.below hk3.out.size fun b hb => by omega)
  have hpw : 4 ^ (t.dep + 1) ≤ 4 ^ 5 := Nat.pow_le_pow_right (by decide) (by omega)
  have hPl := fun W (q : XQ W (· < W.heap.size) t A1) => Placed_all t A1 c1 1 W (by decide) (by omega) q
  have hOw := fun (A : Option Addr) (c : Nat) W (q : XQ W (· < W.heap.size) (pl t 1) A) => Own_all (pl t 1) A c W q
  unfold PLR at hPl
  unfold TRt at hOw
  simp only [pl_h, pl_len, plH] at hOw
  obtain ⟨T, hTe⟩ : ∃ T, pl t 1 = T := ⟨_, rfl⟩
  have hTh : T.h = ⟨t.h.k, 1, 1, 1, t.h.s⟩ := by rw [← hTe, pl_h]; rfl
  have hTl : T.args.length = t.args.length := by rw [← hTe, pl_len]
  rw [hTe] at hPl hOw hwx
  obtain ⟨k, hke⟩ : ∃ k, t.h.k = k := ⟨_, rfl⟩
  obtain ⟨s, hse⟩ : ∃ s, t.h.s = s := ⟨_, rfl⟩
  obtain ⟨cn, hcne⟩ : ∃ cn : Int, 1 + (t.cnt : Nat) = cn := ⟨_, rfl⟩
  rw [hke, hse] at hTh hPl hOw
  rw [hcne] at hPl
  clear hWt hdt hXt hMK4 hk4 hcn4 hpw hMK hbx3 hk3 hTe hcne hke hse hz2 hz3
  replace hPl := Lib.hid hPl
  replace hOw := Lib.hid hOw
  replace hbx4 := Lib.hid hbx4
  replace hwx := Lib.hid hwx
  replace hXt4 := Lib.hid hXt4
  replace hkb4 := Lib.hid hkb4
  replace hTh := Lib.hid hTh
  replace hTl := Lib.hid hTl
  go_wp2_with fail
  (with_reducible refine (hPl.out _ hXt4.out).mono ?_)
  rintro e w5 ⟨A2, c2, rfl, hX5, hb5⟩
  have hb6 := (Below.refl w5.heap.size w5).alloc (Nat.le_refl _) (.cells #[.int .i64 k, .int .i64 1, .int .i64 1, .int .i64 1, .string s, .slice A2 t.args.length c2] 52)
  have hX6 : XQ (w5.alloc (.cells #[.int .i64 k, .int .i64 1, .int .i64 1, .int .i64 1, .string s, .slice A2 t.args.length c2] 52)) (· < (w5.alloc (.cells #[.int .i64 k, .int .i64 1, .int .i64 1, .int .i64 1, .string s, .slice A2 t.args.length c2] 52)).heap.size) T A2 := hX5.over (fun b hb => hb6.block b hb.2) fun b hb => Nat.lt_of_lt_of_le hb.2 hb6.size
  have hbx6 := (hbx4.out.ov hb5).ov hb6
  have hkb6 := below_call hb6 (below_call hb5 hkb4.out)
  have hM6 : BX (w5.alloc (.cells #[.int .i64 k, .int .i64 1, .int .i64 1, .int .i64 1, .string s, .slice A2 t.args.length c2] 52)) w5.heap.size 52 ⟨k, 1, 1, 1, s⟩ A2 t.args.length c2 := BX.new w5 52 ⟨k, 1, 1, 1, s⟩ A2 t.args.length c2
  obtain ⟨gm, hgm⟩ : ∃ gm, w5.heap.size = gm := ⟨_, rfl⟩
  rw [hgm] at hM6
  clear hbx4 hXt4 hkb4 hX5 hb5 hb6
  replace hX6 := Lib.hid hX6
  replace hbx6 := Lib.hid hbx6
  replace hkb6 := Lib.hid hkb6
  replace hM6 := Lib.hid hM6
  go_upto_region 6 with fail
  obtain ⟨w6, hw6⟩ : ∃ W, w5.alloc (.cells #[.int .i64 k, .int .i64 1, .int .i64 1, .int .i64 1, .string s, .slice A2 t.args.length c2] 52) = W := ⟨_, rfl⟩
  rw [hw6] at hX6 hbx6 hkb6 hM6 ⊢
  clear hw6
  obtain ⟨m0, m1, m2, m3, m4, m5⟩ := hM6.out.all
  have ml := hM6.out.lt
  clear hM6
  go_wp2_with fail
  (with_reducible refine (hOw.out _ _ _ hX6.out).mono ?_)
  rintro e w7 ⟨A3, c3, rfl, hX7, hb7⟩
  have hbx7 := hbx6.out.ov hb7
  have hkb7 := below_call hb7 hkb6.out
  have hb8 := (Below.refl w7.heap.size w7).alloc (Nat.le_refl _) (.cells #[.int .i64 k, .int .i64 1, .int .i64 1, .int .i64 1, .string s, .slice A3 t.args.length c3] 36)
  have hX8 : XAr (w7.alloc (.cells #[.int .i64 k, .int .i64 1, .int .i64 1, .int .i64 1, .string s, .slice A3 t.args.length c3] 36)) w7.heap.size T A3 := (XQ.ar (F := fun b => b < w7.heap.size) (fun b hb => hb) (hX7.over (fun _ _ => rfl) fun b hb => hb.2)).over hb8
  have hbx8 := hbx7.ov hb8
  have hkb8 := below_call hb8 hkb7
  have hE8 : BX (w7.alloc (.cells #[.int .i64 k, .int .i64 1, .int .i64 1, .int .i64 1, .string s, .slice A3 t.args.length c3] 36)) w7.heap.size 36 ⟨k, 1, 1, 1, s⟩ A3 t.args.length c3 := BX.new w7 36 ⟨k, 1, 1, 1, s⟩ A3 t.args.length c3
  have hsz8 : (w7.alloc (.cells #[.int .i64 k, .int .i64 1, .int .i64 1, .int .i64 1, .string s, .slice A3 t.args.length c3] 36)).heap.size = w7.heap.size + 1 := by simp
  obtain ⟨ge, hge⟩ : ∃ ge, w7.heap.size = ge := ⟨_, rfl⟩
  rw [hge] at hX8 hE8 hsz8
  clear hX6 hbx6 hkb6 m0 m1 m2 m3 m4 m5 ml hX7 hb7 hbx7 hkb7 hb8 hOw hPl
  replace hX8 := Lib.hid hX8
  replace hbx8 := Lib.hid hbx8
  replace hkb8 := Lib.hid hkb8
  replace hE8 := Lib.hid hE8
  go_upto_region 7 with fail
  obtain ⟨w8, hw8⟩ : ∃ W, w7.alloc (.cells #[.int .i64 k, .int .i64 1, .int .i64 1, .int .i64 1, .string s, .slice A3 t.args.length c3] 36) = W := ⟨_, rfl⟩
  rw [hw8] at hX8 hbx8 hkb8 hE8 hsz8 ⊢
  clear hw8
  have hA8 := Lib.hid (hA.out.over hkb8.out)
  replace hsz8 := Lib.hid hsz8
  go_wp2_with fail
  (with_reducible refine (hEn.out _ hA8.out).mono ?_)
  rintro e w9 ⟨mo, v2, rfl, hM9, ho9, hb9⟩
  obtain ⟨A9, c9, rfl⟩ := own_shape ho9
  have hb10 := (Below.refl w9.heap.size w9).alloc (Nat.le_refl _) (.cells #[.map mo] 26)
  have hV : E1 (w9.alloc (.cells #[.map mo] 26)) w9.heap.size 26 (.map mo) := heap_alloc_new w9 _
  have hM10 := hM9.over (Keep.of_below (F := fun _ => False) hb10) fun _ _ hf => hf
  have hKS : KS w gb ge w9.heap.size T A3 c3 mo (keyL L) (w9.alloc (.cells #[.map mo] 26)) := by
    have hk10 := below_call hb10 (below_call hb9 hkb8.out)
    refine ⟨(hbx8.out.ov hb9).ov hb10, ?_, ?_, hV, hM10, hT.out.on hk10, hk10⟩
    · rw [hTh.out, hTl.out]; exact (hE8.out.ov hb9).ov hb10
    · have h8 := hsz8.out
      have h9 := hb9.size
      have h10 := hb10.size
      exact ((hX8.out.over (hb9.mono (by omega))).over (hb10.mono (by omega))).mono (by omega)
  obtain ⟨gv, hgv⟩ : ∃ gv, w9.heap.size = gv := ⟨_, rfl⟩
  rw [hgv] at hKS
  clear hbx8 hX8 hkb8 hE8 hsz8 hA8 hb10 hV hM10 hM9 ho9 hb9
  go_upto_region 8 with fail
  obtain ⟨w10, hw10⟩ : ∃ W, w9.alloc (.cells #[.map mo] 26) = W := ⟨_, rfl⟩
  rw [hw10] at hKS ⊢
  clear hw10
  obtain ⟨v0, vf, vl⟩ := hKS.v.all
  obtain ⟨b0, b1, b2, b3, b4, b5⟩ := hKS.b.all
  have bl := hKS.b.lt
  replace hKS := Lib.hid hKS
  dsimp only [badH] at b0 b1 b2 b3 b4 b5
  unfold noB at b4
  go_wp2_with fail
  (with_reducible refine (hFi.out _ _ hKS.out.m).mono ?_)
  rintro e w11 ⟨rfl, hb11⟩
  have hKS11 := Lib.hid (hKS.out.over hb11)
  clear hb11 hKS v0 vf vl b0 b1 b2 b3 b4 b5 bl
  cases oo with
  | some q =>
    go_wp2_with fail
    go_ret
    exact ⟨rfl, hKS11.out.k⟩
  | none =>
    have hnb : envB (keyL L) noB = none := hoo.out
    have hkk2 := hci.out
    have hcv : min (max kk (-2147483648)) 2147483647 = kk := by unfold InR at hkk2; omega
    have hVl := fun W (q : LT W) => Value_t kk kk hcv W q
    have hwT := hwx.out
    have hEl := fun (A : Option Addr) (c : Nat) (W : World) (q1 : EnvIs W (.map mo) (keyL L)) (q2 : XAr W W.heap.size T A) => Eval_t T A c mo (keyL L) W q1 q2 hwT
    have hEw := fun (A : Option Addr) (c : Nat) (W : World) (q1 : EnvIs W (.map mo) (keyL L)) (q2 : XAr W W.heap.size (WAY kk T) A) => Eval_t (WAY kk T) A c mo (keyL L) W q1 q2 (WAY_wx kk hkk2 T hwT)
    rw [WAY_ev _ kk hkk2 T] at hEw
    obtain ⟨r, hr⟩ : ∃ r, ev (envB (keyL L)) T = r := ⟨_, rfl⟩
    rw [hr] at hEl hEw
    unfold KO at hEl hEw
    replace hEw : ∀ (A : Option Addr) (c : Nat) (W : World), EnvIs W (.map mo) (keyL L) → XAr W W.heap.size (WAY kk T) A → Calls Tryz.prog 9 #[.agg #[.int .i64 5, .int .i64 0, .int .i64 0, .int .i64 0, .string ⟨#[]⟩, .slice A 3 c], .agg #[.map mo]] W fun x w' => x = .returned (.tuple #[.int .i64 r.n, .agg #[.int .i64 r.f, .int .i64 r.l, .int .i64 r.c], .int .i64 r.e]) ∧ Below W.heap.size W w' := hEw
    obtain ⟨V, hVe⟩ : ∃ V, XVal kk = V := ⟨_, rfl⟩
    have hWz : kk = 0 → WAY kk T = .t (opH 5 ⟨#[]⟩) V (.z badH) T := fun h => by subst h; rw [← hVe]; rfl
    have hWn : ¬ kk = 0 → WAY kk T = .t (opH 5 ⟨#[]⟩) V T (.z badH) := fun h => by rw [WAY_n kk h, hVe]
    rw [hVe] at hVl
    unfold VX at hVl
    obtain ⟨WT, hWT⟩ : ∃ W, WAY kk T = W := ⟨_, rfl⟩
    rw [hWT] at hEw hWz hWn
    clear hVe hWT hr
    replace hVl := Lib.hid hVl
    replace hEl := Lib.hid hEl
    replace hEw := Lib.hid hEw
    replace hWz := Lib.hid hWz
    replace hWn := Lib.hid hWn
    replace hnb := Lib.hid hnb
    replace hkk2 := Lib.hid hkk2
    clear hci hTh hTl hwx hoo hAw hSh hMk hFi hT hA hB hEn hgw hcv
    go_upto_region 13 with fail
    obtain ⟨y0, hy0⟩ : ∃ W, w11.drew = W := ⟨_, rfl⟩
    have hKy := hKS11.out.drew
    rw [hy0] at hKy
    have hS0 := (⟨hKy.b, hKy.e, hKy.v⟩ : BX y0 gb 36 badH none 0 0 ∧ BX y0 ge 36 T.h A3 T.args.length c3 ∧ E1 y0 gv 26 (.map mo))
    replace hKy := Lib.hid hKy
    replace hS0 := Lib.hid hS0
    refine region_anyT (n := 5) (S := (fun w' => BX w' gb 36 badH none 0 0 ∧ BX w' ge 36 T.h A3 T.args.length c3 ∧ E1 w' gv 26 (.map mo))) (by kernel_rfl) ?_
    rw [hy0]
    refine anyT_take (i := 0) (v := .int .i64 kk) rfl (by kernel_rfl) (by kernel_rfl) (fun _ _ _ h => h) (Or.inl ⟨by rfl, ?_⟩) hS0.out ?_
    · intro w' hw'
      obtain ⟨q0, q1, q2, q3, q4, q5⟩ := hw'.1.all
      obtain ⟨r0, r1, r2, r3, r4, r5⟩ := hw'.2.1.all
      obtain ⟨s0, sf, sl⟩ := hw'.2.2.all
      dsimp only [badH] at q0 q1 q2 q3 q4 q5
      unfold noB at q4
      clear hw'
      go_simp
      try with_reducible rfl
    try simp only [Act.put, List.getElem_toArray, List.getElem_cons_zero, List.setIfInBounds_toArray, List.set_cons_zero, List.set_cons_succ]
    refine anyT_take (i := 2) (v := .agg #[.int .i64 T.h.k, .int .i64 T.h.f, .int .i64 T.h.l, .int .i64 T.h.c, .string T.h.s, .slice A3 T.args.length c3]) rfl (by kernel_rfl) (by kernel_rfl) (fun _ _ _ h => h) (Or.inl ⟨by rfl, ?_⟩) hS0.out ?_
    · intro w' hw'
      obtain ⟨q0, q1, q2, q3, q4, q5⟩ := hw'.1.all
      obtain ⟨r0, r1, r2, r3, r4, r5⟩ := hw'.2.1.all
      obtain ⟨s0, sf, sl⟩ := hw'.2.2.all
      dsimp only [badH] at q0 q1 q2 q3 q4 q5
      unfold noB at q4
      clear hw'
      go_simp
      try with_reducible rfl
    try simp only [Act.put, List.getElem_toArray, List.getElem_cons_zero, List.getElem_cons_succ, List.setIfInBounds_toArray, List.set_cons_zero, List.set_cons_succ]
    refine anyT_take (i := 3) (v := .agg #[.int .i64 2, .int .i64 1, .int .i64 1, .int .i64 99, .string ⟨#[110, 111, 32, 115, 117, 99, 104, 32, 110, 97, 109, 101]⟩, .slice none 0 0]) rfl (by kernel_rfl) (by kernel_rfl) (fun _ _ _ h => h) (Or.inl ⟨by rfl, ?_⟩) hS0.out ?_
    · intro w' hw'
      obtain ⟨q0, q1, q2, q3, q4, q5⟩ := hw'.1.all
      obtain ⟨r0, r1, r2, r3, r4, r5⟩ := hw'.2.1.all
      obtain ⟨s0, sf, sl⟩ := hw'.2.2.all
      dsimp only [badH] at q0 q1 q2 q3 q4 q5
      unfold noB at q4
      clear hw'
      go_simp
      try with_reducible rfl
    try simp only [Act.put, List.getElem_toArray, List.getElem_cons_zero, List.getElem_cons_succ, List.setIfInBounds_toArray, List.set_cons_zero, List.set_cons_succ]
    refine anyT_one (i := 1) (by kernel_rfl) ?_
    refine wpOp_step rfl (fun K hK => ?_)
    replace hK := Lib.hid hK
    go_simp
    (with_reducible refine (hVl.out _ hKy.out.t).mono ?_)
    rintro e y1 ⟨At, ct, rfl, hx1, hb1⟩
    have hK1 := hKy.out.over hb1
    have hS1 := (⟨hK1.b, hK1.e, hK1.v⟩ : BX y1 gb 36 badH none 0 0 ∧ BX y1 ge 36 T.h A3 T.args.length c3 ∧ E1 y1 gv 26 (.map mo))
    refine hK.out _ _ ⟨fun _ => hS1, ?_⟩
    clear hK K hS0 hKy
    have hR := heap_alloc_new y1 (.cells #[.int .i64 V.h.k, .int .i64 V.h.f, .int .i64 V.h.l, .int .i64 V.h.c, .string V.h.s, .slice At V.args.length ct, .int .i64 T.h.k, .int .i64 T.h.f, .int .i64 T.h.l, .int .i64 T.h.c, .string T.h.s, .slice A3 T.args.length c3, .int .i64 2, .int .i64 1, .int .i64 1, .int .i64 99, .string ⟨#[110, 111, 32, 115, 117, 99, 104, 32, 110, 97, 109, 101]⟩, .slice none 0 0] 36)
    have hba := (Below.refl y1.heap.size y1).alloc (Nat.le_refl _) (.cells #[.int .i64 V.h.k, .int .i64 V.h.f, .int .i64 V.h.l, .int .i64 V.h.c, .string V.h.s, .slice At V.args.length ct, .int .i64 T.h.k, .int .i64 T.h.f, .int .i64 T.h.l, .int .i64 T.h.c, .string T.h.s, .slice A3 T.args.length c3, .int .i64 2, .int .i64 1, .int .i64 1, .int .i64 99, .string ⟨#[110, 111, 32, 115, 117, 99, 104, 32, 110, 97, 109, 101]⟩, .slice none 0 0] 36)
    have hK2 := hK1.over hba
    have hS2 := (⟨hK2.b, hK2.e, hK2.v⟩ : BX (y1.alloc (.cells #[.int .i64 V.h.k, .int .i64 V.h.f, .int .i64 V.h.l, .int .i64 V.h.c, .string V.h.s, .slice At V.args.length ct, .int .i64 T.h.k, .int .i64 T.h.f, .int .i64 T.h.l, .int .i64 T.h.c, .string T.h.s, .slice A3 T.args.length c3, .int .i64 2, .int .i64 1, .int .i64 1, .int .i64 99, .string ⟨#[110, 111, 32, 115, 117, 99, 104, 32, 110, 97, 109, 101]⟩, .slice none 0 0] 36)) gb 36 badH none 0 0 ∧ BX (y1.alloc (.cells #[.int .i64 V.h.k, .int .i64 V.h.f, .int .i64 V.h.l, .int .i64 V.h.c, .string V.h.s, .slice At V.args.length ct, .int .i64 T.h.k, .int .i64 T.h.f, .int .i64 T.h.l, .int .i64 T.h.c, .string T.h.s, .slice A3 T.args.length c3, .int .i64 2, .int .i64 1, .int .i64 1, .int .i64 99, .string ⟨#[110, 111, 32, 115, 117, 99, 104, 32, 110, 97, 109, 101]⟩, .slice none 0 0] 36)) ge 36 T.h A3 T.args.length c3 ∧ E1 (y1.alloc (.cells #[.int .i64 V.h.k, .int .i64 V.h.f, .int .i64 V.h.l, .int .i64 V.h.c, .string V.h.s, .slice At V.args.length ct, .int .i64 T.h.k, .int .i64 T.h.f, .int .i64 T.h.l, .int .i64 T.h.c, .string T.h.s, .slice A3 T.args.length c3, .int .i64 2, .int .i64 1, .int .i64 1, .int .i64 99, .string ⟨#[110, 111, 32, 115, 117, 99, 104, 32, 110, 97, 109, 101]⟩, .slice none 0 0] 36)) gv 26 (.map mo))
    have hXw : XAr (y1.alloc (.cells #[.int .i64 V.h.k, .int .i64 V.h.f, .int .i64 V.h.l, .int .i64 V.h.c, .string V.h.s, .slice At V.args.length ct, .int .i64 T.h.k, .int .i64 T.h.f, .int .i64 T.h.l, .int .i64 T.h.c, .string T.h.s, .slice A3 T.args.length c3, .int .i64 2, .int .i64 1, .int .i64 1, .int .i64 99, .string ⟨#[110, 111, 32, 115, 117, 99, 104, 32, 110, 97, 109, 101]⟩, .slice none 0 0] 36)) (y1.alloc (.cells #[.int .i64 V.h.k, .int .i64 V.h.f, .int .i64 V.h.l, .int .i64 V.h.c, .string V.h.s, .slice At V.args.length ct, .int .i64 T.h.k, .int .i64 T.h.f, .int .i64 T.h.l, .int .i64 T.h.c, .string T.h.s, .slice A3 T.args.length c3, .int .i64 2, .int .i64 1, .int .i64 1, .int .i64 99, .string ⟨#[110, 111, 32, 115, 117, 99, 104, 32, 110, 97, 109, 101]⟩, .slice none 0 0] 36)).heap.size (.t (opH 5 ⟨#[]⟩) V T (.z badH)) (some ⟨y1.heap.size, 0, none⟩) := triple_ar (a1 := V) (a2 := T) (a3 := .z badH) (c1 := ct) (c2 := c3) (c3 := 0) hR (by simp) (hx1.up hba) hK2.x trivial
    clear hR hx1 hK1 hb1
    replace hK2 := Lib.hid hK2
    replace hS2 := Lib.hid hS2
    replace hXw := Lib.hid hXw
    clear hba hS1
    try simp only [Act.put, List.getElem_toArray, List.getElem_cons_zero, List.getElem_cons_succ, List.setIfInBounds_toArray, List.set_cons_zero, List.set_cons_succ]
    refine anyT_one (i := 4) (by kernel_rfl) ?_
    refine wpOp_step rfl (fun K hK => ?_)
    replace hK := Lib.hid hK
    go_simp
    refine hK.out _ _ ⟨fun _ => hS2.out, ?_⟩
    clear hK K hS2
    try simp only [Act.put, List.getElem_toArray, List.getElem_cons_zero, List.getElem_cons_succ, List.setIfInBounds_toArray, List.set_cons_zero, List.set_cons_succ]
    refine anyT_one (i := 5) (by kernel_rfl) ?_
    refine wpOp_step rfl (fun K hK => ?_)
    replace hK := Lib.hid hK
    go_simp
    refine hK.out _ _ ⟨fun h => absurd h (by decide), ?_⟩
    clear hK K
    try simp only [Act.put, List.getElem_toArray, List.getElem_cons_zero, List.getElem_cons_succ, List.setIfInBounds_toArray, List.set_cons_zero, List.set_cons_succ]
    refine anyT_done (by kernel_rfl) ?_ _
    go_upto_if 71 with fail
    obtain ⟨x1, hx1⟩ : ∃ W, y1.alloc (.cells #[.int .i64 V.h.k, .int .i64 V.h.f, .int .i64 V.h.l, .int .i64 V.h.c, .string V.h.s, .slice At V.args.length ct, .int .i64 T.h.k, .int .i64 T.h.f, .int .i64 T.h.l, .int .i64 T.h.c, .string T.h.s, .slice A3 T.args.length c3, .int .i64 2, .int .i64 1, .int .i64 1, .int .i64 99, .string ⟨#[110, 111, 32, 115, 117, 99, 104, 32, 110, 97, 109, 101]⟩, .slice none 0 0] 36) = W := ⟨_, rfl⟩
    rw [hx1] at hK2 hXw ⊢
    clear hx1
    go_cut [17] from 33 (fun v wz => ∃ A4, v = .slice A4 3 3 ∧ KS w gb ge gv T A3 c3 mo (keyL L) wz ∧ XAr wz wz.heap.size WT A4)
    case first =>
      by_cases h0 : kk = 0
      ·
        subst h0
        have hKx := hK2
        clear hK2 hXw
        go_wp2_with fail
        obtain ⟨y0, hy0⟩ : ∃ W, x1.drew = W := ⟨_, rfl⟩
        have hKy := hKx.out.drew
        rw [hy0] at hKy
        have hS0 := (⟨hKy.b, hKy.e, hKy.v⟩ : BX y0 gb 36 badH none 0 0 ∧ BX y0 ge 36 T.h A3 T.args.length c3 ∧ E1 y0 gv 26 (.map mo))
        replace hKy := Lib.hid hKy
        replace hS0 := Lib.hid hS0
        refine region_anyT (n := 5) (S := (fun w' => BX w' gb 36 badH none 0 0 ∧ BX w' ge 36 T.h A3 T.args.length c3 ∧ E1 w' gv 26 (.map mo))) (by kernel_rfl) ?_
        rw [hy0]
        refine anyT_take (i := 0) (v := .int .i64 0) rfl (by kernel_rfl) (by kernel_rfl) (fun _ _ _ h => h) (Or.inl ⟨by rfl, ?_⟩) hS0.out ?_
        · intro w' hw'
          obtain ⟨q0, q1, q2, q3, q4, q5⟩ := hw'.1.all
          obtain ⟨r0, r1, r2, r3, r4, r5⟩ := hw'.2.1.all
          obtain ⟨s0, sf, sl⟩ := hw'.2.2.all
          dsimp only [badH] at q0 q1 q2 q3 q4 q5
          unfold noB at q4
          clear hw'
          go_simp
          try with_reducible rfl
        try simp only [Act.put, List.getElem_toArray, List.getElem_cons_zero, List.setIfInBounds_toArray, List.set_cons_zero, List.set_cons_succ]
        refine anyT_take (i := 2) (v := .agg #[.int .i64 2, .int .i64 1, .int .i64 1, .int .i64 99, .string ⟨#[110, 111, 32, 115, 117, 99, 104, 32, 110, 97, 109, 101]⟩, .slice none 0 0]) rfl (by kernel_rfl) (by kernel_rfl) (fun _ _ _ h => h) (Or.inl ⟨by rfl, ?_⟩) hS0.out ?_
        · intro w' hw'
          obtain ⟨q0, q1, q2, q3, q4, q5⟩ := hw'.1.all
          obtain ⟨r0, r1, r2, r3, r4, r5⟩ := hw'.2.1.all
          obtain ⟨s0, sf, sl⟩ := hw'.2.2.all
          dsimp only [badH] at q0 q1 q2 q3 q4 q5
          unfold noB at q4
          clear hw'
          go_simp
          try with_reducible rfl
        try simp only [Act.put, List.getElem_toArray, List.getElem_cons_zero, List.getElem_cons_succ, List.setIfInBounds_toArray, List.set_cons_zero, List.set_cons_succ]
        refine anyT_take (i := 3) (v := .agg #[.int .i64 T.h.k, .int .i64 T.h.f, .int .i64 T.h.l, .int .i64 T.h.c, .string T.h.s, .slice A3 T.args.length c3]) rfl (by kernel_rfl) (by kernel_rfl) (fun _ _ _ h => h) (Or.inl ⟨by rfl, ?_⟩) hS0.out ?_
        · intro w' hw'
          obtain ⟨q0, q1, q2, q3, q4, q5⟩ := hw'.1.all
          obtain ⟨r0, r1, r2, r3, r4, r5⟩ := hw'.2.1.all
          obtain ⟨s0, sf, sl⟩ := hw'.2.2.all
          dsimp only [badH] at q0 q1 q2 q3 q4 q5
          unfold noB at q4
          clear hw'
          go_simp
          try with_reducible rfl
        try simp only [Act.put, List.getElem_toArray, List.getElem_cons_zero, List.getElem_cons_succ, List.setIfInBounds_toArray, List.set_cons_zero, List.set_cons_succ]
        refine anyT_one (i := 1) (by kernel_rfl) ?_
        refine wpOp_step rfl (fun K hK => ?_)
        replace hK := Lib.hid hK
        go_simp
        (with_reducible refine (hVl.out _ hKy.out.t).mono ?_)
        rintro e y1 ⟨At, ct, rfl, hx1, hb1⟩
        have hK1 := hKy.out.over hb1
        have hS1 := (⟨hK1.b, hK1.e, hK1.v⟩ : BX y1 gb 36 badH none 0 0 ∧ BX y1 ge 36 T.h A3 T.args.length c3 ∧ E1 y1 gv 26 (.map mo))
        refine hK.out _ _ ⟨fun _ => hS1, ?_⟩
        clear hK K hS0 hKy
        have hR := heap_alloc_new y1 (.cells #[.int .i64 V.h.k, .int .i64 V.h.f, .int .i64 V.h.l, .int .i64 V.h.c, .string V.h.s, .slice At V.args.length ct, .int .i64 2, .int .i64 1, .int .i64 1, .int .i64 99, .string ⟨#[110, 111, 32, 115, 117, 99, 104, 32, 110, 97, 109, 101]⟩, .slice none 0 0, .int .i64 T.h.k, .int .i64 T.h.f, .int .i64 T.h.l, .int .i64 T.h.c, .string T.h.s, .slice A3 T.args.length c3] 36)
        have hba := (Below.refl y1.heap.size y1).alloc (Nat.le_refl _) (.cells #[.int .i64 V.h.k, .int .i64 V.h.f, .int .i64 V.h.l, .int .i64 V.h.c, .string V.h.s, .slice At V.args.length ct, .int .i64 2, .int .i64 1, .int .i64 1, .int .i64 99, .string ⟨#[110, 111, 32, 115, 117, 99, 104, 32, 110, 97, 109, 101]⟩, .slice none 0 0, .int .i64 T.h.k, .int .i64 T.h.f, .int .i64 T.h.l, .int .i64 T.h.c, .string T.h.s, .slice A3 T.args.length c3] 36)
        have hK2 := hK1.over hba
        have hS2 := (⟨hK2.b, hK2.e, hK2.v⟩ : BX (y1.alloc (.cells #[.int .i64 V.h.k, .int .i64 V.h.f, .int .i64 V.h.l, .int .i64 V.h.c, .string V.h.s, .slice At V.args.length ct, .int .i64 2, .int .i64 1, .int .i64 1, .int .i64 99, .string ⟨#[110, 111, 32, 115, 117, 99, 104, 32, 110, 97, 109, 101]⟩, .slice none 0 0, .int .i64 T.h.k, .int .i64 T.h.f, .int .i64 T.h.l, .int .i64 T.h.c, .string T.h.s, .slice A3 T.args.length c3] 36)) gb 36 badH none 0 0 ∧ BX (y1.alloc (.cells #[.int .i64 V.h.k, .int .i64 V.h.f, .int .i64 V.h.l, .int .i64 V.h.c, .string V.h.s, .slice At V.args.length ct, .int .i64 2, .int .i64 1, .int .i64 1, .int .i64 99, .string ⟨#[110, 111, 32, 115, 117, 99, 104, 32, 110, 97, 109, 101]⟩, .slice none 0 0, .int .i64 T.h.k, .int .i64 T.h.f, .int .i64 T.h.l, .int .i64 T.h.c, .string T.h.s, .slice A3 T.args.length c3] 36)) ge 36 T.h A3 T.args.length c3 ∧ E1 (y1.alloc (.cells #[.int .i64 V.h.k, .int .i64 V.h.f, .int .i64 V.h.l, .int .i64 V.h.c, .string V.h.s, .slice At V.args.length ct, .int .i64 2, .int .i64 1, .int .i64 1, .int .i64 99, .string ⟨#[110, 111, 32, 115, 117, 99, 104, 32, 110, 97, 109, 101]⟩, .slice none 0 0, .int .i64 T.h.k, .int .i64 T.h.f, .int .i64 T.h.l, .int .i64 T.h.c, .string T.h.s, .slice A3 T.args.length c3] 36)) gv 26 (.map mo))
        have hXw : XAr (y1.alloc (.cells #[.int .i64 V.h.k, .int .i64 V.h.f, .int .i64 V.h.l, .int .i64 V.h.c, .string V.h.s, .slice At V.args.length ct, .int .i64 2, .int .i64 1, .int .i64 1, .int .i64 99, .string ⟨#[110, 111, 32, 115, 117, 99, 104, 32, 110, 97, 109, 101]⟩, .slice none 0 0, .int .i64 T.h.k, .int .i64 T.h.f, .int .i64 T.h.l, .int .i64 T.h.c, .string T.h.s, .slice A3 T.args.length c3] 36)) (y1.alloc (.cells #[.int .i64 V.h.k, .int .i64 V.h.f, .int .i64 V.h.l, .int .i64 V.h.c, .string V.h.s, .slice At V.args.length ct, .int .i64 2, .int .i64 1, .int .i64 1, .int .i64 99, .string ⟨#[110, 111, 32, 115, 117, 99, 104, 32, 110, 97, 109, 101]⟩, .slice none 0 0, .int .i64 T.h.k, .int .i64 T.h.f, .int .i64 T.h.l, .int .i64 T.h.c, .string T.h.s, .slice A3 T.args.length c3] 36)).heap.size (.t (opH 5 ⟨#[]⟩) V (.z badH) T) (some ⟨y1.heap.size, 0, none⟩) := triple_ar (a1 := V) (a2 := .z badH) (a3 := T) (c1 := ct) (c2 := 0) (c3 := c3) hR (by simp) (hx1.up hba) trivial hK2.x
        clear hR hx1 hK1 hb1
        replace hK2 := Lib.hid hK2
        replace hS2 := Lib.hid hS2
        replace hXw := Lib.hid hXw
        clear hba hS1
        try simp only [Act.put, List.getElem_toArray, List.getElem_cons_zero, List.getElem_cons_succ, List.setIfInBounds_toArray, List.set_cons_zero, List.set_cons_succ]
        refine anyT_one (i := 4) (by kernel_rfl) ?_
        refine wpOp_step rfl (fun K hK => ?_)
        replace hK := Lib.hid hK
        go_simp
        refine hK.out _ _ ⟨fun _ => hS2.out, ?_⟩
        clear hK K hS2
        try simp only [Act.put, List.getElem_toArray, List.getElem_cons_zero, List.getElem_cons_succ, List.setIfInBounds_toArray, List.set_cons_zero, List.set_cons_succ]
        refine anyT_one (i := 5) (by kernel_rfl) ?_
        refine wpOp_step rfl (fun K hK => ?_)
        replace hK := Lib.hid hK
        go_simp
        refine hK.out _ _ ⟨fun h => absurd h (by decide), ?_⟩
        clear hK K
        try simp only [Act.put, List.getElem_toArray, List.getElem_cons_zero, List.getElem_cons_succ, List.setIfInBounds_toArray, List.set_cons_zero, List.set_cons_succ]
        refine anyT_done (by kernel_rfl) ?_ _
        go_wp2_with fail
        go_meet
        case rel => exact ⟨_, rfl, hK2.out, (hWz.out (by first | rfl | trivial)) ▸ hXw.out⟩
      ·
        go_wp2_with fail
        go_meet
        case rel => exact ⟨_, rfl, hK2.out, (hWn.out h0) ▸ hXw.out⟩
    case rest =>
      obtain ⟨A4, rfl, hKc, hXc⟩ := hcut
      clear hK2 hXw hWz hWn hVl
      obtain ⟨v0, vf, vl⟩ := hKc.v.all
      obtain ⟨e0, e1, e2, e3, e4, e5⟩ := hKc.e.all
      have el := hKc.e.lt
      replace hKc := Lib.hid hKc
      replace hXc := Lib.hid hXc
      go_wp2_with fail
      (with_reducible refine (hEl.out _ _ _ hKc.out.m hKc.out.x).mono ?_)
      rintro e z1 ⟨rfl, hb1⟩
      have hba := (Below.refl z1.heap.size z1).alloc (Nat.le_refl _) (.cells #[.int .i64 r.f, .int .i64 r.l, .int .i64 r.c] 30)
      have hK2 := (hKc.out.over hb1).over hba
      have hX2 := (hXc.out.up hb1).up hba
      have hP2 := E3.new z1 30 r.f r.l r.c
      obtain ⟨gP, hgP⟩ : ∃ g, z1.heap.size = g := ⟨_, rfl⟩
      rw [hgP] at hP2
      clear hKc hXc hb1 hba v0 vf vl e0 e1 e2 e3 e4 e5 el
      go_upto_region 17 with fail
      obtain ⟨z2, hz2⟩ : ∃ W, z1.alloc (.cells #[.int .i64 r.f, .int .i64 r.l, .int .i64 r.c] 30) = W := ⟨_, rfl⟩
      rw [hz2] at hK2 hX2 hP2 ⊢
      clear hz2
      obtain ⟨v0, vf, vl⟩ := hK2.v.all
      replace hK2 := Lib.hid hK2
      replace hX2 := Lib.hid hX2
      replace hP2 := Lib.hid hP2
      go_wp2_with fail
      (with_reducible refine (hEw.out _ _ _ hK2.out.m hX2.out).mono ?_)
      rintro e z3 ⟨rfl, hb3⟩
      have hba := (Below.refl z3.heap.size z3).alloc (Nat.le_refl _) (.cells #[.int .i64 r.f, .int .i64 r.l, .int .i64 r.c] 30)
      have hQ4 := E3.new z3 30 r.f r.l r.c
      obtain ⟨gQ, hgQ⟩ : ∃ g, z3.heap.size = g := ⟨_, rfl⟩
      rw [hgQ] at hQ4
      have hK4 : K2 w gb ge gv T A3 c3 mo (keyL L) gP gQ r.f r.l r.c (z3.alloc (.cells #[.int .i64 r.f, .int .i64 r.l, .int .i64 r.c] 30)) := ⟨(hK2.out.over hb3).over hba, (hP2.out.over hb3).over hba, hQ4⟩
      clear hK2 hX2 hP2 hb3 hba hQ4 v0 vf vl hEw hEl
      go_upto_region 18 with fail
      obtain ⟨z4, hz4⟩ : ∃ W, z3.alloc (.cells #[.int .i64 r.f, .int .i64 r.l, .int .i64 r.c] 30) = W := ⟨_, rfl⟩
      rw [hz4] at hK4 ⊢
      clear hz4
      replace hK4 := Lib.hid hK4
      obtain ⟨V, hVe⟩ : ∃ V, XVal 0 = V := ⟨_, rfl⟩
      have hval := fun W (q : LT W) => Value_t 0 0 (by decide) W q
      have hwv : WX (.b (opH 4 ⟨#[38, 38]⟩) (XVal 0) (.z badH)) := wx_and 0 ⟨by decide, by decide⟩ _ wx_bad
      have hev0 := ev_and0 (envB (keyL L)) (.z badH)
      have hevl := fun (A : Option Addr) (c : Nat) (W : World) (q1 : EnvIs W (.map mo) (keyL L)) (q2 : XAr W W.heap.size (.b (opH 4 ⟨#[38, 38]⟩) (XVal 0) (.z badH)) A) => Eval_t (.b (opH 4 ⟨#[38, 38]⟩) (XVal 0) (.z badH)) A c mo (keyL L) W q1 q2 hwv
      rw [hev0] at hevl
      unfold KO at hevl
      rw [hVe] at hval hevl
      unfold VX at hval
      have htwo := fun (A1 : Option Addr) (c1 : Nat) (W : World) (q : XAr W W.heap.size V A1) => two_t ⟨#[38, 38]⟩ V (.z badH) A1 none c1 0 W q trivial
      unfold TWO at htwo
      obtain ⟨TW, hTW⟩ : ∃ T, XT.b (opH 4 ⟨#[38, 38]⟩) V (.z badH) = T := ⟨_, rfl⟩
      rw [hTW] at hevl htwo
      replace htwo : ∀ (A1 : Option Addr) (c1 : Nat) (W : World), XAr W W.heap.size V A1 → Calls Tryz.prog 20 #[.string ⟨#[38, 38]⟩, xv V.h A1 V.args.length c1, .agg #[.int .i64 2, .int .i64 1, .int .i64 1, .int .i64 99, .string ⟨#[110, 111, 32, 115, 117, 99, 104, 32, 110, 97, 109, 101]⟩, .slice none 0 0]] W fun e w' => ∃ A c, e = .returned (.agg #[.int .i64 4, .int .i64 0, .int .i64 0, .int .i64 0, .string ⟨#[38, 38]⟩, .slice A 2 c]) ∧ XAr w' w'.heap.size TW A ∧ Below W.heap.size W w' := htwo
      replace hevl : ∀ (A : Option Addr) (c : Nat) (W : World), EnvIs W (.map mo) (keyL L) → XAr W W.heap.size TW A → Calls Tryz.prog 9 #[.agg #[.int .i64 4, .int .i64 0, .int .i64 0, .int .i64 0, .string ⟨#[38, 38]⟩, .slice A 2 c], .agg #[.map mo]] W fun x w' => x = .returned (.tuple #[.int .i64 0, .agg #[.int .i64 0, .int .i64 0, .int .i64 0], .int .i64 0]) ∧ Below W.heap.size W w' := fun A c W q1 q2 => by subst hTW; exact hevl A c W q1 q2
      clear hVe hTW hwv hev0
      replace hval := Lib.hid hval
      replace htwo := Lib.hid htwo
      replace hevl := Lib.hid hevl
      go_cut [24, 25, 26] from 33 (fun xv pv ev wz => xv = .int .i64 0 ∧ ev = .int .i64 0 ∧ ∃ g0, pv = .pointer (some ⟨g0, 0, none⟩) ∧ E3 wz g0 30 0 0 0 ∧ Below z4.heap.size z4 wz)
      case first =>
        obtain ⟨u0, hu0⟩ : ∃ W, z4.drew = W := ⟨_, rfl⟩
        have hbd : Below z4.heap.size z4 z4.drew := (Below.refl _ _).drew
        have hS0 := hK4.out.over hbd
        rw [hu0] at hS0 hbd
        have hB0 := hbd
        clear hbd
        have hC0 := (⟨hS0.ks.b, hS0.ks.v⟩ : BX u0 gb 36 badH none 0 0 ∧ E1 u0 gv 26 (.map mo))
        replace hS0 := Lib.hid hS0
        replace hB0 := Lib.hid hB0
        replace hC0 := Lib.hid hC0
        refine region_anyT (n := 13) (S := (fun w' => BX w' gb 36 badH none 0 0 ∧ E1 w' gv 26 (.map mo))) (by kernel_rfl) ?_
        rw [hu0]
        refine anyT_take (i := 0) (v := (Value.func (Fn.func 20) #[] #[])) rfl (by kernel_rfl) (by kernel_rfl) (fun _ _ _ h => h) (Or.inl ⟨by rfl, ?_⟩) hC0.out ?_
        · intro w' hw'
          obtain ⟨q0, q1, q2, q3, q4, q5⟩ := hw'.1.all
          obtain ⟨s0, sf, sl⟩ := hw'.2.all
          dsimp only [badH] at q0 q1 q2 q3 q4 q5
          unfold noB at q4
          clear hw'
          go_simp
          try with_reducible rfl
        try simp only [Act.put, List.getElem_toArray, List.getElem_cons_zero, List.setIfInBounds_toArray, List.set_cons_zero, List.set_cons_succ]
        refine anyT_take (i := 2) (v := .agg #[.int .i64 2, .int .i64 1, .int .i64 1, .int .i64 99, .string ⟨#[110, 111, 32, 115, 117, 99, 104, 32, 110, 97, 109, 101]⟩, .slice none 0 0]) rfl (by kernel_rfl) (by kernel_rfl) (fun _ _ _ h => h) (Or.inl ⟨by rfl, ?_⟩) hC0.out ?_
        · intro w' hw'
          obtain ⟨q0, q1, q2, q3, q4, q5⟩ := hw'.1.all
          obtain ⟨s0, sf, sl⟩ := hw'.2.all
          dsimp only [badH] at q0 q1 q2 q3 q4 q5
          unfold noB at q4
          clear hw'
          go_simp
          try with_reducible rfl
        try simp only [Act.put, List.getElem_toArray, List.getElem_cons_zero, List.getElem_cons_succ, List.setIfInBounds_toArray, List.set_cons_zero, List.set_cons_succ]
        refine anyT_take (i := 4) (v := .agg #[.map mo]) rfl (by kernel_rfl) (by kernel_rfl) (fun _ _ _ h => h) (Or.inl ⟨by rfl, ?_⟩) hC0.out ?_
        · intro w' hw'
          obtain ⟨q0, q1, q2, q3, q4, q5⟩ := hw'.1.all
          obtain ⟨s0, sf, sl⟩ := hw'.2.all
          dsimp only [badH] at q0 q1 q2 q3 q4 q5
          unfold noB at q4
          clear hw'
          go_simp
          try with_reducible rfl
        try simp only [Act.put, List.getElem_toArray, List.getElem_cons_zero, List.getElem_cons_succ, List.setIfInBounds_toArray, List.set_cons_zero, List.set_cons_succ]
        clear hC0
        refine anyT_pair (i := 1) (j := 10) (by kernel_rfl) ?_ ?_
        ·
          refine wpOp_step rfl (fun K hK => ?_)
          replace hK := Lib.hid hK
          go_simp
          (with_reducible refine (hval.out _ hS0.out.ks.t).mono ?_)
          rintro e u1 ⟨At, ct, rfl, hV1, hb⟩
          have hS1 := hS0.out.over hb
          have hB1 := below_call hb hB0.out
          refine hK.out _ _ ⟨fun _ => ⟨hS1.ks.b, hS1.ks.v⟩, ?_⟩
          clear hK K hb hS0 hB0 
          replace hS1 := Lib.hid hS1
          replace hB1 := Lib.hid hB1
          replace hV1 := Lib.hid hV1
          try simp only [Act.put, List.getElem_toArray, List.getElem_cons_zero, List.getElem_cons_succ, List.setIfInBounds_toArray, List.set_cons_zero, List.set_cons_succ]
          refine anyT_pair (i := 3) (j := 10) (by kernel_rfl) ?_ ?_
          ·
            refine wpOp_step rfl (fun K hK => ?_)
            replace hK := Lib.hid hK
            go_simp
            (with_reducible refine (htwo.out _ _ _ hV1.out).mono ?_)
            rintro e u2 ⟨Aw, cw, rfl, hT2, hb⟩
            have hS2 := hS1.out.over hb
            have hB2 := below_call hb hB1.out
            have hV2 := hV1.out.up hb
            refine hK.out _ _ ⟨fun _ => ⟨hS2.ks.b, hS2.ks.v⟩, ?_⟩
            clear hK K hb hS1 hB1 hV2 hV1
            replace hS2 := Lib.hid hS2
            replace hB2 := Lib.hid hB2
            replace hT2 := Lib.hid hT2
            try simp only [Act.put, List.getElem_toArray, List.getElem_cons_zero, List.getElem_cons_succ, List.setIfInBounds_toArray, List.set_cons_zero, List.set_cons_succ]
            refine anyT_pair (i := 5) (j := 10) (by kernel_rfl) ?_ ?_
            ·
              refine wpOp_step rfl (fun K hK => ?_)
              replace hK := Lib.hid hK
              go_simp
              (with_reducible refine (hevl.out _ _ _ hS2.out.ks.m hT2.out).mono ?_)
              rintro e u3 ⟨rfl, hb⟩
              have hS3 := hS2.out.over hb
              have hB3 := below_call hb hB2.out
              have hT3 := hT2.out.up hb
              refine hK.out _ _ ⟨fun _ => ⟨hS3.ks.b, hS3.ks.v⟩, ?_⟩
              clear hK K hb hS2 hB2 hT3 hT2
              replace hS3 := Lib.hid hS3
              replace hB3 := Lib.hid hB3
              try simp only [Act.put, List.getElem_toArray, List.getElem_cons_zero, List.getElem_cons_succ, List.setIfInBounds_toArray, List.set_cons_zero, List.set_cons_succ]
              refine anyT_take (i := 6) (v := .tuple #[.int .i64 0, .agg #[.int .i64 0, .int .i64 0, .int .i64 0], .int .i64 0]) rfl (by kernel_rfl) (by kernel_rfl) (fun _ _ _ h => h) (Or.inl ⟨by rfl, ?_⟩) ⟨hS3.out.ks.b, hS3.out.ks.v⟩ ?_
              · intro w' hw'
                obtain ⟨q0, q1, q2, q3, q4, q5⟩ := hw'.1.all
                obtain ⟨s0, sf, sl⟩ := hw'.2.all
                dsimp only [badH] at q0 q1 q2 q3 q4 q5
                unfold noB at q4
                clear hw'
                go_simp
                try with_reducible rfl
              try simp only [Act.put, List.getElem_toArray, List.getElem_cons_zero, List.getElem_cons_succ, List.setIfInBounds_toArray, List.set_cons_zero, List.set_cons_succ]
              refine anyT_take (i := 7) (v := .int .i64 0) rfl (by kernel_rfl) (by kernel_rfl) (fun _ _ _ h => h) (Or.inl ⟨by rfl, ?_⟩) ⟨hS3.out.ks.b, hS3.out.ks.v⟩ ?_
              · intro w' hw'
                obtain ⟨q0, q1, q2, q3, q4, q5⟩ := hw'.1.all
                obtain ⟨s0, sf, sl⟩ := hw'.2.all
                dsimp only [badH] at q0 q1 q2 q3 q4 q5
                unfold noB at q4
                clear hw'
                go_simp
                try with_reducible rfl
              try simp only [Act.put, List.getElem_toArray, List.getElem_cons_zero, List.getElem_cons_succ, List.setIfInBounds_toArray, List.set_cons_zero, List.set_cons_succ]
              refine anyT_take (i := 8) (v := .agg #[.int .i64 0, .int .i64 0, .int .i64 0]) rfl (by kernel_rfl) (by kernel_rfl) (fun _ _ _ h => h) (Or.inl ⟨by rfl, ?_⟩) ⟨hS3.out.ks.b, hS3.out.ks.v⟩ ?_
              · intro w' hw'
                obtain ⟨q0, q1, q2, q3, q4, q5⟩ := hw'.1.all
                obtain ⟨s0, sf, sl⟩ := hw'.2.all
                dsimp only [badH] at q0 q1 q2 q3 q4 q5
                unfold noB at q4
                clear hw'
                go_simp
                try with_reducible rfl
              try simp only [Act.put, List.getElem_toArray, List.getElem_cons_zero, List.getElem_cons_succ, List.setIfInBounds_toArray, List.set_cons_zero, List.set_cons_succ]
              refine anyT_take (i := 9) (v := .int .i64 0) rfl (by kernel_rfl) (by kernel_rfl) (fun _ _ _ h => h) (Or.inl ⟨by rfl, ?_⟩) ⟨hS3.out.ks.b, hS3.out.ks.v⟩ ?_
              · intro w' hw'
                obtain ⟨q0, q1, q2, q3, q4, q5⟩ := hw'.1.all
                obtain ⟨s0, sf, sl⟩ := hw'.2.all
                dsimp only [badH] at q0 q1 q2 q3 q4 q5
                unfold noB at q4
                clear hw'
                go_simp
                try with_reducible rfl
              try simp only [Act.put, List.getElem_toArray, List.getElem_cons_zero, List.getElem_cons_succ, List.setIfInBounds_toArray, List.set_cons_zero, List.set_cons_succ]
              refine anyT_one (i := 10) (by kernel_rfl) ?_
              refine wpOp_step rfl (fun K hK => ?_)
              replace hK := Lib.hid hK
              have hba := (Below.refl u3.heap.size u3).alloc (Nat.le_refl _) (.cells #[.int .i64 0, .int .i64 0, .int .i64 0] 30)
              have hS4 := hS3.out.over hba
              have hB4 := below_call hba hB3.out
              have hP4 := E3.new u3 30 0 0 0
              obtain ⟨g0, hg0⟩ : ∃ g, u3.heap.size = g := ⟨_, rfl⟩
              rw [hg0] at hP4
              have hg1 : z4.heap.size ≤ g0 := by have := hB3.out.size; omega
              obtain ⟨u4, hu4⟩ : ∃ W, u3.alloc (.cells #[.int .i64 0, .int .i64 0, .int .i64 0] 30) = W := ⟨_, rfl⟩
              rw [hu4] at hS4 hB4 hP4
              go_simp
              refine hK.out _ _ ⟨fun _ => ⟨hS4.ks.b, hS4.ks.v⟩, ?_⟩
              clear hK K hba hS3 hB3 
              replace hS4 := Lib.hid hS4
              replace hB4 := Lib.hid hB4
              replace hP4 := Lib.hid hP4
              try simp only [Act.put, List.getElem_toArray, List.getElem_cons_zero, List.getElem_cons_succ, List.setIfInBounds_toArray, List.set_cons_zero, List.set_cons_succ]
              obtain ⟨p0, p1, p2, pf, pl⟩ := hP4.out.all
              refine anyT_one (i := 11) (by kernel_rfl) ?_
              refine wpOp_step rfl (fun K hK => ?_)
              replace hK := Lib.hid hK
              go_simp
              refine hK.out _ _ ⟨fun _ => ⟨hS4.out.ks.b, hS4.out.ks.v⟩, ?_⟩
              clear hK K
              try simp only [Act.put, List.getElem_toArray, List.getElem_cons_zero, List.getElem_cons_succ, List.setIfInBounds_toArray, List.set_cons_zero, List.set_cons_succ]
              have hbs : Below z4.heap.size z4 (((u4.setCell ⟨g0, 0, none⟩ (.int .i64 0)).setCell ⟨g0, 1, none⟩ (.int .i64 0)).setCell ⟨g0, 2, none⟩ (.int .i64 0)) :=
                hB4.out.trans ((Keep.set3 u4 g0 0 1 2 _ _ _).below (Nat.le_trans hB4.out.size (Nat.le_refl _)) fun b hb => by omega)
              have hPs : E3 (((u4.setCell ⟨g0, 0, none⟩ (.int .i64 0)).setCell ⟨g0, 1, none⟩ (.int .i64 0)).setCell ⟨g0, 2, none⟩ (.int .i64 0)) g0 30 0 0 0 := heap_set _ g0 2 _ _ _ (heap_set _ g0 1 _ _ _ (heap_set _ g0 0 _ _ _ hP4.out))
              have hKs := hK4.out.over hbs
              have hSs := (⟨hKs.ks.b, hKs.ks.v⟩ : BX (((u4.setCell ⟨g0, 0, none⟩ (.int .i64 0)).setCell ⟨g0, 1, none⟩ (.int .i64 0)).setCell ⟨g0, 2, none⟩ (.int .i64 0)) gb 36 badH none 0 0 ∧ E1 (((u4.setCell ⟨g0, 0, none⟩ (.int .i64 0)).setCell ⟨g0, 1, none⟩ (.int .i64 0)).setCell ⟨g0, 2, none⟩ (.int .i64 0)) gv 26 (.map mo))
              clear hKs hS4 hB4 hP4
              replace hbs := Lib.hid hbs
              replace hPs := Lib.hid hPs
              replace hSs := Lib.hid hSs
              refine anyT_one (i := 12) (by kernel_rfl) ?_
              refine wpOp_step rfl (fun K hK => ?_)
              replace hK := Lib.hid hK
              go_simp
              refine hK.out _ _ ⟨fun _ => hSs.out, ?_⟩
              clear hK K hSs p0 p1 p2 pf pl
              try simp only [Act.put, List.getElem_toArray, List.getElem_cons_zero, List.getElem_cons_succ, List.setIfInBounds_toArray, List.set_cons_zero, List.set_cons_succ]
              refine anyT_one (i := 13) (by kernel_rfl) ?_
              refine wpOp_step rfl (fun K hK => ?_)
              replace hK := Lib.hid hK
              go_simp
              refine hK.out _ _ ⟨fun h => absurd h (by decide), ?_⟩
              clear hK K
              try simp only [Act.put, List.getElem_toArray, List.getElem_cons_zero, List.getElem_cons_succ, List.setIfInBounds_toArray, List.set_cons_zero, List.set_cons_succ]
              refine anyT_done (by kernel_rfl) ?_ _
              go_wp2_with fail
              go_meet
              case rel => exact ⟨rfl, rfl, g0, rfl, hPs.out, hbs.out⟩
            ·
              refine wpOp_step rfl (fun K hK => ?_)
              replace hK := Lib.hid hK
              have hba := (Below.refl u2.heap.size u2).alloc (Nat.le_refl _) (.cells #[.int .i64 0, .int .i64 0, .int .i64 0] 30)
              have hS3 := hS2.out.over hba
              have hB3 := below_call hba hB2.out
              have hT3 := hT2.out.up hba
              have hP3 := E3.new u2 30 0 0 0
              obtain ⟨g0, hg0⟩ : ∃ g, u2.heap.size = g := ⟨_, rfl⟩
              rw [hg0] at hP3
              have hg1 : z4.heap.size ≤ g0 := by have := hB2.out.size; omega
              obtain ⟨u3, hu3⟩ : ∃ W, u2.alloc (.cells #[.int .i64 0, .int .i64 0, .int .i64 0] 30) = W := ⟨_, rfl⟩
              rw [hu3] at hS3 hB3 hP3 hT3
              go_simp
              refine hK.out _ _ ⟨fun _ => ⟨hS3.ks.b, hS3.ks.v⟩, ?_⟩
              clear hK K hba hS2 hB2 hT2
              replace hS3 := Lib.hid hS3
              replace hB3 := Lib.hid hB3
              replace hP3 := Lib.hid hP3
              replace hT3 := Lib.hid hT3
              try simp only [Act.put, List.getElem_toArray, List.getElem_cons_zero, List.getElem_cons_succ, List.setIfInBounds_toArray, List.set_cons_zero, List.set_cons_succ]
              refine anyT_one (i := 5) (by kernel_rfl) ?_
              refine wpOp_step rfl (fun K hK => ?_)
              replace hK := Lib.hid hK
              go_simp
              (with_reducible refine (hevl.out _ _ _ hS3.out.ks.m hT3.out).mono ?_)
              rintro e u4 ⟨rfl, hb⟩
              have hS4 := hS3.out.over hb
              have hB4 := below_call hb hB3.out
              have hP4 := hP3.out.over hb
              have hT4 := hT3.out.up hb
              refine hK.out _ _ ⟨fun _ => ⟨hS4.ks.b, hS4.ks.v⟩, ?_⟩
              clear hK K hb hS3 hB3 hT4 hP3 hT3
              replace hS4 := Lib.hid hS4
              replace hB4 := Lib.hid hB4
              replace hP4 := Lib.hid hP4
              try simp only [Act.put, List.getElem_toArray, List.getElem_cons_zero, List.getElem_cons_succ, List.setIfInBounds_toArray, List.set_cons_zero, List.set_cons_succ]
              refine anyT_take (i := 6) (v := .tuple #[.int .i64 0, .agg #[.int .i64 0, .int .i64 0, .int .i64 0], .int .i64 0]) rfl (by kernel_rfl) (by kernel_rfl) (fun _ _ _ h => h) (Or.inl ⟨by rfl, ?_⟩) ⟨hS4.out.ks.b, hS4.out.ks.v⟩ ?_
              · intro w' hw'
                obtain ⟨q0, q1, q2, q3, q4, q5⟩ := hw'.1.all
                obtain ⟨s0, sf, sl⟩ := hw'.2.all
                dsimp only [badH] at q0 q1 q2 q3 q4 q5
                unfold noB at q4
                clear hw'
                go_simp
                try with_reducible rfl
              try simp only [Act.put, List.getElem_toArray, List.getElem_cons_zero, List.getElem_cons_succ, List.setIfInBounds_toArray, List.set_cons_zero, List.set_cons_succ]
              refine anyT_take (i := 7) (v := .int .i64 0) rfl (by kernel_rfl) (by kernel_rfl) (fun _ _ _ h => h) (Or.inl ⟨by rfl, ?_⟩) ⟨hS4.out.ks.b, hS4.out.ks.v⟩ ?_
              · intro w' hw'
                obtain ⟨q0, q1, q2, q3, q4, q5⟩ := hw'.1.all
                obtain ⟨s0, sf, sl⟩ := hw'.2.all
                dsimp only [badH] at q0 q1 q2 q3 q4 q5
                unfold noB at q4
                clear hw'
                go_simp
                try with_reducible rfl
              try simp only [Act.put, List.getElem_toArray, List.getElem_cons_zero, List.getElem_cons_succ, List.setIfInBounds_toArray, List.set_cons_zero, List.set_cons_succ]
              refine anyT_take (i := 8) (v := .agg #[.int .i64 0, .int .i64 0, .int .i64 0]) rfl (by kernel_rfl) (by kernel_rfl) (fun _ _ _ h => h) (Or.inl ⟨by rfl, ?_⟩) ⟨hS4.out.ks.b, hS4.out.ks.v⟩ ?_
              · intro w' hw'
                obtain ⟨q0, q1, q2, q3, q4, q5⟩ := hw'.1.all
                obtain ⟨s0, sf, sl⟩ := hw'.2.all
                dsimp only [badH] at q0 q1 q2 q3 q4 q5
                unfold noB at q4
                clear hw'
                go_simp
                try with_reducible rfl
              try simp only [Act.put, List.getElem_toArray, List.getElem_cons_zero, List.getElem_cons_succ, List.setIfInBounds_toArray, List.set_cons_zero, List.set_cons_succ]
              refine anyT_take (i := 9) (v := .int .i64 0) rfl (by kernel_rfl) (by kernel_rfl) (fun _ _ _ h => h) (Or.inl ⟨by rfl, ?_⟩) ⟨hS4.out.ks.b, hS4.out.ks.v⟩ ?_
              · intro w' hw'
                obtain ⟨q0, q1, q2, q3, q4, q5⟩ := hw'.1.all
                obtain ⟨s0, sf, sl⟩ := hw'.2.all
                dsimp only [badH] at q0 q1 q2 q3 q4 q5
                unfold noB at q4
                clear hw'
                go_simp
                try with_reducible rfl
              try simp only [Act.put, List.getElem_toArray, List.getElem_cons_zero, List.getElem_cons_succ, List.setIfInBounds_toArray, List.set_cons_zero, List.set_cons_succ]
              obtain ⟨p0, p1, p2, pf, pl⟩ := hP4.out.all
              refine anyT_one (i := 11) (by kernel_rfl) ?_
              refine wpOp_step rfl (fun K hK => ?_)
              replace hK := Lib.hid hK
              go_simp
              refine hK.out _ _ ⟨fun _ => ⟨hS4.out.ks.b, hS4.out.ks.v⟩, ?_⟩
              clear hK K
              try simp only [Act.put, List.getElem_toArray, List.getElem_cons_zero, List.getElem_cons_succ, List.setIfInBounds_toArray, List.set_cons_zero, List.set_cons_succ]
              have hbs : Below z4.heap.size z4 (((u4.setCell ⟨g0, 0, none⟩ (.int .i64 0)).setCell ⟨g0, 1, none⟩ (.int .i64 0)).setCell ⟨g0, 2, none⟩ (.int .i64 0)) :=
                hB4.out.trans ((Keep.set3 u4 g0 0 1 2 _ _ _).below (Nat.le_trans hB4.out.size (Nat.le_refl _)) fun b hb => by omega)
              have hPs : E3 (((u4.setCell ⟨g0, 0, none⟩ (.int .i64 0)).setCell ⟨g0, 1, none⟩ (.int .i64 0)).setCell ⟨g0, 2, none⟩ (.int .i64 0)) g0 30 0 0 0 := heap_set _ g0 2 _ _ _ (heap_set _ g0 1 _ _ _ (heap_set _ g0 0 _ _ _ hP4.out))
              have hKs := hK4.out.over hbs
              have hSs := (⟨hKs.ks.b, hKs.ks.v⟩ : BX (((u4.setCell ⟨g0, 0, none⟩ (.int .i64 0)).setCell ⟨g0, 1, none⟩ (.int .i64 0)).setCell ⟨g0, 2, none⟩ (.int .i64 0)) gb 36 badH none 0 0 ∧ E1 (((u4.setCell ⟨g0, 0, none⟩ (.int .i64 0)).setCell ⟨g0, 1, none⟩ (.int .i64 0)).setCell ⟨g0, 2, none⟩ (.int .i64 0)) gv 26 (.map mo))
              clear hKs hS4 hB4 hP4
              replace hbs := Lib.hid hbs
              replace hPs := Lib.hid hPs
              replace hSs := Lib.hid hSs
              refine anyT_one (i := 12) (by kernel_rfl) ?_
              refine wpOp_step rfl (fun K hK => ?_)
              replace hK := Lib.hid hK
              go_simp
              refine hK.out _ _ ⟨fun _ => hSs.out, ?_⟩
              clear hK K hSs p0 p1 p2 pf pl
              try simp only [Act.put, List.getElem_toArray, List.getElem_cons_zero, List.getElem_cons_succ, List.setIfInBounds_toArray, List.set_cons_zero, List.set_cons_succ]
              refine anyT_one (i := 13) (by kernel_rfl) ?_
              refine wpOp_step rfl (fun K hK => ?_)
              replace hK := Lib.hid hK
              go_simp
              refine hK.out _ _ ⟨fun h => absurd h (by decide), ?_⟩
              clear hK K
              try simp only [Act.put, List.getElem_toArray, List.getElem_cons_zero, List.getElem_cons_succ, List.setIfInBounds_toArray, List.set_cons_zero, List.set_cons_succ]
              refine anyT_done (by kernel_rfl) ?_ _
              go_wp2_with fail
              go_meet
              case rel => exact ⟨rfl, rfl, g0, rfl, hPs.out, hbs.out⟩
          ·
            refine wpOp_step rfl (fun K hK => ?_)
            replace hK := Lib.hid hK
            have hba := (Below.refl u1.heap.size u1).alloc (Nat.le_refl _) (.cells #[.int .i64 0, .int .i64 0, .int .i64 0] 30)
            have hS2 := hS1.out.over hba
            have hB2 := below_call hba hB1.out
            have hV2 := hV1.out.up hba
            have hP2 := E3.new u1 30 0 0 0
            obtain ⟨g0, hg0⟩ : ∃ g, u1.heap.size = g := ⟨_, rfl⟩
            rw [hg0] at hP2
            have hg1 : z4.heap.size ≤ g0 := by have := hB1.out.size; omega
            obtain ⟨u2, hu2⟩ : ∃ W, u1.alloc (.cells #[.int .i64 0, .int .i64 0, .int .i64 0] 30) = W := ⟨_, rfl⟩
            rw [hu2] at hS2 hB2 hP2 hV2
            go_simp
            refine hK.out _ _ ⟨fun _ => ⟨hS2.ks.b, hS2.ks.v⟩, ?_⟩
            clear hK K hba hS1 hB1 hV1
            replace hS2 := Lib.hid hS2
            replace hB2 := Lib.hid hB2
            replace hP2 := Lib.hid hP2
            replace hV2 := Lib.hid hV2
            try simp only [Act.put, List.getElem_toArray, List.getElem_cons_zero, List.getElem_cons_succ, List.setIfInBounds_toArray, List.set_cons_zero, List.set_cons_succ]
            refine anyT_one (i := 3) (by kernel_rfl) ?_
            refine wpOp_step rfl (fun K hK => ?_)
            replace hK := Lib.hid hK
            go_simp
            (with_reducible refine (htwo.out _ _ _ hV2.out).mono ?_)
            rintro e u3 ⟨Aw, cw, rfl, hT3, hb⟩
            have hS3 := hS2.out.over hb
            have hB3 := below_call hb hB2.out
            have hP3 := hP2.out.over hb
            have hV3 := hV2.out.up hb
            refine hK.out _ _ ⟨fun _ => ⟨hS3.ks.b, hS3.ks.v⟩, ?_⟩
            clear hK K hb hS2 hB2 hV3 hP2 hV2
            replace hS3 := Lib.hid hS3
            replace hB3 := Lib.hid hB3
            replace hP3 := Lib.hid hP3
            replace hT3 := Lib.hid hT3
            try simp only [Act.put, List.getElem_toArray, List.getElem_cons_zero, List.getElem_cons_succ, List.setIfInBounds_toArray, List.set_cons_zero, List.set_cons_succ]
            refine anyT_one (i := 5) (by kernel_rfl) ?_
            refine wpOp_step rfl (fun K hK => ?_)
            replace hK := Lib.hid hK
            go_simp
            (with_reducible refine (hevl.out _ _ _ hS3.out.ks.m hT3.out).mono ?_)
            rintro e u4 ⟨rfl, hb⟩
            have hS4 := hS3.out.over hb
            have hB4 := below_call hb hB3.out
            have hP4 := hP3.out.over hb
            have hT4 := hT3.out.up hb
            refine hK.out _ _ ⟨fun _ => ⟨hS4.ks.b, hS4.ks.v⟩, ?_⟩
            clear hK K hb hS3 hB3 hT4 hP3 hT3
            replace hS4 := Lib.hid hS4
            replace hB4 := Lib.hid hB4
            replace hP4 := Lib.hid hP4
            try simp only [Act.put, List.getElem_toArray, List.getElem_cons_zero, List.getElem_cons_succ, List.setIfInBounds_toArray, List.set_cons_zero, List.set_cons_succ]
            refine anyT_take (i := 6) (v := .tuple #[.int .i64 0, .agg #[.int .i64 0, .int .i64 0, .int .i64 0], .int .i64 0]) rfl (by kernel_rfl) (by kernel_rfl) (fun _ _ _ h => h) (Or.inl ⟨by rfl, ?_⟩) ⟨hS4.out.ks.b, hS4.out.ks.v⟩ ?_
            · intro w' hw'
              obtain ⟨q0, q1, q2, q3, q4, q5⟩ := hw'.1.all
              obtain ⟨s0, sf, sl⟩ := hw'.2.all
              dsimp only [badH] at q0 q1 q2 q3 q4 q5
              unfold noB at q4
              clear hw'
              go_simp
              try with_reducible rfl
            try simp only [Act.put, List.getElem_toArray, List.getElem_cons_zero, List.getElem_cons_succ, List.setIfInBounds_toArray, List.set_cons_zero, List.set_cons_succ]
            refine anyT_take (i := 7) (v := .int .i64 0) rfl (by kernel_rfl) (by kernel_rfl) (fun _ _ _ h => h) (Or.inl ⟨by rfl, ?_⟩) ⟨hS4.out.ks.b, hS4.out.ks.v⟩ ?_
            · intro w' hw'
              obtain ⟨q0, q1, q2, q3, q4, q5⟩ := hw'.1.all
              obtain ⟨s0, sf, sl⟩ := hw'.2.all
              dsimp only [badH] at q0 q1 q2 q3 q4 q5
              unfold noB at q4
              clear hw'
              go_simp
              try with_reducible rfl
            try simp only [Act.put, List.getElem_toArray, List.getElem_cons_zero, List.getElem_cons_succ, List.setIfInBounds_toArray, List.set_cons_zero, List.set_cons_succ]
            refine anyT_take (i := 8) (v := .agg #[.int .i64 0, .int .i64 0, .int .i64 0]) rfl (by kernel_rfl) (by kernel_rfl) (fun _ _ _ h => h) (Or.inl ⟨by rfl, ?_⟩) ⟨hS4.out.ks.b, hS4.out.ks.v⟩ ?_
            · intro w' hw'
              obtain ⟨q0, q1, q2, q3, q4, q5⟩ := hw'.1.all
              obtain ⟨s0, sf, sl⟩ := hw'.2.all
              dsimp only [badH] at q0 q1 q2 q3 q4 q5
              unfold noB at q4
              clear hw'
              go_simp
              try with_reducible rfl
            try simp only [Act.put, List.getElem_toArray, List.getElem_cons_zero, List.getElem_cons_succ, List.setIfInBounds_toArray, List.set_cons_zero, List.set_cons_succ]
            refine anyT_take (i := 9) (v := .int .i64 0) rfl (by kernel_rfl) (by kernel_rfl) (fun _ _ _ h => h) (Or.inl ⟨by rfl, ?_⟩) ⟨hS4.out.ks.b, hS4.out.ks.v⟩ ?_
            · intro w' hw'
              obtain ⟨q0, q1, q2, q3, q4, q5⟩ := hw'.1.all
              obtain ⟨s0, sf, sl⟩ := hw'.2.all
              dsimp only [badH] at q0 q1 q2 q3 q4 q5
              unfold noB at q4
              clear hw'
              go_simp
              try with_reducible rfl
            try simp only [Act.put, List.getElem_toArray, List.getElem_cons_zero, List.getElem_cons_succ, List.setIfInBounds_toArray, List.set_cons_zero, List.set_cons_succ]
            obtain ⟨p0, p1, p2, pf, pl⟩ := hP4.out.all
            refine anyT_one (i := 11) (by kernel_rfl) ?_
            refine wpOp_step rfl (fun K hK => ?_)
            replace hK := Lib.hid hK
            go_simp
            refine hK.out _ _ ⟨fun _ => ⟨hS4.out.ks.b, hS4.out.ks.v⟩, ?_⟩
            clear hK K
            try simp only [Act.put, List.getElem_toArray, List.getElem_cons_zero, List.getElem_cons_succ, List.setIfInBounds_toArray, List.set_cons_zero, List.set_cons_succ]
            have hbs : Below z4.heap.size z4 (((u4.setCell ⟨g0, 0, none⟩ (.int .i64 0)).setCell ⟨g0, 1, none⟩ (.int .i64 0)).setCell ⟨g0, 2, none⟩ (.int .i64 0)) :=
              hB4.out.trans ((Keep.set3 u4 g0 0 1 2 _ _ _).below (Nat.le_trans hB4.out.size (Nat.le_refl _)) fun b hb => by omega)
            have hPs : E3 (((u4.setCell ⟨g0, 0, none⟩ (.int .i64 0)).setCell ⟨g0, 1, none⟩ (.int .i64 0)).setCell ⟨g0, 2, none⟩ (.int .i64 0)) g0 30 0 0 0 := heap_set _ g0 2 _ _ _ (heap_set _ g0 1 _ _ _ (heap_set _ g0 0 _ _ _ hP4.out))
            have hKs := hK4.out.over hbs
            have hSs := (⟨hKs.ks.b, hKs.ks.v⟩ : BX (((u4.setCell ⟨g0, 0, none⟩ (.int .i64 0)).setCell ⟨g0, 1, none⟩ (.int .i64 0)).setCell ⟨g0, 2, none⟩ (.int .i64 0)) gb 36 badH none 0 0 ∧ E1 (((u4.setCell ⟨g0, 0, none⟩ (.int .i64 0)).setCell ⟨g0, 1, none⟩ (.int .i64 0)).setCell ⟨g0, 2, none⟩ (.int .i64 0)) gv 26 (.map mo))
            clear hKs hS4 hB4 hP4
            replace hbs := Lib.hid hbs
            replace hPs := Lib.hid hPs
            replace hSs := Lib.hid hSs
            refine anyT_one (i := 12) (by kernel_rfl) ?_
            refine wpOp_step rfl (fun K hK => ?_)
            replace hK := Lib.hid hK
            go_simp
            refine hK.out _ _ ⟨fun _ => hSs.out, ?_⟩
            clear hK K hSs p0 p1 p2 pf pl
            try simp only [Act.put, List.getElem_toArray, List.getElem_cons_zero, List.getElem_cons_succ, List.setIfInBounds_toArray, List.set_cons_zero, List.set_cons_succ]
            refine anyT_one (i := 13) (by kernel_rfl) ?_
            refine wpOp_step rfl (fun K hK => ?_)
            replace hK := Lib.hid hK
            go_simp
            refine hK.out _ _ ⟨fun h => absurd h (by decide), ?_⟩
            clear hK K
            try simp only [Act.put, List.getElem_toArray, List.getElem_cons_zero, List.getElem_cons_succ, List.setIfInBounds_toArray, List.set_cons_zero, List.set_cons_succ]
            refine anyT_done (by kernel_rfl) ?_ _
            go_wp2_with fail
            go_meet
            case rel => exact ⟨rfl, rfl, g0, rfl, hPs.out, hbs.out⟩
        ·
          refine wpOp_step rfl (fun K hK => ?_)
          replace hK := Lib.hid hK
          have hba := (Below.refl u0.heap.size u0).alloc (Nat.le_refl _) (.cells #[.int .i64 0, .int .i64 0, .int .i64 0] 30)
          have hS1 := hS0.out.over hba
          have hB1 := below_call hba hB0.out
          have hP1 := E3.new u0 30 0 0 0
          obtain ⟨g0, hg0⟩ : ∃ g, u0.heap.size = g := ⟨_, rfl⟩
          rw [hg0] at hP1
          have hg1 : z4.heap.size ≤ g0 := by have := hB0.out.size; omega
          obtain ⟨u1, hu1⟩ : ∃ W, u0.alloc (.cells #[.int .i64 0, .int .i64 0, .int .i64 0] 30) = W := ⟨_, rfl⟩
          rw [hu1] at hS1 hB1 hP1
          go_simp
          refine hK.out _ _ ⟨fun _ => ⟨hS1.ks.b, hS1.ks.v⟩, ?_⟩
          clear hK K hba hS0 hB0 
          replace hS1 := Lib.hid hS1
          replace hB1 := Lib.hid hB1
          replace hP1 := Lib.hid hP1
          try simp only [Act.put, List.getElem_toArray, List.getElem_cons_zero, List.getElem_cons_succ, List.setIfInBounds_toArray, List.set_cons_zero, List.set_cons_succ]
          refine anyT_one (i := 1) (by kernel_rfl) ?_
          refine wpOp_step rfl (fun K hK => ?_)
          replace hK := Lib.hid hK
          go_simp
          (with_reducible refine (hval.out _ hS1.out.ks.t).mono ?_)
          rintro e u2 ⟨At, ct, rfl, hV2, hb⟩
          have hS2 := hS1.out.over hb
          have hB2 := below_call hb hB1.out
          have hP2 := hP1.out.over hb
          refine hK.out _ _ ⟨fun _ => ⟨hS2.ks.b, hS2.ks.v⟩, ?_⟩
          clear hK K hb hS1 hB1 hP1
          replace hS2 := Lib.hid hS2
          replace hB2 := Lib.hid hB2
          replace hP2 := Lib.hid hP2
          replace hV2 := Lib.hid hV2
          try simp only [Act.put, List.getElem_toArray, List.getElem_cons_zero, List.getElem_cons_succ, List.setIfInBounds_toArray, List.set_cons_zero, List.set_cons_succ]
          refine anyT_one (i := 3) (by kernel_rfl) ?_
          refine wpOp_step rfl (fun K hK => ?_)
          replace hK := Lib.hid hK
          go_simp
          (with_reducible refine (htwo.out _ _ _ hV2.out).mono ?_)
          rintro e u3 ⟨Aw, cw, rfl, hT3, hb⟩
          have hS3 := hS2.out.over hb
          have hB3 := below_call hb hB2.out
          have hP3 := hP2.out.over hb
          have hV3 := hV2.out.up hb
          refine hK.out _ _ ⟨fun _ => ⟨hS3.ks.b, hS3.ks.v⟩, ?_⟩
          clear hK K hb hS2 hB2 hV3 hP2 hV2
          replace hS3 := Lib.hid hS3
          replace hB3 := Lib.hid hB3
          replace hP3 := Lib.hid hP3
          replace hT3 := Lib.hid hT3
          try simp only [Act.put, List.getElem_toArray, List.getElem_cons_zero, List.getElem_cons_succ, List.setIfInBounds_toArray, List.set_cons_zero, List.set_cons_succ]
          refine anyT_one (i := 5) (by kernel_rfl) ?_
          refine wpOp_step rfl (fun K hK => ?_)
          replace hK := Lib.hid hK
          go_simp
          (with_reducible refine (hevl.out _ _ _ hS3.out.ks.m hT3.out).mono ?_)
          rintro e u4 ⟨rfl, hb⟩
          have hS4 := hS3.out.over hb
          have hB4 := below_call hb hB3.out
          have hP4 := hP3.out.over hb
          have hT4 := hT3.out.up hb
          refine hK.out _ _ ⟨fun _ => ⟨hS4.ks.b, hS4.ks.v⟩, ?_⟩
          clear hK K hb hS3 hB3 hT4 hP3 hT3
          replace hS4 := Lib.hid hS4
          replace hB4 := Lib.hid hB4
          replace hP4 := Lib.hid hP4
          try simp only [Act.put, List.getElem_toArray, List.getElem_cons_zero, List.getElem_cons_succ, List.setIfInBounds_toArray, List.set_cons_zero, List.set_cons_succ]
          refine anyT_take (i := 6) (v := .tuple #[.int .i64 0, .agg #[.int .i64 0, .int .i64 0, .int .i64 0], .int .i64 0]) rfl (by kernel_rfl) (by kernel_rfl) (fun _ _ _ h => h) (Or.inl ⟨by rfl, ?_⟩) ⟨hS4.out.ks.b, hS4.out.ks.v⟩ ?_
          · intro w' hw'
            obtain ⟨q0, q1, q2, q3, q4, q5⟩ := hw'.1.all
            obtain ⟨s0, sf, sl⟩ := hw'.2.all
            dsimp only [badH] at q0 q1 q2 q3 q4 q5
            unfold noB at q4
            clear hw'
            go_simp
            try with_reducible rfl
          try simp only [Act.put, List.getElem_toArray, List.getElem_cons_zero, List.getElem_cons_succ, List.setIfInBounds_toArray, List.set_cons_zero, List.set_cons_succ]
          refine anyT_take (i := 7) (v := .int .i64 0) rfl (by kernel_rfl) (by kernel_rfl) (fun _ _ _ h => h) (Or.inl ⟨by rfl, ?_⟩) ⟨hS4.out.ks.b, hS4.out.ks.v⟩ ?_
          · intro w' hw'
            obtain ⟨q0, q1, q2, q3, q4, q5⟩ := hw'.1.all
            obtain ⟨s0, sf, sl⟩ := hw'.2.all
            dsimp only [badH] at q0 q1 q2 q3 q4 q5
            unfold noB at q4
            clear hw'
            go_simp
            try with_reducible rfl
          try simp only [Act.put, List.getElem_toArray, List.getElem_cons_zero, List.getElem_cons_succ, List.setIfInBounds_toArray, List.set_cons_zero, List.set_cons_succ]
          refine anyT_take (i := 8) (v := .agg #[.int .i64 0, .int .i64 0, .int .i64 0]) rfl (by kernel_rfl) (by kernel_rfl) (fun _ _ _ h => h) (Or.inl ⟨by rfl, ?_⟩) ⟨hS4.out.ks.b, hS4.out.ks.v⟩ ?_
          · intro w' hw'
            obtain ⟨q0, q1, q2, q3, q4, q5⟩ := hw'.1.all
            obtain ⟨s0, sf, sl⟩ := hw'.2.all
            dsimp only [badH] at q0 q1 q2 q3 q4 q5
            unfold noB at q4
            clear hw'
            go_simp
            try with_reducible rfl
          try simp only [Act.put, List.getElem_toArray, List.getElem_cons_zero, List.getElem_cons_succ, List.setIfInBounds_toArray, List.set_cons_zero, List.set_cons_succ]
          refine anyT_take (i := 9) (v := .int .i64 0) rfl (by kernel_rfl) (by kernel_rfl) (fun _ _ _ h => h) (Or.inl ⟨by rfl, ?_⟩) ⟨hS4.out.ks.b, hS4.out.ks.v⟩ ?_
          · intro w' hw'
            obtain ⟨q0, q1, q2, q3, q4, q5⟩ := hw'.1.all
            obtain ⟨s0, sf, sl⟩ := hw'.2.all
            dsimp only [badH] at q0 q1 q2 q3 q4 q5
            unfold noB at q4
            clear hw'
            go_simp
            try with_reducible rfl
          try simp only [Act.put, List.getElem_toArray, List.getElem_cons_zero, List.getElem_cons_succ, List.setIfInBounds_toArray, List.set_cons_zero, List.set_cons_succ]
          obtain ⟨p0, p1, p2, pf, pl⟩ := hP4.out.all
          refine anyT_one (i := 11) (by kernel_rfl) ?_
          refine wpOp_step rfl (fun K hK => ?_)
          replace hK := Lib.hid hK
          go_simp
          refine hK.out _ _ ⟨fun _ => ⟨hS4.out.ks.b, hS4.out.ks.v⟩, ?_⟩
          clear hK K
          try simp only [Act.put, List.getElem_toArray, List.getElem_cons_zero, List.getElem_cons_succ, List.setIfInBounds_toArray, List.set_cons_zero, List.set_cons_succ]
          have hbs : Below z4.heap.size z4 (((u4.setCell ⟨g0, 0, none⟩ (.int .i64 0)).setCell ⟨g0, 1, none⟩ (.int .i64 0)).setCell ⟨g0, 2, none⟩ (.int .i64 0)) :=
            hB4.out.trans ((Keep.set3 u4 g0 0 1 2 _ _ _).below (Nat.le_trans hB4.out.size (Nat.le_refl _)) fun b hb => by omega)
          have hPs : E3 (((u4.setCell ⟨g0, 0, none⟩ (.int .i64 0)).setCell ⟨g0, 1, none⟩ (.int .i64 0)).setCell ⟨g0, 2, none⟩ (.int .i64 0)) g0 30 0 0 0 := heap_set _ g0 2 _ _ _ (heap_set _ g0 1 _ _ _ (heap_set _ g0 0 _ _ _ hP4.out))
          have hKs := hK4.out.over hbs
          have hSs := (⟨hKs.ks.b, hKs.ks.v⟩ : BX (((u4.setCell ⟨g0, 0, none⟩ (.int .i64 0)).setCell ⟨g0, 1, none⟩ (.int .i64 0)).setCell ⟨g0, 2, none⟩ (.int .i64 0)) gb 36 badH none 0 0 ∧ E1 (((u4.setCell ⟨g0, 0, none⟩ (.int .i64 0)).setCell ⟨g0, 1, none⟩ (.int .i64 0)).setCell ⟨g0, 2, none⟩ (.int .i64 0)) gv 26 (.map mo))
          clear hKs hS4 hB4 hP4
          replace hbs := Lib.hid hbs
          replace hPs := Lib.hid hPs
          replace hSs := Lib.hid hSs
          refine anyT_one (i := 12) (by kernel_rfl) ?_
          refine wpOp_step rfl (fun K hK => ?_)
          replace hK := Lib.hid hK
          go_simp
          refine hK.out _ _ ⟨fun _ => hSs.out, ?_⟩
          clear hK K hSs p0 p1 p2 pf pl
          try simp only [Act.put, List.getElem_toArray, List.getElem_cons_zero, List.getElem_cons_succ, List.setIfInBounds_toArray, List.set_cons_zero, List.set_cons_succ]
          refine anyT_one (i := 13) (by kernel_rfl) ?_
          refine wpOp_step rfl (fun K hK => ?_)
          replace hK := Lib.hid hK
          go_simp
          refine hK.out _ _ ⟨fun h => absurd h (by decide), ?_⟩
          clear hK K
          try simp only [Act.put, List.getElem_toArray, List.getElem_cons_zero, List.getElem_cons_succ, List.setIfInBounds_toArray, List.set_cons_zero, List.set_cons_succ]
          refine anyT_done (by kernel_rfl) ?_ _
          go_wp2_with fail
          go_meet
          case rel => exact ⟨rfl, rfl, g0, rfl, hPs.out, hbs.out⟩
      case rest =>
        obtain ⟨rfl, rfl, g18, rfl, hE18, hb18⟩ := hcut
        have hK5 := Lib.hid (hK4.out.over hb18)
        clear hE18 hb18 hK4 hval htwo hevl
        obtain ⟨z5, hz5⟩ : ∃ z, wc = z := ⟨_, rfl⟩
        rw [hz5] at hK5 ⊢
        clear hz5
        have hm1 : max 1 kk = max 1 kk := rfl
        obtain ⟨m1, hm1⟩ : ∃ m1, max 1 kk = m1 := ⟨_, rfl⟩
        have hmi : InR m1 ∧ 1 ≤ m1 := by have := hkk2.out; unfold InR at *; omega
        go_upto_region 19 with fail
        obtain ⟨V, hVe⟩ : ∃ V, XVal m1 = V := ⟨_, rfl⟩
        have hval := fun W (q : LT W) => Value_t m1 m1 (by have := hmi.1; unfold InR at this; omega) W q
        have hwv : WX (.b (opH 4 ⟨#[124, 124]⟩) (XVal m1) (.z badH)) := wx_or m1 hmi.1 _ wx_bad
        have hev0 := ev_or1 (envB (keyL L)) m1 hmi.2 hmi.1 (.z badH)
        have hevl := fun (A : Option Addr) (c : Nat) (W : World) (q1 : EnvIs W (.map mo) (keyL L)) (q2 : XAr W W.heap.size (.b (opH 4 ⟨#[124, 124]⟩) (XVal m1) (.z badH)) A) => Eval_t (.b (opH 4 ⟨#[124, 124]⟩) (XVal m1) (.z badH)) A c mo (keyL L) W q1 q2 hwv
        rw [hev0] at hevl
        unfold KO at hevl
        rw [hVe] at hval hevl
        unfold VX at hval
        have htwo := fun (A1 : Option Addr) (c1 : Nat) (W : World) (q : XAr W W.heap.size V A1) => two_t ⟨#[124, 124]⟩ V (.z badH) A1 none c1 0 W q trivial
        unfold TWO at htwo
        obtain ⟨TW, hTW⟩ : ∃ T, XT.b (opH 4 ⟨#[124, 124]⟩) V (.z badH) = T := ⟨_, rfl⟩
        rw [hTW] at hevl htwo
        replace htwo : ∀ (A1 : Option Addr) (c1 : Nat) (W : World), XAr W W.heap.size V A1 → Calls Tryz.prog 20 #[.string ⟨#[124, 124]⟩, xv V.h A1 V.args.length c1, .agg #[.int .i64 2, .int .i64 1, .int .i64 1, .int .i64 99, .string ⟨#[110, 111, 32, 115, 117, 99, 104, 32, 110, 97, 109, 101]⟩, .slice none 0 0]] W fun e w' => ∃ A c, e = .returned (.agg #[.int .i64 4, .int .i64 0, .int .i64 0, .int .i64 0, .string ⟨#[124, 124]⟩, .slice A 2 c]) ∧ XAr w' w'.heap.size TW A ∧ Below W.heap.size W w' := htwo
        replace hevl : ∀ (A : Option Addr) (c : Nat) (W : World), EnvIs W (.map mo) (keyL L) → XAr W W.heap.size TW A → Calls Tryz.prog 9 #[.agg #[.int .i64 4, .int .i64 0, .int .i64 0, .int .i64 0, .string ⟨#[124, 124]⟩, .slice A 2 c], .agg #[.map mo]] W fun x w' => x = .returned (.tuple #[.int .i64 1, .agg #[.int .i64 0, .int .i64 0, .int .i64 0], .int .i64 0]) ∧ Below W.heap.size W w' := fun A c W q1 q2 => by subst hTW; exact hevl A c W q1 q2
        clear hVe hTW hwv hev0
        replace hval := Lib.hid hval
        replace htwo := Lib.hid htwo
        replace hevl := Lib.hid hevl
        go_cut [27, 28, 29] from 33 (fun xv pv ev wz => xv = .int .i64 1 ∧ ev = .int .i64 0 ∧ ∃ g0, pv = .pointer (some ⟨g0, 0, none⟩) ∧ E3 wz g0 30 0 0 0 ∧ Below z5.heap.size z5 wz)
        case first =>
          obtain ⟨u0, hu0⟩ : ∃ W, z5.drew = W := ⟨_, rfl⟩
          have hbd : Below z5.heap.size z5 z5.drew := (Below.refl _ _).drew
          have hS0 := hK5.out.over hbd
          rw [hu0] at hS0 hbd
          have hB0 := hbd
          clear hbd
          have hC0 := (⟨hS0.ks.b, hS0.ks.v⟩ : BX u0 gb 36 badH none 0 0 ∧ E1 u0 gv 26 (.map mo))
          replace hS0 := Lib.hid hS0
          replace hB0 := Lib.hid hB0
          replace hC0 := Lib.hid hC0
          refine region_anyT (n := 15) (S := (fun w' => BX w' gb 36 badH none 0 0 ∧ E1 w' gv 26 (.map mo))) (by kernel_rfl) ?_
          rw [hu0]
          refine anyT_take (i := 0) (v := (Value.func (Fn.func 20) #[] #[])) rfl (by kernel_rfl) (by kernel_rfl) (fun _ _ _ h => h) (Or.inl ⟨by rfl, ?_⟩) hC0.out ?_
          · intro w' hw'
            obtain ⟨q0, q1, q2, q3, q4, q5⟩ := hw'.1.all
            obtain ⟨s0, sf, sl⟩ := hw'.2.all
            dsimp only [badH] at q0 q1 q2 q3 q4 q5
            unfold noB at q4
            clear hw'
            go_simp
            try with_reducible rfl
          try simp only [Act.put, List.getElem_toArray, List.getElem_cons_zero, List.setIfInBounds_toArray, List.set_cons_zero, List.set_cons_succ]
          refine anyT_take (i := 1) (v := .int .i64 kk) rfl (by kernel_rfl) (by kernel_rfl) (fun _ _ _ h => h) (Or.inl ⟨by rfl, ?_⟩) hC0.out ?_
          · intro w' hw'
            obtain ⟨q0, q1, q2, q3, q4, q5⟩ := hw'.1.all
            obtain ⟨s0, sf, sl⟩ := hw'.2.all
            dsimp only [badH] at q0 q1 q2 q3 q4 q5
            unfold noB at q4
            clear hw'
            go_simp
            try with_reducible rfl
          try simp only [Act.put, List.getElem_toArray, List.getElem_cons_zero, List.getElem_cons_succ, List.setIfInBounds_toArray, List.set_cons_zero, List.set_cons_succ]
          refine anyT_take (i := 2) (v := .int .i64 m1) rfl (by kernel_rfl) (by kernel_rfl) (fun _ _ _ h => h) (Or.inl ⟨by rfl, ?_⟩) hC0.out ?_
          · intro w' hw'
            obtain ⟨q0, q1, q2, q3, q4, q5⟩ := hw'.1.all
            obtain ⟨s0, sf, sl⟩ := hw'.2.all
            dsimp only [badH] at q0 q1 q2 q3 q4 q5
            unfold noB at q4
            clear hw'
            go_simp
            try with_reducible rfl
          try simp only [Act.put, List.getElem_toArray, List.getElem_cons_zero, List.getElem_cons_succ, List.setIfInBounds_toArray, List.set_cons_zero, List.set_cons_succ]
          refine anyT_take (i := 4) (v := .agg #[.int .i64 2, .int .i64 1, .int .i64 1, .int .i64 99, .string ⟨#[110, 111, 32, 115, 117, 99, 104, 32, 110, 97, 109, 101]⟩, .slice none 0 0]) rfl (by kernel_rfl) (by kernel_rfl) (fun _ _ _ h => h) (Or.inl ⟨by rfl, ?_⟩) hC0.out ?_
          · intro w' hw'
            obtain ⟨q0, q1, q2, q3, q4, q5⟩ := hw'.1.all
            obtain ⟨s0, sf, sl⟩ := hw'.2.all
            dsimp only [badH] at q0 q1 q2 q3 q4 q5
            unfold noB at q4
            clear hw'
            go_simp
            try with_reducible rfl
          try simp only [Act.put, List.getElem_toArray, List.getElem_cons_zero, List.getElem_cons_succ, List.setIfInBounds_toArray, List.set_cons_zero, List.set_cons_succ]
          refine anyT_take (i := 6) (v := .agg #[.map mo]) rfl (by kernel_rfl) (by kernel_rfl) (fun _ _ _ h => h) (Or.inl ⟨by rfl, ?_⟩) hC0.out ?_
          · intro w' hw'
            obtain ⟨q0, q1, q2, q3, q4, q5⟩ := hw'.1.all
            obtain ⟨s0, sf, sl⟩ := hw'.2.all
            dsimp only [badH] at q0 q1 q2 q3 q4 q5
            unfold noB at q4
            clear hw'
            go_simp
            try with_reducible rfl
          try simp only [Act.put, List.getElem_toArray, List.getElem_cons_zero, List.getElem_cons_succ, List.setIfInBounds_toArray, List.set_cons_zero, List.set_cons_succ]
          clear hC0
          refine anyT_pair (i := 3) (j := 12) (by kernel_rfl) ?_ ?_
          ·
            refine wpOp_step rfl (fun K hK => ?_)
            replace hK := Lib.hid hK
            go_simp
            (with_reducible refine (hval.out _ hS0.out.ks.t).mono ?_)
            rintro e u1 ⟨At, ct, rfl, hV1, hb⟩
            have hS1 := hS0.out.over hb
            have hB1 := below_call hb hB0.out
            refine hK.out _ _ ⟨fun _ => ⟨hS1.ks.b, hS1.ks.v⟩, ?_⟩
            clear hK K hb hS0 hB0 
            replace hS1 := Lib.hid hS1
            replace hB1 := Lib.hid hB1
            replace hV1 := Lib.hid hV1
            try simp only [Act.put, List.getElem_toArray, List.getElem_cons_zero, List.getElem_cons_succ, List.setIfInBounds_toArray, List.set_cons_zero, List.set_cons_succ]
            refine anyT_pair (i := 5) (j := 12) (by kernel_rfl) ?_ ?_
            ·
              refine wpOp_step rfl (fun K hK => ?_)
              replace hK := Lib.hid hK
              go_simp
              (with_reducible refine (htwo.out _ _ _ hV1.out).mono ?_)
              rintro e u2 ⟨Aw, cw, rfl, hT2, hb⟩
              have hS2 := hS1.out.over hb
              have hB2 := below_call hb hB1.out
              have hV2 := hV1.out.up hb
              refine hK.out _ _ ⟨fun _ => ⟨hS2.ks.b, hS2.ks.v⟩, ?_⟩
              clear hK K hb hS1 hB1 hV2 hV1
              replace hS2 := Lib.hid hS2
              replace hB2 := Lib.hid hB2
              replace hT2 := Lib.hid hT2
              try simp only [Act.put, List.getElem_toArray, List.getElem_cons_zero, List.getElem_cons_succ, List.setIfInBounds_toArray, List.set_cons_zero, List.set_cons_succ]
              refine anyT_pair (i := 7) (j := 12) (by kernel_rfl) ?_ ?_
              ·
                refine wpOp_step rfl (fun K hK => ?_)
                replace hK := Lib.hid hK
                go_simp
                (with_reducible refine (hevl.out _ _ _ hS2.out.ks.m hT2.out).mono ?_)
                rintro e u3 ⟨rfl, hb⟩
                have hS3 := hS2.out.over hb
                have hB3 := below_call hb hB2.out
                have hT3 := hT2.out.up hb
                refine hK.out _ _ ⟨fun _ => ⟨hS3.ks.b, hS3.ks.v⟩, ?_⟩
                clear hK K hb hS2 hB2 hT3 hT2
                replace hS3 := Lib.hid hS3
                replace hB3 := Lib.hid hB3
                try simp only [Act.put, List.getElem_toArray, List.getElem_cons_zero, List.getElem_cons_succ, List.setIfInBounds_toArray, List.set_cons_zero, List.set_cons_succ]
                refine anyT_take (i := 8) (v := .tuple #[.int .i64 1, .agg #[.int .i64 0, .int .i64 0, .int .i64 0], .int .i64 0]) rfl (by kernel_rfl) (by kernel_rfl) (fun _ _ _ h => h) (Or.inl ⟨by rfl, ?_⟩) ⟨hS3.out.ks.b, hS3.out.ks.v⟩ ?_
                · intro w' hw'
                  obtain ⟨q0, q1, q2, q3, q4, q5⟩ := hw'.1.all
                  obtain ⟨s0, sf, sl⟩ := hw'.2.all
                  dsimp only [badH] at q0 q1 q2 q3 q4 q5
                  unfold noB at q4
                  clear hw'
                  go_simp
                  try with_reducible rfl
                try simp only [Act.put, List.getElem_toArray, List.getElem_cons_zero, List.getElem_cons_succ, List.setIfInBounds_toArray, List.set_cons_zero, List.set_cons_succ]
                refine anyT_take (i := 9) (v := .int .i64 1) rfl (by kernel_rfl) (by kernel_rfl) (fun _ _ _ h => h) (Or.inl ⟨by rfl, ?_⟩) ⟨hS3.out.ks.b, hS3.out.ks.v⟩ ?_
                · intro w' hw'
                  obtain ⟨q0, q1, q2, q3, q4, q5⟩ := hw'.1.all
                  obtain ⟨s0, sf, sl⟩ := hw'.2.all
                  dsimp only [badH] at q0 q1 q2 q3 q4 q5
                  unfold noB at q4
                  clear hw'
                  go_simp
                  try with_reducible rfl
                try simp only [Act.put, List.getElem_toArray, List.getElem_cons_zero, List.getElem_cons_succ, List.setIfInBounds_toArray, List.set_cons_zero, List.set_cons_succ]
                refine anyT_take (i := 10) (v := .agg #[.int .i64 0, .int .i64 0, .int .i64 0]) rfl (by kernel_rfl) (by kernel_rfl) (fun _ _ _ h => h) (Or.inl ⟨by rfl, ?_⟩) ⟨hS3.out.ks.b, hS3.out.ks.v⟩ ?_
                · intro w' hw'
                  obtain ⟨q0, q1, q2, q3, q4, q5⟩ := hw'.1.all
                  obtain ⟨s0, sf, sl⟩ := hw'.2.all
                  dsimp only [badH] at q0 q1 q2 q3 q4 q5
                  unfold noB at q4
                  clear hw'
                  go_simp
                  try with_reducible rfl
                try simp only [Act.put, List.getElem_toArray, List.getElem_cons_zero, List.getElem_cons_succ, List.setIfInBounds_toArray, List.set_cons_zero, List.set_cons_succ]
                refine anyT_take (i := 11) (v := .int .i64 0) rfl (by kernel_rfl) (by kernel_rfl) (fun _ _ _ h => h) (Or.inl ⟨by rfl, ?_⟩) ⟨hS3.out.ks.b, hS3.out.ks.v⟩ ?_
                · intro w' hw'
                  obtain ⟨q0, q1, q2, q3, q4, q5⟩ := hw'.1.all
                  obtain ⟨s0, sf, sl⟩ := hw'.2.all
                  dsimp only [badH] at q0 q1 q2 q3 q4 q5
                  unfold noB at q4
                  clear hw'
                  go_simp
                  try with_reducible rfl
                try simp only [Act.put, List.getElem_toArray, List.getElem_cons_zero, List.getElem_cons_succ, List.setIfInBounds_toArray, List.set_cons_zero, List.set_cons_succ]
                refine anyT_one (i := 12) (by kernel_rfl) ?_
                refine wpOp_step rfl (fun K hK => ?_)
                replace hK := Lib.hid hK
                have hba := (Below.refl u3.heap.size u3).alloc (Nat.le_refl _) (.cells #[.int .i64 0, .int .i64 0, .int .i64 0] 30)
                have hS4 := hS3.out.over hba
                have hB4 := below_call hba hB3.out
                have hP4 := E3.new u3 30 0 0 0
                obtain ⟨g0, hg0⟩ : ∃ g, u3.heap.size = g := ⟨_, rfl⟩
                rw [hg0] at hP4
                have hg1 : z5.heap.size ≤ g0 := by have := hB3.out.size; omega
                obtain ⟨u4, hu4⟩ : ∃ W, u3.alloc (.cells #[.int .i64 0, .int .i64 0, .int .i64 0] 30) = W := ⟨_, rfl⟩
                rw [hu4] at hS4 hB4 hP4
                go_simp
                refine hK.out _ _ ⟨fun _ => ⟨hS4.ks.b, hS4.ks.v⟩, ?_⟩
                clear hK K hba hS3 hB3 
                replace hS4 := Lib.hid hS4
                replace hB4 := Lib.hid hB4
                replace hP4 := Lib.hid hP4
                try simp only [Act.put, List.getElem_toArray, List.getElem_cons_zero, List.getElem_cons_succ, List.setIfInBounds_toArray, List.set_cons_zero, List.set_cons_succ]
                obtain ⟨p0, p1, p2, pf, pl⟩ := hP4.out.all
                refine anyT_one (i := 13) (by kernel_rfl) ?_
                refine wpOp_step rfl (fun K hK => ?_)
                replace hK := Lib.hid hK
                go_simp
                refine hK.out _ _ ⟨fun _ => ⟨hS4.out.ks.b, hS4.out.ks.v⟩, ?_⟩
                clear hK K
                try simp only [Act.put, List.getElem_toArray, List.getElem_cons_zero, List.getElem_cons_succ, List.setIfInBounds_toArray, List.set_cons_zero, List.set_cons_succ]
                have hbs : Below z5.heap.size z5 (((u4.setCell ⟨g0, 0, none⟩ (.int .i64 0)).setCell ⟨g0, 1, none⟩ (.int .i64 0)).setCell ⟨g0, 2, none⟩ (.int .i64 0)) :=
                  hB4.out.trans ((Keep.set3 u4 g0 0 1 2 _ _ _).below (Nat.le_trans hB4.out.size (Nat.le_refl _)) fun b hb => by omega)
                have hPs : E3 (((u4.setCell ⟨g0, 0, none⟩ (.int .i64 0)).setCell ⟨g0, 1, none⟩ (.int .i64 0)).setCell ⟨g0, 2, none⟩ (.int .i64 0)) g0 30 0 0 0 := heap_set _ g0 2 _ _ _ (heap_set _ g0 1 _ _ _ (heap_set _ g0 0 _ _ _ hP4.out))
                have hKs := hK5.out.over hbs
                have hSs := (⟨hKs.ks.b, hKs.ks.v⟩ : BX (((u4.setCell ⟨g0, 0, none⟩ (.int .i64 0)).setCell ⟨g0, 1, none⟩ (.int .i64 0)).setCell ⟨g0, 2, none⟩ (.int .i64 0)) gb 36 badH none 0 0 ∧ E1 (((u4.setCell ⟨g0, 0, none⟩ (.int .i64 0)).setCell ⟨g0, 1, none⟩ (.int .i64 0)).setCell ⟨g0, 2, none⟩ (.int .i64 0)) gv 26 (.map mo))
                clear hKs hS4 hB4 hP4
                replace hbs := Lib.hid hbs
                replace hPs := Lib.hid hPs
                replace hSs := Lib.hid hSs
                refine anyT_one (i := 14) (by kernel_rfl) ?_
                refine wpOp_step rfl (fun K hK => ?_)
                replace hK := Lib.hid hK
                go_simp
                refine hK.out _ _ ⟨fun _ => hSs.out, ?_⟩
                clear hK K hSs p0 p1 p2 pf pl
                try simp only [Act.put, List.getElem_toArray, List.getElem_cons_zero, List.getElem_cons_succ, List.setIfInBounds_toArray, List.set_cons_zero, List.set_cons_succ]
                refine anyT_one (i := 15) (by kernel_rfl) ?_
                refine wpOp_step rfl (fun K hK => ?_)
                replace hK := Lib.hid hK
                go_simp
                refine hK.out _ _ ⟨fun h => absurd h (by decide), ?_⟩
                clear hK K
                try simp only [Act.put, List.getElem_toArray, List.getElem_cons_zero, List.getElem_cons_succ, List.setIfInBounds_toArray, List.set_cons_zero, List.set_cons_succ]
                refine anyT_done (by kernel_rfl) ?_ _
                go_wp2_with fail
                go_meet
                case rel => exact ⟨rfl, rfl, g0, rfl, hPs.out, hbs.out⟩
              ·
                refine wpOp_step rfl (fun K hK => ?_)
                replace hK := Lib.hid hK
                have hba := (Below.refl u2.heap.size u2).alloc (Nat.le_refl _) (.cells #[.int .i64 0, .int .i64 0, .int .i64 0] 30)
                have hS3 := hS2.out.over hba
                have hB3 := below_call hba hB2.out
                have hT3 := hT2.out.up hba
                have hP3 := E3.new u2 30 0 0 0
                obtain ⟨g0, hg0⟩ : ∃ g, u2.heap.size = g := ⟨_, rfl⟩
                rw [hg0] at hP3
                have hg1 : z5.heap.size ≤ g0 := by have := hB2.out.size; omega
                obtain ⟨u3, hu3⟩ : ∃ W, u2.alloc (.cells #[.int .i64 0, .int .i64 0, .int .i64 0] 30) = W := ⟨_, rfl⟩
                rw [hu3] at hS3 hB3 hP3 hT3
                go_simp
                refine hK.out _ _ ⟨fun _ => ⟨hS3.ks.b, hS3.ks.v⟩, ?_⟩
                clear hK K hba hS2 hB2 hT2
                replace hS3 := Lib.hid hS3
                replace hB3 := Lib.hid hB3
                replace hP3 := Lib.hid hP3
                replace hT3 := Lib.hid hT3
                try simp only [Act.put, List.getElem_toArray, List.getElem_cons_zero, List.getElem_cons_succ, List.setIfInBounds_toArray, List.set_cons_zero, List.set_cons_succ]
                refine anyT_one (i := 7) (by kernel_rfl) ?_
                refine wpOp_step rfl (fun K hK => ?_)
                replace hK := Lib.hid hK
                go_simp
                (with_reducible refine (hevl.out _ _ _ hS3.out.ks.m hT3.out).mono ?_)
                rintro e u4 ⟨rfl, hb⟩
                have hS4 := hS3.out.over hb
                have hB4 := below_call hb hB3.out
                have hP4 := hP3.out.over hb
                have hT4 := hT3.out.up hb
                refine hK.out _ _ ⟨fun _ => ⟨hS4.ks.b, hS4.ks.v⟩, ?_⟩
                clear hK K hb hS3 hB3 hT4 hP3 hT3
                replace hS4 := Lib.hid hS4
                replace hB4 := Lib.hid hB4
                replace hP4 := Lib.hid hP4
                try simp only [Act.put, List.getElem_toArray, List.getElem_cons_zero, List.getElem_cons_succ, List.setIfInBounds_toArray, List.set_cons_zero, List.set_cons_succ]
                refine anyT_take (i := 8) (v := .tuple #[.int .i64 1, .agg #[.int .i64 0, .int .i64 0, .int .i64 0], .int .i64 0]) rfl (by kernel_rfl) (by kernel_rfl) (fun _ _ _ h => h) (Or.inl ⟨by rfl, ?_⟩) ⟨hS4.out.ks.b, hS4.out.ks.v⟩ ?_
                · intro w' hw'
                  obtain ⟨q0, q1, q2, q3, q4, q5⟩ := hw'.1.all
                  obtain ⟨s0, sf, sl⟩ := hw'.2.all
                  dsimp only [badH] at q0 q1 q2 q3 q4 q5
                  unfold noB at q4
                  clear hw'
                  go_simp
                  try with_reducible rfl
                try simp only [Act.put, List.getElem_toArray, List.getElem_cons_zero, List.getElem_cons_succ, List.setIfInBounds_toArray, List.set_cons_zero, List.set_cons_succ]
                refine anyT_take (i := 9) (v := .int .i64 1) rfl (by kernel_rfl) (by kernel_rfl) (fun _ _ _ h => h) (Or.inl ⟨by rfl, ?_⟩) ⟨hS4.out.ks.b, hS4.out.ks.v⟩ ?_
                · intro w' hw'
                  obtain ⟨q0, q1, q2, q3, q4, q5⟩ := hw'.1.all
                  obtain ⟨s0, sf, sl⟩ := hw'.2.all
                  dsimp only [badH] at q0 q1 q2 q3 q4 q5
                  unfold noB at q4
                  clear hw'
                  go_simp
                  try with_reducible rfl
                try simp only [Act.put, List.getElem_toArray, List.getElem_cons_zero, List.getElem_cons_succ, List.setIfInBounds_toArray, List.set_cons_zero, List.set_cons_succ]
                refine anyT_take (i := 10) (v := .agg #[.int .i64 0, .int .i64 0, .int .i64 0]) rfl (by kernel_rfl) (by kernel_rfl) (fun _ _ _ h => h) (Or.inl ⟨by rfl, ?_⟩) ⟨hS4.out.ks.b, hS4.out.ks.v⟩ ?_
                · intro w' hw'
                  obtain ⟨q0, q1, q2, q3, q4, q5⟩ := hw'.1.all
                  obtain ⟨s0, sf, sl⟩ := hw'.2.all
                  dsimp only [badH] at q0 q1 q2 q3 q4 q5
                  unfold noB at q4
                  clear hw'
                  go_simp
                  try with_reducible rfl
                try simp only [Act.put, List.getElem_toArray, List.getElem_cons_zero, List.getElem_cons_succ, List.setIfInBounds_toArray, List.set_cons_zero, List.set_cons_succ]
                refine anyT_take (i := 11) (v := .int .i64 0) rfl (by kernel_rfl) (by kernel_rfl) (fun _ _ _ h => h) (Or.inl ⟨by rfl, ?_⟩) ⟨hS4.out.ks.b, hS4.out.ks.v⟩ ?_
                · intro w' hw'
                  obtain ⟨q0, q1, q2, q3, q4, q5⟩ := hw'.1.all
                  obtain ⟨s0, sf, sl⟩ := hw'.2.all
                  dsimp only [badH] at q0 q1 q2 q3 q4 q5
                  unfold noB at q4
                  clear hw'
                  go_simp
                  try with_reducible rfl
                try simp only [Act.put, List.getElem_toArray, List.getElem_cons_zero, List.getElem_cons_succ, List.setIfInBounds_toArray, List.set_cons_zero, List.set_cons_succ]
                obtain ⟨p0, p1, p2, pf, pl⟩ := hP4.out.all
                refine anyT_one (i := 13) (by kernel_rfl) ?_
                refine wpOp_step rfl (fun K hK => ?_)
                replace hK := Lib.hid hK
                go_simp
                refine hK.out _ _ ⟨fun _ => ⟨hS4.out.ks.b, hS4.out.ks.v⟩, ?_⟩
                clear hK K
                try simp only [Act.put, List.getElem_toArray, List.getElem_cons_zero, List.getElem_cons_succ, List.setIfInBounds_toArray, List.set_cons_zero, List.set_cons_succ]
                have hbs : Below z5.heap.size z5 (((u4.setCell ⟨g0, 0, none⟩ (.int .i64 0)).setCell ⟨g0, 1, none⟩ (.int .i64 0)).setCell ⟨g0, 2, none⟩ (.int .i64 0)) :=
                  hB4.out.trans ((Keep.set3 u4 g0 0 1 2 _ _ _).below (Nat.le_trans hB4.out.size (Nat.le_refl _)) fun b hb => by omega)
                have hPs : E3 (((u4.setCell ⟨g0, 0, none⟩ (.int .i64 0)).setCell ⟨g0, 1, none⟩ (.int .i64 0)).setCell ⟨g0, 2, none⟩ (.int .i64 0)) g0 30 0 0 0 := heap_set _ g0 2 _ _ _ (heap_set _ g0 1 _ _ _ (heap_set _ g0 0 _ _ _ hP4.out))
                have hKs := hK5.out.over hbs
                have hSs := (⟨hKs.ks.b, hKs.ks.v⟩ : BX (((u4.setCell ⟨g0, 0, none⟩ (.int .i64 0)).setCell ⟨g0, 1, none⟩ (.int .i64 0)).setCell ⟨g0, 2, none⟩ (.int .i64 0)) gb 36 badH none 0 0 ∧ E1 (((u4.setCell ⟨g0, 0, none⟩ (.int .i64 0)).setCell ⟨g0, 1, none⟩ (.int .i64 0)).setCell ⟨g0, 2, none⟩ (.int .i64 0)) gv 26 (.map mo))
                clear hKs hS4 hB4 hP4
                replace hbs := Lib.hid hbs
                replace hPs := Lib.hid hPs
                replace hSs := Lib.hid hSs
                refine anyT_one (i := 14) (by kernel_rfl) ?_
                refine wpOp_step rfl (fun K hK => ?_)
                replace hK := Lib.hid hK
                go_simp
                refine hK.out _ _ ⟨fun _ => hSs.out, ?_⟩
                clear hK K hSs p0 p1 p2 pf pl
                try simp only [Act.put, List.getElem_toArray, List.getElem_cons_zero, List.getElem_cons_succ, List.setIfInBounds_toArray, List.set_cons_zero, List.set_cons_succ]
                refine anyT_one (i := 15) (by kernel_rfl) ?_
                refine wpOp_step rfl (fun K hK => ?_)
                replace hK := Lib.hid hK
                go_simp
                refine hK.out _ _ ⟨fun h => absurd h (by decide), ?_⟩
                clear hK K
                try simp only [Act.put, List.getElem_toArray, List.getElem_cons_zero, List.getElem_cons_succ, List.setIfInBounds_toArray, List.set_cons_zero, List.set_cons_succ]
                refine anyT_done (by kernel_rfl) ?_ _
                go_wp2_with fail
                go_meet
                case rel => exact ⟨rfl, rfl, g0, rfl, hPs.out, hbs.out⟩
            ·
              refine wpOp_step rfl (fun K hK => ?_)
              replace hK := Lib.hid hK
              have hba := (Below.refl u1.heap.size u1).alloc (Nat.le_refl _) (.cells #[.int .i64 0, .int .i64 0, .int .i64 0] 30)
              have hS2 := hS1.out.over hba
              have hB2 := below_call hba hB1.out
              have hV2 := hV1.out.up hba
              have hP2 := E3.new u1 30 0 0 0
              obtain ⟨g0, hg0⟩ : ∃ g, u1.heap.size = g := ⟨_, rfl⟩
              rw [hg0] at hP2
              have hg1 : z5.heap.size ≤ g0 := by have := hB1.out.size; omega
              obtain ⟨u2, hu2⟩ : ∃ W, u1.alloc (.cells #[.int .i64 0, .int .i64 0, .int .i64 0] 30) = W := ⟨_, rfl⟩
              rw [hu2] at hS2 hB2 hP2 hV2
              go_simp
              refine hK.out _ _ ⟨fun _ => ⟨hS2.ks.b, hS2.ks.v⟩, ?_⟩
              clear hK K hba hS1 hB1 hV1
              replace hS2 := Lib.hid hS2
              replace hB2 := Lib.hid hB2
              replace hP2 := Lib.hid hP2
              replace hV2 := Lib.hid hV2
              try simp only [Act.put, List.getElem_toArray, List.getElem_cons_zero, List.getElem_cons_succ, List.setIfInBounds_toArray, List.set_cons_zero, List.set_cons_succ]
              refine anyT_one (i := 5) (by kernel_rfl) ?_
              refine wpOp_step rfl (fun K hK => ?_)
              replace hK := Lib.hid hK
              go_simp
              (with_reducible refine (htwo.out _ _ _ hV2.out).mono ?_)
              rintro e u3 ⟨Aw, cw, rfl, hT3, hb⟩
              have hS3 := hS2.out.over hb
              have hB3 := below_call hb hB2.out
              have hP3 := hP2.out.over hb
              have hV3 := hV2.out.up hb
              refine hK.out _ _ ⟨fun _ => ⟨hS3.ks.b, hS3.ks.v⟩, ?_⟩
              clear hK K hb hS2 hB2 hV3 hP2 hV2
              replace hS3 := Lib.hid hS3
              replace hB3 := Lib.hid hB3
              replace hP3 := Lib.hid hP3
              replace hT3 := Lib.hid hT3
              try simp only [Act.put, List.getElem_toArray, List.getElem_cons_zero, List.getElem_cons_succ, List.setIfInBounds_toArray, List.set_cons_zero, List.set_cons_succ]
              refine anyT_one (i := 7) (by kernel_rfl) ?_
              refine wpOp_step rfl (fun K hK => ?_)
              replace hK := Lib.hid hK
              go_simp
              (with_reducible refine (hevl.out _ _ _ hS3.out.ks.m hT3.out).mono ?_)
              rintro e u4 ⟨rfl, hb⟩
              have hS4 := hS3.out.over hb
              have hB4 := below_call hb hB3.out
              have hP4 := hP3.out.over hb
              have hT4 := hT3.out.up hb
              refine hK.out _ _ ⟨fun _ => ⟨hS4.ks.b, hS4.ks.v⟩, ?_⟩
              clear hK K hb hS3 hB3 hT4 hP3 hT3
              replace hS4 := Lib.hid hS4
              replace hB4 := Lib.hid hB4
              replace hP4 := Lib.hid hP4
              try simp only [Act.put, List.getElem_toArray, List.getElem_cons_zero, List.getElem_cons_succ, List.setIfInBounds_toArray, List.set_cons_zero, List.set_cons_succ]
              refine anyT_take (i := 8) (v := .tuple #[.int .i64 1, .agg #[.int .i64 0, .int .i64 0, .int .i64 0], .int .i64 0]) rfl (by kernel_rfl) (by kernel_rfl) (fun _ _ _ h => h) (Or.inl ⟨by rfl, ?_⟩) ⟨hS4.out.ks.b, hS4.out.ks.v⟩ ?_
              · intro w' hw'
                obtain ⟨q0, q1, q2, q3, q4, q5⟩ := hw'.1.all
                obtain ⟨s0, sf, sl⟩ := hw'.2.all
                dsimp only [badH] at q0 q1 q2 q3 q4 q5
                unfold noB at q4
                clear hw'
                go_simp
                try with_reducible rfl
              try simp only [Act.put, List.getElem_toArray, List.getElem_cons_zero, List.getElem_cons_succ, List.setIfInBounds_toArray, List.set_cons_zero, List.set_cons_succ]
              refine anyT_take (i := 9) (v := .int .i64 1) rfl (by kernel_rfl) (by kernel_rfl) (fun _ _ _ h => h) (Or.inl ⟨by rfl, ?_⟩) ⟨hS4.out.ks.b, hS4.out.ks.v⟩ ?_
              · intro w' hw'
                obtain ⟨q0, q1, q2, q3, q4, q5⟩ := hw'.1.all
                obtain ⟨s0, sf, sl⟩ := hw'.2.all
                dsimp only [badH] at q0 q1 q2 q3 q4 q5
                unfold noB at q4
                clear hw'
                go_simp
                try with_reducible rfl
              try simp only [Act.put, List.getElem_toArray, List.getElem_cons_zero, List.getElem_cons_succ, List.setIfInBounds_toArray, List.set_cons_zero, List.set_cons_succ]
              refine anyT_take (i := 10) (v := .agg #[.int .i64 0, .int .i64 0, .int .i64 0]) rfl (by kernel_rfl) (by kernel_rfl) (fun _ _ _ h => h) (Or.inl ⟨by rfl, ?_⟩) ⟨hS4.out.ks.b, hS4.out.ks.v⟩ ?_
              · intro w' hw'
                obtain ⟨q0, q1, q2, q3, q4, q5⟩ := hw'.1.all
                obtain ⟨s0, sf, sl⟩ := hw'.2.all
                dsimp only [badH] at q0 q1 q2 q3 q4 q5
                unfold noB at q4
                clear hw'
                go_simp
                try with_reducible rfl
              try simp only [Act.put, List.getElem_toArray, List.getElem_cons_zero, List.getElem_cons_succ, List.setIfInBounds_toArray, List.set_cons_zero, List.set_cons_succ]
              refine anyT_take (i := 11) (v := .int .i64 0) rfl (by kernel_rfl) (by kernel_rfl) (fun _ _ _ h => h) (Or.inl ⟨by rfl, ?_⟩) ⟨hS4.out.ks.b, hS4.out.ks.v⟩ ?_
              · intro w' hw'
                obtain ⟨q0, q1, q2, q3, q4, q5⟩ := hw'.1.all
                obtain ⟨s0, sf, sl⟩ := hw'.2.all
                dsimp only [badH] at q0 q1 q2 q3 q4 q5
                unfold noB at q4
                clear hw'
                go_simp
                try with_reducible rfl
              try simp only [Act.put, List.getElem_toArray, List.getElem_cons_zero, List.getElem_cons_succ, List.setIfInBounds_toArray, List.set_cons_zero, List.set_cons_succ]
              obtain ⟨p0, p1, p2, pf, pl⟩ := hP4.out.all
              refine anyT_one (i := 13) (by kernel_rfl) ?_
              refine wpOp_step rfl (fun K hK => ?_)
              replace hK := Lib.hid hK
              go_simp
              refine hK.out _ _ ⟨fun _ => ⟨hS4.out.ks.b, hS4.out.ks.v⟩, ?_⟩
              clear hK K
              try simp only [Act.put, List.getElem_toArray, List.getElem_cons_zero, List.getElem_cons_succ, List.setIfInBounds_toArray, List.set_cons_zero, List.set_cons_succ]
              have hbs : Below z5.heap.size z5 (((u4.setCell ⟨g0, 0, none⟩ (.int .i64 0)).setCell ⟨g0, 1, none⟩ (.int .i64 0)).setCell ⟨g0, 2, none⟩ (.int .i64 0)) :=
                hB4.out.trans ((Keep.set3 u4 g0 0 1 2 _ _ _).below (Nat.le_trans hB4.out.size (Nat.le_refl _)) fun b hb => by omega)
              have hPs : E3 (((u4.setCell ⟨g0, 0, none⟩ (.int .i64 0)).setCell ⟨g0, 1, none⟩ (.int .i64 0)).setCell ⟨g0, 2, none⟩ (.int .i64 0)) g0 30 0 0 0 := heap_set _ g0 2 _ _ _ (heap_set _ g0 1 _ _ _ (heap_set _ g0 0 _ _ _ hP4.out))
              have hKs := hK5.out.over hbs
              have hSs := (⟨hKs.ks.b, hKs.ks.v⟩ : BX (((u4.setCell ⟨g0, 0, none⟩ (.int .i64 0)).setCell ⟨g0, 1, none⟩ (.int .i64 0)).setCell ⟨g0, 2, none⟩ (.int .i64 0)) gb 36 badH none 0 0 ∧ E1 (((u4.setCell ⟨g0, 0, none⟩ (.int .i64 0)).setCell ⟨g0, 1, none⟩ (.int .i64 0)).setCell ⟨g0, 2, none⟩ (.int .i64 0)) gv 26 (.map mo))
              clear hKs hS4 hB4 hP4
              replace hbs := Lib.hid hbs
              replace hPs := Lib.hid hPs
              replace hSs := Lib.hid hSs
              refine anyT_one (i := 14) (by kernel_rfl) ?_
              refine wpOp_step rfl (fun K hK => ?_)
              replace hK := Lib.hid hK
              go_simp
              refine hK.out _ _ ⟨fun _ => hSs.out, ?_⟩
              clear hK K hSs p0 p1 p2 pf pl
              try simp only [Act.put, List.getElem_toArray, List.getElem_cons_zero, List.getElem_cons_succ, List.setIfInBounds_toArray, List.set_cons_zero, List.set_cons_succ]
              refine anyT_one (i := 15) (by kernel_rfl) ?_
              refine wpOp_step rfl (fun K hK => ?_)
              replace hK := Lib.hid hK
              go_simp
              refine hK.out _ _ ⟨fun h => absurd h (by decide), ?_⟩
              clear hK K
              try simp only [Act.put, List.getElem_toArray, List.getElem_cons_zero, List.getElem_cons_succ, List.setIfInBounds_toArray, List.set_cons_zero, List.set_cons_succ]
              refine anyT_done (by kernel_rfl) ?_ _
              go_wp2_with fail
              go_meet
              case rel => exact ⟨rfl, rfl, g0, rfl, hPs.out, hbs.out⟩
          ·
            refine wpOp_step rfl (fun K hK => ?_)
            replace hK := Lib.hid hK
            have hba := (Below.refl u0.heap.size u0).alloc (Nat.le_refl _) (.cells #[.int .i64 0, .int .i64 0, .int .i64 0] 30)
            have hS1 := hS0.out.over hba
            have hB1 := below_call hba hB0.out
            have hP1 := E3.new u0 30 0 0 0
            obtain ⟨g0, hg0⟩ : ∃ g, u0.heap.size = g := ⟨_, rfl⟩
            rw [hg0] at hP1
            have hg1 : z5.heap.size ≤ g0 := by have := hB0.out.size; omega
            obtain ⟨u1, hu1⟩ : ∃ W, u0.alloc (.cells #[.int .i64 0, .int .i64 0, .int .i64 0] 30) = W := ⟨_, rfl⟩
            rw [hu1] at hS1 hB1 hP1
            go_simp
            refine hK.out _ _ ⟨fun _ => ⟨hS1.ks.b, hS1.ks.v⟩, ?_⟩
            clear hK K hba hS0 hB0 
            replace hS1 := Lib.hid hS1
            replace hB1 := Lib.hid hB1
            replace hP1 := Lib.hid hP1
            try simp only [Act.put, List.getElem_toArray, List.getElem_cons_zero, List.getElem_cons_succ, List.setIfInBounds_toArray, List.set_cons_zero, List.set_cons_succ]
            refine anyT_one (i := 3) (by kernel_rfl) ?_
            refine wpOp_step rfl (fun K hK => ?_)
            replace hK := Lib.hid hK
            go_simp
            (with_reducible refine (hval.out _ hS1.out.ks.t).mono ?_)
            rintro e u2 ⟨At, ct, rfl, hV2, hb⟩
            have hS2 := hS1.out.over hb
            have hB2 := below_call hb hB1.out
            have hP2 := hP1.out.over hb
            refine hK.out _ _ ⟨fun _ => ⟨hS2.ks.b, hS2.ks.v⟩, ?_⟩
            clear hK K hb hS1 hB1 hP1
            replace hS2 := Lib.hid hS2
            replace hB2 := Lib.hid hB2
            replace hP2 := Lib.hid hP2
            replace hV2 := Lib.hid hV2
            try simp only [Act.put, List.getElem_toArray, List.getElem_cons_zero, List.getElem_cons_succ, List.setIfInBounds_toArray, List.set_cons_zero, List.set_cons_succ]
            refine anyT_one (i := 5) (by kernel_rfl) ?_
            refine wpOp_step rfl (fun K hK => ?_)
            replace hK := Lib.hid hK
            go_simp
            (with_reducible refine (htwo.out _ _ _ hV2.out).mono ?_)
            rintro e u3 ⟨Aw, cw, rfl, hT3, hb⟩
            have hS3 := hS2.out.over hb
            have hB3 := below_call hb hB2.out
            have hP3 := hP2.out.over hb
            have hV3 := hV2.out.up hb
            refine hK.out _ _ ⟨fun _ => ⟨hS3.ks.b, hS3.ks.v⟩, ?_⟩
            clear hK K hb hS2 hB2 hV3 hP2 hV2
            replace hS3 := Lib.hid hS3
            replace hB3 := Lib.hid hB3
            replace hP3 := Lib.hid hP3
            replace hT3 := Lib.hid hT3
            try simp only [Act.put, List.getElem_toArray, List.getElem_cons_zero, List.getElem_cons_succ, List.setIfInBounds_toArray, List.set_cons_zero, List.set_cons_succ]
            refine anyT_one (i := 7) (by kernel_rfl) ?_
            refine wpOp_step rfl (fun K hK => ?_)
            replace hK := Lib.hid hK
            go_simp
            (with_reducible refine (hevl.out _ _ _ hS3.out.ks.m hT3.out).mono ?_)
            rintro e u4 ⟨rfl, hb⟩
            have hS4 := hS3.out.over hb
            have hB4 := below_call hb hB3.out
            have hP4 := hP3.out.over hb
            have hT4 := hT3.out.up hb
            refine hK.out _ _ ⟨fun _ => ⟨hS4.ks.b, hS4.ks.v⟩, ?_⟩
            clear hK K hb hS3 hB3 hT4 hP3 hT3
            replace hS4 := Lib.hid hS4
            replace hB4 := Lib.hid hB4
            replace hP4 := Lib.hid hP4
            try simp only [Act.put, List.getElem_toArray, List.getElem_cons_zero, List.getElem_cons_succ, List.setIfInBounds_toArray, List.set_cons_zero, List.set_cons_succ]
            refine anyT_take (i := 8) (v := .tuple #[.int .i64 1, .agg #[.int .i64 0, .int .i64 0, .int .i64 0], .int .i64 0]) rfl (by kernel_rfl) (by kernel_rfl) (fun _ _ _ h => h) (Or.inl ⟨by rfl, ?_⟩) ⟨hS4.out.ks.b, hS4.out.ks.v⟩ ?_
            · intro w' hw'
              obtain ⟨q0, q1, q2, q3, q4, q5⟩ := hw'.1.all
              obtain ⟨s0, sf, sl⟩ := hw'.2.all
              dsimp only [badH] at q0 q1 q2 q3 q4 q5
              unfold noB at q4
              clear hw'
              go_simp
              try with_reducible rfl
            try simp only [Act.put, List.getElem_toArray, List.getElem_cons_zero, List.getElem_cons_succ, List.setIfInBounds_toArray, List.set_cons_zero, List.set_cons_succ]
            refine anyT_take (i := 9) (v := .int .i64 1) rfl (by kernel_rfl) (by kernel_rfl) (fun _ _ _ h => h) (Or.inl ⟨by rfl, ?_⟩) ⟨hS4.out.ks.b, hS4.out.ks.v⟩ ?_
            · intro w' hw'
              obtain ⟨q0, q1, q2, q3, q4, q5⟩ := hw'.1.all
              obtain ⟨s0, sf, sl⟩ := hw'.2.all
              dsimp only [badH] at q0 q1 q2 q3 q4 q5
              unfold noB at q4
              clear hw'
              go_simp
              try with_reducible rfl
            try simp only [Act.put, List.getElem_toArray, List.getElem_cons_zero, List.getElem_cons_succ, List.setIfInBounds_toArray, List.set_cons_zero, List.set_cons_succ]
            refine anyT_take (i := 10) (v := .agg #[.int .i64 0, .int .i64 0, .int .i64 0]) rfl (by kernel_rfl) (by kernel_rfl) (fun _ _ _ h => h) (Or.inl ⟨by rfl, ?_⟩) ⟨hS4.out.ks.b, hS4.out.ks.v⟩ ?_
            · intro w' hw'
              obtain ⟨q0, q1, q2, q3, q4, q5⟩ := hw'.1.all
              obtain ⟨s0, sf, sl⟩ := hw'.2.all
              dsimp only [badH] at q0 q1 q2 q3 q4 q5
              unfold noB at q4
              clear hw'
              go_simp
              try with_reducible rfl
            try simp only [Act.put, List.getElem_toArray, List.getElem_cons_zero, List.getElem_cons_succ, List.setIfInBounds_toArray, List.set_cons_zero, List.set_cons_succ]
            refine anyT_take (i := 11) (v := .int .i64 0) rfl (by kernel_rfl) (by kernel_rfl) (fun _ _ _ h => h) (Or.inl ⟨by rfl, ?_⟩) ⟨hS4.out.ks.b, hS4.out.ks.v⟩ ?_
            · intro w' hw'
              obtain ⟨q0, q1, q2, q3, q4, q5⟩ := hw'.1.all
              obtain ⟨s0, sf, sl⟩ := hw'.2.all
              dsimp only [badH] at q0 q1 q2 q3 q4 q5
              unfold noB at q4
              clear hw'
              go_simp
              try with_reducible rfl
            try simp only [Act.put, List.getElem_toArray, List.getElem_cons_zero, List.getElem_cons_succ, List.setIfInBounds_toArray, List.set_cons_zero, List.set_cons_succ]
            obtain ⟨p0, p1, p2, pf, pl⟩ := hP4.out.all
            refine anyT_one (i := 13) (by kernel_rfl) ?_
            refine wpOp_step rfl (fun K hK => ?_)
            replace hK := Lib.hid hK
            go_simp
            refine hK.out _ _ ⟨fun _ => ⟨hS4.out.ks.b, hS4.out.ks.v⟩, ?_⟩
            clear hK K
            try simp only [Act.put, List.getElem_toArray, List.getElem_cons_zero, List.getElem_cons_succ, List.setIfInBounds_toArray, List.set_cons_zero, List.set_cons_succ]
            have hbs : Below z5.heap.size z5 (((u4.setCell ⟨g0, 0, none⟩ (.int .i64 0)).setCell ⟨g0, 1, none⟩ (.int .i64 0)).setCell ⟨g0, 2, none⟩ (.int .i64 0)) :=
              hB4.out.trans ((Keep.set3 u4 g0 0 1 2 _ _ _).below (Nat.le_trans hB4.out.size (Nat.le_refl _)) fun b hb => by omega)
            have hPs : E3 (((u4.setCell ⟨g0, 0, none⟩ (.int .i64 0)).setCell ⟨g0, 1, none⟩ (.int .i64 0)).setCell ⟨g0, 2, none⟩ (.int .i64 0)) g0 30 0 0 0 := heap_set _ g0 2 _ _ _ (heap_set _ g0 1 _ _ _ (heap_set _ g0 0 _ _ _ hP4.out))
            have hKs := hK5.out.over hbs
            have hSs := (⟨hKs.ks.b, hKs.ks.v⟩ : BX (((u4.setCell ⟨g0, 0, none⟩ (.int .i64 0)).setCell ⟨g0, 1, none⟩ (.int .i64 0)).setCell ⟨g0, 2, none⟩ (.int .i64 0)) gb 36 badH none 0 0 ∧ E1 (((u4.setCell ⟨g0, 0, none⟩ (.int .i64 0)).setCell ⟨g0, 1, none⟩ (.int .i64 0)).setCell ⟨g0, 2, none⟩ (.int .i64 0)) gv 26 (.map mo))
            clear hKs hS4 hB4 hP4
            replace hbs := Lib.hid hbs
            replace hPs := Lib.hid hPs
            replace hSs := Lib.hid hSs
            refine anyT_one (i := 14) (by kernel_rfl) ?_
            refine wpOp_step rfl (fun K hK => ?_)
            replace hK := Lib.hid hK
            go_simp
            refine hK.out _ _ ⟨fun _ => hSs.out, ?_⟩
            clear hK K hSs p0 p1 p2 pf pl
            try simp only [Act.put, List.getElem_toArray, List.getElem_cons_zero, List.getElem_cons_succ, List.setIfInBounds_toArray, List.set_cons_zero, List.set_cons_succ]
            refine anyT_one (i := 15) (by kernel_rfl) ?_
            refine wpOp_step rfl (fun K hK => ?_)
            replace hK := Lib.hid hK
            go_simp
            refine hK.out _ _ ⟨fun h => absurd h (by decide), ?_⟩
            clear hK K
            try simp only [Act.put, List.getElem_toArray, List.getElem_cons_zero, List.getElem_cons_succ, List.setIfInBounds_toArray, List.set_cons_zero, List.set_cons_succ]
            refine anyT_done (by kernel_rfl) ?_ _
            go_wp2_with fail
            go_meet
            case rel => exact ⟨rfl, rfl, g0, rfl, hPs.out, hbs.out⟩
        case rest =>
          obtain ⟨rfl, rfl, g19, rfl, hE19, hb19⟩ := hcut
          have hK6 := Lib.hid (hK5.out.over hb19)
          clear hE19 hb19 hK5 hval htwo hevl
          obtain ⟨z6, hz6⟩ : ∃ z, wc = z := ⟨_, rfl⟩
          rw [hz6] at hK6 ⊢
          clear hz6
          go_upto_region 20 with fail
          obtain ⟨V, hVe⟩ : ∃ V, XVal 1 = V := ⟨_, rfl⟩
          have hval := fun W (q : LT W) => Value_t 1 1 (by decide) W q
          have hwv : WX (.b (opH 4 ⟨#[38, 38]⟩) (XVal 1) (.z badH)) := wx_and 1 ⟨by decide, by decide⟩ _ wx_bad
          have hev0 := ev_and1 (envB (keyL L)) hnb.out
          have hevl := fun (A : Option Addr) (c : Nat) (W : World) (q1 : EnvIs W (.map mo) (keyL L)) (q2 : XAr W W.heap.size (.b (opH 4 ⟨#[38, 38]⟩) (XVal 1) (.z badH)) A) => Eval_t (.b (opH 4 ⟨#[38, 38]⟩) (XVal 1) (.z badH)) A c mo (keyL L) W q1 q2 hwv
          rw [hev0] at hevl
          unfold KO at hevl
          rw [hVe] at hval hevl
          unfold VX at hval
          have htwo := fun (A1 : Option Addr) (c1 : Nat) (W : World) (q : XAr W W.heap.size V A1) => two_t ⟨#[38, 38]⟩ V (.z badH) A1 none c1 0 W q trivial
          unfold TWO at htwo
          obtain ⟨TW, hTW⟩ : ∃ T, XT.b (opH 4 ⟨#[38, 38]⟩) V (.z badH) = T := ⟨_, rfl⟩
          rw [hTW] at hevl htwo
          replace htwo : ∀ (A1 : Option Addr) (c1 : Nat) (W : World), XAr W W.heap.size V A1 → Calls Tryz.prog 20 #[.string ⟨#[38, 38]⟩, xv V.h A1 V.args.length c1, .agg #[.int .i64 2, .int .i64 1, .int .i64 1, .int .i64 99, .string ⟨#[110, 111, 32, 115, 117, 99, 104, 32, 110, 97, 109, 101]⟩, .slice none 0 0]] W fun e w' => ∃ A c, e = .returned (.agg #[.int .i64 4, .int .i64 0, .int .i64 0, .int .i64 0, .string ⟨#[38, 38]⟩, .slice A 2 c]) ∧ XAr w' w'.heap.size TW A ∧ Below W.heap.size W w' := htwo
          replace hevl : ∀ (A : Option Addr) (c : Nat) (W : World), EnvIs W (.map mo) (keyL L) → XAr W W.heap.size TW A → Calls Tryz.prog 9 #[.agg #[.int .i64 4, .int .i64 0, .int .i64 0, .int .i64 0, .string ⟨#[38, 38]⟩, .slice A 2 c], .agg #[.map mo]] W fun x w' => x = .returned (.tuple #[.int .i64 0, .agg #[.int .i64 1, .int .i64 1, .int .i64 99], .int .i64 9]) ∧ Below W.heap.size W w' := fun A c W q1 q2 => by subst hTW; exact hevl A c W q1 q2
          clear hVe hTW hwv hev0
          replace hval := Lib.hid hval
          replace htwo := Lib.hid htwo
          replace hevl := Lib.hid hevl
          go_cut [30, 31, 32] from 33 (fun xv pv ev wz => xv = .int .i64 0 ∧ ev = .int .i64 9 ∧ ∃ g0, pv = .pointer (some ⟨g0, 0, none⟩) ∧ E3 wz g0 30 1 1 99 ∧ Below z6.heap.size z6 wz)
          case first =>
            obtain ⟨u0, hu0⟩ : ∃ W, z6.drew = W := ⟨_, rfl⟩
            have hbd : Below z6.heap.size z6 z6.drew := (Below.refl _ _).drew
            have hS0 := hK6.out.over hbd
            rw [hu0] at hS0 hbd
            have hB0 := hbd
            clear hbd
            have hC0 := (⟨hS0.ks.b, hS0.ks.v⟩ : BX u0 gb 36 badH none 0 0 ∧ E1 u0 gv 26 (.map mo))
            replace hS0 := Lib.hid hS0
            replace hB0 := Lib.hid hB0
            replace hC0 := Lib.hid hC0
            refine region_anyT (n := 13) (S := (fun w' => BX w' gb 36 badH none 0 0 ∧ E1 w' gv 26 (.map mo))) (by kernel_rfl) ?_
            rw [hu0]
            refine anyT_take (i := 0) (v := (Value.func (Fn.func 20) #[] #[])) rfl (by kernel_rfl) (by kernel_rfl) (fun _ _ _ h => h) (Or.inl ⟨by rfl, ?_⟩) hC0.out ?_
            · intro w' hw'
              obtain ⟨q0, q1, q2, q3, q4, q5⟩ := hw'.1.all
              obtain ⟨s0, sf, sl⟩ := hw'.2.all
              dsimp only [badH] at q0 q1 q2 q3 q4 q5
              unfold noB at q4
              clear hw'
              go_simp
              try with_reducible rfl
            try simp only [Act.put, List.getElem_toArray, List.getElem_cons_zero, List.setIfInBounds_toArray, List.set_cons_zero, List.set_cons_succ]
            refine anyT_take (i := 2) (v := .agg #[.int .i64 2, .int .i64 1, .int .i64 1, .int .i64 99, .string ⟨#[110, 111, 32, 115, 117, 99, 104, 32, 110, 97, 109, 101]⟩, .slice none 0 0]) rfl (by kernel_rfl) (by kernel_rfl) (fun _ _ _ h => h) (Or.inl ⟨by rfl, ?_⟩) hC0.out ?_
            · intro w' hw'
              obtain ⟨q0, q1, q2, q3, q4, q5⟩ := hw'.1.all
              obtain ⟨s0, sf, sl⟩ := hw'.2.all
              dsimp only [badH] at q0 q1 q2 q3 q4 q5
              unfold noB at q4
              clear hw'
              go_simp
              try with_reducible rfl
            try simp only [Act.put, List.getElem_toArray, List.getElem_cons_zero, List.getElem_cons_succ, List.setIfInBounds_toArray, List.set_cons_zero, List.set_cons_succ]
            refine anyT_take (i := 4) (v := .agg #[.map mo]) rfl (by kernel_rfl) (by kernel_rfl) (fun _ _ _ h => h) (Or.inl ⟨by rfl, ?_⟩) hC0.out ?_
            · intro w' hw'
              obtain ⟨q0, q1, q2, q3, q4, q5⟩ := hw'.1.all
              obtain ⟨s0, sf, sl⟩ := hw'.2.all
              dsimp only [badH] at q0 q1 q2 q3 q4 q5
              unfold noB at q4
              clear hw'
              go_simp
              try with_reducible rfl
            try simp only [Act.put, List.getElem_toArray, List.getElem_cons_zero, List.getElem_cons_succ, List.setIfInBounds_toArray, List.set_cons_zero, List.set_cons_succ]
            clear hC0
            refine anyT_pair (i := 1) (j := 10) (by kernel_rfl) ?_ ?_
            ·
              refine wpOp_step rfl (fun K hK => ?_)
              replace hK := Lib.hid hK
              go_simp
              (with_reducible refine (hval.out _ hS0.out.ks.t).mono ?_)
              rintro e u1 ⟨At, ct, rfl, hV1, hb⟩
              have hS1 := hS0.out.over hb
              have hB1 := below_call hb hB0.out
              refine hK.out _ _ ⟨fun _ => ⟨hS1.ks.b, hS1.ks.v⟩, ?_⟩
              clear hK K hb hS0 hB0 
              replace hS1 := Lib.hid hS1
              replace hB1 := Lib.hid hB1
              replace hV1 := Lib.hid hV1
              try simp only [Act.put, List.getElem_toArray, List.getElem_cons_zero, List.getElem_cons_succ, List.setIfInBounds_toArray, List.set_cons_zero, List.set_cons_succ]
              refine anyT_pair (i := 3) (j := 10) (by kernel_rfl) ?_ ?_
              ·
                refine wpOp_step rfl (fun K hK => ?_)
                replace hK := Lib.hid hK
                go_simp
                (with_reducible refine (htwo.out _ _ _ hV1.out).mono ?_)
                rintro e u2 ⟨Aw, cw, rfl, hT2, hb⟩
                have hS2 := hS1.out.over hb
                have hB2 := below_call hb hB1.out
                have hV2 := hV1.out.up hb
                refine hK.out _ _ ⟨fun _ => ⟨hS2.ks.b, hS2.ks.v⟩, ?_⟩
                clear hK K hb hS1 hB1 hV2 hV1
                replace hS2 := Lib.hid hS2
                replace hB2 := Lib.hid hB2
                replace hT2 := Lib.hid hT2
                try simp only [Act.put, List.getElem_toArray, List.getElem_cons_zero, List.getElem_cons_succ, List.setIfInBounds_toArray, List.set_cons_zero, List.set_cons_succ]
                refine anyT_pair (i := 5) (j := 10) (by kernel_rfl) ?_ ?_
                ·
                  refine wpOp_step rfl (fun K hK => ?_)
                  replace hK := Lib.hid hK
                  go_simp
                  (with_reducible refine (hevl.out _ _ _ hS2.out.ks.m hT2.out).mono ?_)
                  rintro e u3 ⟨rfl, hb⟩
                  have hS3 := hS2.out.over hb
                  have hB3 := below_call hb hB2.out
                  have hT3 := hT2.out.up hb
                  refine hK.out _ _ ⟨fun _ => ⟨hS3.ks.b, hS3.ks.v⟩, ?_⟩
                  clear hK K hb hS2 hB2 hT3 hT2
                  replace hS3 := Lib.hid hS3
                  replace hB3 := Lib.hid hB3
                  try simp only [Act.put, List.getElem_toArray, List.getElem_cons_zero, List.getElem_cons_succ, List.setIfInBounds_toArray, List.set_cons_zero, List.set_cons_succ]
                  refine anyT_take (i := 6) (v := .tuple #[.int .i64 0, .agg #[.int .i64 1, .int .i64 1, .int .i64 99], .int .i64 9]) rfl (by kernel_rfl) (by kernel_rfl) (fun _ _ _ h => h) (Or.inl ⟨by rfl, ?_⟩) ⟨hS3.out.ks.b, hS3.out.ks.v⟩ ?_
                  · intro w' hw'
                    obtain ⟨q0, q1, q2, q3, q4, q5⟩ := hw'.1.all
                    obtain ⟨s0, sf, sl⟩ := hw'.2.all
                    dsimp only [badH] at q0 q1 q2 q3 q4 q5
                    unfold noB at q4
                    clear hw'
                    go_simp
                    try with_reducible rfl
                  try simp only [Act.put, List.getElem_toArray, List.getElem_cons_zero, List.getElem_cons_succ, List.setIfInBounds_toArray, List.set_cons_zero, List.set_cons_succ]
                  refine anyT_take (i := 7) (v := .int .i64 0) rfl (by kernel_rfl) (by kernel_rfl) (fun _ _ _ h => h) (Or.inl ⟨by rfl, ?_⟩) ⟨hS3.out.ks.b, hS3.out.ks.v⟩ ?_
                  · intro w' hw'
                    obtain ⟨q0, q1, q2, q3, q4, q5⟩ := hw'.1.all
                    obtain ⟨s0, sf, sl⟩ := hw'.2.all
                    dsimp only [badH] at q0 q1 q2 q3 q4 q5
                    unfold noB at q4
                    clear hw'
                    go_simp
                    try with_reducible rfl
                  try simp only [Act.put, List.getElem_toArray, List.getElem_cons_zero, List.getElem_cons_succ, List.setIfInBounds_toArray, List.set_cons_zero, List.set_cons_succ]
                  refine anyT_take (i := 8) (v := .agg #[.int .i64 1, .int .i64 1, .int .i64 99]) rfl (by kernel_rfl) (by kernel_rfl) (fun _ _ _ h => h) (Or.inl ⟨by rfl, ?_⟩) ⟨hS3.out.ks.b, hS3.out.ks.v⟩ ?_
                  · intro w' hw'
                    obtain ⟨q0, q1, q2, q3, q4, q5⟩ := hw'.1.all
                    obtain ⟨s0, sf, sl⟩ := hw'.2.all
                    dsimp only [badH] at q0 q1 q2 q3 q4 q5
                    unfold noB at q4
                    clear hw'
                    go_simp
                    try with_reducible rfl
                  try simp only [Act.put, List.getElem_toArray, List.getElem_cons_zero, List.getElem_cons_succ, List.setIfInBounds_toArray, List.set_cons_zero, List.set_cons_succ]
                  refine anyT_take (i := 9) (v := .int .i64 9) rfl (by kernel_rfl) (by kernel_rfl) (fun _ _ _ h => h) (Or.inl ⟨by rfl, ?_⟩) ⟨hS3.out.ks.b, hS3.out.ks.v⟩ ?_
                  · intro w' hw'
                    obtain ⟨q0, q1, q2, q3, q4, q5⟩ := hw'.1.all
                    obtain ⟨s0, sf, sl⟩ := hw'.2.all
                    dsimp only [badH] at q0 q1 q2 q3 q4 q5
                    unfold noB at q4
                    clear hw'
                    go_simp
                    try with_reducible rfl
                  try simp only [Act.put, List.getElem_toArray, List.getElem_cons_zero, List.getElem_cons_succ, List.setIfInBounds_toArray, List.set_cons_zero, List.set_cons_succ]
                  refine anyT_one (i := 10) (by kernel_rfl) ?_
                  refine wpOp_step rfl (fun K hK => ?_)
                  replace hK := Lib.hid hK
                  have hba := (Below.refl u3.heap.size u3).alloc (Nat.le_refl _) (.cells #[.int .i64 0, .int .i64 0, .int .i64 0] 30)
                  have hS4 := hS3.out.over hba
                  have hB4 := below_call hba hB3.out
                  have hP4 := E3.new u3 30 0 0 0
                  obtain ⟨g0, hg0⟩ : ∃ g, u3.heap.size = g := ⟨_, rfl⟩
                  rw [hg0] at hP4
                  have hg1 : z6.heap.size ≤ g0 := by have := hB3.out.size; omega
                  obtain ⟨u4, hu4⟩ : ∃ W, u3.alloc (.cells #[.int .i64 0, .int .i64 0, .int .i64 0] 30) = W := ⟨_, rfl⟩
                  rw [hu4] at hS4 hB4 hP4
                  go_simp
                  refine hK.out _ _ ⟨fun _ => ⟨hS4.ks.b, hS4.ks.v⟩, ?_⟩
                  clear hK K hba hS3 hB3 
                  replace hS4 := Lib.hid hS4
                  replace hB4 := Lib.hid hB4
                  replace hP4 := Lib.hid hP4
                  try simp only [Act.put, List.getElem_toArray, List.getElem_cons_zero, List.getElem_cons_succ, List.setIfInBounds_toArray, List.set_cons_zero, List.set_cons_succ]
                  obtain ⟨p0, p1, p2, pf, pl⟩ := hP4.out.all
                  refine anyT_one (i := 11) (by kernel_rfl) ?_
                  refine wpOp_step rfl (fun K hK => ?_)
                  replace hK := Lib.hid hK
                  go_simp
                  refine hK.out _ _ ⟨fun _ => ⟨hS4.out.ks.b, hS4.out.ks.v⟩, ?_⟩
                  clear hK K
                  try simp only [Act.put, List.getElem_toArray, List.getElem_cons_zero, List.getElem_cons_succ, List.setIfInBounds_toArray, List.set_cons_zero, List.set_cons_succ]
                  have hbs : Below z6.heap.size z6 (((u4.setCell ⟨g0, 0, none⟩ (.int .i64 1)).setCell ⟨g0, 1, none⟩ (.int .i64 1)).setCell ⟨g0, 2, none⟩ (.int .i64 99)) :=
                    hB4.out.trans ((Keep.set3 u4 g0 0 1 2 _ _ _).below (Nat.le_trans hB4.out.size (Nat.le_refl _)) fun b hb => by omega)
                  have hPs : E3 (((u4.setCell ⟨g0, 0, none⟩ (.int .i64 1)).setCell ⟨g0, 1, none⟩ (.int .i64 1)).setCell ⟨g0, 2, none⟩ (.int .i64 99)) g0 30 1 1 99 := heap_set _ g0 2 _ _ _ (heap_set _ g0 1 _ _ _ (heap_set _ g0 0 _ _ _ hP4.out))
                  have hKs := hK6.out.over hbs
                  have hSs := (⟨hKs.ks.b, hKs.ks.v⟩ : BX (((u4.setCell ⟨g0, 0, none⟩ (.int .i64 1)).setCell ⟨g0, 1, none⟩ (.int .i64 1)).setCell ⟨g0, 2, none⟩ (.int .i64 99)) gb 36 badH none 0 0 ∧ E1 (((u4.setCell ⟨g0, 0, none⟩ (.int .i64 1)).setCell ⟨g0, 1, none⟩ (.int .i64 1)).setCell ⟨g0, 2, none⟩ (.int .i64 99)) gv 26 (.map mo))
                  clear hKs hS4 hB4 hP4
                  replace hbs := Lib.hid hbs
                  replace hPs := Lib.hid hPs
                  replace hSs := Lib.hid hSs
                  refine anyT_one (i := 12) (by kernel_rfl) ?_
                  refine wpOp_step rfl (fun K hK => ?_)
                  replace hK := Lib.hid hK
                  go_simp
                  refine hK.out _ _ ⟨fun _ => hSs.out, ?_⟩
                  clear hK K hSs p0 p1 p2 pf pl
                  try simp only [Act.put, List.getElem_toArray, List.getElem_cons_zero, List.getElem_cons_succ, List.setIfInBounds_toArray, List.set_cons_zero, List.set_cons_succ]
                  refine anyT_one (i := 13) (by kernel_rfl) ?_
                  refine wpOp_step rfl (fun K hK => ?_)
                  replace hK := Lib.hid hK
                  go_simp
                  refine hK.out _ _ ⟨fun h => absurd h (by decide), ?_⟩
                  clear hK K
                  try simp only [Act.put, List.getElem_toArray, List.getElem_cons_zero, List.getElem_cons_succ, List.setIfInBounds_toArray, List.set_cons_zero, List.set_cons_succ]
                  refine anyT_done (by kernel_rfl) ?_ _
                  go_wp2_with fail
                  go_meet
                  case rel => exact ⟨rfl, rfl, g0, rfl, hPs.out, hbs.out⟩
                ·
                  refine wpOp_step rfl (fun K hK => ?_)
                  replace hK := Lib.hid hK
                  have hba := (Below.refl u2.heap.size u2).alloc (Nat.le_refl _) (.cells #[.int .i64 0, .int .i64 0, .int .i64 0] 30)
                  have hS3 := hS2.out.over hba
                  have hB3 := below_call hba hB2.out
                  have hT3 := hT2.out.up hba
                  have hP3 := E3.new u2 30 0 0 0
                  obtain ⟨g0, hg0⟩ : ∃ g, u2.heap.size = g := ⟨_, rfl⟩
                  rw [hg0] at hP3
                  have hg1 : z6.heap.size ≤ g0 := by have := hB2.out.size; omega
                  obtain ⟨u3, hu3⟩ : ∃ W, u2.alloc (.cells #[.int .i64 0, .int .i64 0, .int .i64 0] 30) = W := ⟨_, rfl⟩
                  rw [hu3] at hS3 hB3 hP3 hT3
                  go_simp
                  refine hK.out _ _ ⟨fun _ => ⟨hS3.ks.b, hS3.ks.v⟩, ?_⟩
                  clear hK K hba hS2 hB2 hT2
                  replace hS3 := Lib.hid hS3
                  replace hB3 := Lib.hid hB3
                  replace hP3 := Lib.hid hP3
                  replace hT3 := Lib.hid hT3
                  try simp only [Act.put, List.getElem_toArray, List.getElem_cons_zero, List.getElem_cons_succ, List.setIfInBounds_toArray, List.set_cons_zero, List.set_cons_succ]
                  refine anyT_one (i := 5) (by kernel_rfl) ?_
                  refine wpOp_step rfl (fun K hK => ?_)
                  replace hK := Lib.hid hK
                  go_simp
                  (with_reducible refine (hevl.out _ _ _ hS3.out.ks.m hT3.out).mono ?_)
                  rintro e u4 ⟨rfl, hb⟩
                  have hS4 := hS3.out.over hb
                  have hB4 := below_call hb hB3.out
                  have hP4 := hP3.out.over hb
                  have hT4 := hT3.out.up hb
                  refine hK.out _ _ ⟨fun _ => ⟨hS4.ks.b, hS4.ks.v⟩, ?_⟩
                  clear hK K hb hS3 hB3 hT4 hP3 hT3
                  replace hS4 := Lib.hid hS4
                  replace hB4 := Lib.hid hB4
                  replace hP4 := Lib.hid hP4
                  try simp only [Act.put, List.getElem_toArray, List.getElem_cons_zero, List.getElem_cons_succ, List.setIfInBounds_toArray, List.set_cons_zero, List.set_cons_succ]
                  refine anyT_take (i := 6) (v := .tuple #[.int .i64 0, .agg #[.int .i64 1, .int .i64 1, .int .i64 99], .int .i64 9]) rfl (by kernel_rfl) (by kernel_rfl) (fun _ _ _ h => h) (Or.inl ⟨by rfl, ?_⟩) ⟨hS4.out.ks.b, hS4.out.ks.v⟩ ?_
                  · intro w' hw'
                    obtain ⟨q0, q1, q2, q3, q4, q5⟩ := hw'.1.all
                    obtain ⟨s0, sf, sl⟩ := hw'.2.all
                    dsimp only [badH] at q0 q1 q2 q3 q4 q5
                    unfold noB at q4
                    clear hw'
                    go_simp
                    try with_reducible rfl
                  try simp only [Act.put, List.getElem_toArray, List.getElem_cons_zero, List.getElem_cons_succ, List.setIfInBounds_toArray, List.set_cons_zero, List.set_cons_succ]
                  refine anyT_take (i := 7) (v := .int .i64 0) rfl (by kernel_rfl) (by kernel_rfl) (fun _ _ _ h => h) (Or.inl ⟨by rfl, ?_⟩) ⟨hS4.out.ks.b, hS4.out.ks.v⟩ ?_
                  · intro w' hw'
                    obtain ⟨q0, q1, q2, q3, q4, q5⟩ := hw'.1.all
                    obtain ⟨s0, sf, sl⟩ := hw'.2.all
                    dsimp only [badH] at q0 q1 q2 q3 q4 q5
                    unfold noB at q4
                    clear hw'
                    go_simp
                    try with_reducible rfl
                  try simp only [Act.put, List.getElem_toArray, List.getElem_cons_zero, List.getElem_cons_succ, List.setIfInBounds_toArray, List.set_cons_zero, List.set_cons_succ]
                  refine anyT_take (i := 8) (v := .agg #[.int .i64 1, .int .i64 1, .int .i64 99]) rfl (by kernel_rfl) (by kernel_rfl) (fun _ _ _ h => h) (Or.inl ⟨by rfl, ?_⟩) ⟨hS4.out.ks.b, hS4.out.ks.v⟩ ?_
                  · intro w' hw'
                    obtain ⟨q0, q1, q2, q3, q4, q5⟩ := hw'.1.all
                    obtain ⟨s0, sf, sl⟩ := hw'.2.all
                    dsimp only [badH] at q0 q1 q2 q3 q4 q5
                    unfold noB at q4
                    clear hw'
                    go_simp
                    try with_reducible rfl
                  try simp only [Act.put, List.getElem_toArray, List.getElem_cons_zero, List.getElem_cons_succ, List.setIfInBounds_toArray, List.set_cons_zero, List.set_cons_succ]
                  refine anyT_take (i := 9) (v := .int .i64 9) rfl (by kernel_rfl) (by kernel_rfl) (fun _ _ _ h => h) (Or.inl ⟨by rfl, ?_⟩) ⟨hS4.out.ks.b, hS4.out.ks.v⟩ ?_
                  · intro w' hw'
                    obtain ⟨q0, q1, q2, q3, q4, q5⟩ := hw'.1.all
                    obtain ⟨s0, sf, sl⟩ := hw'.2.all
                    dsimp only [badH] at q0 q1 q2 q3 q4 q5
                    unfold noB at q4
                    clear hw'
                    go_simp
                    try with_reducible rfl
                  try simp only [Act.put, List.getElem_toArray, List.getElem_cons_zero, List.getElem_cons_succ, List.setIfInBounds_toArray, List.set_cons_zero, List.set_cons_succ]
                  obtain ⟨p0, p1, p2, pf, pl⟩ := hP4.out.all
                  refine anyT_one (i := 11) (by kernel_rfl) ?_
                  refine wpOp_step rfl (fun K hK => ?_)
                  replace hK := Lib.hid hK
                  go_simp
                  refine hK.out _ _ ⟨fun _ => ⟨hS4.out.ks.b, hS4.out.ks.v⟩, ?_⟩
                  clear hK K
                  try simp only [Act.put, List.getElem_toArray, List.getElem_cons_zero, List.getElem_cons_succ, List.setIfInBounds_toArray, List.set_cons_zero, List.set_cons_succ]
                  have hbs : Below z6.heap.size z6 (((u4.setCell ⟨g0, 0, none⟩ (.int .i64 1)).setCell ⟨g0, 1, none⟩ (.int .i64 1)).setCell ⟨g0, 2, none⟩ (.int .i64 99)) :=
                    hB4.out.trans ((Keep.set3 u4 g0 0 1 2 _ _ _).below (Nat.le_trans hB4.out.size (Nat.le_refl _)) fun b hb => by omega)
                  have hPs : E3 (((u4.setCell ⟨g0, 0, none⟩ (.int .i64 1)).setCell ⟨g0, 1, none⟩ (.int .i64 1)).setCell ⟨g0, 2, none⟩ (.int .i64 99)) g0 30 1 1 99 := heap_set _ g0 2 _ _ _ (heap_set _ g0 1 _ _ _ (heap_set _ g0 0 _ _ _ hP4.out))
                  have hKs := hK6.out.over hbs
                  have hSs := (⟨hKs.ks.b, hKs.ks.v⟩ : BX (((u4.setCell ⟨g0, 0, none⟩ (.int .i64 1)).setCell ⟨g0, 1, none⟩ (.int .i64 1)).setCell ⟨g0, 2, none⟩ (.int .i64 99)) gb 36 badH none 0 0 ∧ E1 (((u4.setCell ⟨g0, 0, none⟩ (.int .i64 1)).setCell ⟨g0, 1, none⟩ (.int .i64 1)).setCell ⟨g0, 2, none⟩ (.int .i64 99)) gv 26 (.map mo))
                  clear hKs hS4 hB4 hP4
                  replace hbs := Lib.hid hbs
                  replace hPs := Lib.hid hPs
                  replace hSs := Lib.hid hSs
                  refine anyT_one (i := 12) (by kernel_rfl) ?_
                  refine wpOp_step rfl (fun K hK => ?_)
                  replace hK := Lib.hid hK
                  go_simp
                  refine hK.out _ _ ⟨fun _ => hSs.out, ?_⟩
                  clear hK K hSs p0 p1 p2 pf pl
                  try simp only [Act.put, List.getElem_toArray, List.getElem_cons_zero, List.getElem_cons_succ, List.setIfInBounds_toArray, List.set_cons_zero, List.set_cons_succ]
                  refine anyT_one (i := 13) (by kernel_rfl) ?_
                  refine wpOp_step rfl (fun K hK => ?_)
                  replace hK := Lib.hid hK
                  go_simp
                  refine hK.out _ _ ⟨fun h => absurd h (by decide), ?_⟩
                  clear hK K
                  try simp only [Act.put, List.getElem_toArray, List.getElem_cons_zero, List.getElem_cons_succ, List.setIfInBounds_toArray, List.set_cons_zero, List.set_cons_succ]
                  refine anyT_done (by kernel_rfl) ?_ _
                  go_wp2_with fail
                  go_meet
                  case rel => exact ⟨rfl, rfl, g0, rfl, hPs.out, hbs.out⟩
              ·
                refine wpOp_step rfl (fun K hK => ?_)
                replace hK := Lib.hid hK
                have hba := (Below.refl u1.heap.size u1).alloc (Nat.le_refl _) (.cells #[.int .i64 0, .int .i64 0, .int .i64 0] 30)
                have hS2 := hS1.out.over hba
                have hB2 := below_call hba hB1.out
                have hV2 := hV1.out.up hba
                have hP2 := E3.new u1 30 0 0 0
                obtain ⟨g0, hg0⟩ : ∃ g, u1.heap.size = g := ⟨_, rfl⟩
                rw [hg0] at hP2
                have hg1 : z6.heap.size ≤ g0 := by have := hB1.out.size; omega
                obtain ⟨u2, hu2⟩ : ∃ W, u1.alloc (.cells #[.int .i64 0, .int .i64 0, .int .i64 0] 30) = W := ⟨_, rfl⟩
                rw [hu2] at hS2 hB2 hP2 hV2
                go_simp
                refine hK.out _ _ ⟨fun _ => ⟨hS2.ks.b, hS2.ks.v⟩, ?_⟩
                clear hK K hba hS1 hB1 hV1
                replace hS2 := Lib.hid hS2
                replace hB2 := Lib.hid hB2
                replace hP2 := Lib.hid hP2
                replace hV2 := Lib.hid hV2
                try simp only [Act.put, List.getElem_toArray, List.getElem_cons_zero, List.getElem_cons_succ, List.setIfInBounds_toArray, List.set_cons_zero, List.set_cons_succ]
                refine anyT_one (i := 3) (by kernel_rfl) ?_
                refine wpOp_step rfl (fun K hK => ?_)
                replace hK := Lib.hid hK
                go_simp
                (with_reducible refine (htwo.out _ _ _ hV2.out).mono ?_)
                rintro e u3 ⟨Aw, cw, rfl, hT3, hb⟩
                have hS3 := hS2.out.over hb
                have hB3 := below_call hb hB2.out
                have hP3 := hP2.out.over hb
                have hV3 := hV2.out.up hb
                refine hK.out _ _ ⟨fun _ => ⟨hS3.ks.b, hS3.ks.v⟩, ?_⟩
                clear hK K hb hS2 hB2 hV3 hP2 hV2
                replace hS3 := Lib.hid hS3
                replace hB3 := Lib.hid hB3
                replace hP3 := Lib.hid hP3
                replace hT3 := Lib.hid hT3
                try simp only [Act.put, List.getElem_toArray, List.getElem_cons_zero, List.getElem_cons_succ, List.setIfInBounds_toArray, List.set_cons_zero, List.set_cons_succ]
                refine anyT_one (i := 5) (by kernel_rfl) ?_
                refine wpOp_step rfl (fun K hK => ?_)
                replace hK := Lib.hid hK
                go_simp
                (with_reducible refine (hevl.out _ _ _ hS3.out.ks.m hT3.out).mono ?_)
                rintro e u4 ⟨rfl, hb⟩
                have hS4 := hS3.out.over hb
                have hB4 := below_call hb hB3.out
                have hP4 := hP3.out.over hb
                have hT4 := hT3.out.up hb
                refine hK.out _ _ ⟨fun _ => ⟨hS4.ks.b, hS4.ks.v⟩, ?_⟩
                clear hK K hb hS3 hB3 hT4 hP3 hT3
                replace hS4 := Lib.hid hS4
                replace hB4 := Lib.hid hB4
                replace hP4 := Lib.hid hP4
                try simp only [Act.put, List.getElem_toArray, List.getElem_cons_zero, List.getElem_cons_succ, List.setIfInBounds_toArray, List.set_cons_zero, List.set_cons_succ]
                refine anyT_take (i := 6) (v := .tuple #[.int .i64 0, .agg #[.int .i64 1, .int .i64 1, .int .i64 99], .int .i64 9]) rfl (by kernel_rfl) (by kernel_rfl) (fun _ _ _ h => h) (Or.inl ⟨by rfl, ?_⟩) ⟨hS4.out.ks.b, hS4.out.ks.v⟩ ?_
                · intro w' hw'
                  obtain ⟨q0, q1, q2, q3, q4, q5⟩ := hw'.1.all
                  obtain ⟨s0, sf, sl⟩ := hw'.2.all
                  dsimp only [badH] at q0 q1 q2 q3 q4 q5
                  unfold noB at q4
                  clear hw'
                  go_simp
                  try with_reducible rfl
                try simp only [Act.put, List.getElem_toArray, List.getElem_cons_zero, List.getElem_cons_succ, List.setIfInBounds_toArray, List.set_cons_zero, List.set_cons_succ]
                refine anyT_take (i := 7) (v := .int .i64 0) rfl (by kernel_rfl) (by kernel_rfl) (fun _ _ _ h => h) (Or.inl ⟨by rfl, ?_⟩) ⟨hS4.out.ks.b, hS4.out.ks.v⟩ ?_
                · intro w' hw'
                  obtain ⟨q0, q1, q2, q3, q4, q5⟩ := hw'.1.all
                  obtain ⟨s0, sf, sl⟩ := hw'.2.all
                  dsimp only [badH] at q0 q1 q2 q3 q4 q5
                  unfold noB at q4
                  clear hw'
                  go_simp
                  try with_reducible rfl
                try simp only [Act.put, List.getElem_toArray, List.getElem_cons_zero, List.getElem_cons_succ, List.setIfInBounds_toArray, List.set_cons_zero, List.set_cons_succ]
                refine anyT_take (i := 8) (v := .agg #[.int .i64 1, .int .i64 1, .int .i64 99]) rfl (by kernel_rfl) (by kernel_rfl) (fun _ _ _ h => h) (Or.inl ⟨by rfl, ?_⟩) ⟨hS4.out.ks.b, hS4.out.ks.v⟩ ?_
                · intro w' hw'
                  obtain ⟨q0, q1, q2, q3, q4, q5⟩ := hw'.1.all
                  obtain ⟨s0, sf, sl⟩ := hw'.2.all
                  dsimp only [badH] at q0 q1 q2 q3 q4 q5
                  unfold noB at q4
                  clear hw'
                  go_simp
                  try with_reducible rfl
                try simp only [Act.put, List.getElem_toArray, List.getElem_cons_zero, List.getElem_cons_succ, List.setIfInBounds_toArray, List.set_cons_zero, List.set_cons_succ]
                refine anyT_take (i := 9) (v := .int .i64 9) rfl (by kernel_rfl) (by kernel_rfl) (fun _ _ _ h => h) (Or.inl ⟨by rfl, ?_⟩) ⟨hS4.out.ks.b, hS4.out.ks.v⟩ ?_
                · intro w' hw'
                  obtain ⟨q0, q1, q2, q3, q4, q5⟩ := hw'.1.all
                  obtain ⟨s0, sf, sl⟩ := hw'.2.all
                  dsimp only [badH] at q0 q1 q2 q3 q4 q5
                  unfold noB at q4
                  clear hw'
                  go_simp
                  try with_reducible rfl
                try simp only [Act.put, List.getElem_toArray, List.getElem_cons_zero, List.getElem_cons_succ, List.setIfInBounds_toArray, List.set_cons_zero, List.set_cons_succ]
                obtain ⟨p0, p1, p2, pf, pl⟩ := hP4.out.all
                refine anyT_one (i := 11) (by kernel_rfl) ?_
                refine wpOp_step rfl (fun K hK => ?_)
                replace hK := Lib.hid hK
                go_simp
                refine hK.out _ _ ⟨fun _ => ⟨hS4.out.ks.b, hS4.out.ks.v⟩, ?_⟩
                clear hK K
                try simp only [Act.put, List.getElem_toArray, List.getElem_cons_zero, List.getElem_cons_succ, List.setIfInBounds_toArray, List.set_cons_zero, List.set_cons_succ]
                have hbs : Below z6.heap.size z6 (((u4.setCell ⟨g0, 0, none⟩ (.int .i64 1)).setCell ⟨g0, 1, none⟩ (.int .i64 1)).setCell ⟨g0, 2, none⟩ (.int .i64 99)) :=
                  hB4.out.trans ((Keep.set3 u4 g0 0 1 2 _ _ _).below (Nat.le_trans hB4.out.size (Nat.le_refl _)) fun b hb => by omega)
                have hPs : E3 (((u4.setCell ⟨g0, 0, none⟩ (.int .i64 1)).setCell ⟨g0, 1, none⟩ (.int .i64 1)).setCell ⟨g0, 2, none⟩ (.int .i64 99)) g0 30 1 1 99 := heap_set _ g0 2 _ _ _ (heap_set _ g0 1 _ _ _ (heap_set _ g0 0 _ _ _ hP4.out))
                have hKs := hK6.out.over hbs
                have hSs := (⟨hKs.ks.b, hKs.ks.v⟩ : BX (((u4.setCell ⟨g0, 0, none⟩ (.int .i64 1)).setCell ⟨g0, 1, none⟩ (.int .i64 1)).setCell ⟨g0, 2, none⟩ (.int .i64 99)) gb 36 badH none 0 0 ∧ E1 (((u4.setCell ⟨g0, 0, none⟩ (.int .i64 1)).setCell ⟨g0, 1, none⟩ (.int .i64 1)).setCell ⟨g0, 2, none⟩ (.int .i64 99)) gv 26 (.map mo))
                clear hKs hS4 hB4 hP4
                replace hbs := Lib.hid hbs
                replace hPs := Lib.hid hPs
                replace hSs := Lib.hid hSs
                refine anyT_one (i := 12) (by kernel_rfl) ?_
                refine wpOp_step rfl (fun K hK => ?_)
                replace hK := Lib.hid hK
                go_simp
                refine hK.out _ _ ⟨fun _ => hSs.out, ?_⟩
                clear hK K hSs p0 p1 p2 pf pl
                try simp only [Act.put, List.getElem_toArray, List.getElem_cons_zero, List.getElem_cons_succ, List.setIfInBounds_toArray, List.set_cons_zero, List.set_cons_succ]
                refine anyT_one (i := 13) (by kernel_rfl) ?_
                refine wpOp_step rfl (fun K hK => ?_)
                replace hK := Lib.hid hK
                go_simp
                refine hK.out _ _ ⟨fun h => absurd h (by decide), ?_⟩
                clear hK K
                try simp only [Act.put, List.getElem_toArray, List.getElem_cons_zero, List.getElem_cons_succ, List.setIfInBounds_toArray, List.set_cons_zero, List.set_cons_succ]
                refine anyT_done (by kernel_rfl) ?_ _
                go_wp2_with fail
                go_meet
                case rel => exact ⟨rfl, rfl, g0, rfl, hPs.out, hbs.out⟩
            ·
              refine wpOp_step rfl (fun K hK => ?_)
              replace hK := Lib.hid hK
              have hba := (Below.refl u0.heap.size u0).alloc (Nat.le_refl _) (.cells #[.int .i64 0, .int .i64 0, .int .i64 0] 30)
              have hS1 := hS0.out.over hba
              have hB1 := below_call hba hB0.out
              have hP1 := E3.new u0 30 0 0 0
              obtain ⟨g0, hg0⟩ : ∃ g, u0.heap.size = g := ⟨_, rfl⟩
              rw [hg0] at hP1
              have hg1 : z6.heap.size ≤ g0 := by have := hB0.out.size; omega
              obtain ⟨u1, hu1⟩ : ∃ W, u0.alloc (.cells #[.int .i64 0, .int .i64 0, .int .i64 0] 30) = W := ⟨_, rfl⟩
              rw [hu1] at hS1 hB1 hP1
              go_simp
              refine hK.out _ _ ⟨fun _ => ⟨hS1.ks.b, hS1.ks.v⟩, ?_⟩
              clear hK K hba hS0 hB0 
              replace hS1 := Lib.hid hS1
              replace hB1 := Lib.hid hB1
              replace hP1 := Lib.hid hP1
              try simp only [Act.put, List.getElem_toArray, List.getElem_cons_zero, List.getElem_cons_succ, List.setIfInBounds_toArray, List.set_cons_zero, List.set_cons_succ]
              refine anyT_one (i := 1) (by kernel_rfl) ?_
              refine wpOp_step rfl (fun K hK => ?_)
              replace hK := Lib.hid hK
              go_simp
              (with_reducible refine (hval.out _ hS1.out.ks.t).mono ?_)
              rintro e u2 ⟨At, ct, rfl, hV2, hb⟩
              have hS2 := hS1.out.over hb
              have hB2 := below_call hb hB1.out
              have hP2 := hP1.out.over hb
              refine hK.out _ _ ⟨fun _ => ⟨hS2.ks.b, hS2.ks.v⟩, ?_⟩
              clear hK K hb hS1 hB1 hP1
              replace hS2 := Lib.hid hS2
              replace hB2 := Lib.hid hB2
              replace hP2 := Lib.hid hP2
              replace hV2 := Lib.hid hV2
              try simp only [Act.put, List.getElem_toArray, List.getElem_cons_zero, List.getElem_cons_succ, List.setIfInBounds_toArray, List.set_cons_zero, List.set_cons_succ]
              refine anyT_one (i := 3) (by kernel_rfl) ?_
              refine wpOp_step rfl (fun K hK => ?_)
              replace hK := Lib.hid hK
              go_simp
              (with_reducible refine (htwo.out _ _ _ hV2.out).mono ?_)
              rintro e u3 ⟨Aw, cw, rfl, hT3, hb⟩
              have hS3 := hS2.out.over hb
              have hB3 := below_call hb hB2.out
              have hP3 := hP2.out.over hb
              have hV3 := hV2.out.up hb
              refine hK.out _ _ ⟨fun _ => ⟨hS3.ks.b, hS3.ks.v⟩, ?_⟩
              clear hK K hb hS2 hB2 hV3 hP2 hV2
              replace hS3 := Lib.hid hS3
              replace hB3 := Lib.hid hB3
              replace hP3 := Lib.hid hP3
              replace hT3 := Lib.hid hT3
              try simp only [Act.put, List.getElem_toArray, List.getElem_cons_zero, List.getElem_cons_succ, List.setIfInBounds_toArray, List.set_cons_zero, List.set_cons_succ]
              refine anyT_one (i := 5) (by kernel_rfl) ?_
              refine wpOp_step rfl (fun K hK => ?_)
              replace hK := Lib.hid hK
              go_simp
              (with_reducible refine (hevl.out _ _ _ hS3.out.ks.m hT3.out).mono ?_)
              rintro e u4 ⟨rfl, hb⟩
              have hS4 := hS3.out.over hb
              have hB4 := below_call hb hB3.out
              have hP4 := hP3.out.over hb
              have hT4 := hT3.out.up hb
              refine hK.out _ _ ⟨fun _ => ⟨hS4.ks.b, hS4.ks.v⟩, ?_⟩
              clear hK K hb hS3 hB3 hT4 hP3 hT3
              replace hS4 := Lib.hid hS4
              replace hB4 := Lib.hid hB4
              replace hP4 := Lib.hid hP4
              try simp only [Act.put, List.getElem_toArray, List.getElem_cons_zero, List.getElem_cons_succ, List.setIfInBounds_toArray, List.set_cons_zero, List.set_cons_succ]
              refine anyT_take (i := 6) (v := .tuple #[.int .i64 0, .agg #[.int .i64 1, .int .i64 1, .int .i64 99], .int .i64 9]) rfl (by kernel_rfl) (by kernel_rfl) (fun _ _ _ h => h) (Or.inl ⟨by rfl, ?_⟩) ⟨hS4.out.ks.b, hS4.out.ks.v⟩ ?_
              · intro w' hw'
                obtain ⟨q0, q1, q2, q3, q4, q5⟩ := hw'.1.all
                obtain ⟨s0, sf, sl⟩ := hw'.2.all
                dsimp only [badH] at q0 q1 q2 q3 q4 q5
                unfold noB at q4
                clear hw'
                go_simp
                try with_reducible rfl
              try simp only [Act.put, List.getElem_toArray, List.getElem_cons_zero, List.getElem_cons_succ, List.setIfInBounds_toArray, List.set_cons_zero, List.set_cons_succ]
              refine anyT_take (i := 7) (v := .int .i64 0) rfl (by kernel_rfl) (by kernel_rfl) (fun _ _ _ h => h) (Or.inl ⟨by rfl, ?_⟩) ⟨hS4.out.ks.b, hS4.out.ks.v⟩ ?_
              · intro w' hw'
                obtain ⟨q0, q1, q2, q3, q4, q5⟩ := hw'.1.all
                obtain ⟨s0, sf, sl⟩ := hw'.2.all
                dsimp only [badH] at q0 q1 q2 q3 q4 q5
                unfold noB at q4
                clear hw'
                go_simp
                try with_reducible rfl
              try simp only [Act.put, List.getElem_toArray, List.getElem_cons_zero, List.getElem_cons_succ, List.setIfInBounds_toArray, List.set_cons_zero, List.set_cons_succ]
              refine anyT_take (i := 8) (v := .agg #[.int .i64 1, .int .i64 1, .int .i64 99]) rfl (by kernel_rfl) (by kernel_rfl) (fun _ _ _ h => h) (Or.inl ⟨by rfl, ?_⟩) ⟨hS4.out.ks.b, hS4.out.ks.v⟩ ?_
              · intro w' hw'
                obtain ⟨q0, q1, q2, q3, q4, q5⟩ := hw'.1.all
                obtain ⟨s0, sf, sl⟩ := hw'.2.all
                dsimp only [badH] at q0 q1 q2 q3 q4 q5
                unfold noB at q4
                clear hw'
                go_simp
                try with_reducible rfl
              try simp only [Act.put, List.getElem_toArray, List.getElem_cons_zero, List.getElem_cons_succ, List.setIfInBounds_toArray, List.set_cons_zero, List.set_cons_succ]
              refine anyT_take (i := 9) (v := .int .i64 9) rfl (by kernel_rfl) (by kernel_rfl) (fun _ _ _ h => h) (Or.inl ⟨by rfl, ?_⟩) ⟨hS4.out.ks.b, hS4.out.ks.v⟩ ?_
              · intro w' hw'
                obtain ⟨q0, q1, q2, q3, q4, q5⟩ := hw'.1.all
                obtain ⟨s0, sf, sl⟩ := hw'.2.all
                dsimp only [badH] at q0 q1 q2 q3 q4 q5
                unfold noB at q4
                clear hw'
                go_simp
                try with_reducible rfl
              try simp only [Act.put, List.getElem_toArray, List.getElem_cons_zero, List.getElem_cons_succ, List.setIfInBounds_toArray, List.set_cons_zero, List.set_cons_succ]
              obtain ⟨p0, p1, p2, pf, pl⟩ := hP4.out.all
              refine anyT_one (i := 11) (by kernel_rfl) ?_
              refine wpOp_step rfl (fun K hK => ?_)
              replace hK := Lib.hid hK
              go_simp
              refine hK.out _ _ ⟨fun _ => ⟨hS4.out.ks.b, hS4.out.ks.v⟩, ?_⟩
              clear hK K
              try simp only [Act.put, List.getElem_toArray, List.getElem_cons_zero, List.getElem_cons_succ, List.setIfInBounds_toArray, List.set_cons_zero, List.set_cons_succ]
              have hbs : Below z6.heap.size z6 (((u4.setCell ⟨g0, 0, none⟩ (.int .i64 1)).setCell ⟨g0, 1, none⟩ (.int .i64 1)).setCell ⟨g0, 2, none⟩ (.int .i64 99)) :=
                hB4.out.trans ((Keep.set3 u4 g0 0 1 2 _ _ _).below (Nat.le_trans hB4.out.size (Nat.le_refl _)) fun b hb => by omega)
              have hPs : E3 (((u4.setCell ⟨g0, 0, none⟩ (.int .i64 1)).setCell ⟨g0, 1, none⟩ (.int .i64 1)).setCell ⟨g0, 2, none⟩ (.int .i64 99)) g0 30 1 1 99 := heap_set _ g0 2 _ _ _ (heap_set _ g0 1 _ _ _ (heap_set _ g0 0 _ _ _ hP4.out))
              have hKs := hK6.out.over hbs
              have hSs := (⟨hKs.ks.b, hKs.ks.v⟩ : BX (((u4.setCell ⟨g0, 0, none⟩ (.int .i64 1)).setCell ⟨g0, 1, none⟩ (.int .i64 1)).setCell ⟨g0, 2, none⟩ (.int .i64 99)) gb 36 badH none 0 0 ∧ E1 (((u4.setCell ⟨g0, 0, none⟩ (.int .i64 1)).setCell ⟨g0, 1, none⟩ (.int .i64 1)).setCell ⟨g0, 2, none⟩ (.int .i64 99)) gv 26 (.map mo))
              clear hKs hS4 hB4 hP4
              replace hbs := Lib.hid hbs
              replace hPs := Lib.hid hPs
              replace hSs := Lib.hid hSs
              refine anyT_one (i := 12) (by kernel_rfl) ?_
              refine wpOp_step rfl (fun K hK => ?_)
              replace hK := Lib.hid hK
              go_simp
              refine hK.out _ _ ⟨fun _ => hSs.out, ?_⟩
              clear hK K hSs p0 p1 p2 pf pl
              try simp only [Act.put, List.getElem_toArray, List.getElem_cons_zero, List.getElem_cons_succ, List.setIfInBounds_toArray, List.set_cons_zero, List.set_cons_succ]
              refine anyT_one (i := 13) (by kernel_rfl) ?_
              refine wpOp_step rfl (fun K hK => ?_)
              replace hK := Lib.hid hK
              go_simp
              refine hK.out _ _ ⟨fun h => absurd h (by decide), ?_⟩
              clear hK K
              try simp only [Act.put, List.getElem_toArray, List.getElem_cons_zero, List.getElem_cons_succ, List.setIfInBounds_toArray, List.set_cons_zero, List.set_cons_succ]
              refine anyT_done (by kernel_rfl) ?_ _
              go_wp2_with fail
              go_meet
              case rel => exact ⟨rfl, rfl, g0, rfl, hPs.out, hbs.out⟩
          case rest =>
            obtain ⟨rfl, rfl, g20, rfl, hE20, hb20⟩ := hcut
            have hK7 := hK6.out.over hb20
            obtain ⟨p0, p1, p2, pf, pl⟩ := hK7.p.all
            obtain ⟨q0, q1, q2, qf, ql⟩ := hK7.q.all
            obtain ⟨s0, s1, s2, sf, sl⟩ := hE20.all
            obtain ⟨b0, b1, b2, b3, b4, b5⟩ := hK7.ks.b.all
            dsimp only [badH] at b0 b1 b2 b3 b4 b5
            have hkf := Lib.hid hK7.ks.k
            clear hK6 hb20 hK7 hE20 hval htwo hevl
            go_wp2_with fail
            go_ret
            exact ⟨rfl, hkf.out⟩
end Go.Proofs.YtdjaikglkgabdaaGreatDoor
