/-
  The walk of KonstArith: each operator of two, of any numbers.
-/
import Derived.Test.YtcifljbcoioogaaGreatDoorVq
import Derived.Test.YtcifljbcoioogaaGreatDoorTp
import Derived.Deep.Cut
namespace Go.Proofs.YtcifljbcoioogaaGreatDoor
open Go.RowKit Go.Lib Go.Maps
theorem XAr.upJ {w w' : World} {t : XT} {A : Option Addr} (h : XAr w w.heap.size t A) (k : Below w.heap.size w w') : XAr w' w'.heap.size t A := (h.over k).mono k.size
/-- No head of the tree has the kind 0. -/
def KN : XT → Prop
  | .z h => h.k ≠ 0
  | .u h a => h.k ≠ 0 ∧ KN a
  | .b h a b => h.k ≠ 0 ∧ KN a ∧ KN b
  | .t h a b c => h.k ≠ 0 ∧ KN a ∧ KN b ∧ KN c
theorem KN.h : ∀ {t : XT}, KN t → t.h.k ≠ 0
  | .z _, h => h
  | .u _ _, h => h.1
  | .b _ _ _, h => h.1
  | .t _ _ _ _, h => h.1
theorem az_ne {w : World} {g b o : Nat} {h : XH} {A : Option Addr} {n c : Nat} (z : AZ w g) (x : XC w b o h A n c) (hk : h.k ≠ 0) : b ≠ g := by
  rintro rfl
  have h0 := x.1
  rw [Lib.cell_of_heap z] at h0
  match o, h0 with
  | 0, h0 => simp at h0; omega
  | 1, h0 => simp at h0; omega
  | 2, h0 => simp at h0; omega
  | 3, h0 => simp at h0; omega
  | 4, h0 => simp at h0
  | 5, h0 => simp at h0
  | o + 6, h0 => simp at h0
/-- A tree without the kind 0 doesn't lie in a variable that is still zero. -/
theorem XAr.nz {w : World} {B g : Nat} (z : AZ w g) : ∀ {t : XT} {A : Option Addr}, KN t → XAr w B t A → XQ w (fun b => b < B ∧ b ≠ g) t A
  | .z _, _, _, _ => trivial
  | .u _ _a, _, k, ⟨b, o, e, hb, A1, c1, x1, y1⟩ => ⟨b, o, e, ⟨hb, az_ne z x1 k.2.h⟩, A1, c1, x1, XAr.nz z k.2 y1⟩
  | .b _ _a1 _a2, _, k, ⟨b, o, e, hb, ⟨A1, c1, x1, y1⟩, A2, c2, x2, y2⟩ => ⟨b, o, e, ⟨hb, az_ne z x1 k.2.1.h⟩, ⟨A1, c1, x1, XAr.nz z k.2.1 y1⟩, A2, c2, x2, XAr.nz z k.2.2 y2⟩
  | .t _ _a1 _a2 _a3, _, k, ⟨b, o, e, hb, ⟨A1, c1, x1, y1⟩, ⟨A2, c2, x2, y2⟩, A3, c3, x3, y3⟩ => ⟨b, o, e, ⟨hb, az_ne z x1 k.2.1.h⟩, ⟨A1, c1, x1, XAr.nz z k.2.1 y1⟩, ⟨A2, c2, x2, XAr.nz z k.2.2.1 y2⟩, A3, c3, x3, XAr.nz z k.2.2.2 y3⟩
theorem KN_art (s : ByteArray) (a : Int) : KN (.b ⟨4, 0, 0, 0, s⟩ (XVal a) (.z ⟨2, 0, 0, 0, ⟨#[98]⟩⟩)) := by
  refine ⟨(by decide : (4 : Int) ≠ 0), ?_, (by decide : (2 : Int) ≠ 0)⟩
  unfold XVal
  split
  · exact (by decide : (1 : Int) ≠ 0)
  · split
    · exact ⟨(by decide : (3 : Int) ≠ 0), (by decide : (1 : Int) ≠ 0)⟩
    · exact (by decide : (1 : Int) ≠ 0)
/-- Which of the operators. -/
theorem op_idx (op : Int) : ∃ j : Nat, j < 21 ∧ (op.tmod 21 + 21).tmod 21 = (j : Int) ∧ -21 < op.tmod 21 ∧ op.tmod 21 < 21 := by
  have h1 : op.tmod 21 < 21 := Int.tmod_lt_of_pos op (by decide)
  have h2 : -21 < op.tmod 21 := Int.lt_tmod_of_pos op (by decide)
  have h3 : 0 ≤ (op.tmod 21 + 21).tmod 21 := Int.tmod_nonneg 21 (by omega)
  have h4 : (op.tmod 21 + 21).tmod 21 < 21 := Int.tmod_lt_of_pos _ (by decide)
  exact ⟨((op.tmod 21 + 21).tmod 21).toNat, by omega, by omega, h2, h1⟩
structure MI (w : World) (m n : Nat) (D : DU) : Prop where
  o : MapIs w m n D
theorem MI.over {w w' : World} {m n : Nat} {D : DU} (h : MI w m n D) (k : Below w.heap.size w w') : MI w' m n D := ⟨h.o.keep (Keep.of_below (F := fun _ => False) k) (fun h => h)⟩
def nbH : XH := ⟨2, 0, 0, 0, ⟨#[98]⟩⟩
/-- The expression. -/
def ART (s : ByteArray) (a : Int) : XT := .b ⟨4, 0, 0, 0, s⟩ (XVal a) (.z nbH)
theorem look_b (b : Int) : lookN [(⟨#[98]⟩, b)] ⟨#[98]⟩ = some b := look_hit [(⟨#[98]⟩, b)] ⟨#[98]⟩ 0 (by simp) rfl (fun i hi h => by simp at hi; omega)
theorem chk_inJ (h : XH) (n : Int) (hn : InR n) : chk h (okR n) = okR n := by
  unfold InR at hn
  unfold chk
  rw [if_neg (show ¬ (okR n).e ≠ 0 from fun h => h rfl), if_neg (by show ¬ (n < -2147483648 ∨ 2147483647 < n); omega)]
theorem ev_nb (b : Int) (hb : InR b) : ev (lookN [(⟨#[98]⟩, b)]) (.z nbH) = okR b := by
  show chk nbH (rawZ _ nbH) = _
  unfold rawZ namR
  rw [if_neg (by decide), show nbH.s = ⟨#[98]⟩ from rfl, look_b]
  exact chk_inJ nbH b hb
theorem rawB_two (s : ByteArray) (a b : Int) : (rawB ⟨4, 0, 0, 0, s⟩ (okR a) (okR b)).e = 0 ∨ (rawB ⟨4, 0, 0, 0, s⟩ (okR a) (okR b)).e = 3 := by
  unfold rawB
  rw [if_pos rfl, if_neg (show ¬ (okR a).e ≠ 0 from fun h => h rfl)]
  (repeat' split) <;> first | exact .inl rfl | exact .inr rfl | (rename_i h; exact absurd rfl h)
theorem ev_art (s : ByteArray) (a b : Int) (ha : InR a) (hb : InR b) : (ev (lookN [(⟨#[98]⟩, b)]) (ART s a)).e = 0 ∨ (ev (lookN [(⟨#[98]⟩, b)]) (ART s a)).e = 3 := by
  have e : ev (lookN [(⟨#[98]⟩, b)]) (ART s a) = chk ⟨4, 0, 0, 0, s⟩ (rawB ⟨4, 0, 0, 0, s⟩ (okR a) (okR b)) := by
    show chk _ (rawB _ (ev _ (XVal a)) (ev _ (.z nbH))) = _
    rw [ev_val _ a ha, ev_nb b hb]
  rw [e]
  have h := rawB_two s a b
  unfold chk
  split
  · exact h
  · split
    · exact .inr rfl
    · exact h
theorem wx_art (s : ByteArray) (hs : s.toList ∈ op21) (a : Int) (ha : InR a) : WX (ART s a) := by
  refine ⟨.inl ⟨rfl, ?_⟩, wx_val a ha, .inr rfl, by decide⟩
  rcases op_split s.toList hs with h | h | h
  · exact .inl h
  · exact .inr (.inl h)
  · exact .inr (.inr h)
set_option maxRecDepth 100000 in
set_option maxHeartbeats 12800000 in
theorem arith_t (op a b : Int) (w : World) (hT : LT w) : Calls Tryz.prog 4 #[.int .i64 op, .int .i64 a, .int .i64 b] w (RV w (.bool true)) := by
  have hAw := awake_t w hT
  unfold RV at hAw
  obtain ⟨j, hj, hjq, hm1, hm2⟩ := op_idx op
  obtain ⟨m, hm⟩ : ∃ m, op.tmod 21 = m := ⟨_, rfl⟩
  rw [hm] at hjq hm1 hm2
  obtain ⟨m2, hm2e⟩ : ∃ m2, m + 21 = m2 := ⟨_, rfl⟩
  have hw1 : IntKind.i64.wrap (op.tmod 21) = m := by rw [hm]; exact IntWalk.i64_in _ (by omega)
  have hw2 : IntKind.i64.wrap (m + 21) = m2 := by rw [hm2e]; exact IntWalk.i64_in _ (by omega)
  rw [hm2e] at hjq
  have hw3 : IntKind.i64.wrap (m2.tmod 21) = (j : Int) := by rw [hjq]; exact IntWalk.i64_in _ (by omega)
  obtain ⟨L, hL⟩ : ∃ L : List UInt8, op21[j]'(by exact hj) = L := ⟨_, rfl⟩
  have hLin : (⟨L.toArray⟩ : ByteArray).toList ∈ op21 := by rw [tab_list, ← hL]; exact List.getElem_mem _
  have hca : InR (clampN a) := clamp_in a
  have hcb : InR (clampN b) := clamp_in b
  have hea : max (-2147483648) (min a 2147483647) = clampN a := rfl
  have heb : max (-2147483648) (min b 2147483647) = clampN b := rfl
  obtain ⟨ka, hka⟩ : ∃ k, clampN a = k := ⟨_, rfl⟩
  obtain ⟨kb, hkb⟩ : ∃ k, clampN b = k := ⟨_, rfl⟩
  rw [hka] at hca hea
  rw [hkb] at hcb heb
  have hcv : min (max ka (-2147483648)) 2147483647 = ka := by unfold InR at hca; omega
  have hVl := fun W (q : LT W) => Value_t ka ka hcv W q
  have hWi := fun W => With_nil ⟨#[98]⟩ kb W (by decide) hcb
  have hwx := wx_art ⟨L.toArray⟩ hLin ka hca
  have her := ev_art ⟨L.toArray⟩ ka kb hca hcb
  have hEl := fun (A : Option Addr) (c mo n : Nat) (W : World) (q1 : MapIs W mo n (DM (keyL [(⟨#[98]⟩, kb)]))) (q0 : n ≤ 1000 * 1) (q2 : XAr W W.heap.size (ART ⟨L.toArray⟩ ka) A) => Eval_t (ART ⟨L.toArray⟩ ka) A c (some mo) (keyL [(⟨#[98]⟩, kb)]) W (.inr ⟨mo, n, rfl, q1, q0⟩) q2 hwx
  have hRl := fun (E : Option Addr) (ec : Nat) (A : Option Addr) (c : Nat) (W : World) (q1 : NOk W E [(⟨#[98]⟩, kb)]) (q2 : XAr W W.heap.size (ART ⟨L.toArray⟩ ka) A) => rev_all E [(⟨#[98]⟩, kb)] ec (ART ⟨L.toArray⟩ ka) A c W q1 q2 hwx
  have hTl := fun (A : Option Addr) (c : Nat) (W : World) (q : XQ W (· < W.heap.size) (ART ⟨L.toArray⟩ ka) A) => Told_all (ART ⟨L.toArray⟩ ka) A c W q
  have hre : ev (envB (keyL [(⟨#[98]⟩, kb)])) (ART ⟨L.toArray⟩ ka) = ev (lookN [(⟨#[98]⟩, kb)]) (ART ⟨L.toArray⟩ ka) := rfl
  rw [hre] at hEl
  obtain ⟨r, hr⟩ : ∃ r, ev (lookN [(⟨#[98]⟩, kb)]) (ART ⟨L.toArray⟩ ka) = r := ⟨_, rfl⟩
  rw [hr] at hEl hRl her
  obtain ⟨S, hS⟩ : ∃ S : ByteArray, ⟨L.toArray⟩ = S := ⟨_, rfl⟩
  rw [hS] at hEl hRl hTl
  unfold KO at hEl
  unfold RE ov at hRl
  unfold TRt at hTl
  unfold VX at hVl
  unfold WI at hWi
  replace hEl : ∀ (A : Option Addr) (c mo n : Nat) (W : World), MapIs W mo n (DM (keyL [(⟨#[98]⟩, kb)])) → n ≤ 1000 * 1 → XAr W W.heap.size (ART S ka) A →
      Calls Tryz.prog 10 #[.agg #[.int .i64 4, .int .i64 0, .int .i64 0, .int .i64 0, .string S, .slice A 2 c], .agg #[.map (some mo)]] W fun x w' => x = .returned (.tuple #[.int .i64 r.n, .agg #[.int .i64 r.f, .int .i64 r.l, .int .i64 r.c], .int .i64 r.e]) ∧ Below W.heap.size W w' := hEl
  replace hRl : ∀ (E : Option Addr) (ec : Nat) (A : Option Addr) (c : Nat) (W : World), NOk W E [(⟨#[98]⟩, kb)] → XAr W W.heap.size (ART S ka) A →
      Calls Tryz.prog 12 #[.agg #[.int .i64 4, .int .i64 0, .int .i64 0, .int .i64 0, .string S, .slice A 2 c], .slice E 1 ec] W fun x w' => x = .returned (.agg #[.int .i64 r.n, .int .i64 r.f, .int .i64 r.l, .int .i64 r.c, .int .i64 r.e]) ∧ Below W.heap.size W w' := hRl
  replace hTl : ∀ (A : Option Addr) (c : Nat) (W : World), XQ W (· < W.heap.size) (ART S ka) A →
      Calls Tryz.prog 15 #[.agg #[.int .i64 4, .int .i64 0, .int .i64 0, .int .i64 0, .string S, .slice A 2 c]] W fun e w' => ∃ A' c', e = .returned (.agg #[.int .i64 4, .int .i64 0, .int .i64 0, .int .i64 0, .string S, .slice A' 2 c']) ∧ XQ w' (fun b => W.heap.size ≤ b ∧ b < w'.heap.size) (ART S ka) A' ∧ Below W.heap.size W w' := hTl
  have hKN : KN (ART S ka) := KN_art S ka
  replace hKN := Lib.hid hKN
  obtain ⟨V, hV⟩ : ∃ V, XVal ka = V := ⟨_, rfl⟩
  have hAT : ∀ (W : World) (g : Nat) (A : Option Addr) (c : Nat), W.heap[g]? = some (.cells #[.int .i64 V.h.k, .int .i64 V.h.f, .int .i64 V.h.l, .int .i64 V.h.c, .string V.h.s, .slice A V.args.length c, .int .i64 2, .int .i64 0, .int .i64 0, .int .i64 0, .string ⟨#[98]⟩, .slice none 0 0] 47 (0, 0)) → g < W.heap.size → XAr W W.heap.size V A → XAr W W.heap.size (ART S ka) (some ⟨g, 0, none⟩) := fun W g A c hg hl hx => by
    unfold ART
    rw [hV]
    exact pair_ar (a1 := V) (a2 := .z nbH) (A2 := none) (c1 := c) (c2 := 0) (T := 47) hg hl hx trivial
  rw [hV] at hVl
  have hTab : ∀ (W : World) (g : Nat), W.heap[g]? = some (.cells (tabS op21) 9 (0, 0)) → W.cell? ⟨g, j, none⟩ = some (.string S) := fun W g hg => by
    rw [tab_cell hg j hj, hL, hS]
  replace hAT := Lib.hid hAT
  replace hTab := Lib.hid hTab
  replace hAw := Lib.hid hAw
  replace hVl := Lib.hid hVl
  replace hWi := Lib.hid hWi
  replace hEl := Lib.hid hEl
  replace hRl := Lib.hid hRl
  replace hTl := Lib.hid hTl
  replace hcb := Lib.hid hcb
  replace her := Lib.hid her
  replace hT := Lib.hid hT
  clear hka hkb hr hre hwx hcv hca hV hL hS hLin hm1 hm2 hm2e
  go_enter Tryz.func4, Tryz.ntmps4
  go_wp2_with fail
  (with_reducible refine hAw.out.mono ?_)
  rintro e w1 ⟨rfl, hb1⟩
  have hG := heap_alloc_new w1 (.cells #[.string ⟨#[43]⟩, .string ⟨#[45]⟩, .string ⟨#[42]⟩, .string ⟨#[47]⟩, .string ⟨#[37]⟩, .string ⟨#[38]⟩, .string ⟨#[124]⟩, .string ⟨#[94]⟩, .string ⟨#[126, 94]⟩, .string ⟨#[60, 60]⟩, .string ⟨#[62, 62]⟩, .string ⟨#[60, 60, 60]⟩, .string ⟨#[62, 62, 62]⟩, .string ⟨#[60]⟩, .string ⟨#[60, 61]⟩, .string ⟨#[62]⟩, .string ⟨#[62, 61]⟩, .string ⟨#[61, 61]⟩, .string ⟨#[33, 61]⟩, .string ⟨#[38, 38]⟩, .string ⟨#[124, 124]⟩] 9)
  have hbt := (Below.refl w1.heap.size w1).alloc (Nat.le_refl _) (.cells #[.string ⟨#[43]⟩, .string ⟨#[45]⟩, .string ⟨#[42]⟩, .string ⟨#[47]⟩, .string ⟨#[37]⟩, .string ⟨#[38]⟩, .string ⟨#[124]⟩, .string ⟨#[94]⟩, .string ⟨#[126, 94]⟩, .string ⟨#[60, 60]⟩, .string ⟨#[62, 62]⟩, .string ⟨#[60, 60, 60]⟩, .string ⟨#[62, 62, 62]⟩, .string ⟨#[60]⟩, .string ⟨#[60, 61]⟩, .string ⟨#[62]⟩, .string ⟨#[62, 61]⟩, .string ⟨#[61, 61]⟩, .string ⟨#[33, 61]⟩, .string ⟨#[38, 38]⟩, .string ⟨#[124, 124]⟩] 9)
  have hk2 := below_call hbt hb1
  obtain ⟨gt, hgt⟩ : ∃ g, w1.heap.size = g := ⟨_, rfl⟩
  rw [hgt] at hG
  clear hb1 hbt
  go_upto_region 5 with fail
  obtain ⟨w2, hw2⟩ : ∃ W, w1.alloc (.cells #[.string ⟨#[43]⟩, .string ⟨#[45]⟩, .string ⟨#[42]⟩, .string ⟨#[47]⟩, .string ⟨#[37]⟩, .string ⟨#[38]⟩, .string ⟨#[124]⟩, .string ⟨#[94]⟩, .string ⟨#[126, 94]⟩, .string ⟨#[60, 60]⟩, .string ⟨#[62, 62]⟩, .string ⟨#[60, 60, 60]⟩, .string ⟨#[62, 62, 62]⟩, .string ⟨#[60]⟩, .string ⟨#[60, 61]⟩, .string ⟨#[62]⟩, .string ⟨#[62, 61]⟩, .string ⟨#[61, 61]⟩, .string ⟨#[33, 61]⟩, .string ⟨#[38, 38]⟩, .string ⟨#[124, 124]⟩] 9) = W := ⟨_, rfl⟩
  rw [hw2] at hG hk2 ⊢
  replace hG : w2.heap[gt]? = some (.cells (tabS op21) 9 (0, 0)) := hG
  clear hw2 hgt
  have hT2 := Lib.hid (hT.out.on hk2)
  replace hG := Lib.hid hG
  replace hk2 := Lib.hid hk2
  go_cut [8] from 13 (fun v wc => ∃ ge A c, v = .pointer (some ⟨ge, 0, none⟩) ∧ BX wc ge 47 ⟨4, 0, 0, 0, S⟩ A 2 c ∧ XAr wc wc.heap.size (ART S ka) A ∧ Below w.heap.size w wc)
  case first =>
    obtain ⟨u0, hu0⟩ : ∃ W, w2.drew = W := ⟨_, rfl⟩
    have hbd : Below w2.heap.size w2 w2.drew := (Below.refl _ _).drew
    have hB0 := below_call hbd hk2.out
    have hS0 : w2.drew.heap[gt]? = _ := hG.out
    have hL0 : LT w2.drew := hT2.out.on hbd
    rw [hu0] at hS0 hB0 hL0
    clear hbd
    have hC0 := hS0
    replace hS0 := Lib.hid hS0
    replace hB0 := Lib.hid hB0
    replace hL0 := Lib.hid hL0
    replace hC0 := Lib.hid hC0
    refine region_anyT (n := 13) (S := (fun w' => w'.heap[gt]? = some (.cells (tabS op21) 9 (0, 0)))) (by kernel_rfl) ?_
    rw [hu0]
    refine anyT_take (i := 0) (v := .slice (some ⟨gt, 0, none⟩) 21 21) rfl (by kernel_rfl) (by kernel_rfl) (fun _ _ _ h => h) (Or.inl ⟨by rfl, ?_⟩) hC0.out ?_
    · intro w' hw'
      have hq := hTab.out _ _ hw'
      clear hw'
      go_simp
      try with_reducible rfl
    try simp only [Act.put, List.getElem_toArray, List.getElem_cons_zero, List.setIfInBounds_toArray, List.set_cons_zero, List.set_cons_succ]
    refine anyT_take (i := 1) (v := .int .i64 op) rfl (by kernel_rfl) (by kernel_rfl) (fun _ _ _ h => h) (Or.inl ⟨by rfl, ?_⟩) hC0.out ?_
    · intro w' hw'
      have hq := hTab.out _ _ hw'
      clear hw'
      go_simp
      try with_reducible rfl
    try simp only [Act.put, List.getElem_toArray, List.getElem_cons_zero, List.getElem_cons_succ, List.setIfInBounds_toArray, List.set_cons_zero, List.set_cons_succ]
    refine anyT_take (i := 2) (v := .int .i64 m) rfl (by kernel_rfl) (by kernel_rfl) (fun _ _ _ h => h) (Or.inl ⟨by rfl, ?_⟩) hC0.out ?_
    · intro w' hw'
      have hq := hTab.out _ _ hw'
      clear hw'
      go_simp
      try with_reducible rfl
    try simp only [Act.put, List.getElem_toArray, List.getElem_cons_zero, List.getElem_cons_succ, List.setIfInBounds_toArray, List.set_cons_zero, List.set_cons_succ]
    refine anyT_take (i := 3) (v := .int .i64 m2) rfl (by kernel_rfl) (by kernel_rfl) (fun _ _ _ h => h) (Or.inl ⟨by rfl, ?_⟩) hC0.out ?_
    · intro w' hw'
      have hq := hTab.out _ _ hw'
      clear hw'
      go_simp
      try with_reducible rfl
    try simp only [Act.put, List.getElem_toArray, List.getElem_cons_zero, List.getElem_cons_succ, List.setIfInBounds_toArray, List.set_cons_zero, List.set_cons_succ]
    refine anyT_take (i := 4) (v := .int .i64 j) rfl (by kernel_rfl) (by kernel_rfl) (fun _ _ _ h => h) (Or.inl ⟨by rfl, ?_⟩) hC0.out ?_
    · intro w' hw'
      have hq := hTab.out _ _ hw'
      clear hw'
      go_simp
      try with_reducible rfl
    try simp only [Act.put, List.getElem_toArray, List.getElem_cons_zero, List.getElem_cons_succ, List.setIfInBounds_toArray, List.set_cons_zero, List.set_cons_succ]
    refine anyT_take (i := 5) (v := .pointer (some ⟨gt, j, none⟩)) rfl (by kernel_rfl) (by kernel_rfl) (fun _ _ _ h => h) (Or.inl ⟨by rfl, ?_⟩) hC0.out ?_
    · intro w' hw'
      have hq := hTab.out _ _ hw'
      clear hw'
      go_simp
      try (intro h9; exact absurd h9 (by omega))
      try with_reducible rfl
    try simp only [Act.put, List.getElem_toArray, List.getElem_cons_zero, List.getElem_cons_succ, List.setIfInBounds_toArray, List.set_cons_zero, List.set_cons_succ]
    refine anyT_take (i := 6) (v := .string S) rfl (by kernel_rfl) (by kernel_rfl) (fun _ _ _ h => h) (Or.inl ⟨by rfl, ?_⟩) hC0.out ?_
    · intro w' hw'
      have hq := hTab.out _ _ hw'
      clear hw'
      go_simp
      try with_reducible rfl
    try simp only [Act.put, List.getElem_toArray, List.getElem_cons_zero, List.getElem_cons_succ, List.setIfInBounds_toArray, List.set_cons_zero, List.set_cons_succ]
    refine anyT_take (i := 7) (v := .int .i64 ka) rfl (by kernel_rfl) (by kernel_rfl) (fun _ _ _ h => h) (Or.inl ⟨by rfl, ?_⟩) hC0.out ?_
    · intro w' hw'
      have hq := hTab.out _ _ hw'
      clear hw'
      go_simp
      try with_reducible rfl
    try simp only [Act.put, List.getElem_toArray, List.getElem_cons_zero, List.getElem_cons_succ, List.setIfInBounds_toArray, List.set_cons_zero, List.set_cons_succ]
    refine anyT_take (i := 9) (v := .agg #[.int .i64 2, .int .i64 0, .int .i64 0, .int .i64 0, .string ⟨#[98]⟩, .slice none 0 0]) rfl (by kernel_rfl) (by kernel_rfl) (fun _ _ _ h => h) (Or.inl ⟨by rfl, ?_⟩) hC0.out ?_
    · intro w' hw'
      have hq := hTab.out _ _ hw'
      clear hw'
      go_simp
      try with_reducible rfl
    try simp only [Act.put, List.getElem_toArray, List.getElem_cons_zero, List.getElem_cons_succ, List.setIfInBounds_toArray, List.set_cons_zero, List.set_cons_succ]
    clear hC0
    refine anyT_pair (i := 8) (j := 12) (by kernel_rfl) ?_ ?_
    ·
      refine wpOp_step rfl (fun K hK => ?_)
      replace hK := Lib.hid hK
      go_simp
      (with_reducible refine (hVl.out _ hL0.out).mono ?_)
      rintro e u1 ⟨Av, cv, rfl, hV1, hb⟩
      have hS1 : u1.heap[gt]? = some (.cells (tabS op21) 9 (0, 0)) := (hb.block gt (lt_of_get hS0.out)).trans hS0.out
      have hB1 := below_call hb hB0.out
      refine hK.out _ _ ⟨fun _ => hS1, ?_⟩
      clear hK K hb hS0 hB0 hL0
      replace hS1 := Lib.hid hS1
      replace hB1 := Lib.hid hB1
      replace hV1 := Lib.hid hV1
      try simp only [Act.put, List.getElem_toArray, List.getElem_cons_zero, List.getElem_cons_succ, List.setIfInBounds_toArray, List.set_cons_zero, List.set_cons_succ]
      refine anyT_pair (i := 10) (j := 12) (by kernel_rfl) ?_ ?_
      ·
        refine wpOp_step rfl (fun K hK => ?_)
        replace hK := Lib.hid hK
        have hba := (Below.refl u1.heap.size u1).alloc (Nat.le_refl _) (.cells #[.int .i64 V.h.k, .int .i64 V.h.f, .int .i64 V.h.l, .int .i64 V.h.c, .string V.h.s, .slice Av V.args.length cv, .int .i64 2, .int .i64 0, .int .i64 0, .int .i64 0, .string ⟨#[98]⟩, .slice none 0 0] 47)
        have hh := heap_alloc_new u1 (.cells #[.int .i64 V.h.k, .int .i64 V.h.f, .int .i64 V.h.l, .int .i64 V.h.c, .string V.h.s, .slice Av V.args.length cv, .int .i64 2, .int .i64 0, .int .i64 0, .int .i64 0, .string ⟨#[98]⟩, .slice none 0 0] 47)
        have hz : u1.heap.size < (u1.alloc (.cells #[.int .i64 V.h.k, .int .i64 V.h.f, .int .i64 V.h.l, .int .i64 V.h.c, .string V.h.s, .slice Av V.args.length cv, .int .i64 2, .int .i64 0, .int .i64 0, .int .i64 0, .string ⟨#[98]⟩, .slice none 0 0] 47)).heap.size := by simp
        obtain ⟨gr, hgr⟩ : ∃ g, u1.heap.size = g := ⟨_, rfl⟩
        have hgw : w.heap.size ≤ gr := by have := hB1.out.size; omega
        obtain ⟨u2, hu2⟩ : ∃ W, u1.alloc (.cells #[.int .i64 V.h.k, .int .i64 V.h.f, .int .i64 V.h.l, .int .i64 V.h.c, .string V.h.s, .slice Av V.args.length cv, .int .i64 2, .int .i64 0, .int .i64 0, .int .i64 0, .string ⟨#[98]⟩, .slice none 0 0] 47) = W := ⟨_, rfl⟩
        rw [hu2] at hba
        rw [hgr, hu2] at hh
        rw [hgr, hu2] at hz
        have hS2 : u2.heap[gt]? = some (.cells (tabS op21) 9 (0, 0)) := (hba.block gt (lt_of_get hS1.out)).trans hS1.out
        have hB2 := below_call hba hB1.out
        have hV2 := hV1.out.upJ hba
        have hX2 := hAT.out _ _ _ _ hh hz hV2
        clear hV2
        clear hz hh hgw
        go_simp
        refine hK.out _ _ ⟨fun _ => hS2, ?_⟩
        clear hK K hba hS1 hB1 hV1
        replace hS2 := Lib.hid hS2
        replace hB2 := Lib.hid hB2
        replace hX2 := Lib.hid hX2
        try simp only [Act.put, List.getElem_toArray, List.getElem_cons_zero, List.getElem_cons_succ, List.setIfInBounds_toArray, List.set_cons_zero, List.set_cons_succ]
        refine anyT_take (i := 11) (v := .agg #[.int .i64 4, .int .i64 0, .int .i64 0, .int .i64 0, .string S, .slice (some ⟨gr, 0, none⟩) 2 2]) rfl (by kernel_rfl) (by kernel_rfl) (fun _ _ _ h => h) (Or.inl ⟨by rfl, ?_⟩) hS2.out ?_
        · intro w' hw'
          clear hw'
          go_simp
          try with_reducible rfl
        try simp only [Act.put, List.getElem_toArray, List.getElem_cons_zero, List.getElem_cons_succ, List.setIfInBounds_toArray, List.set_cons_zero, List.set_cons_succ]
        refine anyT_one (i := 12) (by kernel_rfl) ?_
        refine wpOp_step rfl (fun K hK => ?_)
        replace hK := Lib.hid hK
        have hba := (Below.refl u2.heap.size u2).alloc (Nat.le_refl _) (.cells #[.int .i64 0, .int .i64 0, .int .i64 0, .int .i64 0, .string ⟨#[]⟩, .slice none 0 0] 47)
        have hh := heap_alloc_new u2 (.cells #[.int .i64 0, .int .i64 0, .int .i64 0, .int .i64 0, .string ⟨#[]⟩, .slice none 0 0] 47)
        have hz : u2.heap.size < (u2.alloc (.cells #[.int .i64 0, .int .i64 0, .int .i64 0, .int .i64 0, .string ⟨#[]⟩, .slice none 0 0] 47)).heap.size := by simp
        obtain ⟨g0, hg0⟩ : ∃ g, u2.heap.size = g := ⟨_, rfl⟩
        have hgw : w.heap.size ≤ g0 := by have := hB2.out.size; omega
        obtain ⟨u3, hu3⟩ : ∃ W, u2.alloc (.cells #[.int .i64 0, .int .i64 0, .int .i64 0, .int .i64 0, .string ⟨#[]⟩, .slice none 0 0] 47) = W := ⟨_, rfl⟩
        rw [hu3] at hba
        rw [hg0, hu3] at hh
        rw [hg0, hu3] at hz
        have hS3 : u3.heap[gt]? = some (.cells (tabS op21) 9 (0, 0)) := (hba.block gt (lt_of_get hS2.out)).trans hS2.out
        have hB3 := below_call hba hB2.out
        have hX3 := hX2.out.upJ hba
        have hP3 : AZ u3 g0 := hh
        have hg0w := Lib.hid hgw
        clear hz hh hgw
        go_simp
        refine hK.out _ _ ⟨fun _ => hS3, ?_⟩
        clear hK K hba hS2 hB2 hX2
        replace hS3 := Lib.hid hS3
        replace hB3 := Lib.hid hB3
        replace hX3 := Lib.hid hX3
        replace hP3 := Lib.hid hP3
        try simp only [Act.put, List.getElem_toArray, List.getElem_cons_zero, List.getElem_cons_succ, List.setIfInBounds_toArray, List.set_cons_zero, List.set_cons_succ]
        obtain ⟨zf, zl, z0, z1, z2, z3, z4, z5⟩ := hP3.out.all
        have hbs : Below w.heap.size w (set6 u3 g0 (.int .i64 4) (.int .i64 0) (.int .i64 0) (.int .i64 0) (.string S) (.slice (some ⟨gr, 0, none⟩) 2 2)) := hB3.out.trans ((set6_keep u3 g0 _ _ _ _ _ _).below hB3.out.size fun b hb => by have := hg0w.out; omega)
        have hMs : BX (set6 u3 g0 (.int .i64 4) (.int .i64 0) (.int .i64 0) (.int .i64 0) (.string S) (.slice (some ⟨gr, 0, none⟩) 2 2)) g0 47 ⟨4, 0, 0, 0, S⟩ (some ⟨gr, 0, none⟩) 2 2 := heap_set _ g0 5 _ _ _ (heap_set _ g0 4 _ _ _ (heap_set _ g0 3 _ _ _ (heap_set _ g0 2 _ _ _ (heap_set _ g0 1 _ _ _ (heap_set _ g0 0 _ _ _ hP3.out)))))
        have hXs : XAr (set6 u3 g0 (.int .i64 4) (.int .i64 0) (.int .i64 0) (.int .i64 0) (.string S) (.slice (some ⟨gr, 0, none⟩) 2 2)) ((set6 u3 g0 (.int .i64 4) (.int .i64 0) (.int .i64 0) (.int .i64 0) (.string S) (.slice (some ⟨gr, 0, none⟩) 2 2))).heap.size (ART S ka) (some ⟨gr, 0, none⟩) := XQ.ar (F := fun b => b < u3.heap.size ∧ b ≠ g0) (fun b hb => by rw [set6_size]; exact hb.1) ((XAr.nz hP3.out hKN.out hX3.out).over (fun b hb => set6_far _ _ _ _ _ _ _ _ b hb.2) fun b hb => hb)
        replace hbs := Lib.hid hbs
        replace hMs := Lib.hid hMs
        replace hXs := Lib.hid hXs
        refine anyT_one (i := 13) (by kernel_rfl) ?_
        refine wpOp_step rfl (fun K hK => ?_)
        replace hK := Lib.hid hK
        go_simp
        refine hK.out _ _ ⟨fun h => absurd h (by decide), ?_⟩
        clear hK K z0 z1 z2 z3 z4 z5 zf zl
        try simp only [Act.put, List.getElem_toArray, List.getElem_cons_zero, List.getElem_cons_succ, List.setIfInBounds_toArray, List.set_cons_zero, List.set_cons_succ]
        refine anyT_done (by kernel_rfl) ?_ _
        go_wp2_with fail
        go_meet
        case rel => exact ⟨g0, _, _, rfl, hMs.out, hXs.out, hbs.out⟩
      ·
        refine wpOp_step rfl (fun K hK => ?_)
        replace hK := Lib.hid hK
        have hba := (Below.refl u1.heap.size u1).alloc (Nat.le_refl _) (.cells #[.int .i64 0, .int .i64 0, .int .i64 0, .int .i64 0, .string ⟨#[]⟩, .slice none 0 0] 47)
        have hh := heap_alloc_new u1 (.cells #[.int .i64 0, .int .i64 0, .int .i64 0, .int .i64 0, .string ⟨#[]⟩, .slice none 0 0] 47)
        have hz : u1.heap.size < (u1.alloc (.cells #[.int .i64 0, .int .i64 0, .int .i64 0, .int .i64 0, .string ⟨#[]⟩, .slice none 0 0] 47)).heap.size := by simp
        obtain ⟨g0, hg0⟩ : ∃ g, u1.heap.size = g := ⟨_, rfl⟩
        have hgw : w.heap.size ≤ g0 := by have := hB1.out.size; omega
        obtain ⟨u2, hu2⟩ : ∃ W, u1.alloc (.cells #[.int .i64 0, .int .i64 0, .int .i64 0, .int .i64 0, .string ⟨#[]⟩, .slice none 0 0] 47) = W := ⟨_, rfl⟩
        rw [hu2] at hba
        rw [hg0, hu2] at hh
        rw [hg0, hu2] at hz
        have hS2 : u2.heap[gt]? = some (.cells (tabS op21) 9 (0, 0)) := (hba.block gt (lt_of_get hS1.out)).trans hS1.out
        have hB2 := below_call hba hB1.out
        have hV2 := hV1.out.upJ hba
        have hP2 : AZ u2 g0 := hh
        have hg0w := Lib.hid hgw
        clear hz hh hgw
        go_simp
        refine hK.out _ _ ⟨fun _ => hS2, ?_⟩
        clear hK K hba hS1 hB1 hV1
        replace hS2 := Lib.hid hS2
        replace hB2 := Lib.hid hB2
        replace hV2 := Lib.hid hV2
        replace hP2 := Lib.hid hP2
        try simp only [Act.put, List.getElem_toArray, List.getElem_cons_zero, List.getElem_cons_succ, List.setIfInBounds_toArray, List.set_cons_zero, List.set_cons_succ]
        refine anyT_one (i := 10) (by kernel_rfl) ?_
        refine wpOp_step rfl (fun K hK => ?_)
        replace hK := Lib.hid hK
        have hba := (Below.refl u2.heap.size u2).alloc (Nat.le_refl _) (.cells #[.int .i64 V.h.k, .int .i64 V.h.f, .int .i64 V.h.l, .int .i64 V.h.c, .string V.h.s, .slice Av V.args.length cv, .int .i64 2, .int .i64 0, .int .i64 0, .int .i64 0, .string ⟨#[98]⟩, .slice none 0 0] 47)
        have hh := heap_alloc_new u2 (.cells #[.int .i64 V.h.k, .int .i64 V.h.f, .int .i64 V.h.l, .int .i64 V.h.c, .string V.h.s, .slice Av V.args.length cv, .int .i64 2, .int .i64 0, .int .i64 0, .int .i64 0, .string ⟨#[98]⟩, .slice none 0 0] 47)
        have hz : u2.heap.size < (u2.alloc (.cells #[.int .i64 V.h.k, .int .i64 V.h.f, .int .i64 V.h.l, .int .i64 V.h.c, .string V.h.s, .slice Av V.args.length cv, .int .i64 2, .int .i64 0, .int .i64 0, .int .i64 0, .string ⟨#[98]⟩, .slice none 0 0] 47)).heap.size := by simp
        obtain ⟨gr, hgr⟩ : ∃ g, u2.heap.size = g := ⟨_, rfl⟩
        have hgw : w.heap.size ≤ gr := by have := hB2.out.size; omega
        obtain ⟨u3, hu3⟩ : ∃ W, u2.alloc (.cells #[.int .i64 V.h.k, .int .i64 V.h.f, .int .i64 V.h.l, .int .i64 V.h.c, .string V.h.s, .slice Av V.args.length cv, .int .i64 2, .int .i64 0, .int .i64 0, .int .i64 0, .string ⟨#[98]⟩, .slice none 0 0] 47) = W := ⟨_, rfl⟩
        rw [hu3] at hba
        rw [hgr, hu3] at hh
        rw [hgr, hu3] at hz
        have hS3 : u3.heap[gt]? = some (.cells (tabS op21) 9 (0, 0)) := (hba.block gt (lt_of_get hS2.out)).trans hS2.out
        have hB3 := below_call hba hB2.out
        have hP3 := hP2.out.over hba
        have hV3 := hV2.out.upJ hba
        have hX3 := hAT.out _ _ _ _ hh hz hV3
        clear hV3
        clear hz hh hgw
        go_simp
        refine hK.out _ _ ⟨fun _ => hS3, ?_⟩
        clear hK K hba hS2 hB2 hV2 hP2
        replace hS3 := Lib.hid hS3
        replace hB3 := Lib.hid hB3
        replace hX3 := Lib.hid hX3
        replace hP3 := Lib.hid hP3
        try simp only [Act.put, List.getElem_toArray, List.getElem_cons_zero, List.getElem_cons_succ, List.setIfInBounds_toArray, List.set_cons_zero, List.set_cons_succ]
        refine anyT_take (i := 11) (v := .agg #[.int .i64 4, .int .i64 0, .int .i64 0, .int .i64 0, .string S, .slice (some ⟨gr, 0, none⟩) 2 2]) rfl (by kernel_rfl) (by kernel_rfl) (fun _ _ _ h => h) (Or.inl ⟨by rfl, ?_⟩) hS3.out ?_
        · intro w' hw'
          clear hw'
          go_simp
          try with_reducible rfl
        try simp only [Act.put, List.getElem_toArray, List.getElem_cons_zero, List.getElem_cons_succ, List.setIfInBounds_toArray, List.set_cons_zero, List.set_cons_succ]
        obtain ⟨zf, zl, z0, z1, z2, z3, z4, z5⟩ := hP3.out.all
        have hbs : Below w.heap.size w (set6 u3 g0 (.int .i64 4) (.int .i64 0) (.int .i64 0) (.int .i64 0) (.string S) (.slice (some ⟨gr, 0, none⟩) 2 2)) := hB3.out.trans ((set6_keep u3 g0 _ _ _ _ _ _).below hB3.out.size fun b hb => by have := hg0w.out; omega)
        have hMs : BX (set6 u3 g0 (.int .i64 4) (.int .i64 0) (.int .i64 0) (.int .i64 0) (.string S) (.slice (some ⟨gr, 0, none⟩) 2 2)) g0 47 ⟨4, 0, 0, 0, S⟩ (some ⟨gr, 0, none⟩) 2 2 := heap_set _ g0 5 _ _ _ (heap_set _ g0 4 _ _ _ (heap_set _ g0 3 _ _ _ (heap_set _ g0 2 _ _ _ (heap_set _ g0 1 _ _ _ (heap_set _ g0 0 _ _ _ hP3.out)))))
        have hXs : XAr (set6 u3 g0 (.int .i64 4) (.int .i64 0) (.int .i64 0) (.int .i64 0) (.string S) (.slice (some ⟨gr, 0, none⟩) 2 2)) ((set6 u3 g0 (.int .i64 4) (.int .i64 0) (.int .i64 0) (.int .i64 0) (.string S) (.slice (some ⟨gr, 0, none⟩) 2 2))).heap.size (ART S ka) (some ⟨gr, 0, none⟩) := XQ.ar (F := fun b => b < u3.heap.size ∧ b ≠ g0) (fun b hb => by rw [set6_size]; exact hb.1) ((XAr.nz hP3.out hKN.out hX3.out).over (fun b hb => set6_far _ _ _ _ _ _ _ _ b hb.2) fun b hb => hb)
        replace hbs := Lib.hid hbs
        replace hMs := Lib.hid hMs
        replace hXs := Lib.hid hXs
        refine anyT_one (i := 13) (by kernel_rfl) ?_
        refine wpOp_step rfl (fun K hK => ?_)
        replace hK := Lib.hid hK
        go_simp
        refine hK.out _ _ ⟨fun h => absurd h (by decide), ?_⟩
        clear hK K z0 z1 z2 z3 z4 z5 zf zl
        try simp only [Act.put, List.getElem_toArray, List.getElem_cons_zero, List.getElem_cons_succ, List.setIfInBounds_toArray, List.set_cons_zero, List.set_cons_succ]
        refine anyT_done (by kernel_rfl) ?_ _
        go_wp2_with fail
        go_meet
        case rel => exact ⟨g0, _, _, rfl, hMs.out, hXs.out, hbs.out⟩
    ·
      refine wpOp_step rfl (fun K hK => ?_)
      replace hK := Lib.hid hK
      have hba := (Below.refl u0.heap.size u0).alloc (Nat.le_refl _) (.cells #[.int .i64 0, .int .i64 0, .int .i64 0, .int .i64 0, .string ⟨#[]⟩, .slice none 0 0] 47)
      have hh := heap_alloc_new u0 (.cells #[.int .i64 0, .int .i64 0, .int .i64 0, .int .i64 0, .string ⟨#[]⟩, .slice none 0 0] 47)
      have hz : u0.heap.size < (u0.alloc (.cells #[.int .i64 0, .int .i64 0, .int .i64 0, .int .i64 0, .string ⟨#[]⟩, .slice none 0 0] 47)).heap.size := by simp
      obtain ⟨g0, hg0⟩ : ∃ g, u0.heap.size = g := ⟨_, rfl⟩
      have hgw : w.heap.size ≤ g0 := by have := hB0.out.size; omega
      obtain ⟨u1, hu1⟩ : ∃ W, u0.alloc (.cells #[.int .i64 0, .int .i64 0, .int .i64 0, .int .i64 0, .string ⟨#[]⟩, .slice none 0 0] 47) = W := ⟨_, rfl⟩
      rw [hu1] at hba
      rw [hg0, hu1] at hh
      rw [hg0, hu1] at hz
      have hS1 : u1.heap[gt]? = some (.cells (tabS op21) 9 (0, 0)) := (hba.block gt (lt_of_get hS0.out)).trans hS0.out
      have hB1 := below_call hba hB0.out
      have hL1 := hL0.out.on hba
      have hP1 : AZ u1 g0 := hh
      have hg0w := Lib.hid hgw
      clear hz hh hgw
      go_simp
      refine hK.out _ _ ⟨fun _ => hS1, ?_⟩
      clear hK K hba hS0 hB0 hL0
      replace hS1 := Lib.hid hS1
      replace hB1 := Lib.hid hB1
      replace hL1 := Lib.hid hL1
      replace hP1 := Lib.hid hP1
      try simp only [Act.put, List.getElem_toArray, List.getElem_cons_zero, List.getElem_cons_succ, List.setIfInBounds_toArray, List.set_cons_zero, List.set_cons_succ]
      refine anyT_one (i := 8) (by kernel_rfl) ?_
      refine wpOp_step rfl (fun K hK => ?_)
      replace hK := Lib.hid hK
      go_simp
      (with_reducible refine (hVl.out _ hL1.out).mono ?_)
      rintro e u2 ⟨Av, cv, rfl, hV2, hb⟩
      have hS2 : u2.heap[gt]? = some (.cells (tabS op21) 9 (0, 0)) := (hb.block gt (lt_of_get hS1.out)).trans hS1.out
      have hB2 := below_call hb hB1.out
      have hP2 := hP1.out.over hb
      refine hK.out _ _ ⟨fun _ => hS2, ?_⟩
      clear hK K hb hS1 hB1 hL1 hP1
      replace hS2 := Lib.hid hS2
      replace hB2 := Lib.hid hB2
      replace hV2 := Lib.hid hV2
      replace hP2 := Lib.hid hP2
      try simp only [Act.put, List.getElem_toArray, List.getElem_cons_zero, List.getElem_cons_succ, List.setIfInBounds_toArray, List.set_cons_zero, List.set_cons_succ]
      refine anyT_one (i := 10) (by kernel_rfl) ?_
      refine wpOp_step rfl (fun K hK => ?_)
      replace hK := Lib.hid hK
      have hba := (Below.refl u2.heap.size u2).alloc (Nat.le_refl _) (.cells #[.int .i64 V.h.k, .int .i64 V.h.f, .int .i64 V.h.l, .int .i64 V.h.c, .string V.h.s, .slice Av V.args.length cv, .int .i64 2, .int .i64 0, .int .i64 0, .int .i64 0, .string ⟨#[98]⟩, .slice none 0 0] 47)
      have hh := heap_alloc_new u2 (.cells #[.int .i64 V.h.k, .int .i64 V.h.f, .int .i64 V.h.l, .int .i64 V.h.c, .string V.h.s, .slice Av V.args.length cv, .int .i64 2, .int .i64 0, .int .i64 0, .int .i64 0, .string ⟨#[98]⟩, .slice none 0 0] 47)
      have hz : u2.heap.size < (u2.alloc (.cells #[.int .i64 V.h.k, .int .i64 V.h.f, .int .i64 V.h.l, .int .i64 V.h.c, .string V.h.s, .slice Av V.args.length cv, .int .i64 2, .int .i64 0, .int .i64 0, .int .i64 0, .string ⟨#[98]⟩, .slice none 0 0] 47)).heap.size := by simp
      obtain ⟨gr, hgr⟩ : ∃ g, u2.heap.size = g := ⟨_, rfl⟩
      have hgw : w.heap.size ≤ gr := by have := hB2.out.size; omega
      obtain ⟨u3, hu3⟩ : ∃ W, u2.alloc (.cells #[.int .i64 V.h.k, .int .i64 V.h.f, .int .i64 V.h.l, .int .i64 V.h.c, .string V.h.s, .slice Av V.args.length cv, .int .i64 2, .int .i64 0, .int .i64 0, .int .i64 0, .string ⟨#[98]⟩, .slice none 0 0] 47) = W := ⟨_, rfl⟩
      rw [hu3] at hba
      rw [hgr, hu3] at hh
      rw [hgr, hu3] at hz
      have hS3 : u3.heap[gt]? = some (.cells (tabS op21) 9 (0, 0)) := (hba.block gt (lt_of_get hS2.out)).trans hS2.out
      have hB3 := below_call hba hB2.out
      have hP3 := hP2.out.over hba
      have hV3 := hV2.out.upJ hba
      have hX3 := hAT.out _ _ _ _ hh hz hV3
      clear hV3
      clear hz hh hgw
      go_simp
      refine hK.out _ _ ⟨fun _ => hS3, ?_⟩
      clear hK K hba hS2 hB2 hV2 hP2
      replace hS3 := Lib.hid hS3
      replace hB3 := Lib.hid hB3
      replace hX3 := Lib.hid hX3
      replace hP3 := Lib.hid hP3
      try simp only [Act.put, List.getElem_toArray, List.getElem_cons_zero, List.getElem_cons_succ, List.setIfInBounds_toArray, List.set_cons_zero, List.set_cons_succ]
      refine anyT_take (i := 11) (v := .agg #[.int .i64 4, .int .i64 0, .int .i64 0, .int .i64 0, .string S, .slice (some ⟨gr, 0, none⟩) 2 2]) rfl (by kernel_rfl) (by kernel_rfl) (fun _ _ _ h => h) (Or.inl ⟨by rfl, ?_⟩) hS3.out ?_
      · intro w' hw'
        clear hw'
        go_simp
        try with_reducible rfl
      try simp only [Act.put, List.getElem_toArray, List.getElem_cons_zero, List.getElem_cons_succ, List.setIfInBounds_toArray, List.set_cons_zero, List.set_cons_succ]
      obtain ⟨zf, zl, z0, z1, z2, z3, z4, z5⟩ := hP3.out.all
      have hbs : Below w.heap.size w (set6 u3 g0 (.int .i64 4) (.int .i64 0) (.int .i64 0) (.int .i64 0) (.string S) (.slice (some ⟨gr, 0, none⟩) 2 2)) := hB3.out.trans ((set6_keep u3 g0 _ _ _ _ _ _).below hB3.out.size fun b hb => by have := hg0w.out; omega)
      have hMs : BX (set6 u3 g0 (.int .i64 4) (.int .i64 0) (.int .i64 0) (.int .i64 0) (.string S) (.slice (some ⟨gr, 0, none⟩) 2 2)) g0 47 ⟨4, 0, 0, 0, S⟩ (some ⟨gr, 0, none⟩) 2 2 := heap_set _ g0 5 _ _ _ (heap_set _ g0 4 _ _ _ (heap_set _ g0 3 _ _ _ (heap_set _ g0 2 _ _ _ (heap_set _ g0 1 _ _ _ (heap_set _ g0 0 _ _ _ hP3.out)))))
      have hXs : XAr (set6 u3 g0 (.int .i64 4) (.int .i64 0) (.int .i64 0) (.int .i64 0) (.string S) (.slice (some ⟨gr, 0, none⟩) 2 2)) ((set6 u3 g0 (.int .i64 4) (.int .i64 0) (.int .i64 0) (.int .i64 0) (.string S) (.slice (some ⟨gr, 0, none⟩) 2 2))).heap.size (ART S ka) (some ⟨gr, 0, none⟩) := XQ.ar (F := fun b => b < u3.heap.size ∧ b ≠ g0) (fun b hb => by rw [set6_size]; exact hb.1) ((XAr.nz hP3.out hKN.out hX3.out).over (fun b hb => set6_far _ _ _ _ _ _ _ _ b hb.2) fun b hb => hb)
      replace hbs := Lib.hid hbs
      replace hMs := Lib.hid hMs
      replace hXs := Lib.hid hXs
      refine anyT_one (i := 13) (by kernel_rfl) ?_
      refine wpOp_step rfl (fun K hK => ?_)
      replace hK := Lib.hid hK
      go_simp
      refine hK.out _ _ ⟨fun h => absurd h (by decide), ?_⟩
      clear hK K z0 z1 z2 z3 z4 z5 zf zl
      try simp only [Act.put, List.getElem_toArray, List.getElem_cons_zero, List.getElem_cons_succ, List.setIfInBounds_toArray, List.set_cons_zero, List.set_cons_succ]
      refine anyT_done (by kernel_rfl) ?_ _
      go_wp2_with fail
      go_meet
      case rel => exact ⟨g0, _, _, rfl, hMs.out, hXs.out, hbs.out⟩
  case rest =>
    obtain ⟨ge, A, c, rfl, hM, hX, hkw⟩ := hcut
    clear hG hk2 hT2 hTab hAT hVl hT hAw hw1 hw2 hw3 hm hjq
    obtain ⟨e0, e1, e2, e3, e4, e5⟩ := hM.all
    have el := hM.lt
    replace hM := Lib.hid hM
    replace hX := Lib.hid hX
    replace hkw := Lib.hid hkw
    clear e0 e1 e2 e3 e4 e5 el
    go_upto_region 6 with fail
    go_cut [9, 10, 11] from 13 (fun xv pv ev wy => xv = .int .i64 r.n ∧ ev = .int .i64 r.e ∧ (∃ g0, pv = .pointer (some ⟨g0, 0, none⟩) ∧ g0 < wy.heap.size) ∧ Below wc.heap.size wc wy)
    case first =>
      obtain ⟨u0, hu0⟩ : ∃ W, wc.drew = W := ⟨_, rfl⟩
      have hbd : Below wc.heap.size wc wc.drew := (Below.refl _ _).drew
      have hS0 := hM.out.ov hbd
      have hX0 := hX.out.upJ hbd
      rw [hu0] at hS0 hbd hX0
      have hB0 := hbd
      clear hbd
      have hC0 := hS0
      replace hS0 := Lib.hid hS0
      replace hB0 := Lib.hid hB0
      replace hX0 := Lib.hid hX0
      replace hC0 := Lib.hid hC0
      refine region_anyT (n := 12) (S := (fun w' => BX w' ge 47 ⟨4, 0, 0, 0, S⟩ A 2 c)) (by kernel_rfl) ?_
      rw [hu0]
      refine anyT_take (i := 0) (v := .agg #[.int .i64 4, .int .i64 0, .int .i64 0, .int .i64 0, .string S, .slice A 2 c]) rfl (by kernel_rfl) (by kernel_rfl) (fun _ _ _ h => h) (Or.inl ⟨by rfl, ?_⟩) hC0.out ?_
      · intro w' hw'
        obtain ⟨q0, q1, q2, q3, q4, q5⟩ := hw'.all
        dsimp only at q0 q1 q2 q3 q4 q5
        clear hw'
        go_simp
        try with_reducible rfl
      try simp only [Act.put, List.getElem_toArray, List.getElem_cons_zero, List.setIfInBounds_toArray, List.set_cons_zero, List.set_cons_succ]
      refine anyT_take (i := 1) (v := .agg #[.map none]) rfl (by kernel_rfl) (by kernel_rfl) (fun _ _ _ h => h) (Or.inl ⟨by rfl, ?_⟩) hC0.out ?_
      · intro w' hw'
        obtain ⟨q0, q1, q2, q3, q4, q5⟩ := hw'.all
        dsimp only at q0 q1 q2 q3 q4 q5
        clear hw'
        go_simp
        try with_reducible rfl
      try simp only [Act.put, List.getElem_toArray, List.getElem_cons_zero, List.getElem_cons_succ, List.setIfInBounds_toArray, List.set_cons_zero, List.set_cons_succ]
      refine anyT_take (i := 2) (v := .int .i64 kb) rfl (by kernel_rfl) (by kernel_rfl) (fun _ _ _ h => h) (Or.inl ⟨by rfl, ?_⟩) hC0.out ?_
      · intro w' hw'
        obtain ⟨q0, q1, q2, q3, q4, q5⟩ := hw'.all
        dsimp only at q0 q1 q2 q3 q4 q5
        clear hw'
        go_simp
        try with_reducible rfl
      try simp only [Act.put, List.getElem_toArray, List.getElem_cons_zero, List.getElem_cons_succ, List.setIfInBounds_toArray, List.set_cons_zero, List.set_cons_succ]
      clear hC0
      refine anyT_pair (i := 3) (j := 9) (by kernel_rfl) ?_ ?_
      ·
        refine wpOp_step rfl (fun K hK => ?_)
        replace hK := Lib.hid hK
        go_simp
        (with_reducible refine (hWi.out _).mono ?_)
        rintro e u1 ⟨mo, nm, rfl, hMq, hnm, hml, hb⟩
        have hS1 := hS0.out.ov hb
        have hB1 := below_call hb hB0.out
        have hX1 := hX0.out.upJ hb
        have hnmq : Hid (nm ≤ 1000 * 1) := Lib.hid (by simpa using hnm)
        have hM1 : MI u1 mo nm (DM (keyL [(⟨#[98]⟩, kb)])) := ⟨hMq⟩
        refine hK.out _ _ ⟨fun _ => hS1, ?_⟩
        clear hK K hb hMq hnm hml hS0 hB0 hX0
        replace hS1 := Lib.hid hS1
        replace hB1 := Lib.hid hB1
        replace hX1 := Lib.hid hX1
        replace hM1 := Lib.hid hM1
        try simp only [Act.put, List.getElem_toArray, List.getElem_cons_zero, List.getElem_cons_succ, List.setIfInBounds_toArray, List.set_cons_zero, List.set_cons_succ]
        refine anyT_pair (i := 4) (j := 9) (by kernel_rfl) ?_ ?_
        ·
          refine wpOp_step rfl (fun K hK => ?_)
          replace hK := Lib.hid hK
          go_simp
          (with_reducible refine (hEl.out _ _ _ _ _ hM1.out.o hnmq.out hX1.out).mono ?_)
          rintro e u2 ⟨rfl, hb⟩
          have hS2 := hS1.out.ov hb
          have hB2 := below_call hb hB1.out
          refine hK.out _ _ ⟨fun _ => hS2, ?_⟩
          clear hK K hb hS1 hB1 hX1 hM1
          replace hS2 := Lib.hid hS2
          replace hB2 := Lib.hid hB2
          try simp only [Act.put, List.getElem_toArray, List.getElem_cons_zero, List.getElem_cons_succ, List.setIfInBounds_toArray, List.set_cons_zero, List.set_cons_succ]
          refine anyT_take (i := 5) (v := .tuple #[.int .i64 r.n, .agg #[.int .i64 r.f, .int .i64 r.l, .int .i64 r.c], .int .i64 r.e]) rfl (by kernel_rfl) (by kernel_rfl) (fun _ _ _ h => h) (Or.inl ⟨by rfl, ?_⟩) hS2.out ?_
          · intro w' hw'
            obtain ⟨q0, q1, q2, q3, q4, q5⟩ := hw'.all
            dsimp only at q0 q1 q2 q3 q4 q5
            clear hw'
            go_simp
            try with_reducible rfl
          try simp only [Act.put, List.getElem_toArray, List.getElem_cons_zero, List.getElem_cons_succ, List.setIfInBounds_toArray, List.set_cons_zero, List.set_cons_succ]
          refine anyT_take (i := 6) (v := .int .i64 r.n) rfl (by kernel_rfl) (by kernel_rfl) (fun _ _ _ h => h) (Or.inl ⟨by rfl, ?_⟩) hS2.out ?_
          · intro w' hw'
            obtain ⟨q0, q1, q2, q3, q4, q5⟩ := hw'.all
            dsimp only at q0 q1 q2 q3 q4 q5
            clear hw'
            go_simp
            try with_reducible rfl
          try simp only [Act.put, List.getElem_toArray, List.getElem_cons_zero, List.getElem_cons_succ, List.setIfInBounds_toArray, List.set_cons_zero, List.set_cons_succ]
          refine anyT_take (i := 7) (v := .agg #[.int .i64 r.f, .int .i64 r.l, .int .i64 r.c]) rfl (by kernel_rfl) (by kernel_rfl) (fun _ _ _ h => h) (Or.inl ⟨by rfl, ?_⟩) hS2.out ?_
          · intro w' hw'
            obtain ⟨q0, q1, q2, q3, q4, q5⟩ := hw'.all
            dsimp only at q0 q1 q2 q3 q4 q5
            clear hw'
            go_simp
            try with_reducible rfl
          try simp only [Act.put, List.getElem_toArray, List.getElem_cons_zero, List.getElem_cons_succ, List.setIfInBounds_toArray, List.set_cons_zero, List.set_cons_succ]
          refine anyT_take (i := 8) (v := .int .i64 r.e) rfl (by kernel_rfl) (by kernel_rfl) (fun _ _ _ h => h) (Or.inl ⟨by rfl, ?_⟩) hS2.out ?_
          · intro w' hw'
            obtain ⟨q0, q1, q2, q3, q4, q5⟩ := hw'.all
            dsimp only at q0 q1 q2 q3 q4 q5
            clear hw'
            go_simp
            try with_reducible rfl
          try simp only [Act.put, List.getElem_toArray, List.getElem_cons_zero, List.getElem_cons_succ, List.setIfInBounds_toArray, List.set_cons_zero, List.set_cons_succ]
          refine anyT_one (i := 9) (by kernel_rfl) ?_
          refine wpOp_step rfl (fun K hK => ?_)
          replace hK := Lib.hid hK
          have hba := (Below.refl u2.heap.size u2).alloc (Nat.le_refl _) (.cells #[.int .i64 0, .int .i64 0, .int .i64 0] 30)
          have hP3 := E3.new u2 30 0 0 0
          obtain ⟨g0, hg0⟩ : ∃ g, u2.heap.size = g := ⟨_, rfl⟩
          rw [hg0] at hP3
          have hg1 : wc.heap.size ≤ g0 := by have := hB2.out.size; omega
          obtain ⟨u3, hu3⟩ : ∃ W, u2.alloc (.cells #[.int .i64 0, .int .i64 0, .int .i64 0] 30) = W := ⟨_, rfl⟩
          rw [hu3] at hba hP3
          have hS3 := hS2.out.ov hba
          have hB3 := below_call hba hB2.out
          go_simp
          refine hK.out _ _ ⟨fun _ => hS3, ?_⟩
          clear hK K hba hS2 hB2
          replace hS3 := Lib.hid hS3
          replace hB3 := Lib.hid hB3
          replace hP3 := Lib.hid hP3
          try simp only [Act.put, List.getElem_toArray, List.getElem_cons_zero, List.getElem_cons_succ, List.setIfInBounds_toArray, List.set_cons_zero, List.set_cons_succ]
          obtain ⟨p0, p1, p2, pf, pl⟩ := hP3.out.all
          refine anyT_one (i := 10) (by kernel_rfl) ?_
          refine wpOp_step rfl (fun K hK => ?_)
          replace hK := Lib.hid hK
          go_simp
          refine hK.out _ _ ⟨fun _ => hS3.out, ?_⟩
          clear hK K
          try simp only [Act.put, List.getElem_toArray, List.getElem_cons_zero, List.getElem_cons_succ, List.setIfInBounds_toArray, List.set_cons_zero, List.set_cons_succ]
          have hbs : Below wc.heap.size wc (((u3.setCell ⟨g0, 0, none⟩ (.int .i64 r.f)).setCell ⟨g0, 1, none⟩ (.int .i64 r.l)).setCell ⟨g0, 2, none⟩ (.int .i64 r.c)) := hB3.out.trans ((Keep.set3 u3 g0 0 1 2 _ _ _).below hB3.out.size fun b hb => by omega)
          have hPs : g0 < ((((u3.setCell ⟨g0, 0, none⟩ (.int .i64 r.f)).setCell ⟨g0, 1, none⟩ (.int .i64 r.l)).setCell ⟨g0, 2, none⟩ (.int .i64 r.c))).heap.size := by simp only [World.size_setCell]; exact pl
          have hSs : BX (((u3.setCell ⟨g0, 0, none⟩ (.int .i64 r.f)).setCell ⟨g0, 1, none⟩ (.int .i64 r.l)).setCell ⟨g0, 2, none⟩ (.int .i64 r.c)) ge 47 ⟨4, 0, 0, 0, S⟩ A 2 c := hM.out.ov hbs
          clear hS3 hB3 hP3
          replace hbs := Lib.hid hbs
          replace hPs := Lib.hid hPs
          replace hSs := Lib.hid hSs
          refine anyT_one (i := 11) (by kernel_rfl) ?_
          refine wpOp_step rfl (fun K hK => ?_)
          replace hK := Lib.hid hK
          go_simp
          refine hK.out _ _ ⟨fun _ => hSs.out, ?_⟩
          clear hK K hSs p0 p1 p2 pf pl
          try simp only [Act.put, List.getElem_toArray, List.getElem_cons_zero, List.getElem_cons_succ, List.setIfInBounds_toArray, List.set_cons_zero, List.set_cons_succ]
          refine anyT_one (i := 12) (by kernel_rfl) ?_
          refine wpOp_step rfl (fun K hK => ?_)
          replace hK := Lib.hid hK
          go_simp
          refine hK.out _ _ ⟨fun h => absurd h (by decide), ?_⟩
          clear hK K
          try simp only [Act.put, List.getElem_toArray, List.getElem_cons_zero, List.getElem_cons_succ, List.setIfInBounds_toArray, List.set_cons_zero, List.set_cons_succ]
          refine anyT_done (by kernel_rfl) ?_ _
          go_wp2_with fail
          go_meet
          case rel => exact ⟨rfl, rfl, ⟨g0, rfl, hPs.out⟩, hbs.out⟩
        ·
          refine wpOp_step rfl (fun K hK => ?_)
          replace hK := Lib.hid hK
          have hba := (Below.refl u1.heap.size u1).alloc (Nat.le_refl _) (.cells #[.int .i64 0, .int .i64 0, .int .i64 0] 30)
          have hP2 := E3.new u1 30 0 0 0
          obtain ⟨g0, hg0⟩ : ∃ g, u1.heap.size = g := ⟨_, rfl⟩
          rw [hg0] at hP2
          have hg1 : wc.heap.size ≤ g0 := by have := hB1.out.size; omega
          obtain ⟨u2, hu2⟩ : ∃ W, u1.alloc (.cells #[.int .i64 0, .int .i64 0, .int .i64 0] 30) = W := ⟨_, rfl⟩
          rw [hu2] at hba hP2
          have hS2 := hS1.out.ov hba
          have hB2 := below_call hba hB1.out
          have hX2 := hX1.out.upJ hba
          have hM2 := hM1.out.over hba
          go_simp
          refine hK.out _ _ ⟨fun _ => hS2, ?_⟩
          clear hK K hba hS1 hB1 hX1 hM1
          replace hS2 := Lib.hid hS2
          replace hB2 := Lib.hid hB2
          replace hX2 := Lib.hid hX2
          replace hP2 := Lib.hid hP2
          replace hM2 := Lib.hid hM2
          try simp only [Act.put, List.getElem_toArray, List.getElem_cons_zero, List.getElem_cons_succ, List.setIfInBounds_toArray, List.set_cons_zero, List.set_cons_succ]
          refine anyT_one (i := 4) (by kernel_rfl) ?_
          refine wpOp_step rfl (fun K hK => ?_)
          replace hK := Lib.hid hK
          go_simp
          (with_reducible refine (hEl.out _ _ _ _ _ hM2.out.o hnmq.out hX2.out).mono ?_)
          rintro e u3 ⟨rfl, hb⟩
          have hS3 := hS2.out.ov hb
          have hB3 := below_call hb hB2.out
          have hP3 := hP2.out.over hb
          refine hK.out _ _ ⟨fun _ => hS3, ?_⟩
          clear hK K hb hS2 hB2 hX2 hP2 hM2
          replace hS3 := Lib.hid hS3
          replace hB3 := Lib.hid hB3
          replace hP3 := Lib.hid hP3
          try simp only [Act.put, List.getElem_toArray, List.getElem_cons_zero, List.getElem_cons_succ, List.setIfInBounds_toArray, List.set_cons_zero, List.set_cons_succ]
          refine anyT_take (i := 5) (v := .tuple #[.int .i64 r.n, .agg #[.int .i64 r.f, .int .i64 r.l, .int .i64 r.c], .int .i64 r.e]) rfl (by kernel_rfl) (by kernel_rfl) (fun _ _ _ h => h) (Or.inl ⟨by rfl, ?_⟩) hS3.out ?_
          · intro w' hw'
            obtain ⟨q0, q1, q2, q3, q4, q5⟩ := hw'.all
            dsimp only at q0 q1 q2 q3 q4 q5
            clear hw'
            go_simp
            try with_reducible rfl
          try simp only [Act.put, List.getElem_toArray, List.getElem_cons_zero, List.getElem_cons_succ, List.setIfInBounds_toArray, List.set_cons_zero, List.set_cons_succ]
          refine anyT_take (i := 6) (v := .int .i64 r.n) rfl (by kernel_rfl) (by kernel_rfl) (fun _ _ _ h => h) (Or.inl ⟨by rfl, ?_⟩) hS3.out ?_
          · intro w' hw'
            obtain ⟨q0, q1, q2, q3, q4, q5⟩ := hw'.all
            dsimp only at q0 q1 q2 q3 q4 q5
            clear hw'
            go_simp
            try with_reducible rfl
          try simp only [Act.put, List.getElem_toArray, List.getElem_cons_zero, List.getElem_cons_succ, List.setIfInBounds_toArray, List.set_cons_zero, List.set_cons_succ]
          refine anyT_take (i := 7) (v := .agg #[.int .i64 r.f, .int .i64 r.l, .int .i64 r.c]) rfl (by kernel_rfl) (by kernel_rfl) (fun _ _ _ h => h) (Or.inl ⟨by rfl, ?_⟩) hS3.out ?_
          · intro w' hw'
            obtain ⟨q0, q1, q2, q3, q4, q5⟩ := hw'.all
            dsimp only at q0 q1 q2 q3 q4 q5
            clear hw'
            go_simp
            try with_reducible rfl
          try simp only [Act.put, List.getElem_toArray, List.getElem_cons_zero, List.getElem_cons_succ, List.setIfInBounds_toArray, List.set_cons_zero, List.set_cons_succ]
          refine anyT_take (i := 8) (v := .int .i64 r.e) rfl (by kernel_rfl) (by kernel_rfl) (fun _ _ _ h => h) (Or.inl ⟨by rfl, ?_⟩) hS3.out ?_
          · intro w' hw'
            obtain ⟨q0, q1, q2, q3, q4, q5⟩ := hw'.all
            dsimp only at q0 q1 q2 q3 q4 q5
            clear hw'
            go_simp
            try with_reducible rfl
          try simp only [Act.put, List.getElem_toArray, List.getElem_cons_zero, List.getElem_cons_succ, List.setIfInBounds_toArray, List.set_cons_zero, List.set_cons_succ]
          obtain ⟨p0, p1, p2, pf, pl⟩ := hP3.out.all
          refine anyT_one (i := 10) (by kernel_rfl) ?_
          refine wpOp_step rfl (fun K hK => ?_)
          replace hK := Lib.hid hK
          go_simp
          refine hK.out _ _ ⟨fun _ => hS3.out, ?_⟩
          clear hK K
          try simp only [Act.put, List.getElem_toArray, List.getElem_cons_zero, List.getElem_cons_succ, List.setIfInBounds_toArray, List.set_cons_zero, List.set_cons_succ]
          have hbs : Below wc.heap.size wc (((u3.setCell ⟨g0, 0, none⟩ (.int .i64 r.f)).setCell ⟨g0, 1, none⟩ (.int .i64 r.l)).setCell ⟨g0, 2, none⟩ (.int .i64 r.c)) := hB3.out.trans ((Keep.set3 u3 g0 0 1 2 _ _ _).below hB3.out.size fun b hb => by omega)
          have hPs : g0 < ((((u3.setCell ⟨g0, 0, none⟩ (.int .i64 r.f)).setCell ⟨g0, 1, none⟩ (.int .i64 r.l)).setCell ⟨g0, 2, none⟩ (.int .i64 r.c))).heap.size := by simp only [World.size_setCell]; exact pl
          have hSs : BX (((u3.setCell ⟨g0, 0, none⟩ (.int .i64 r.f)).setCell ⟨g0, 1, none⟩ (.int .i64 r.l)).setCell ⟨g0, 2, none⟩ (.int .i64 r.c)) ge 47 ⟨4, 0, 0, 0, S⟩ A 2 c := hM.out.ov hbs
          clear hS3 hB3 hP3
          replace hbs := Lib.hid hbs
          replace hPs := Lib.hid hPs
          replace hSs := Lib.hid hSs
          refine anyT_one (i := 11) (by kernel_rfl) ?_
          refine wpOp_step rfl (fun K hK => ?_)
          replace hK := Lib.hid hK
          go_simp
          refine hK.out _ _ ⟨fun _ => hSs.out, ?_⟩
          clear hK K hSs p0 p1 p2 pf pl
          try simp only [Act.put, List.getElem_toArray, List.getElem_cons_zero, List.getElem_cons_succ, List.setIfInBounds_toArray, List.set_cons_zero, List.set_cons_succ]
          refine anyT_one (i := 12) (by kernel_rfl) ?_
          refine wpOp_step rfl (fun K hK => ?_)
          replace hK := Lib.hid hK
          go_simp
          refine hK.out _ _ ⟨fun h => absurd h (by decide), ?_⟩
          clear hK K
          try simp only [Act.put, List.getElem_toArray, List.getElem_cons_zero, List.getElem_cons_succ, List.setIfInBounds_toArray, List.set_cons_zero, List.set_cons_succ]
          refine anyT_done (by kernel_rfl) ?_ _
          go_wp2_with fail
          go_meet
          case rel => exact ⟨rfl, rfl, ⟨g0, rfl, hPs.out⟩, hbs.out⟩
      ·
        refine wpOp_step rfl (fun K hK => ?_)
        replace hK := Lib.hid hK
        have hba := (Below.refl u0.heap.size u0).alloc (Nat.le_refl _) (.cells #[.int .i64 0, .int .i64 0, .int .i64 0] 30)
        have hP1 := E3.new u0 30 0 0 0
        obtain ⟨g0, hg0⟩ : ∃ g, u0.heap.size = g := ⟨_, rfl⟩
        rw [hg0] at hP1
        have hg1 : wc.heap.size ≤ g0 := by have := hB0.out.size; omega
        obtain ⟨u1, hu1⟩ : ∃ W, u0.alloc (.cells #[.int .i64 0, .int .i64 0, .int .i64 0] 30) = W := ⟨_, rfl⟩
        rw [hu1] at hba hP1
        have hS1 := hS0.out.ov hba
        have hB1 := below_call hba hB0.out
        have hX1 := hX0.out.upJ hba
        go_simp
        refine hK.out _ _ ⟨fun _ => hS1, ?_⟩
        clear hK K hba hS0 hB0 hX0
        replace hS1 := Lib.hid hS1
        replace hB1 := Lib.hid hB1
        replace hX1 := Lib.hid hX1
        replace hP1 := Lib.hid hP1
        try simp only [Act.put, List.getElem_toArray, List.getElem_cons_zero, List.getElem_cons_succ, List.setIfInBounds_toArray, List.set_cons_zero, List.set_cons_succ]
        refine anyT_one (i := 3) (by kernel_rfl) ?_
        refine wpOp_step rfl (fun K hK => ?_)
        replace hK := Lib.hid hK
        go_simp
        (with_reducible refine (hWi.out _).mono ?_)
        rintro e u2 ⟨mo, nm, rfl, hMq, hnm, hml, hb⟩
        have hS2 := hS1.out.ov hb
        have hB2 := below_call hb hB1.out
        have hX2 := hX1.out.upJ hb
        have hP2 := hP1.out.over hb
        have hnmq : Hid (nm ≤ 1000 * 1) := Lib.hid (by simpa using hnm)
        have hM2 : MI u2 mo nm (DM (keyL [(⟨#[98]⟩, kb)])) := ⟨hMq⟩
        refine hK.out _ _ ⟨fun _ => hS2, ?_⟩
        clear hK K hb hMq hnm hml hS1 hB1 hX1 hP1
        replace hS2 := Lib.hid hS2
        replace hB2 := Lib.hid hB2
        replace hX2 := Lib.hid hX2
        replace hP2 := Lib.hid hP2
        replace hM2 := Lib.hid hM2
        try simp only [Act.put, List.getElem_toArray, List.getElem_cons_zero, List.getElem_cons_succ, List.setIfInBounds_toArray, List.set_cons_zero, List.set_cons_succ]
        refine anyT_one (i := 4) (by kernel_rfl) ?_
        refine wpOp_step rfl (fun K hK => ?_)
        replace hK := Lib.hid hK
        go_simp
        (with_reducible refine (hEl.out _ _ _ _ _ hM2.out.o hnmq.out hX2.out).mono ?_)
        rintro e u3 ⟨rfl, hb⟩
        have hS3 := hS2.out.ov hb
        have hB3 := below_call hb hB2.out
        have hP3 := hP2.out.over hb
        refine hK.out _ _ ⟨fun _ => hS3, ?_⟩
        clear hK K hb hS2 hB2 hX2 hP2 hM2
        replace hS3 := Lib.hid hS3
        replace hB3 := Lib.hid hB3
        replace hP3 := Lib.hid hP3
        try simp only [Act.put, List.getElem_toArray, List.getElem_cons_zero, List.getElem_cons_succ, List.setIfInBounds_toArray, List.set_cons_zero, List.set_cons_succ]
        refine anyT_take (i := 5) (v := .tuple #[.int .i64 r.n, .agg #[.int .i64 r.f, .int .i64 r.l, .int .i64 r.c], .int .i64 r.e]) rfl (by kernel_rfl) (by kernel_rfl) (fun _ _ _ h => h) (Or.inl ⟨by rfl, ?_⟩) hS3.out ?_
        · intro w' hw'
          obtain ⟨q0, q1, q2, q3, q4, q5⟩ := hw'.all
          dsimp only at q0 q1 q2 q3 q4 q5
          clear hw'
          go_simp
          try with_reducible rfl
        try simp only [Act.put, List.getElem_toArray, List.getElem_cons_zero, List.getElem_cons_succ, List.setIfInBounds_toArray, List.set_cons_zero, List.set_cons_succ]
        refine anyT_take (i := 6) (v := .int .i64 r.n) rfl (by kernel_rfl) (by kernel_rfl) (fun _ _ _ h => h) (Or.inl ⟨by rfl, ?_⟩) hS3.out ?_
        · intro w' hw'
          obtain ⟨q0, q1, q2, q3, q4, q5⟩ := hw'.all
          dsimp only at q0 q1 q2 q3 q4 q5
          clear hw'
          go_simp
          try with_reducible rfl
        try simp only [Act.put, List.getElem_toArray, List.getElem_cons_zero, List.getElem_cons_succ, List.setIfInBounds_toArray, List.set_cons_zero, List.set_cons_succ]
        refine anyT_take (i := 7) (v := .agg #[.int .i64 r.f, .int .i64 r.l, .int .i64 r.c]) rfl (by kernel_rfl) (by kernel_rfl) (fun _ _ _ h => h) (Or.inl ⟨by rfl, ?_⟩) hS3.out ?_
        · intro w' hw'
          obtain ⟨q0, q1, q2, q3, q4, q5⟩ := hw'.all
          dsimp only at q0 q1 q2 q3 q4 q5
          clear hw'
          go_simp
          try with_reducible rfl
        try simp only [Act.put, List.getElem_toArray, List.getElem_cons_zero, List.getElem_cons_succ, List.setIfInBounds_toArray, List.set_cons_zero, List.set_cons_succ]
        refine anyT_take (i := 8) (v := .int .i64 r.e) rfl (by kernel_rfl) (by kernel_rfl) (fun _ _ _ h => h) (Or.inl ⟨by rfl, ?_⟩) hS3.out ?_
        · intro w' hw'
          obtain ⟨q0, q1, q2, q3, q4, q5⟩ := hw'.all
          dsimp only at q0 q1 q2 q3 q4 q5
          clear hw'
          go_simp
          try with_reducible rfl
        try simp only [Act.put, List.getElem_toArray, List.getElem_cons_zero, List.getElem_cons_succ, List.setIfInBounds_toArray, List.set_cons_zero, List.set_cons_succ]
        obtain ⟨p0, p1, p2, pf, pl⟩ := hP3.out.all
        refine anyT_one (i := 10) (by kernel_rfl) ?_
        refine wpOp_step rfl (fun K hK => ?_)
        replace hK := Lib.hid hK
        go_simp
        refine hK.out _ _ ⟨fun _ => hS3.out, ?_⟩
        clear hK K
        try simp only [Act.put, List.getElem_toArray, List.getElem_cons_zero, List.getElem_cons_succ, List.setIfInBounds_toArray, List.set_cons_zero, List.set_cons_succ]
        have hbs : Below wc.heap.size wc (((u3.setCell ⟨g0, 0, none⟩ (.int .i64 r.f)).setCell ⟨g0, 1, none⟩ (.int .i64 r.l)).setCell ⟨g0, 2, none⟩ (.int .i64 r.c)) := hB3.out.trans ((Keep.set3 u3 g0 0 1 2 _ _ _).below hB3.out.size fun b hb => by omega)
        have hPs : g0 < ((((u3.setCell ⟨g0, 0, none⟩ (.int .i64 r.f)).setCell ⟨g0, 1, none⟩ (.int .i64 r.l)).setCell ⟨g0, 2, none⟩ (.int .i64 r.c))).heap.size := by simp only [World.size_setCell]; exact pl
        have hSs : BX (((u3.setCell ⟨g0, 0, none⟩ (.int .i64 r.f)).setCell ⟨g0, 1, none⟩ (.int .i64 r.l)).setCell ⟨g0, 2, none⟩ (.int .i64 r.c)) ge 47 ⟨4, 0, 0, 0, S⟩ A 2 c := hM.out.ov hbs
        clear hS3 hB3 hP3
        replace hbs := Lib.hid hbs
        replace hPs := Lib.hid hPs
        replace hSs := Lib.hid hSs
        refine anyT_one (i := 11) (by kernel_rfl) ?_
        refine wpOp_step rfl (fun K hK => ?_)
        replace hK := Lib.hid hK
        go_simp
        refine hK.out _ _ ⟨fun _ => hSs.out, ?_⟩
        clear hK K hSs p0 p1 p2 pf pl
        try simp only [Act.put, List.getElem_toArray, List.getElem_cons_zero, List.getElem_cons_succ, List.setIfInBounds_toArray, List.set_cons_zero, List.set_cons_succ]
        refine anyT_one (i := 12) (by kernel_rfl) ?_
        refine wpOp_step rfl (fun K hK => ?_)
        replace hK := Lib.hid hK
        go_simp
        refine hK.out _ _ ⟨fun h => absurd h (by decide), ?_⟩
        clear hK K
        try simp only [Act.put, List.getElem_toArray, List.getElem_cons_zero, List.getElem_cons_succ, List.setIfInBounds_toArray, List.set_cons_zero, List.set_cons_succ]
        refine anyT_done (by kernel_rfl) ?_ _
        go_wp2_with fail
        go_meet
        case rel => exact ⟨rfl, rfl, ⟨g0, rfl, hPs.out⟩, hbs.out⟩
    case rest =>
      obtain ⟨rfl, rfl, ⟨gP, rfl, hPl⟩, hby⟩ := hcut
      have hM2 := hM.out.ov hby
      have hX2 := hX.out.upJ hby
      have hk3 := below_call hby hkw.out
      obtain ⟨e0, e1, e2, e3, e4, e5⟩ := hM2.all
      have el := hM2.lt
      have hXq := XAr.q hX2
      dsimp only at e0 e1 e2 e3 e4 e5
      clear hM hX hkw hby hM2 hX2 hEl hWi
      replace hk3 := Lib.hid hk3
      replace hXq := Lib.hid hXq
      go_wp2_with fail
      (with_reducible refine (hTl.out _ _ _ hXq.out).mono ?_)
      rintro e y1 ⟨A2, c2, rfl, hX3, hb4⟩
      have hk4 := below_call hb4 hk3.out
      have hbn := (Below.refl y1.heap.size y1).alloc (Nat.le_refl _) (.cells #[.string ⟨#[98]⟩, .int .i64 kb] 58)
      have hN : NL (y1.alloc (.cells #[.string ⟨#[98]⟩, .int .i64 kb] 58)) (some ⟨y1.heap.size, 0, none⟩) [(⟨#[98]⟩, kb)] := fun _ => ⟨y1.heap.size, 0, rfl, by simp, fun i hi => by
        have : i = 0 := by simp at hi; omega
        subst this
        have hh := heap_alloc_new y1 (.cells #[.string ⟨#[98]⟩, .int .i64 kb] 58)
        exact ⟨by rw [Lib.cell_of_heap hh]; rfl, by rw [Lib.cell_of_heap hh]; rfl⟩⟩
      have hNO : NOk (y1.alloc (.cells #[.string ⟨#[98]⟩, .int .i64 kb] 58)) (some ⟨y1.heap.size, 0, none⟩) [(⟨#[98]⟩, kb)] := ⟨hN, by simp, fun i hi => by
        have : i = 0 := by simp at hi; omega
        subst this
        show (⟨#[98]⟩ : ByteArray).size ≤ maxLen
        decide, fun i hi => by
        have : i = 0 := by simp at hi; omega
        subst this; exact hcb.out⟩
      have hX4 : XAr (y1.alloc (.cells #[.string ⟨#[98]⟩, .int .i64 kb] 58)) (y1.alloc (.cells #[.string ⟨#[98]⟩, .int .i64 kb] 58)).heap.size (ART S ka) A2 := (XQ.ar (F := fun b => b < y1.heap.size) (fun b hb => hb) (hX3.over (fun _ _ => rfl) fun b hb => hb.2)).upJ hbn
      have hk5 := below_call hbn hk4
      clear hN hX3 hb4 hk4 hbn hXq hk3 e0 e1 e2 e3 e4 e5 el
      replace hNO := Lib.hid hNO
      replace hX4 := Lib.hid hX4
      replace hk5 := Lib.hid hk5
      go_wp2_with fail
      (with_reducible refine (hRl.out _ _ _ _ _ hNO.out hX4.out).mono ?_)
      rintro e y2 ⟨rfl, hb6⟩
      have hk6 := Lib.hid (below_call hb6 hk5.out)
      clear hb6 hk5 hNO hX4
      have hee := her.out
      rcases hee with hee | hee
      · have h1 : ((r.e : Int) == 0) = true := by simp [hee]
        go_wp2_with fail
        go_ret
        exact ⟨rfl, by have hq := hk6.out; have hz := hq.size; go_grown⟩
      · have h1 : ((r.e : Int) == 0) = false := by simp [hee]
        have h2 : ((r.e : Int) == 3) = true := by simp [hee]
        go_wp2_with fail
        go_ret
        exact ⟨rfl, by have hq := hk6.out; have hz := hq.size; go_grown⟩
end Go.Proofs.YtcifljbcoioogaaGreatDoor
