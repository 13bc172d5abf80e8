/-
  The walk of KonstValues.
-/
import Derived.Test.YtelbpmemkockeaaGreatDoorXs
import Derived.Deep.Cut
namespace Go.Proofs.YtelbpmemkockeaaGreatDoor
open Go.RowKit Go.Lib Go.Maps
/-- A variable holds an Env, and a map beside it reads as the same names. -/
def ST (w : World) (V : Nat) (mo : Option Nat) (ks : List (List UInt8 × Int)) (M nM : Nat) : Prop := E1 w V 39 (.map mo) ∧ EnvIs w (.map mo) ks ∧ MapIs w M nM (DM ks)
theorem ST.over {w w' : World} {V : Nat} {mo : Option Nat} {ks : List (List UInt8 × Int)} {M nM : Nat} (h : ST w V mo ks M nM) (k : Below w.heap.size w w') : ST w' V mo ks M nM :=
  ⟨h.1.over k, h.2.1.over (Keep.of_below (F := fun _ => False) k) fun _ _ hf => hf, h.2.2.keep (Keep.of_below (F := fun _ => False) k) fun hf => hf⟩
theorem ST.env {w : World} {V : Nat} {mo : Option Nat} {ks : List (List UInt8 × Int)} {M nM : Nat} (h : ST w V mo ks M nM) : EnvIs w (.map mo) ks := h.2.1
theorem ST.mp {w : World} {V : Nat} {mo : Option Nat} {ks : List (List UInt8 × Int)} {M nM : Nat} (h : ST w V mo ks M nM) : MapIs w M nM (DM ks) := h.2.2
theorem E1.keep {w w' : World} {g : Nat} {T : TypeId} {v : Value} {F : Nat → Prop} (h : E1 w g T v) (k : Keep F w w') (hg : ¬ F g) : E1 w' g T v := (k.block g (lt_of_get h) hg).trans h
theorem NL.keep {w w' : World} {A : Option Addr} {l : List NE} {B : Nat} (h : NL w A l) (hB : ∀ b off, A = some ⟨b, off, none⟩ → b < B) (k : Below B w w') : NL w' A l := fun h0 => by
  obtain ⟨b, off, e, hb, hc⟩ := h h0
  have hb2 := hB b off e
  exact ⟨b, off, e, Nat.lt_of_lt_of_le hb k.size, fun j hj => ⟨(k.cell (p := ⟨b, off + j * 2, none⟩) hb2).trans (hc j hj).1, (k.cell (p := ⟨b, off + j * 2 + 1, none⟩) hb2).trans (hc j hj).2⟩⟩
theorem E1.keep0 {w w' : World} {g p : Nat} {T : TypeId} {v : Value} (h : E1 w g T v) (k : Keep (· = p) w w') (hg : g ≠ p) : w'.cell? ⟨g, 0, none⟩ = some v := (E1.keep h k hg).all.1
theorem Keep.of_grown {w w' : World} {d : Nat} (h : w.grownBy w' (some d)) : Keep (· = d) w w' := ⟨h.os, h.tape, h.output, h.size, fun k hk hn => h.block k hk fun e => hn (Option.some.inj e)⟩
theorem keyL_take (L : List NE) (j : Nat) (hj : j < L.length) : keyL (L.take (j + 1)) = keyL (L.take j) ++ [(L[j].1.data.toList, L[j].2)] := by
  unfold keyL
  rw [List.take_succ_eq_append_getElem hj, List.map_append]; rfl
theorem DM_more (ks : List (List UInt8 × Int)) (x : List UInt8 × Int) : Maps.size (DM (ks ++ [x])) = if (envL ks x.1).isSome then Maps.size (DM ks) else Maps.size (DM ks) + 1 := by
  rw [DM_snoc]
  unfold putL
  rw [size_put (show Maps.Tidy (DM ks) from (fold_size ks (.map []) tidy_empty).1), ← ((DM_ag ks).2 x.1).1]
theorem envT_in (l : List NE) : ∀ x ∈ envT l, InR x.2 := by
  intro x hx
  unfold envT at hx
  obtain ⟨y, _, rfl⟩ := List.mem_map.1 hx
  exact clamp_in y.2
theorem envT_sz (l : List NE) (h : ∀ x ∈ l, x.1.size ≤ maxLen) : ∀ x ∈ envT l, x.1.size ≤ maxLen := by
  intro x hx
  unfold envT at hx
  obtain ⟨y, hy, rfl⟩ := List.mem_map.1 hx
  exact h y (List.mem_of_mem_take hy)
theorem envT_len (l : List NE) : (envT l).length ≤ 12 := by unfold envT; rw [List.length_map, List.length_take]; omega
set_option maxRecDepth 100000 in
set_option maxHeartbeats 6400000 in
theorem values_t (n : Int) (A : Option Addr) (c : Nat) (l : List NE) (nm : ByteArray) (w : World) (hT : LT w) (hA : NL w A l) (hN : l.length ≤ 9223372036854775807) (hsz : ∀ x ∈ l, x.1.size ≤ maxLen) (hnm : nm.size ≤ maxLen) :
    Calls Tryz.prog 5 #[.int .i64 n, .slice A l.length c, .string nm] w (RV w (.bool true)) := by
  have hAw := awake_t w hT
  have hEn := fun W (q : NL W A l) => Env_t A c l W q hN hsz
  have hci : InR (clampN n) := clamp_in n
  have hcn : max (-2147483648) (min n 2147483647) = clampN n := rfl
  have hcv : min (max n (-2147483648)) 2147483647 = clampN n := by unfold clampN; omega
  have hLin := envT_in l
  have hLsz := envT_sz l hsz
  have hLln := envT_len l
  obtain ⟨L, hL⟩ : ∃ L, envT l = L := ⟨_, rfl⟩
  obtain ⟨kk, hkk⟩ : ∃ kk, clampN n = kk := ⟨_, rfl⟩
  rw [hL] at hEn hLin hLsz hLln
  rw [hkk] at hci hcn hcv
  obtain ⟨N, hNe⟩ : ∃ N, l.length = N := ⟨_, rfl⟩
  rw [hNe] at hEn ⊢
  have hVl := fun W (q : LT W) => Value_t n kk hcv W q
  have hWx := wx_val kk hci
  have hEv := fun env => ev_val env kk hci
  obtain ⟨tt, htt⟩ : ∃ tt, XVal kk = tt := ⟨_, rfl⟩
  rw [htt] at hVl hWx
  simp only [htt] at hEv
  have hEl := fun (At : Option Addr) (ct : Nat) (mo : Option Nat) (W : World) (q1 : EnvIs W (.map mo) (keyL L)) (q2 : XAr W W.heap.size tt At) => Eval_t tt At ct mo (keyL L) W q1 q2 hWx
  simp only [hEv, okR] at hEl
  unfold KO at hEl
  unfold VX at hVl
  unfold EW at hEn
  unfold RV at hAw
  replace hAw := Lib.hid hAw
  replace hEn := Lib.hid hEn
  replace hVl := Lib.hid hVl
  replace hEl := Lib.hid hEl
  replace hT := Lib.hid hT
  replace hA := Lib.hid hA
  replace hLin := Lib.hid hLin
  replace hLsz := Lib.hid hLsz
  replace hci := Lib.hid hci
  clear hWx hEv htt hkk hL hNe hN hsz
  go_enter Tryz.func5, Tryz.ntmps5
  go_wp2_with fail
  (with_reducible refine hAw.out.mono ?_)
  rintro e w1 ⟨rfl, hb1⟩
  have hA1 := Lib.hid (hA.out.over hb1)
  have hT1 := Lib.hid (hT.out.on hb1)
  replace hb1 := Lib.hid hb1
  go_wp2_with fail
  (with_reducible refine (hEn.out _ hA1.out).mono ?_)
  rintro e w2 ⟨mo, v2, rfl, hM2, ho2, hb2⟩
  obtain ⟨A2, c2, rfl⟩ := own_form ho2
  have hNL2 := (own_NL ho2).1
  have hT2 := hT1.out.on hb2
  have hbw2 := below_call hb2 hb1.out
  have hbe := (Below.refl w2.heap.size w2).alloc (Nat.le_refl _) (.cells #[.map mo] 39)
  have hV3 := heap_alloc_new w2 (.cells #[.map mo] 39)
  obtain ⟨V, hVe⟩ : ∃ V, w2.heap.size = V := ⟨_, rfl⟩
  rw [hVe] at hV3
  obtain ⟨w3, hw3⟩ : ∃ w3, w2.alloc (.cells #[.map mo] 39) = w3 := ⟨_, rfl⟩
  rw [hw3] at hV3 hbe
  have hV3' : E1 w3 V 39 (.map mo) := hV3
  have hM3 := hM2.over (Keep.of_below (F := fun _ => False) hbe) fun _ _ hf => hf
  have hNL3 := hNL2.over hbe
  have hT3 := hT2.on hbe
  have hbw3 := below_call hbe hbw2
  obtain ⟨LL, hLL⟩ : ∃ LL, L.length = LL := ⟨_, rfl⟩
  rw [hLL] at hLln ⊢
  clear hV3 hM2 hNL2 hT2 hbw2 hbe ho2 hb2
  obtain ⟨v0, vf, vl⟩ := hV3'.all
  replace hV3' := Lib.hid hV3'
  replace hM3 := Lib.hid hM3
  replace hNL3 := Lib.hid hNL3
  replace hT3 := Lib.hid hT3
  replace hbw3 := Lib.hid hbw3
  replace hLL := Lib.hid hLL
  go_upto_region 5 with fail
  go_cut [10, 12] from 26 (fun nv ev wz => nv = .int .i64 kk ∧ ev = .int .i64 0 ∧ Below w3.heap.size w3 wz)
  case first =>
    have kk0 : w3.drew.cell? ⟨V, 0, none⟩ = some (.map mo) := v0
    have kka : (w3.alloc (.cells #[.int .i64 0, .int .i64 0, .int .i64 0] 30)).drew.cell? ⟨V, 0, none⟩ = some (.map mo) := (hV3'.out.alloc (.cells #[.int .i64 0, .int .i64 0, .int .i64 0] 30)).all.1
    have hTd := Lib.hid (hT3.out.on ((Below.refl w3.heap.size w3).drew))
    have hTa := Lib.hid (hT3.out.on (((Below.refl w3.heap.size w3).alloc (Nat.le_refl _) (.cells #[.int .i64 0, .int .i64 0, .int .i64 0] 30)).drew))
    go_region_held3 (fun w' => w'.cell? ⟨V, 0, none⟩ = some (.map mo))
      (first | (with_reducible exact kk0) | (with_reducible exact kka) | (with_reducible exact k4) | (with_reducible exact k4a) | (with_reducible exact k5) | (with_reducible exact k5a) | (exact E1.keep0 hV5 (Keep.set3 _ _ _ _ _ _ _ _) (by omega)))
      (first | (go_at_call 15; (first | (with_reducible refine (hVl.out _ hTd.out).mono ?_) | (with_reducible refine (hVl.out _ hTa.out).mono ?_)); rintro e w4 ⟨At, ct, rfl, hx4, hb4⟩; have hq4 : Below w3.heap.size w3 w4 := (by first | exact undrew hb4 | exact undrew_al hb4); have hV4 := hV3'.out.over hq4; have k4 := hV4.all.1; have k4a := (hV4.alloc (.cells #[.int .i64 0, .int .i64 0, .int .i64 0] 30)).all.1; have hM4 := hM3.out.over (Keep.of_below (F := fun _ => False) hq4) (fun _ _ hf => hf); have z4 : w3.heap.size ≤ w4.heap.size := hq4.size; (try have hP4 := (E3.new w3 30 0 0 0).over (undrew hb4))) | (go_at_call 12; (first | (with_reducible refine (hEl.out At ct mo w4 hM4 hx4).mono ?_) | (with_reducible refine (hEl.out At ct mo (w4.alloc (.cells #[.int .i64 0, .int .i64 0, .int .i64 0] 30)) (hM4.alloc _) ((hx4.over ((Below.refl _ w4).alloc (Nat.le_refl _) (.cells #[.int .i64 0, .int .i64 0, .int .i64 0] 30))).mono (by simp))).mono ?_)); rintro e w5 ⟨rfl, hb5⟩; have hq5 : Below w4.heap.size w4 w5 := (by first | exact hb5 | exact below_al hb5); have hV5 := hV4.over hq5; have k5 := hV5.all.1; have k5a := (hV5.alloc (.cells #[.int .i64 0, .int .i64 0, .int .i64 0] 30)).all.1; have z5 : w4.heap.size ≤ w5.heap.size := hq5.size; (try have hP5 := hP4.over hq5); (try have hP5 := (E3.new w4 30 0 0 0).over hb5); (try have hP6 := hP5.all)))
    all_goals (have hbf := below_call hq5 hq4; have z6 : w3.heap.size ≤ w5.heap.size := Nat.le_trans z4 z5; clear hb4 hb5 hq4 hq5 kk0 kka k4 k4a k5 k5a hx4 hV4 hV5 hM4)
    all_goals go_wp2_with fail
    all_goals go_meet
    all_goals exact ⟨rfl, rfl, by go_grown⟩
  case rest =>
    obtain ⟨rfl, rfl, hbc⟩ := hcut
    have hVc := hV3'.out.over hbc
    have hMc := hM3.out.over (Keep.of_below (F := fun _ => False) hbc) fun _ _ hf => hf
    have hNLc := hNL3.out.over hbc
    have hbwc := below_call hbc hbw3.out
    have hml := hMc.lt
    have hvl := hVc.all.2.2
    have hm0 := World.ownsMap_made (H := Unit) wc Tryz.prog 9 (plainElem (H := Unit) Tryz.prog 3)
    have hbe := (Below.refl wc.heap.size wc).alloc (Nat.le_refl _) (.map #[] 0)
    have hNLb : ∀ b off, 0 < L.length → A2 = some ⟨b, off, none⟩ → b < wc.heap.size := fun b off h0 e => by
      obtain ⟨b2, o2, e2, h2, _⟩ := hNLc h0
      rw [e] at e2
      injection e2 with e2
      injection e2 with e2 e3
      omega
    obtain ⟨Mb, hMb⟩ : ∃ Mb, wc.heap.size = Mb := ⟨_, rfl⟩
    rw [hMb] at hm0 hml hvl hNLb
    obtain ⟨w6, hw6⟩ : ∃ w6, wc.alloc (.map #[] 0) = w6 := ⟨_, rfl⟩
    rw [hw6] at hm0 hbe
    have hV6 := hVc.over hbe
    have hM6 := hMc.over (Keep.of_below (F := fun _ => False) hbe) fun _ _ hf => hf
    have hNL6 := hNLc.over hbe
    have hbw6 := below_call hbe hbwc
    have z6 : Mb + 1 ≤ w6.heap.size := by rw [← hw6]; simp [hMb]
    have hmm := @run_makeMap Tryz.prog
    have zw : w.heap.size ≤ Mb := by rw [← hMb]; exact hbwc.size
    obtain ⟨c0, cf, cl⟩ := hVc.all
    clear hbc hVc hMc hNLc hbwc hbe v0 vf vl hA1 hT1 hT3 hNL3 hM3 hV3' hAw hEn hVl hEl hT hA
    replace hm0 := Lib.hid hm0
    replace hV6 := Lib.hid hV6
    replace hM6 := Lib.hid hM6
    replace hNL6 := Lib.hid hNL6
    replace hbw6 := Lib.hid hbw6
    replace hml := Lib.hid hml
    replace hNLb := Lib.hid hNLb
    go_wp2_with fail
    clear c0 cf cl
    go_loopw [54] (fun iv wr => ∃ (j nj : Nat), j ≤ LL ∧ iv = .int .i64 (j : Int) ∧ MapIs wr Mb nj (DM (keyL (L.take j))) ∧ nj ≤ j ∧ Keep (· = Mb) w6 wr) (fun iv _ => LL - (RowKit.intOf iv).toNat)
    case atStart => exact ⟨0, 0, Nat.zero_le _, rfl, hm0.out, Nat.le_refl _, Keep.refl _ _⟩
    case round =>
      obtain ⟨j, nj, hj, rfl, hmr, hnj, hkp⟩ := hrel
      by_cases hlt : j < LL
      · have hjl : j < L.length := by rw [hLL.out]; exact hlt
        have hNLr := hNL6.out.keep (B := Mb) (fun b off e => hNLb.out b off (by omega) e) (hkp.below (by omega) fun b hb => by omega)
        obtain ⟨bA, oA, rfl, hbA, hc⟩ := hNLr (by omega)
        obtain ⟨d0, d1⟩ := hc j hjl
        have hkl := keyL_take L j hjl
        have hks := hLsz.out L[j] (List.getElem_mem hjl)
        have hki := hLin.out L[j] (List.getElem_mem hjl)
        obtain ⟨s, v, hsv⟩ : ∃ s v, L[j] = (s, v) := ⟨_, _, rfl⟩
        rw [hsv] at d0 d1 hkl hks hki
        have hwf : (Lit.int .i64 v).wf = true := by unfold InR at hki; exact WalkArith.wf_i64 (by omega)
        have hw1 : IntKind.i64.wrap ((j : Int) + 1) = (j : Int) + 1 := IntWalk.i64_in _ (by omega)
        have hmx := hmr.alloc (.cells #[.string s, .int .i64 v] 58)
        have hkx := hkp.alloc (.cells #[.string s, .int .i64 v] 58)
        have hRx := heap_alloc_new wr (.cells #[.string s, .int .i64 v] 58)
        obtain ⟨X, hX⟩ : ∃ X, wr.heap.size = X := ⟨_, rfl⟩
        rw [hX] at hRx hbA
        obtain ⟨wx, hwx⟩ : ∃ wx, wr.alloc (.cells #[.string s, .int .i64 v] 58) = wx := ⟨_, rfl⟩
        rw [hwx] at hmx hkx hRx
        have x0 : wx.cell? ⟨X, 0, none⟩ = some (.string s) := by rw [Lib.cell_of_heap hRx]; rfl
        have x1 : wx.cell? ⟨X, 1, none⟩ = some (.int .i64 v) := by rw [Lib.cell_of_heap hRx]; rfl
        have xl := lt_of_get hRx
        clear hki hc hNLr hsv hmr hkp hRx
        replace hkl := Lib.hid hkl
        replace hmx := Lib.hid hmx
        replace hkx := Lib.hid hkx
        go_wp2_with (first
          | (at_mapUpdate; refine wpList_mapUpdate_own _ rfl _ _ _ 37 rfl 9 3 kS Tryz.underlying37 _ Mb _ _ rfl hmx.out (by unfold maxLen; omega) _ _ _ rfl rfl (WideMaps.keyOf_string_mk Tryz.underlying9 hks) _ [] (plainElem_int Tryz.underlying3 hwf) ?_; intro w8 hm8 hg8; go_frame)
          | fail)
        go_roundw
        case rel => exact ⟨j + 1, nj + 1, by omega, by go_num, by rw [hkl.out, DM_snoc]; exact hm8, by omega, hkx.out.both (Keep.of_grown hg8)⟩
        case measure => (simp [RowKit.intOf]; omega)
      · obtain rfl : j = LL := by omega
        rw [List.take_of_length_le (by rw [hLL.out]; exact Nat.le_refl _)] at hmr
        have hVr : E1 wr V 39 (.map mo) := hV6.out.keep hkp (by omega)
        have hMr := hM6.out.over hkp fun m hm e => by have := hml.out m hm; omega
        have hst : ST wr V mo (keyL L) Mb nj := ⟨hVr, hMr, hmr⟩
        have hbr : Below w.heap.size w wr := hbw6.out.trans (hkp.below (by have := hbw6.out.size; exact this) fun b hb => by omega)
        have hag := DM_ag (keyL L)
        have h1 := (hag.2 nm.data.toList).1
        have h2 := hag.get nm.data.toList
        have hFd := fun W (q : EnvIs W (.map mo) (keyL L)) => Find_t nm (.map mo) (keyL L) W hnm q
        have hks9 : (keyL L).length ≤ 100000 := by unfold keyL; rw [List.length_map, hLL.out]; omega
        have hWt := fun W (q : EnvIs W (.map mo) (keyL L)) => With_t nm kk (.map mo) (keyL L) W hnm hci.out hks9 q
        have hFu := fun W (m2 : Nat) (q : EnvIs W (.map (some m2)) (keyL L ++ [(nm.data.toList, kk)])) => Find_t nm (.map (some m2)) _ W hnm q
        have hLv := fun W (q : EnvIs W (.map mo) (keyL L)) => Len_t (.map mo) (keyL L) W q
        have hLu := fun W (m2 : Nat) (q : EnvIs W (.map (some m2)) (keyL L ++ [(nm.data.toList, kk)])) => Len_t (.map (some m2)) _ W q
        have hDm := DM_more (keyL L) (nm.data.toList, kk)
        have hsz9 : Maps.size (DM (keyL L)) ≤ 1000 := by have := DM_size (keyL L); unfold keyL at this ⊢; rw [List.length_map, hLL.out] at this; omega
        have hev : envL (keyL L ++ [(nm.data.toList, kk)]) nm.data.toList = some kk := by rw [envL_snoc]; unfold stepE; rw [if_pos rfl]
        unfold FI at hFd hFu
        unfold WI at hWt
        unfold RV at hLv hLu
        simp only [hev, Option.getD_some, Option.isSome_some] at hFu
        obtain ⟨b, hb⟩ : ∃ b, (envL (keyL L) nm.data.toList).isSome = b := ⟨_, rfl⟩
        obtain ⟨a, ha⟩ : ∃ a, (envL (keyL L) nm.data.toList).getD 0 = a := ⟨_, rfl⟩
        obtain ⟨sz, hsz⟩ : ∃ sz, Maps.size (DM (keyL L)) = sz := ⟨_, rfl⟩
        obtain ⟨sz2, hsz2⟩ : ∃ sz2, Maps.size (DM (keyL L ++ [(nm.data.toList, kk)])) = sz2 := ⟨_, rfl⟩
        rw [hb] at h1 hFd hDm
        rw [ha] at h2 hFd
        rw [hsz] at hLv hDm hsz9
        rw [hsz2] at hLu hDm
        replace hFd := Lib.hid hFd
        replace hWt := Lib.hid hWt
        replace hFu := Lib.hid hFu
        replace hLv := Lib.hid hLv
        replace hLu := Lib.hid hLu
        replace h1 := Lib.hid h1
        replace h2 := Lib.hid h2
        replace hst := Lib.hid hst
        replace hbr := Lib.hid hbr
        replace hsz := Lib.hid hsz
        obtain ⟨v0, vf, vl⟩ := hst.out.1.all
        clear hag hb ha hsz2 hev hks9 hVr hMr hmr hkp hm0 hV6 hM6 hNL6 hbw6 hml hNLb hLsz hLin hci
        cases b
        ·
          have hDm2 : (sz2 : Int) = (sz : Int) + 1 := by rw [hDm]; simp
          have hDm3 : (sz : Int) + 1 = (sz2 : Int) := hDm2.symm
          clear hDm2
          clear hDm
          go_wp2_with fail
          (with_reducible refine (hFd.out _ hst.out.env).mono ?_)
          rintro e w10 ⟨rfl, hb10⟩
          have hst10 := hst.out.over hb10
          have hbr10 := below_call hb10 hbr.out
          obtain ⟨e0, ef, el⟩ := hst10.1.all
          clear hb10 v0 vf vl
          replace hst10 := Lib.hid hst10
          replace hbr10 := Lib.hid hbr10
          go_wp2_with (first
            | (at_lookup; refine wpList_lookup_own_ok_int _ rfl _ _ 37 rfl 9 3 .i64 kS Tryz.underlying37 Tryz.underlying3 (zI _) Mb nj _ rfl hst10.out.mp _ _ rfl (WideMaps.keyOf_string_mk Tryz.underlying9 hnm) ?_; intro c9 hat hwc; rw [h1.out]; obtain rfl : c9 = a := (by have e := hat.symm.trans h2.out; injection e with e; injection e); clear hat hwc)
            | fail)
          (with_reducible refine (hWt.out _ hst10.out.env).mono ?_)
          rintro e w11 ⟨m2, n2, rfl, hm11, hn11, _, hb11⟩
          have hst11 := hst10.out.over hb11
          have hbr11 := below_call hb11 hbr10.out
          clear hb11 e0 ef el
          have hbe := (Below.refl w11.heap.size w11).alloc (Nat.le_refl _) (.cells #[.map (some m2)] 39)
          have hU := heap_alloc_new w11 (.cells #[.map (some m2)] 39)
          obtain ⟨U, hUe⟩ : ∃ U, w11.heap.size = U := ⟨_, rfl⟩
          rw [hUe] at hU
          obtain ⟨w12, hw12⟩ : ∃ w12, w11.alloc (.cells #[.map (some m2)] 39) = w12 := ⟨_, rfl⟩
          rw [hw12] at hU hbe
          have hU12 : E1 w12 U 39 (.map (some m2)) := hU
          have hu12 : EnvIs w12 (.map (some m2)) (keyL L ++ [(nm.data.toList, kk)]) := .inr ⟨m2, n2, rfl, hm11.keep (Keep.of_below (F := fun _ => False) hbe) (fun hf => hf), by simpa using hn11⟩
          have hst12 := hst11.over hbe
          have hbr12 := below_call hbe hbr11
          clear hU hm11 hn11 hst11 hbr11 hbe
          obtain ⟨u0, uf, ul⟩ := hU12.all
          obtain ⟨e0, ef, el⟩ := hst12.1.all
          replace hU12 := Lib.hid hU12
          replace hu12 := Lib.hid hu12
          replace hst12 := Lib.hid hst12
          replace hbr12 := Lib.hid hbr12
          go_wp2_with fail
          (with_reducible refine (hFu.out _ m2 hu12.out).mono ?_)
          rintro e w13 ⟨rfl, hb13⟩
          have hst13 := hst12.out.over hb13
          have hU13 := hU12.out.over hb13
          have hu13 := hu12.out.over (Keep.of_below (F := fun _ => False) hb13) fun _ _ hf => hf
          have hbr13 := below_call hb13 hbr12.out
          clear hb13 u0 uf ul e0 ef el
          obtain ⟨u0, uf, ul⟩ := hU13.all
          obtain ⟨e0, ef, el⟩ := hst13.1.all
          replace hU13 := Lib.hid hU13
          replace hu13 := Lib.hid hu13
          replace hst13 := Lib.hid hst13
          replace hbr13 := Lib.hid hbr13
          go_wp2_with fail
          (with_reducible refine (hFd.out _ hst13.out.env).mono ?_)
          rintro e w14 ⟨rfl, hb14⟩
          have hst14 := hst13.out.over hb14
          have hU14 := hU13.out.over hb14
          have hu14 := hu13.out.over (Keep.of_below (F := fun _ => False) hb14) fun _ _ hf => hf
          have hbr14 := below_call hb14 hbr13.out
          clear hb14 u0 uf ul e0 ef el
          obtain ⟨u0, uf, ul⟩ := hU14.all
          obtain ⟨e0, ef, el⟩ := hst14.1.all
          replace hU14 := Lib.hid hU14
          replace hu14 := Lib.hid hu14
          replace hst14 := Lib.hid hst14
          replace hbr14 := Lib.hid hbr14
          go_wp2_with (first
            | (at_len; refine wpList_len_own _ rfl _ 37 rfl 9 3 Tryz.underlying37 _ Mb nj _ rfl hst14.out.mp ?_; rw [hsz.out])
            | fail)
          (with_reducible refine (hLv.out _ hst14.out.env).mono ?_)
          rintro e w15 ⟨rfl, hb15⟩
          have hst15 := hst14.out.over hb15
          have hU15 := hU14.out.over hb15
          have hu15 := hu14.out.over (Keep.of_below (F := fun _ => False) hb15) fun _ _ hf => hf
          have hbr15 := below_call hb15 hbr14.out
          clear hb15 u0 uf ul e0 ef el
          obtain ⟨u0, uf, ul⟩ := hU15.all
          replace hst15 := Lib.hid hst15
          replace hu15 := Lib.hid hu15
          replace hbr15 := Lib.hid hbr15
          have hlen15 : ∀ ty, (Builtin.len_ #[37] ty #[.map (some Mb)]).run Tryz.prog w15 = .ok (.int .i64 (sz : Int)) w15 := fun ty => by rw [← hsz.out]; exact hst15.out.mp.len Tryz.underlying37 ty
          go_wp2_with fail
          clear hlen15
          (with_reducible refine (hLu.out _ m2 hu15.out).mono ?_)
          rintro e w16 ⟨rfl, hb16⟩
          have hbr16 := Lib.hid (below_call hb16 hbr15.out)
          clear hb16 u0 uf ul
          go_wp2_with fail
          go_ret
          exact ⟨rfl, hbr16.out⟩
        ·
          obtain rfl : sz = sz2 := by rw [hDm]; simp
          clear hDm
          go_wp2_with fail
          (with_reducible refine (hFd.out _ hst.out.env).mono ?_)
          rintro e w10 ⟨rfl, hb10⟩
          have hst10 := hst.out.over hb10
          have hbr10 := below_call hb10 hbr.out
          obtain ⟨e0, ef, el⟩ := hst10.1.all
          clear hb10 v0 vf vl
          replace hst10 := Lib.hid hst10
          replace hbr10 := Lib.hid hbr10
          go_wp2_with (first
            | (at_lookup; refine wpList_lookup_own_ok_int _ rfl _ _ 37 rfl 9 3 .i64 kS Tryz.underlying37 Tryz.underlying3 (zI _) Mb nj _ rfl hst10.out.mp _ _ rfl (WideMaps.keyOf_string_mk Tryz.underlying9 hnm) ?_; intro c9 hat hwc; rw [h1.out]; obtain rfl : c9 = a := (by have e := hat.symm.trans h2.out; injection e with e; injection e); clear hat hwc)
            | fail)
          (with_reducible refine (hWt.out _ hst10.out.env).mono ?_)
          rintro e w11 ⟨m2, n2, rfl, hm11, hn11, _, hb11⟩
          have hst11 := hst10.out.over hb11
          have hbr11 := below_call hb11 hbr10.out
          clear hb11 e0 ef el
          have hbe := (Below.refl w11.heap.size w11).alloc (Nat.le_refl _) (.cells #[.map (some m2)] 39)
          have hU := heap_alloc_new w11 (.cells #[.map (some m2)] 39)
          obtain ⟨U, hUe⟩ : ∃ U, w11.heap.size = U := ⟨_, rfl⟩
          rw [hUe] at hU
          obtain ⟨w12, hw12⟩ : ∃ w12, w11.alloc (.cells #[.map (some m2)] 39) = w12 := ⟨_, rfl⟩
          rw [hw12] at hU hbe
          have hU12 : E1 w12 U 39 (.map (some m2)) := hU
          have hu12 : EnvIs w12 (.map (some m2)) (keyL L ++ [(nm.data.toList, kk)]) := .inr ⟨m2, n2, rfl, hm11.keep (Keep.of_below (F := fun _ => False) hbe) (fun hf => hf), by simpa using hn11⟩
          have hst12 := hst11.over hbe
          have hbr12 := below_call hbe hbr11
          clear hU hm11 hn11 hst11 hbr11 hbe
          obtain ⟨u0, uf, ul⟩ := hU12.all
          obtain ⟨e0, ef, el⟩ := hst12.1.all
          replace hU12 := Lib.hid hU12
          replace hu12 := Lib.hid hu12
          replace hst12 := Lib.hid hst12
          replace hbr12 := Lib.hid hbr12
          go_wp2_with fail
          (with_reducible refine (hFu.out _ m2 hu12.out).mono ?_)
          rintro e w13 ⟨rfl, hb13⟩
          have hst13 := hst12.out.over hb13
          have hU13 := hU12.out.over hb13
          have hu13 := hu12.out.over (Keep.of_below (F := fun _ => False) hb13) fun _ _ hf => hf
          have hbr13 := below_call hb13 hbr12.out
          clear hb13 u0 uf ul e0 ef el
          obtain ⟨u0, uf, ul⟩ := hU13.all
          obtain ⟨e0, ef, el⟩ := hst13.1.all
          replace hU13 := Lib.hid hU13
          replace hu13 := Lib.hid hu13
          replace hst13 := Lib.hid hst13
          replace hbr13 := Lib.hid hbr13
          go_wp2_with fail
          (with_reducible refine (hFd.out _ hst13.out.env).mono ?_)
          rintro e w14 ⟨rfl, hb14⟩
          have hst14 := hst13.out.over hb14
          have hU14 := hU13.out.over hb14
          have hu14 := hu13.out.over (Keep.of_below (F := fun _ => False) hb14) fun _ _ hf => hf
          have hbr14 := below_call hb14 hbr13.out
          clear hb14 u0 uf ul e0 ef el
          obtain ⟨u0, uf, ul⟩ := hU14.all
          obtain ⟨e0, ef, el⟩ := hst14.1.all
          replace hU14 := Lib.hid hU14
          replace hu14 := Lib.hid hu14
          replace hst14 := Lib.hid hst14
          replace hbr14 := Lib.hid hbr14
          go_wp2_with (first
            | (at_len; refine wpList_len_own _ rfl _ 37 rfl 9 3 Tryz.underlying37 _ Mb nj _ rfl hst14.out.mp ?_; rw [hsz.out])
            | fail)
          (with_reducible refine (hLv.out _ hst14.out.env).mono ?_)
          rintro e w15 ⟨rfl, hb15⟩
          have hst15 := hst14.out.over hb15
          have hU15 := hU14.out.over hb15
          have hu15 := hu14.out.over (Keep.of_below (F := fun _ => False) hb15) fun _ _ hf => hf
          have hbr15 := below_call hb15 hbr14.out
          clear hb15 u0 uf ul e0 ef el
          obtain ⟨u0, uf, ul⟩ := hU15.all
          replace hst15 := Lib.hid hst15
          replace hu15 := Lib.hid hu15
          replace hbr15 := Lib.hid hbr15
          have hlen15 : ∀ ty, (Builtin.len_ #[37] ty #[.map (some Mb)]).run Tryz.prog w15 = .ok (.int .i64 (sz : Int)) w15 := fun ty => by rw [← hsz.out]; exact hst15.out.mp.len Tryz.underlying37 ty
          go_wp2_with fail
          clear hlen15
          (with_reducible refine (hLu.out _ m2 hu15.out).mono ?_)
          rintro e w16 ⟨rfl, hb16⟩
          have hbr16 := Lib.hid (below_call hb16 hbr15.out)
          clear hb16 u0 uf ul
          go_wp2_with fail
          go_ret
          exact ⟨rfl, hbr16.out⟩
end Go.Proofs.YtelbpmemkockeaaGreatDoor
