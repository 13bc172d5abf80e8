/-
  Package ast: the walk over a tree with a visit: the visit's state goes from part to part.
-/
import Derived.Test.YtljiiniocnljmaaAc
import Derived.Deep.Cut
namespace Go.Proofs.Ytljiiniocnljmaa
open Go.RowKit Go.Lib
/-- How many parts. -/
def XT.nds : XT → Nat
  | .z _ => 1
  | .u _ a => a.nds + 1
  | .b _ x y => x.nds + y.nds + 1
  | .t _ x y q => x.nds + y.nds + q.nds + 1
theorem nds_pos : ∀ t : XT, 0 < t.nds
  | .z _ => by simp [XT.nds]
  | .u _ _ => by simp [XT.nds]
  | .b _ _ _ => by simp [XT.nds]
  | .t _ _ _ _ => by simp [XT.nds]
def ndsL (l : List XT) : Nat := (l.map XT.nds).sum
theorem nds_args (t : XT) : t.nds = ndsL t.args + 1 := by cases t <;> simp [XT.nds, XT.args, ndsL] <;> omega
/-- The visits' states. -/
def vis {σ : Type} (st : σ → XH → Int → σ) : XT → Int → σ → σ
  | .z h, d, s => st s h d
  | .u h x, d, s => vis st x (d + 1) (st s h d)
  | .b h x y, d, s => vis st y (d + 1) (vis st x (d + 1) (st s h d))
  | .t h x y q, d, s => vis st q (d + 1) (vis st y (d + 1) (vis st x (d + 1) (st s h d)))
theorem vis_args {σ : Type} (st : σ → XH → Int → σ) (t : XT) (d : Int) (s : σ) : vis st t d s = t.args.foldl (fun s a => vis st a (d + 1) s) (st s t.h d) := by cases t <;> rfl
theorem vis_meas {σ : Type} (st : σ → XH → Int → σ) (m : σ → Nat) (hm : ∀ s h d, m (st s h d) ≤ m s + 1) : ∀ (t : XT) (d : Int) (s : σ), m (vis st t d s) ≤ m s + t.nds
  | .z h, d, s => hm s h d
  | .u h x, d, s => by
    have h1 := vis_meas st m hm x (d + 1) (st s h d)
    have h2 := hm s h d
    simp only [vis, XT.nds]; omega
  | .b h x y, d, s => by
    have h1 := vis_meas st m hm x (d + 1) (st s h d)
    have h3 := vis_meas st m hm y (d + 1) (vis st x (d + 1) (st s h d))
    have h2 := hm s h d
    simp only [vis, XT.nds]; omega
  | .t h x y q, d, s => by
    have h1 := vis_meas st m hm x (d + 1) (st s h d)
    have h3 := vis_meas st m hm y (d + 1) (vis st x (d + 1) (st s h d))
    have h4 := vis_meas st m hm q (d + 1) (vis st y (d + 1) (vis st x (d + 1) (st s h d)))
    have h2 := hm s h d
    simp only [vis, XT.nds]; omega
theorem visL_meas {σ : Type} (st : σ → XH → Int → σ) (m : σ → Nat) (hm : ∀ s h d, m (st s h d) ≤ m s + 1) (d : Int) : ∀ (l : List XT) (s : σ), m (l.foldl (fun s a => vis st a d s) s) ≤ m s + ndsL l
  | [], s => by simp [ndsL]
  | a :: l, s => by
    have h1 := visL_meas st m hm d l (vis st a d s)
    have h2 := vis_meas st m hm a d s
    simp only [List.foldl_cons, ndsL, List.map_cons, List.sum_cons] at *
    omega
theorem ndsL_take (l : List XT) (k : Nat) (hk : k < l.length) : ndsL (l.take k) + l[k].nds ≤ ndsL l := by
  have e : ndsL l = ndsL (l.take k) + (l[k].nds + ndsL (l.drop (k + 1))) := by
    have h : l = l.take k ++ l[k] :: l.drop (k + 1) := by rw [List.getElem_cons_drop, List.take_append_drop]
    calc ndsL l = ndsL (l.take k ++ l[k] :: l.drop (k + 1)) := congrArg ndsL h
      _ = _ := by simp only [ndsL, List.map_append, List.sum_append, List.map_cons, List.sum_cons]
  omega
section
variable {σ : Type} {V p B : Nat} {I : σ → World → Prop} {st : σ → XH → Int → σ} {m : σ → Nat}
/-- What the walk leaves. -/
def WKo (p B V : Nat) (I : σ → World → Prop) (st : σ → XH → Int → σ) (m : σ → Nat) (t : XT) : Prop := ∀ (A : Option Addr) (c : Nat) (d : Int) (s : σ) (w : World), I s w → XQ w (· < B) t A → m s + t.nds ≤ 1000000 → 0 ≤ d → d + t.dep ≤ 1000 →
  Calls Try.prog 19 #[xv t.h A t.args.length c, .int .i64 d, .func (.func V) #[] #[.pointer (some ⟨p, 0, none⟩)]] w fun e w' => e = .returned (.tuple #[]) ∧ I (vis st t d s) w' ∧ WP p w w'
/-- What is asked of a visit. -/
structure VIS (p B V : Nat) (I : σ → World → Prop) (st : σ → XH → Int → σ) (m : σ → Nat) : Prop where
  en : ∀ args w, (callFunc V args).run Try.prog w = .ok (.enter V args) w
  ft : ∀ s W, I s W → ∀ g, FT W p g → B ≤ g ∧ g < W.heap.size
  kp : ∀ s W W', I s W → (∀ g, FT W p g → W'.heap[g]? = W.heap[g]?) → W.heap.size ≤ W'.heap.size → I s W'
  me : ∀ s h d, m (st s h d) ≤ m s + 1
  ct : ∀ h A n c d s W, I s W → m s ≤ 1000000 → Calls Try.prog V #[xv h A n c, .int .i64 d, .pointer (some ⟨p, 0, none⟩)] W fun e w' => e = .returned (.tuple #[]) ∧ I (st s h d) w' ∧ WP p W w'
theorem VIS.over (v : VIS p B V I st m) {s : σ} {W W' : World} (h : I s W) (k : Below W.heap.size W W') : I s W' := v.kp s W W' h (fun g hg => k.block g (v.ft s W h g hg).2) k.size
theorem VIS.low (v : VIS p B V I st m) {s : σ} {W W' : World} (h : I s W) (k : WP p W W') : ∀ b, b < B → W'.heap[b]? = W.heap[b]? := fun b hb =>
  k.k.block b (by have := (v.ft s W h p (.inl rfl)); omega) fun hf => by have := (v.ft s W h b hf).1; omega
set_option maxRecDepth 100000 in
set_option maxHeartbeats 3200000 in
theorem walk_1 (v : VIS p B V I st m) (t : XT) (hE : ∀ a ∈ t.args, WKo p B V I st m a) : WKo p B V I st m t := by
  intro A c d s w hI hX hms hd0 hd
  have hEn := v.en
  have hpw := v.ft s w hI p (.inl rfl)
  have hVs := fun W (q : I s W) => v.ct t.h A t.args.length c d s W q (by have := nds_pos t; omega)
  have hFb := v.ft s w hI
  have h3 := t.args_le
  have hnd := nds_args t
  obtain ⟨n, hn⟩ : ∃ n, t.args.length = n := ⟨_, rfl⟩
  rw [hn] at h3 hVs ⊢
  have hb0 := (Below.refl w.heap.size w).alloc (Nat.le_refl _) (.cells #[.int .i64 t.h.k, .int .i64 t.h.f, .int .i64 t.h.l, .int .i64 t.h.c, .string t.h.s, .slice A n c] 36)
  have hM0 := BX.new w 36 t.h A n c
  obtain ⟨gb, hgb⟩ : ∃ g, w.heap.size = g := ⟨_, rfl⟩
  have hz1 : (w.alloc (.cells #[.int .i64 t.h.k, .int .i64 t.h.f, .int .i64 t.h.l, .int .i64 t.h.c, .string t.h.s, .slice A n c] 36)).heap.size = gb + 1 := by simp [hgb]
  obtain ⟨w1, hw1⟩ : ∃ W, w.alloc (.cells #[.int .i64 t.h.k, .int .i64 t.h.f, .int .i64 t.h.l, .int .i64 t.h.c, .string t.h.s, .slice A n c] 36) = W := ⟨_, rfl⟩
  rw [hgb, hw1] at hM0
  rw [hw1] at hb0 hz1
  have hI1 := v.over hI hb0
  have hW1 := WP.of hb0 hpw.2
  have hX1 := hX.over (w' := w1) (G := (· < B)) (v.low hI hW1) (fun b hb => hb)
  have hnf1 : ∀ g, FT w1 p g → g < gb := fun g hg => by
    have := (hFb g (hg.of (hb0.block p hpw.2))).2
    omega
  rw [vis_args]
  obtain ⟨b0, b1, b2, b3, b4, b5⟩ := hM0.all
  have bl := hM0.lt
  have hms1 := v.me s t.h d
  obtain ⟨s1, hs1⟩ : ∃ s1, st s t.h d = s1 := ⟨_, rfl⟩
  rw [hs1] at hVs hms1 ⊢
  unfold WKo at hE
  obtain ⟨d1, hd1⟩ : ∃ d1, d + 1 = d1 := ⟨_, rfl⟩
  have hwd : IntKind.i64.wrap (d + 1) = d1 := by rw [← hd1]; exact IntWalk.i64_in _ (by omega)
  have hdd : ∀ a ∈ t.args, d1 + a.dep ≤ 1000 := fun a ha => by have := XT.dep_arg ha; omega
  have hd10 : 0 ≤ d1 := by omega
  rw [hd1]
  replace hE := Lib.hid hE
  replace hVs := Lib.hid hVs
  replace hI1 := Lib.hid hI1
  replace hX1 := Lib.hid hX1
  replace hW1 := Lib.hid hW1
  replace hM0 := Lib.hid hM0
  replace hn := Lib.hid hn
  replace hms := Lib.hid hms
  replace hms1 := Lib.hid hms1
  replace hnd := Lib.hid hnd
  replace hd := Lib.hid hd
  replace hd1 := Lib.hid hd1
  replace hdd := Lib.hid hdd
  replace hnf1 := Lib.hid hnf1
  replace hFb := Lib.hid hFb
  replace hz1 := Lib.hid hz1
  replace v := Lib.hid v
  clear hI hX hb0 hs1
  go_enter Try.func19, Try.ntmps19
  go_wp2_with fail
  (with_reducible refine (hVs.out _ hI1.out).mono ?_)
  rintro e w2 ⟨rfl, hI2, hP2⟩
  have hX2 := hX1.out.over (w' := w2) (G := (· < B)) (v.out.low hI1.out hP2) (fun b hb => hb)
  have hM2 : BX w2 gb 36 t.h A n c := (hP2.k.block gb (by rw [hz1.out]; omega) fun hf => by have := hnf1.out gb hf; omega).trans hM0.out
  have hf2 : ∀ g, FT w2 p g → FT w p g ∨ gb < g := fun g hg => by
    rcases hP2.f g hg with e | e
    · rcases hW1.out.f g e with e | e
      · exact .inl e
      · have := hnf1.out g (by assumption); have := hgb; omega
    · rw [hz1.out] at e; exact .inr (by omega)
  have hW2 := hW1.out.trans hP2
  obtain ⟨c0, c1, c2, c3, c4, c5⟩ := hM2.all
  have cl := hM2.lt
  clear hw1 hVs hI1 hX1 hW1 hM0 hP2 b0 b1 b2 b3 b4 b5 bl hnf1 hz1
  replace hI2 := Lib.hid hI2
  replace hX2 := Lib.hid hX2
  replace hf2 := Lib.hid hf2
  replace hW2 := Lib.hid hW2
  replace hM2 := Lib.hid hM2
  go_wp2_with fail
  go_loopw [15] (fun iv wr => ∃ (k : Nat), k ≤ n ∧ iv = .int .i64 (k : Int) ∧ I ((t.args.take k).foldl (fun s a => vis st a d1 s) s1) wr ∧ XQ wr (· < B) t A ∧ WP p w wr ∧ BX wr gb 36 t.h A n c ∧ (∀ g, FT wr p g → FT w p g ∨ gb < g)) (fun iv _ => n - (RowKit.intOf iv).toNat)
  case atStart => exact ⟨0, Nat.zero_le _, rfl, by simpa using hI2.out, hX2.out, hW2.out, hM2.out, hf2.out⟩
  case round =>
    obtain ⟨k, hk, rfl, hIk, hXk, hWk, hMk, hfk⟩ := hrel
    clear hI2 hX2 hW2 hM2 hf2 c0 c1 c2 c3 c4 c5 cl
    by_cases hlt : k < n
    · have hw1 : IntKind.i64.wrap ((k : Int) + 1) = (k : Int) + 1 := IntWalk.i64_in _ (by omega)
      have hkl : k < t.args.length := by rw [hn.out]; exact hlt
      obtain ⟨b, o, rfl, hb, Aj, cj, hxc, hxq⟩ := hXk.get k hkl
      have hmk := visL_meas st m v.out.me d1 (t.args.take k) s1
      have hnk := ndsL_take t.args k hkl
      have hms2 := hms.out
      have hms3 := hms1.out
      have hnd2 := hnd.out
      have hfo : (t.args.take (k + 1)).foldl (fun s a => vis st a d1 s) s1 = vis st t.args[k] d1 ((t.args.take k).foldl (fun s a => vis st a d1 s) s1) := by
        rw [← List.take_append_getElem hkl, List.foldl_append]; rfl
      have hC := fun W (q : I ((t.args.take k).foldl (fun s a => vis st a d1 s) s1) W) (r : XQ W (· < B) t.args[k] Aj) => hE.out t.args[k] (List.getElem_mem hkl) Aj cj d1 ((t.args.take k).foldl (fun s a => vis st a d1 s) s1) W q r (by omega) hd10 (hdd.out _ (List.getElem_mem hkl))
      rw [← hfo] at hC
      clear hfo hmk hnk hms2 hms3 hnd2
      obtain ⟨a, ha⟩ : ∃ a, t.args[k] = a := ⟨_, rfl⟩
      obtain ⟨s2, hs2⟩ : ∃ s2, (t.args.take k).foldl (fun s a => vis st a d1 s) s1 = s2 := ⟨_, rfl⟩
      rw [ha] at hC hxc hxq
      rw [hs2] at hC hIk
      obtain ⟨x0, x1, x2, x3, x4, x5⟩ := hxc
      have hba := (Below.refl wr.heap.size wr).alloc (Nat.le_refl _) (.cells #[.int .i64 a.h.k, .int .i64 a.h.f, .int .i64 a.h.l, .int .i64 a.h.c, .string a.h.s, .slice Aj a.args.length cj] 36)
      have hIa := v.out.over hIk hba
      have hpr := v.out.ft _ _ hIk
      have hBr := hpr p (.inl rfl)
      have hxa := hxq.over (w' := wr.alloc (.cells #[.int .i64 a.h.k, .int .i64 a.h.f, .int .i64 a.h.l, .int .i64 a.h.c, .string a.h.s, .slice Aj a.args.length cj] 36)) (G := (· < B)) (fun b hb => hba.block b (by omega)) (fun b hb => hb)
      have hXa := hXk.over (w' := wr.alloc (.cells #[.int .i64 a.h.k, .int .i64 a.h.f, .int .i64 a.h.l, .int .i64 a.h.c, .string a.h.s, .slice Aj a.args.length cj] 36)) (G := (· < B)) (fun b hb => hba.block b (by omega)) (fun b hb => hb)
      have hWa := hWk.trans (WP.of hba hBr.2)
      have hMa := hMk.ov hba
      have hRa := BX.new wr 36 a.h Aj a.args.length cj
      have hfa : ∀ g, FT (wr.alloc (.cells #[.int .i64 a.h.k, .int .i64 a.h.f, .int .i64 a.h.l, .int .i64 a.h.c, .string a.h.s, .slice Aj a.args.length cj] 36)) p g → FT w p g ∨ gb < g := fun g hg => hfk g (hg.of (hba.block p hBr.2))
      have hza : gb < (wr.alloc (.cells #[.int .i64 a.h.k, .int .i64 a.h.f, .int .i64 a.h.l, .int .i64 a.h.c, .string a.h.s, .slice Aj a.args.length cj] 36)).heap.size := hMa.lt
      clear hba hIk hXk hWk hxq hfk hpr ha hs2
      replace hIa := Lib.hid hIa
      replace hxa := Lib.hid hxa
      replace hXa := Lib.hid hXa
      replace hWa := Lib.hid hWa
      replace hMa := Lib.hid hMa
      replace hRa := Lib.hid hRa
      replace hfa := Lib.hid hfa
      replace hC := Lib.hid hC
      obtain ⟨k0, k1, k2, k3, k4, k5⟩ := hMk.all
      have kl := hMk.lt
      clear hMk
      go_upto_region 5 with fail
      obtain ⟨u0, hu0⟩ : ∃ W, wr.alloc (.cells #[.int .i64 a.h.k, .int .i64 a.h.f, .int .i64 a.h.l, .int .i64 a.h.c, .string a.h.s, .slice Aj a.args.length cj] 36) = W := ⟨_, rfl⟩
      obtain ⟨gr, hgr⟩ : ∃ g, wr.heap.size = g := ⟨_, rfl⟩
      rw [hgr] at hRa
      rw [hu0] at hIa hxa hXa hWa hMa hRa hfa hza ⊢
      obtain ⟨r0, r1, r2, r3, r4, r5⟩ := hRa.out.all
      have rl := hRa.out.lt
      clear hu0 x0 x1 x2 x3 x4 x5 k0 k1 k2 k3 k4 k5 kl hRa
      go_wp2_with fail
      (with_reducible refine (hC.out _ hIa.out hxa.out).mono ?_)
      rintro e u1 ⟨rfl, hI1, hP1⟩
      have hX1 := hXa.out.over (w' := u1) (G := (· < B)) (v.out.low hIa.out hP1) (fun b hb => hb)
      have hW1 := hWa.out.trans hP1
      have hfu := hfa.out
      have hgbw := hgb
      have hM1 := (hP1.k.block gb hza fun hf => by
        rcases hfu gb hf with e | e
        · have := (hFb.out gb e).2; omega
        · omega).trans hMa.out
      have hf1 : ∀ g, FT u1 p g → FT w p g ∨ gb < g := fun g hg => by
        rcases hP1.f g hg with e | e
        · exact hfu g e
        · exact .inr (by omega)
      clear hIa hxa hXa hWa hMa hfa hfu hP1 hC r0 r1 r2 r3 r4 r5 rl
      replace hI1 := Lib.hid hI1
      replace hX1 := Lib.hid hX1
      replace hW1 := Lib.hid hW1
      replace hM1 := Lib.hid hM1
      replace hf1 := Lib.hid hf1
      go_wp2_with fail
      go_roundw
      case rel => exact ⟨k + 1, by omega, by go_num, hI1.out, hX1.out, hW1.out, hM1.out, hf1.out⟩
      case measure => (simp [RowKit.intOf]; omega)
    · obtain rfl : k = n := by omega
      have htk : t.args.take k = t.args := by rw [← hn.out, List.take_length]
      rw [htk] at hIk
      replace hIk := Lib.hid hIk
      replace hWk := Lib.hid hWk
      clear hXk hMk hfk
      go_wp2_with fail
      refine bodyPost_end (v := .tuple #[]) (by simp [results, Try.results19, go_sem]) rfl ?_
      exact ⟨rfl, hIk.out, hWk.out⟩
theorem walk_all (v : VIS p B V I st m) : ∀ t : XT, WKo p B V I st m t
  | .z h => walk_1 v _ fun a ha => by simp [XT.args] at ha
  | .u h x => walk_1 v _ fun a ha => by
    have h1 := walk_all v x
    simp [XT.args] at ha
    subst ha
    exact h1
  | .b h x y => walk_1 v _ fun a ha => by
    have h1 := walk_all v x
    have h2 := walk_all v y
    simp [XT.args] at ha
    rcases ha with rfl | rfl
    · exact h1
    · exact h2
  | .t h x y z => walk_1 v _ fun a ha => by
    have h1 := walk_all v x
    have h2 := walk_all v y
    have h3 := walk_all v z
    simp [XT.args] at ha
    rcases ha with rfl | rfl | rfl
    · exact h1
    · exact h2
    · exact h3
end
end Go.Proofs.Ytljiiniocnljmaa
