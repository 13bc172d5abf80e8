/-
  MakeExpr.
-/
import Derived.Test.YtljiiniocnljmaaVe
namespace Go.Proofs.Ytljiiniocnljmaa
open Go.RowKit Go.Lib
/-- A variable for an expression that holds nothing yet. -/
def EZ (w : World) (g : Nat) : Prop := w.heap[g]? = some (.cells #[.int .i64 0, .int .i64 0, .int .i64 0, .int .i64 0, .string ⟨#[]⟩, .slice none 0 0] 32 (0, 0))
theorem EZ.keep {w w' : World} {g p : Nat} (h : EZ w g) (k : Keep (· = p) w w') (hp : g ≠ p) : EZ w' g := (k.block g (lt_of_get h) hp).trans h
theorem EZ.alloc {w : World} {g : Nat} (h : EZ w g) (o : Obj) : EZ (w.alloc o) g := ((Below.refl _ w).alloc (Nat.le_refl _) o).block g (lt_of_get h) |>.trans h
theorem EZ.all {w : World} {g : Nat} (h : EZ w g) : (∀ i, w.frozen? ⟨g, i, none⟩ = false) ∧ g < w.heap.size ∧ w.cell? ⟨g, 0, none⟩ = some (.int .i64 0) ∧ w.cell? ⟨g, 1, none⟩ = some (.int .i64 0) ∧ w.cell? ⟨g, 2, none⟩ = some (.int .i64 0) ∧ w.cell? ⟨g, 3, none⟩ = some (.int .i64 0) ∧ w.cell? ⟨g, 4, none⟩ = some (.string ⟨#[]⟩) ∧ w.cell? ⟨g, 5, none⟩ = some (.slice none 0 0) := by
  unfold EZ at h
  refine ⟨fun i => Lib.frozen_of_heap h i, lt_of_get h, ?_, ?_, ?_, ?_, ?_, ?_⟩ <;> rw [Lib.cell_of_heap h] <;> rfl
abbrev set6 (w : World) (g : Nat) (u0 u1 u2 u3 u4 u5 : Value) : World := (((((w.setCell ⟨g, 0, none⟩ u0).setCell ⟨g, 1, none⟩ u1).setCell ⟨g, 2, none⟩ u2).setCell ⟨g, 3, none⟩ u3).setCell ⟨g, 4, none⟩ u4).setCell ⟨g, 5, none⟩ u5
theorem set6_far (w : World) (g : Nat) (u0 u1 u2 u3 u4 u5 : Value) (b : Nat) (h : b ≠ g) : (set6 w g u0 u1 u2 u3 u4 u5).heap[b]? = w.heap[b]? := by
  have q : ∀ (w : World) i u, (w.setCell ⟨g, i, none⟩ u).heap[b]? = w.heap[b]? := fun w i u => Below.heap_setCell w ⟨g, i, none⟩ u b h
  simp only [set6, q]
theorem set6_size (w : World) (g : Nat) (u0 u1 u2 u3 u4 u5 : Value) : (set6 w g u0 u1 u2 u3 u4 u5).heap.size = w.heap.size := by simp only [set6, World.size_setCell]
theorem set6_keep (w : World) (g : Nat) (u0 u1 u2 u3 u4 u5 : Value) : Keep (fun x => x = g) w (set6 w g u0 u1 u2 u3 u4 u5) := by
  have k1 := (Keep.refl (fun x => x = g) w).set ⟨g, 0, none⟩ rfl u0
  have k2 := k1.set ⟨g, 1, none⟩ rfl u1
  have k3 := k2.set ⟨g, 2, none⟩ rfl u2
  have k4 := k3.set ⟨g, 3, none⟩ rfl u3
  have k5 := k4.set ⟨g, 4, none⟩ rfl u4
  exact k5.set ⟨g, 5, none⟩ rfl u5
theorem EZ.six {w : World} {g : Nat} (h : EZ w g) (u0 u1 u2 u3 u4 u5 : Value) : ((((((w.setCell ⟨g, 0, none⟩ u0).setCell ⟨g, 1, none⟩ u1).setCell ⟨g, 2, none⟩ u2).setCell ⟨g, 3, none⟩ u3).setCell ⟨g, 4, none⟩ u4).setCell ⟨g, 5, none⟩ u5).cell? ⟨g, 0, none⟩ = some u0 ∧ ((((((w.setCell ⟨g, 0, none⟩ u0).setCell ⟨g, 1, none⟩ u1).setCell ⟨g, 2, none⟩ u2).setCell ⟨g, 3, none⟩ u3).setCell ⟨g, 4, none⟩ u4).setCell ⟨g, 5, none⟩ u5).cell? ⟨g, 1, none⟩ = some u1 ∧ ((((((w.setCell ⟨g, 0, none⟩ u0).setCell ⟨g, 1, none⟩ u1).setCell ⟨g, 2, none⟩ u2).setCell ⟨g, 3, none⟩ u3).setCell ⟨g, 4, none⟩ u4).setCell ⟨g, 5, none⟩ u5).cell? ⟨g, 2, none⟩ = some u2 ∧ ((((((w.setCell ⟨g, 0, none⟩ u0).setCell ⟨g, 1, none⟩ u1).setCell ⟨g, 2, none⟩ u2).setCell ⟨g, 3, none⟩ u3).setCell ⟨g, 4, none⟩ u4).setCell ⟨g, 5, none⟩ u5).cell? ⟨g, 3, none⟩ = some u3 ∧ ((((((w.setCell ⟨g, 0, none⟩ u0).setCell ⟨g, 1, none⟩ u1).setCell ⟨g, 2, none⟩ u2).setCell ⟨g, 3, none⟩ u3).setCell ⟨g, 4, none⟩ u4).setCell ⟨g, 5, none⟩ u5).cell? ⟨g, 4, none⟩ = some u4 ∧ ((((((w.setCell ⟨g, 0, none⟩ u0).setCell ⟨g, 1, none⟩ u1).setCell ⟨g, 2, none⟩ u2).setCell ⟨g, 3, none⟩ u3).setCell ⟨g, 4, none⟩ u4).setCell ⟨g, 5, none⟩ u5).cell? ⟨g, 5, none⟩ = some u5 := by
  have h6 := heap_set _ g 5 _ _ u5 (heap_set _ g 4 _ _ u4 (heap_set _ g 3 _ _ u3 (heap_set _ g 2 _ _ u2 (heap_set _ g 1 _ _ u1 (heap_set _ g 0 _ _ u0 h)))))
  refine ⟨?_, ?_, ?_, ?_, ?_, ?_⟩ <;> rw [Lib.cell_of_heap h6] <;> simp
/-- The answer is stored: what MakeExpr leaves. -/
theorem MXm_fin {D p B g : Nat} {w wk : World} {h : XH} {ts : List XT} {A : Option Addr} {c n : Nat} (hg : w.heap.size = g) (hK : Keep (· = p) w wk) (hM : MKm wk p B) (hB : B ≤ g) (hX : XQ wk (fun b => g < b ∧ b < wk.heap.size) (mkT h ts) A)
    (hl : ts.length = n) (h3 : ts.length ≤ 3) (hW : WM (mkT h ts)) (hd : (mkT h ts).dep ≤ D) (u0 u1 u2 u3 u4 u5 : Value) : MXm D p B w (.returned (xv h A n c)) (set6 wk g u0 u1 u2 u3 u4 u5) := by
  refine ⟨mkT h ts, A, c, ?_, hW, hd, hX.over (fun b hb => set6_far _ _ _ _ _ _ _ _ b (by omega)) (fun b hb => ⟨by omega, by rw [set6_size]; exact hb.2⟩), hM.kept (fun b hb => set6_far _ _ _ _ _ _ _ _ b (by omega)) (by rw [set6_size]; exact Nat.le_refl _), hK.trans (set6_keep _ _ _ _ _ _ _ _) fun x hx => .inr (by omega)⟩
  rw [mkT_h, mkT_args _ _ h3, hl]
theorem WM_of {h : XH} {ts : List XT} {D : Nat} (hN : NM h) (hk : (ts.length = 0 ∧ (h.k = 1 ∨ h.k = 2)) ∨ (ts.length = 1 ∧ (h.k = 3 ∨ h.k = 6 ∨ h.k = 8 ∨ h.k = 10)) ∨ (ts.length = 2 ∧ (h.k = 4 ∨ h.k = 6 ∨ h.k = 7 ∨ h.k = 9 ∨ h.k = 10)) ∨ (ts.length = 3 ∧ (h.k = 5 ∨ h.k = 6 ∨ h.k = 7)))
    (ht : ∀ t ∈ ts, WM t ∧ t.dep ≤ D) : WM (mkT h ts) ∧ (mkT h ts).dep ≤ D + 1 := by
  match ts, hk with
  | [], hk => exact ⟨⟨hN, by rcases hk with ⟨_, k⟩ | ⟨e, _⟩ | ⟨e, _⟩ | ⟨e, _⟩ <;> first | exact k | simp at e⟩, Nat.zero_le _⟩
  | [a], hk =>
    have h1 := ht a (by simp)
    exact ⟨⟨hN, by rcases hk with ⟨e, _⟩ | ⟨_, k⟩ | ⟨e, _⟩ | ⟨e, _⟩ <;> first | exact k | simp at e, h1.1⟩, by have := h1.2; simp only [mkT, XT.dep]; omega⟩
  | [a, b], hk =>
    have h1 := ht a (by simp)
    have h2 := ht b (by simp)
    exact ⟨⟨hN, by rcases hk with ⟨e, _⟩ | ⟨e, _⟩ | ⟨_, k⟩ | ⟨e, _⟩ <;> first | exact k | simp at e, h1.1, h2.1⟩, by have := h1.2; have := h2.2; simp only [mkT, XT.dep]; omega⟩
  | [a, b, c], hk =>
    have h1 := ht a (by simp)
    have h2 := ht b (by simp)
    have h3 := ht c (by simp)
    exact ⟨⟨hN, by rcases hk with ⟨e, _⟩ | ⟨e, _⟩ | ⟨e, _⟩ | ⟨_, k⟩ <;> first | exact k | simp at e, h1.1, h2.1, h3.1⟩, by have := h1.2; have := h2.2; have := h3.2; simp only [mkT, XT.dep]; omega⟩
  | a :: b :: c :: d :: l, hk => rcases hk with ⟨e, _⟩ | ⟨e, _⟩ | ⟨e, _⟩ | ⟨e, _⟩ <;> simp at e
theorem nil_list : (⟨#[]⟩ : ByteArray).toList = [] := by rw [Go.Lib.toList_data]
set_option maxRecDepth 100000 in
set_option maxHeartbeats 6400000 in
theorem MakeExpr_low (p B D : Nat) (d : Int) (w : World) (hM : MKm w p B) (hd1 : d ≤ 1)
    (hNx : ∀ (n : Nat) W, 0 < n → n ≤ 1000 → MKm W p B → Calls Try.prog 13 #[.pointer (some ⟨p, 0, none⟩), .int .i64 (n : Int)] W (NX n p B W))
    (hEs : 1 < d → ∀ (n : Nat) W, n ≤ 3 → MKm W p B → Calls Try.prog 16 #[.pointer (some ⟨p, 0, none⟩), .int .i64 (d - 1), .int .i64 (n : Int)] W (MXms D p B n W)) :
    Calls Try.prog 7 #[.pointer (some ⟨p, 0, none⟩), .int .i64 d] w (MXm (D + 1) p B w) := by
  have h12 : ∀ W, MKm W p B → Calls Try.prog 13 #[.pointer (some ⟨p, 0, none⟩), .int .i64 12] W (NX 12 p B W) := fun W q => hNx 12 W (by decide) (by decide) q
  have hpB := hM.1
  have hBw := hM.2.1
  have hZ1 : EZ (w.alloc (.cells #[.int .i64 0, .int .i64 0, .int .i64 0, .int .i64 0, .string ⟨#[]⟩, .slice none 0 0] 32)) w.heap.size := heap_alloc_new w _
  have hM1 := hM.alloc (.cells #[.int .i64 0, .int .i64 0, .int .i64 0, .int .i64 0, .string ⟨#[]⟩, .slice none 0 0] 32)
  have hK1 := Keep.al0 (· = p) w (.cells #[.int .i64 0, .int .i64 0, .int .i64 0, .int .i64 0, .string ⟨#[]⟩, .slice none 0 0] 32)
  have hs1 : (w.alloc (.cells #[.int .i64 0, .int .i64 0, .int .i64 0, .int .i64 0, .string ⟨#[]⟩, .slice none 0 0] 32)).heap.size = w.heap.size + 1 := by simp
  obtain ⟨g, hg⟩ : ∃ g, w.heap.size = g := ⟨_, rfl⟩
  rw [hg] at hZ1 hs1 hBw
  unfold NX at h12
  replace h12 := Lib.hid h12
  replace hNx := Lib.hid hNx
  replace hEs := Lib.hid hEs
  replace hZ1 := Lib.hid hZ1
  replace hM1 := Lib.hid hM1
  replace hK1 := Lib.hid hK1
  replace hs1 := Lib.hid hs1
  replace hM := Lib.hid hM
  go_enter Try.func7, Try.ntmps7
  go_wp2_with fail
  (with_reducible refine (h12.out _ hM1.out).mono ?_)
  rintro e w1 ⟨r, hr, rfl, hM2, hk2⟩
  have hZ2 := hZ1.out.keep hk2 (by omega)
  have hK2 := hK1.out.then hk2
  have hs2 : g < w1.heap.size := by have := hk2.size; have := hs1.out; omega
  clear hk2
  replace hZ2 := Lib.hid hZ2
  replace hM2 := Lib.hid hM2
  replace hK2 := Lib.hid hK2
  have hnd : ¬ 1 < d := by omega
  obtain ⟨q, hq⟩ : ∃ q : Int, ((r : Int)).tmod 3 = q := ⟨_, rfl⟩
  have hqq : q = 0 ∨ q = 1 ∨ q = 2 := by
    have : ((r : Int)).tmod 3 = ((r % 3 : Nat) : Int) := rfl
    omega
  rcases hqq with rfl | rfl | rfl
  ·
      go_wp2_with fail
      (with_reducible refine (mname_t p B _ hM2.out).mono ?_)
      rintro e w2 ⟨s, rfl, hs, hM3, hk3⟩
      have hZ3 := hZ2.out.keep hk3 (by omega)
      have hK3 := hK2.out.then hk3
      obtain ⟨zf, zl, z0, z1, z2, z3, z4, z5⟩ := hZ3.all
      have six := hZ3.six (.int .i64 2) (.int .i64 0) (.int .i64 0) (.int .i64 0) (.string s) (.slice none 0 0)
      replace six := Lib.hid six
      clear hk3 hZ3 hZ2 hM2 hK2
      replace hM3 := Lib.hid hM3
      replace hK3 := Lib.hid hK3
      replace hs := Lib.hid hs
      go_wp2_with fail
      refine bodyPost_ret (v := .agg #[.int .i64 2, .int .i64 0, .int .i64 0, .int .i64 0, .string s, .slice none 0 0]) (by simp [results, Try.results7, go_sem, six.out]) rfl ?_
      obtain ⟨hW, hd⟩ := WM_of (h := ⟨2, 0, 0, 0, s⟩) (ts := []) (D := D) ⟨rfl, rfl, rfl, fun h => by simp at h, fun _ => hs.out, fun h => by simp at h, fun h => by simp at h, fun h => by simp at h, fun h => by simp at h⟩ (.inl ⟨rfl, by simp⟩) (fun t ht => by cases ht)
      exact MXm_fin (h := ⟨2, 0, 0, 0, s⟩) (ts := []) (c := 0) hg hK3.out hM3.out hBw trivial rfl (by decide) hW hd _ _ _ _ _ _
  ·
      go_wp2_with fail
      (with_reducible refine (mname_t p B _ hM2.out).mono ?_)
      rintro e w2 ⟨s, rfl, hs, hM3, hk3⟩
      have hZ3 := hZ2.out.keep hk3 (by omega)
      have hK3 := hK2.out.then hk3
      obtain ⟨zf, zl, z0, z1, z2, z3, z4, z5⟩ := hZ3.all
      have six := hZ3.six (.int .i64 2) (.int .i64 0) (.int .i64 0) (.int .i64 0) (.string s) (.slice none 0 0)
      replace six := Lib.hid six
      clear hk3 hZ3 hZ2 hM2 hK2
      replace hM3 := Lib.hid hM3
      replace hK3 := Lib.hid hK3
      replace hs := Lib.hid hs
      go_wp2_with fail
      refine bodyPost_ret (v := .agg #[.int .i64 2, .int .i64 0, .int .i64 0, .int .i64 0, .string s, .slice none 0 0]) (by simp [results, Try.results7, go_sem, six.out]) rfl ?_
      obtain ⟨hW, hd⟩ := WM_of (h := ⟨2, 0, 0, 0, s⟩) (ts := []) (D := D) ⟨rfl, rfl, rfl, fun h => by simp at h, fun _ => hs.out, fun h => by simp at h, fun h => by simp at h, fun h => by simp at h, fun h => by simp at h⟩ (.inl ⟨rfl, by simp⟩) (fun t ht => by cases ht)
      exact MXm_fin (h := ⟨2, 0, 0, 0, s⟩) (ts := []) (c := 0) hg hK3.out hM3.out hBw trivial rfl (by decide) hW hd _ _ _ _ _ _
  ·
      go_wp2_with fail
      (with_reducible refine (mnumber_t p B _ hM2.out).mono ?_)
      rintro e w2 ⟨s, rfl, hs, hM3, hk3⟩
      have hZ3 := hZ2.out.keep hk3 (by omega)
      have hK3 := hK2.out.then hk3
      obtain ⟨zf, zl, z0, z1, z2, z3, z4, z5⟩ := hZ3.all
      have six := hZ3.six (.int .i64 1) (.int .i64 0) (.int .i64 0) (.int .i64 0) (.string s) (.slice none 0 0)
      replace six := Lib.hid six
      clear hk3 hZ3 hZ2 hM2 hK2
      replace hM3 := Lib.hid hM3
      replace hK3 := Lib.hid hK3
      replace hs := Lib.hid hs
      go_wp2_with fail
      refine bodyPost_ret (v := .agg #[.int .i64 1, .int .i64 0, .int .i64 0, .int .i64 0, .string s, .slice none 0 0]) (by simp [results, Try.results7, go_sem, six.out]) rfl ?_
      obtain ⟨hW, hd⟩ := WM_of (h := ⟨1, 0, 0, 0, s⟩) (ts := []) (D := D) ⟨rfl, rfl, rfl, fun _ => hs.out, fun h => by simp at h, fun h => by simp at h, fun h => by simp at h, fun h => by simp at h, fun h => by simp at h⟩ (.inl ⟨rfl, by simp⟩) (fun t ht => by cases ht)
      exact MXm_fin (h := ⟨1, 0, 0, 0, s⟩) (ts := []) (c := 0) hg hK3.out hM3.out hBw trivial rfl (by decide) hW hd _ _ _ _ _ _
set_option maxRecDepth 100000 in
set_option maxHeartbeats 6400000 in
theorem MakeExpr_0 (p B D : Nat) (d : Int) (w : World) (hM : MKm w p B) (hd1 : 1 < d) (hd2 : d ≤ 1000)
    (hNx : ∀ (n : Nat) W, 0 < n → n ≤ 1000 → MKm W p B → Calls Try.prog 13 #[.pointer (some ⟨p, 0, none⟩), .int .i64 (n : Int)] W (NX n p B W))
    (hEs : 1 < d → ∀ (n : Nat) W, n ≤ 3 → MKm W p B → Calls Try.prog 16 #[.pointer (some ⟨p, 0, none⟩), .int .i64 (d - 1), .int .i64 (n : Int)] W (MXms D p B n W))
    (h12 : Calls Try.prog 13 #[.pointer (some ⟨p, 0, none⟩), .int .i64 12] (w.alloc (.cells #[.int .i64 0, .int .i64 0, .int .i64 0, .int .i64 0, .string ⟨#[]⟩, .slice none 0 0] 32)) fun e w' => e = .returned (.int .i64 0) ∧ MKm w' p B ∧ Keep (· = p) (w.alloc (.cells #[.int .i64 0, .int .i64 0, .int .i64 0, .int .i64 0, .string ⟨#[]⟩, .slice none 0 0] 32)) w') :
    Calls Try.prog 7 #[.pointer (some ⟨p, 0, none⟩), .int .i64 d] w (MXm (D + 1) p B w) := by
  have hpB := hM.1
  have hBw := hM.2.1
  have hZ1 : EZ (w.alloc (.cells #[.int .i64 0, .int .i64 0, .int .i64 0, .int .i64 0, .string ⟨#[]⟩, .slice none 0 0] 32)) w.heap.size := heap_alloc_new w _
  have hM1 := hM.alloc (.cells #[.int .i64 0, .int .i64 0, .int .i64 0, .int .i64 0, .string ⟨#[]⟩, .slice none 0 0] 32)
  have hK1 := Keep.al0 (· = p) w (.cells #[.int .i64 0, .int .i64 0, .int .i64 0, .int .i64 0, .string ⟨#[]⟩, .slice none 0 0] 32)
  have hs1 : (w.alloc (.cells #[.int .i64 0, .int .i64 0, .int .i64 0, .int .i64 0, .string ⟨#[]⟩, .slice none 0 0] 32)).heap.size = w.heap.size + 1 := by simp
  obtain ⟨g, hg⟩ : ∃ g, w.heap.size = g := ⟨_, rfl⟩
  rw [hg] at hZ1 hs1 hBw
  replace h12 := Lib.hid h12
  replace hNx := Lib.hid hNx
  replace hEs := Lib.hid hEs
  replace hZ1 := Lib.hid hZ1
  replace hM1 := Lib.hid hM1
  replace hK1 := Lib.hid hK1
  replace hs1 := Lib.hid hs1
  replace hM := Lib.hid hM
  go_enter Try.func7, Try.ntmps7
  go_wp2_with fail
  (with_reducible refine h12.out.mono ?_)
  rintro e w1 ⟨rfl, hM2, hk2⟩
  have hZ2 := hZ1.out.keep hk2 (by omega)
  have hK2 := hK1.out.then hk2
  have hs2 : g < w1.heap.size := by have := hk2.size; have := hs1.out; omega
  clear hk2
  replace hZ2 := Lib.hid hZ2
  replace hM2 := Lib.hid hM2
  replace hK2 := Lib.hid hK2
  have hnd : ¬ d ≤ 1 := by omega
  have hw1 : IntKind.i64.wrap (d - 1) = d - 1 := IntWalk.i64_in _ (by omega)
  have hes := hEs.out hd1
  have hes1 : ∀ W, MKm W p B → Calls Try.prog 16 #[.pointer (some ⟨p, 0, none⟩), .int .i64 (d - 1), .int .i64 1] W (MXms D p B 1 W) := fun W q => hes 1 W (by decide) q
  have hes2 : ∀ W, MKm W p B → Calls Try.prog 16 #[.pointer (some ⟨p, 0, none⟩), .int .i64 (d - 1), .int .i64 2] W (MXms D p B 2 W) := fun W q => hes 2 W (by decide) q
  have hes3 : ∀ W, MKm W p B → Calls Try.prog 16 #[.pointer (some ⟨p, 0, none⟩), .int .i64 (d - 1), .int .i64 3] W (MXms D p B 3 W) := fun W q => hes 3 W (by decide) q
  have hn2 : ∀ W, MKm W p B → Calls Try.prog 13 #[.pointer (some ⟨p, 0, none⟩), .int .i64 2] W (NX 2 p B W) := fun W q => hNx.out 2 W (by decide) (by decide) q
  unfold NX at hn2
  replace hn2 := Lib.hid hn2
  have hn3 : ∀ W, MKm W p B → Calls Try.prog 13 #[.pointer (some ⟨p, 0, none⟩), .int .i64 3] W (NX 3 p B W) := fun W q => hNx.out 3 W (by decide) (by decide) q
  unfold NX at hn3
  replace hn3 := Lib.hid hn3
  have hn4 : ∀ W, MKm W p B → Calls Try.prog 13 #[.pointer (some ⟨p, 0, none⟩), .int .i64 4] W (NX 4 p B W) := fun W q => hNx.out 4 W (by decide) (by decide) q
  unfold NX at hn4
  replace hn4 := Lib.hid hn4
  have hn9 : ∀ W, MKm W p B → Calls Try.prog 13 #[.pointer (some ⟨p, 0, none⟩), .int .i64 9] W (NX 9 p B W) := fun W q => hNx.out 9 W (by decide) (by decide) q
  unfold NX at hn9
  replace hn9 := Lib.hid hn9
  have hn21 : ∀ W, MKm W p B → Calls Try.prog 13 #[.pointer (some ⟨p, 0, none⟩), .int .i64 21] W (NX 21 p B W) := fun W q => hNx.out 21 W (by decide) (by decide) q
  unfold NX at hn21
  replace hn21 := Lib.hid hn21
  unfold MXms at hes hes1 hes2 hes3
  replace hes := Lib.hid hes
  replace hes1 := Lib.hid hes1
  replace hes2 := Lib.hid hes2
  replace hes3 := Lib.hid hes3
  go_wp2_with fail
  (with_reducible refine (mname_t p B _ hM2.out).mono ?_)
  rintro e w2 ⟨s, rfl, hs, hM3, hk3⟩
  have hZ3 := hZ2.out.keep hk3 (by omega)
  have hK3 := hK2.out.then hk3
  obtain ⟨zf, zl, z0, z1, z2, z3, z4, z5⟩ := hZ3.all
  have six := hZ3.six (.int .i64 2) (.int .i64 0) (.int .i64 0) (.int .i64 0) (.string s) (.slice none 0 0)
  replace six := Lib.hid six
  clear hk3 hZ3 hZ2 hM2 hK2
  replace hM3 := Lib.hid hM3
  replace hK3 := Lib.hid hK3
  replace hs := Lib.hid hs
  go_wp2_with fail
  refine bodyPost_ret (v := .agg #[.int .i64 2, .int .i64 0, .int .i64 0, .int .i64 0, .string s, .slice none 0 0]) (by simp [results, Try.results7, go_sem, six.out]) rfl ?_
  obtain ⟨hW, hd⟩ := WM_of (h := ⟨2, 0, 0, 0, s⟩) (ts := []) (D := D) ⟨rfl, rfl, rfl, fun h => by simp at h, fun _ => hs.out, fun h => by simp at h, fun h => by simp at h, fun h => by simp at h, fun h => by simp at h⟩ (.inl ⟨rfl, by simp⟩) (fun t ht => by cases ht)
  exact MXm_fin (h := ⟨2, 0, 0, 0, s⟩) (ts := []) (c := 0) hg hK3.out hM3.out hBw trivial rfl (by decide) hW hd _ _ _ _ _ _
set_option maxRecDepth 100000 in
set_option maxHeartbeats 6400000 in
theorem MakeExpr_1 (p B D : Nat) (d : Int) (w : World) (hM : MKm w p B) (hd1 : 1 < d) (hd2 : d ≤ 1000)
    (hNx : ∀ (n : Nat) W, 0 < n → n ≤ 1000 → MKm W p B → Calls Try.prog 13 #[.pointer (some ⟨p, 0, none⟩), .int .i64 (n : Int)] W (NX n p B W))
    (hEs : 1 < d → ∀ (n : Nat) W, n ≤ 3 → MKm W p B → Calls Try.prog 16 #[.pointer (some ⟨p, 0, none⟩), .int .i64 (d - 1), .int .i64 (n : Int)] W (MXms D p B n W))
    (h12 : Calls Try.prog 13 #[.pointer (some ⟨p, 0, none⟩), .int .i64 12] (w.alloc (.cells #[.int .i64 0, .int .i64 0, .int .i64 0, .int .i64 0, .string ⟨#[]⟩, .slice none 0 0] 32)) fun e w' => e = .returned (.int .i64 1) ∧ MKm w' p B ∧ Keep (· = p) (w.alloc (.cells #[.int .i64 0, .int .i64 0, .int .i64 0, .int .i64 0, .string ⟨#[]⟩, .slice none 0 0] 32)) w') :
    Calls Try.prog 7 #[.pointer (some ⟨p, 0, none⟩), .int .i64 d] w (MXm (D + 1) p B w) := by
  have hpB := hM.1
  have hBw := hM.2.1
  have hZ1 : EZ (w.alloc (.cells #[.int .i64 0, .int .i64 0, .int .i64 0, .int .i64 0, .string ⟨#[]⟩, .slice none 0 0] 32)) w.heap.size := heap_alloc_new w _
  have hM1 := hM.alloc (.cells #[.int .i64 0, .int .i64 0, .int .i64 0, .int .i64 0, .string ⟨#[]⟩, .slice none 0 0] 32)
  have hK1 := Keep.al0 (· = p) w (.cells #[.int .i64 0, .int .i64 0, .int .i64 0, .int .i64 0, .string ⟨#[]⟩, .slice none 0 0] 32)
  have hs1 : (w.alloc (.cells #[.int .i64 0, .int .i64 0, .int .i64 0, .int .i64 0, .string ⟨#[]⟩, .slice none 0 0] 32)).heap.size = w.heap.size + 1 := by simp
  obtain ⟨g, hg⟩ : ∃ g, w.heap.size = g := ⟨_, rfl⟩
  rw [hg] at hZ1 hs1 hBw
  replace h12 := Lib.hid h12
  replace hNx := Lib.hid hNx
  replace hEs := Lib.hid hEs
  replace hZ1 := Lib.hid hZ1
  replace hM1 := Lib.hid hM1
  replace hK1 := Lib.hid hK1
  replace hs1 := Lib.hid hs1
  replace hM := Lib.hid hM
  go_enter Try.func7, Try.ntmps7
  go_wp2_with fail
  (with_reducible refine h12.out.mono ?_)
  rintro e w1 ⟨rfl, hM2, hk2⟩
  have hZ2 := hZ1.out.keep hk2 (by omega)
  have hK2 := hK1.out.then hk2
  have hs2 : g < w1.heap.size := by have := hk2.size; have := hs1.out; omega
  clear hk2
  replace hZ2 := Lib.hid hZ2
  replace hM2 := Lib.hid hM2
  replace hK2 := Lib.hid hK2
  have hnd : ¬ d ≤ 1 := by omega
  have hw1 : IntKind.i64.wrap (d - 1) = d - 1 := IntWalk.i64_in _ (by omega)
  have hes := hEs.out hd1
  have hes1 : ∀ W, MKm W p B → Calls Try.prog 16 #[.pointer (some ⟨p, 0, none⟩), .int .i64 (d - 1), .int .i64 1] W (MXms D p B 1 W) := fun W q => hes 1 W (by decide) q
  have hes2 : ∀ W, MKm W p B → Calls Try.prog 16 #[.pointer (some ⟨p, 0, none⟩), .int .i64 (d - 1), .int .i64 2] W (MXms D p B 2 W) := fun W q => hes 2 W (by decide) q
  have hes3 : ∀ W, MKm W p B → Calls Try.prog 16 #[.pointer (some ⟨p, 0, none⟩), .int .i64 (d - 1), .int .i64 3] W (MXms D p B 3 W) := fun W q => hes 3 W (by decide) q
  have hn2 : ∀ W, MKm W p B → Calls Try.prog 13 #[.pointer (some ⟨p, 0, none⟩), .int .i64 2] W (NX 2 p B W) := fun W q => hNx.out 2 W (by decide) (by decide) q
  unfold NX at hn2
  replace hn2 := Lib.hid hn2
  have hn3 : ∀ W, MKm W p B → Calls Try.prog 13 #[.pointer (some ⟨p, 0, none⟩), .int .i64 3] W (NX 3 p B W) := fun W q => hNx.out 3 W (by decide) (by decide) q
  unfold NX at hn3
  replace hn3 := Lib.hid hn3
  have hn4 : ∀ W, MKm W p B → Calls Try.prog 13 #[.pointer (some ⟨p, 0, none⟩), .int .i64 4] W (NX 4 p B W) := fun W q => hNx.out 4 W (by decide) (by decide) q
  unfold NX at hn4
  replace hn4 := Lib.hid hn4
  have hn9 : ∀ W, MKm W p B → Calls Try.prog 13 #[.pointer (some ⟨p, 0, none⟩), .int .i64 9] W (NX 9 p B W) := fun W q => hNx.out 9 W (by decide) (by decide) q
  unfold NX at hn9
  replace hn9 := Lib.hid hn9
  have hn21 : ∀ W, MKm W p B → Calls Try.prog 13 #[.pointer (some ⟨p, 0, none⟩), .int .i64 21] W (NX 21 p B W) := fun W q => hNx.out 21 W (by decide) (by decide) q
  unfold NX at hn21
  replace hn21 := Lib.hid hn21
  unfold MXms at hes hes1 hes2 hes3
  replace hes := Lib.hid hes
  replace hes1 := Lib.hid hes1
  replace hes2 := Lib.hid hes2
  replace hes3 := Lib.hid hes3
  go_wp2_with fail
  (with_reducible refine (mname_t p B _ hM2.out).mono ?_)
  rintro e w2 ⟨s, rfl, hs, hM3, hk3⟩
  have hZ3 := hZ2.out.keep hk3 (by omega)
  have hK3 := hK2.out.then hk3
  obtain ⟨zf, zl, z0, z1, z2, z3, z4, z5⟩ := hZ3.all
  have six := hZ3.six (.int .i64 2) (.int .i64 0) (.int .i64 0) (.int .i64 0) (.string s) (.slice none 0 0)
  replace six := Lib.hid six
  clear hk3 hZ3 hZ2 hM2 hK2
  replace hM3 := Lib.hid hM3
  replace hK3 := Lib.hid hK3
  replace hs := Lib.hid hs
  go_wp2_with fail
  refine bodyPost_ret (v := .agg #[.int .i64 2, .int .i64 0, .int .i64 0, .int .i64 0, .string s, .slice none 0 0]) (by simp [results, Try.results7, go_sem, six.out]) rfl ?_
  obtain ⟨hW, hd⟩ := WM_of (h := ⟨2, 0, 0, 0, s⟩) (ts := []) (D := D) ⟨rfl, rfl, rfl, fun h => by simp at h, fun _ => hs.out, fun h => by simp at h, fun h => by simp at h, fun h => by simp at h, fun h => by simp at h⟩ (.inl ⟨rfl, by simp⟩) (fun t ht => by cases ht)
  exact MXm_fin (h := ⟨2, 0, 0, 0, s⟩) (ts := []) (c := 0) hg hK3.out hM3.out hBw trivial rfl (by decide) hW hd _ _ _ _ _ _
set_option maxRecDepth 100000 in
set_option maxHeartbeats 6400000 in
theorem MakeExpr_2 (p B D : Nat) (d : Int) (w : World) (hM : MKm w p B) (hd1 : 1 < d) (hd2 : d ≤ 1000)
    (hNx : ∀ (n : Nat) W, 0 < n → n ≤ 1000 → MKm W p B → Calls Try.prog 13 #[.pointer (some ⟨p, 0, none⟩), .int .i64 (n : Int)] W (NX n p B W))
    (hEs : 1 < d → ∀ (n : Nat) W, n ≤ 3 → MKm W p B → Calls Try.prog 16 #[.pointer (some ⟨p, 0, none⟩), .int .i64 (d - 1), .int .i64 (n : Int)] W (MXms D p B n W))
    (h12 : Calls Try.prog 13 #[.pointer (some ⟨p, 0, none⟩), .int .i64 12] (w.alloc (.cells #[.int .i64 0, .int .i64 0, .int .i64 0, .int .i64 0, .string ⟨#[]⟩, .slice none 0 0] 32)) fun e w' => e = .returned (.int .i64 2) ∧ MKm w' p B ∧ Keep (· = p) (w.alloc (.cells #[.int .i64 0, .int .i64 0, .int .i64 0, .int .i64 0, .string ⟨#[]⟩, .slice none 0 0] 32)) w') :
    Calls Try.prog 7 #[.pointer (some ⟨p, 0, none⟩), .int .i64 d] w (MXm (D + 1) p B w) := by
  have hpB := hM.1
  have hBw := hM.2.1
  have hZ1 : EZ (w.alloc (.cells #[.int .i64 0, .int .i64 0, .int .i64 0, .int .i64 0, .string ⟨#[]⟩, .slice none 0 0] 32)) w.heap.size := heap_alloc_new w _
  have hM1 := hM.alloc (.cells #[.int .i64 0, .int .i64 0, .int .i64 0, .int .i64 0, .string ⟨#[]⟩, .slice none 0 0] 32)
  have hK1 := Keep.al0 (· = p) w (.cells #[.int .i64 0, .int .i64 0, .int .i64 0, .int .i64 0, .string ⟨#[]⟩, .slice none 0 0] 32)
  have hs1 : (w.alloc (.cells #[.int .i64 0, .int .i64 0, .int .i64 0, .int .i64 0, .string ⟨#[]⟩, .slice none 0 0] 32)).heap.size = w.heap.size + 1 := by simp
  obtain ⟨g, hg⟩ : ∃ g, w.heap.size = g := ⟨_, rfl⟩
  rw [hg] at hZ1 hs1 hBw
  replace h12 := Lib.hid h12
  replace hNx := Lib.hid hNx
  replace hEs := Lib.hid hEs
  replace hZ1 := Lib.hid hZ1
  replace hM1 := Lib.hid hM1
  replace hK1 := Lib.hid hK1
  replace hs1 := Lib.hid hs1
  replace hM := Lib.hid hM
  go_enter Try.func7, Try.ntmps7
  go_wp2_with fail
  (with_reducible refine h12.out.mono ?_)
  rintro e w1 ⟨rfl, hM2, hk2⟩
  have hZ2 := hZ1.out.keep hk2 (by omega)
  have hK2 := hK1.out.then hk2
  have hs2 : g < w1.heap.size := by have := hk2.size; have := hs1.out; omega
  clear hk2
  replace hZ2 := Lib.hid hZ2
  replace hM2 := Lib.hid hM2
  replace hK2 := Lib.hid hK2
  have hnd : ¬ d ≤ 1 := by omega
  have hw1 : IntKind.i64.wrap (d - 1) = d - 1 := IntWalk.i64_in _ (by omega)
  have hes := hEs.out hd1
  have hes1 : ∀ W, MKm W p B → Calls Try.prog 16 #[.pointer (some ⟨p, 0, none⟩), .int .i64 (d - 1), .int .i64 1] W (MXms D p B 1 W) := fun W q => hes 1 W (by decide) q
  have hes2 : ∀ W, MKm W p B → Calls Try.prog 16 #[.pointer (some ⟨p, 0, none⟩), .int .i64 (d - 1), .int .i64 2] W (MXms D p B 2 W) := fun W q => hes 2 W (by decide) q
  have hes3 : ∀ W, MKm W p B → Calls Try.prog 16 #[.pointer (some ⟨p, 0, none⟩), .int .i64 (d - 1), .int .i64 3] W (MXms D p B 3 W) := fun W q => hes 3 W (by decide) q
  have hn2 : ∀ W, MKm W p B → Calls Try.prog 13 #[.pointer (some ⟨p, 0, none⟩), .int .i64 2] W (NX 2 p B W) := fun W q => hNx.out 2 W (by decide) (by decide) q
  unfold NX at hn2
  replace hn2 := Lib.hid hn2
  have hn3 : ∀ W, MKm W p B → Calls Try.prog 13 #[.pointer (some ⟨p, 0, none⟩), .int .i64 3] W (NX 3 p B W) := fun W q => hNx.out 3 W (by decide) (by decide) q
  unfold NX at hn3
  replace hn3 := Lib.hid hn3
  have hn4 : ∀ W, MKm W p B → Calls Try.prog 13 #[.pointer (some ⟨p, 0, none⟩), .int .i64 4] W (NX 4 p B W) := fun W q => hNx.out 4 W (by decide) (by decide) q
  unfold NX at hn4
  replace hn4 := Lib.hid hn4
  have hn9 : ∀ W, MKm W p B → Calls Try.prog 13 #[.pointer (some ⟨p, 0, none⟩), .int .i64 9] W (NX 9 p B W) := fun W q => hNx.out 9 W (by decide) (by decide) q
  unfold NX at hn9
  replace hn9 := Lib.hid hn9
  have hn21 : ∀ W, MKm W p B → Calls Try.prog 13 #[.pointer (some ⟨p, 0, none⟩), .int .i64 21] W (NX 21 p B W) := fun W q => hNx.out 21 W (by decide) (by decide) q
  unfold NX at hn21
  replace hn21 := Lib.hid hn21
  unfold MXms at hes hes1 hes2 hes3
  replace hes := Lib.hid hes
  replace hes1 := Lib.hid hes1
  replace hes2 := Lib.hid hes2
  replace hes3 := Lib.hid hes3
  go_wp2_with fail
  (with_reducible refine (mnumber_t p B _ hM2.out).mono ?_)
  rintro e w2 ⟨s, rfl, hs, hM3, hk3⟩
  have hZ3 := hZ2.out.keep hk3 (by omega)
  have hK3 := hK2.out.then hk3
  obtain ⟨zf, zl, z0, z1, z2, z3, z4, z5⟩ := hZ3.all
  have six := hZ3.six (.int .i64 1) (.int .i64 0) (.int .i64 0) (.int .i64 0) (.string s) (.slice none 0 0)
  replace six := Lib.hid six
  clear hk3 hZ3 hZ2 hM2 hK2
  replace hM3 := Lib.hid hM3
  replace hK3 := Lib.hid hK3
  replace hs := Lib.hid hs
  go_wp2_with fail
  refine bodyPost_ret (v := .agg #[.int .i64 1, .int .i64 0, .int .i64 0, .int .i64 0, .string s, .slice none 0 0]) (by simp [results, Try.results7, go_sem, six.out]) rfl ?_
  obtain ⟨hW, hd⟩ := WM_of (h := ⟨1, 0, 0, 0, s⟩) (ts := []) (D := D) ⟨rfl, rfl, rfl, fun _ => hs.out, fun h => by simp at h, fun h => by simp at h, fun h => by simp at h, fun h => by simp at h, fun h => by simp at h⟩ (.inl ⟨rfl, by simp⟩) (fun t ht => by cases ht)
  exact MXm_fin (h := ⟨1, 0, 0, 0, s⟩) (ts := []) (c := 0) hg hK3.out hM3.out hBw trivial rfl (by decide) hW hd _ _ _ _ _ _
set_option maxRecDepth 100000 in
set_option maxHeartbeats 6400000 in
theorem MakeExpr_7 (p B D : Nat) (d : Int) (w : World) (hM : MKm w p B) (hd1 : 1 < d) (hd2 : d ≤ 1000)
    (hNx : ∀ (n : Nat) W, 0 < n → n ≤ 1000 → MKm W p B → Calls Try.prog 13 #[.pointer (some ⟨p, 0, none⟩), .int .i64 (n : Int)] W (NX n p B W))
    (hEs : 1 < d → ∀ (n : Nat) W, n ≤ 3 → MKm W p B → Calls Try.prog 16 #[.pointer (some ⟨p, 0, none⟩), .int .i64 (d - 1), .int .i64 (n : Int)] W (MXms D p B n W))
    (h12 : Calls Try.prog 13 #[.pointer (some ⟨p, 0, none⟩), .int .i64 12] (w.alloc (.cells #[.int .i64 0, .int .i64 0, .int .i64 0, .int .i64 0, .string ⟨#[]⟩, .slice none 0 0] 32)) fun e w' => e = .returned (.int .i64 7) ∧ MKm w' p B ∧ Keep (· = p) (w.alloc (.cells #[.int .i64 0, .int .i64 0, .int .i64 0, .int .i64 0, .string ⟨#[]⟩, .slice none 0 0] 32)) w') :
    Calls Try.prog 7 #[.pointer (some ⟨p, 0, none⟩), .int .i64 d] w (MXm (D + 1) p B w) := by
  have hpB := hM.1
  have hBw := hM.2.1
  have hZ1 : EZ (w.alloc (.cells #[.int .i64 0, .int .i64 0, .int .i64 0, .int .i64 0, .string ⟨#[]⟩, .slice none 0 0] 32)) w.heap.size := heap_alloc_new w _
  have hM1 := hM.alloc (.cells #[.int .i64 0, .int .i64 0, .int .i64 0, .int .i64 0, .string ⟨#[]⟩, .slice none 0 0] 32)
  have hK1 := Keep.al0 (· = p) w (.cells #[.int .i64 0, .int .i64 0, .int .i64 0, .int .i64 0, .string ⟨#[]⟩, .slice none 0 0] 32)
  have hs1 : (w.alloc (.cells #[.int .i64 0, .int .i64 0, .int .i64 0, .int .i64 0, .string ⟨#[]⟩, .slice none 0 0] 32)).heap.size = w.heap.size + 1 := by simp
  obtain ⟨g, hg⟩ : ∃ g, w.heap.size = g := ⟨_, rfl⟩
  rw [hg] at hZ1 hs1 hBw
  replace h12 := Lib.hid h12
  replace hNx := Lib.hid hNx
  replace hEs := Lib.hid hEs
  replace hZ1 := Lib.hid hZ1
  replace hM1 := Lib.hid hM1
  replace hK1 := Lib.hid hK1
  replace hs1 := Lib.hid hs1
  replace hM := Lib.hid hM
  go_enter Try.func7, Try.ntmps7
  go_wp2_with fail
  (with_reducible refine h12.out.mono ?_)
  rintro e w1 ⟨rfl, hM2, hk2⟩
  have hZ2 := hZ1.out.keep hk2 (by omega)
  have hK2 := hK1.out.then hk2
  have hs2 : g < w1.heap.size := by have := hk2.size; have := hs1.out; omega
  clear hk2
  replace hZ2 := Lib.hid hZ2
  replace hM2 := Lib.hid hM2
  replace hK2 := Lib.hid hK2
  have hnd : ¬ d ≤ 1 := by omega
  have hw1 : IntKind.i64.wrap (d - 1) = d - 1 := IntWalk.i64_in _ (by omega)
  have hes := hEs.out hd1
  have hes1 : ∀ W, MKm W p B → Calls Try.prog 16 #[.pointer (some ⟨p, 0, none⟩), .int .i64 (d - 1), .int .i64 1] W (MXms D p B 1 W) := fun W q => hes 1 W (by decide) q
  have hes2 : ∀ W, MKm W p B → Calls Try.prog 16 #[.pointer (some ⟨p, 0, none⟩), .int .i64 (d - 1), .int .i64 2] W (MXms D p B 2 W) := fun W q => hes 2 W (by decide) q
  have hes3 : ∀ W, MKm W p B → Calls Try.prog 16 #[.pointer (some ⟨p, 0, none⟩), .int .i64 (d - 1), .int .i64 3] W (MXms D p B 3 W) := fun W q => hes 3 W (by decide) q
  have hn2 : ∀ W, MKm W p B → Calls Try.prog 13 #[.pointer (some ⟨p, 0, none⟩), .int .i64 2] W (NX 2 p B W) := fun W q => hNx.out 2 W (by decide) (by decide) q
  unfold NX at hn2
  replace hn2 := Lib.hid hn2
  have hn3 : ∀ W, MKm W p B → Calls Try.prog 13 #[.pointer (some ⟨p, 0, none⟩), .int .i64 3] W (NX 3 p B W) := fun W q => hNx.out 3 W (by decide) (by decide) q
  unfold NX at hn3
  replace hn3 := Lib.hid hn3
  have hn4 : ∀ W, MKm W p B → Calls Try.prog 13 #[.pointer (some ⟨p, 0, none⟩), .int .i64 4] W (NX 4 p B W) := fun W q => hNx.out 4 W (by decide) (by decide) q
  unfold NX at hn4
  replace hn4 := Lib.hid hn4
  have hn9 : ∀ W, MKm W p B → Calls Try.prog 13 #[.pointer (some ⟨p, 0, none⟩), .int .i64 9] W (NX 9 p B W) := fun W q => hNx.out 9 W (by decide) (by decide) q
  unfold NX at hn9
  replace hn9 := Lib.hid hn9
  have hn21 : ∀ W, MKm W p B → Calls Try.prog 13 #[.pointer (some ⟨p, 0, none⟩), .int .i64 21] W (NX 21 p B W) := fun W q => hNx.out 21 W (by decide) (by decide) q
  unfold NX at hn21
  replace hn21 := Lib.hid hn21
  unfold MXms at hes hes1 hes2 hes3
  replace hes := Lib.hid hes
  replace hes1 := Lib.hid hes1
  replace hes2 := Lib.hid hes2
  replace hes3 := Lib.hid hes3
  go_wp2_with fail
  (with_reducible refine (hes3.out _ hM2.out).mono ?_)
  rintro e w2 ⟨ts, A2, c2, hl, rfl, hts, hX, hM3, hk3⟩
  have hZ3 := hZ2.out.keep hk3 (by omega)
  have hK3 := hK2.out.then hk3
  obtain ⟨zf, zl, z0, z1, z2, z3, z4, z5⟩ := hZ3.all
  have six := hZ3.six (.int .i64 5) (.int .i64 0) (.int .i64 0) (.int .i64 0) (.string ⟨#[]⟩) (.slice A2 3 c2)
  have hX1 : ∀ hd, XQ w2 (fun b => g < b ∧ b < w2.heap.size) (mkT hd ts) A2 := fun hd => (hX hd).over (fun _ _ => rfl) fun b hb => ⟨Nat.lt_of_lt_of_le hs2 hb.1, hb.2⟩
  replace six := Lib.hid six
  clear hk3 hZ3 hZ2 hM2 hK2 hX
  replace hM3 := Lib.hid hM3
  replace hK3 := Lib.hid hK3
  replace hX1 := Lib.hid hX1
  replace hts := Lib.hid hts
  replace hl := Lib.hid hl
  go_wp2_with fail
  refine bodyPost_ret (v := .agg #[.int .i64 5, .int .i64 0, .int .i64 0, .int .i64 0, .string ⟨#[]⟩, .slice A2 3 c2]) (by simp [results, Try.results7, go_sem, six.out]) rfl ?_
  have hl0 := hl.out
  obtain ⟨hW, hd⟩ := WM_of (h := ⟨5, 0, 0, 0, ⟨#[]⟩⟩) (ts := ts) (D := D) ⟨rfl, rfl, rfl, fun h => by simp at h, fun h => by simp at h, fun h => by simp at h, fun h => by simp at h, fun _ => nil_list, fun h => by simp at h⟩ (by simp; omega) hts.out
  exact MXm_fin (h := ⟨5, 0, 0, 0, ⟨#[]⟩⟩) (ts := ts) (c := c2) hg hK3.out hM3.out hBw (hX1.out _) hl0 (by omega) hW hd _ _ _ _ _ _
set_option maxRecDepth 100000 in
set_option maxHeartbeats 6400000 in
theorem MakeExpr_8 (p B D : Nat) (d : Int) (w : World) (hM : MKm w p B) (hd1 : 1 < d) (hd2 : d ≤ 1000)
    (hNx : ∀ (n : Nat) W, 0 < n → n ≤ 1000 → MKm W p B → Calls Try.prog 13 #[.pointer (some ⟨p, 0, none⟩), .int .i64 (n : Int)] W (NX n p B W))
    (hEs : 1 < d → ∀ (n : Nat) W, n ≤ 3 → MKm W p B → Calls Try.prog 16 #[.pointer (some ⟨p, 0, none⟩), .int .i64 (d - 1), .int .i64 (n : Int)] W (MXms D p B n W))
    (h12 : Calls Try.prog 13 #[.pointer (some ⟨p, 0, none⟩), .int .i64 12] (w.alloc (.cells #[.int .i64 0, .int .i64 0, .int .i64 0, .int .i64 0, .string ⟨#[]⟩, .slice none 0 0] 32)) fun e w' => e = .returned (.int .i64 8) ∧ MKm w' p B ∧ Keep (· = p) (w.alloc (.cells #[.int .i64 0, .int .i64 0, .int .i64 0, .int .i64 0, .string ⟨#[]⟩, .slice none 0 0] 32)) w') :
    Calls Try.prog 7 #[.pointer (some ⟨p, 0, none⟩), .int .i64 d] w (MXm (D + 1) p B w) := by
  have hpB := hM.1
  have hBw := hM.2.1
  have hZ1 : EZ (w.alloc (.cells #[.int .i64 0, .int .i64 0, .int .i64 0, .int .i64 0, .string ⟨#[]⟩, .slice none 0 0] 32)) w.heap.size := heap_alloc_new w _
  have hM1 := hM.alloc (.cells #[.int .i64 0, .int .i64 0, .int .i64 0, .int .i64 0, .string ⟨#[]⟩, .slice none 0 0] 32)
  have hK1 := Keep.al0 (· = p) w (.cells #[.int .i64 0, .int .i64 0, .int .i64 0, .int .i64 0, .string ⟨#[]⟩, .slice none 0 0] 32)
  have hs1 : (w.alloc (.cells #[.int .i64 0, .int .i64 0, .int .i64 0, .int .i64 0, .string ⟨#[]⟩, .slice none 0 0] 32)).heap.size = w.heap.size + 1 := by simp
  obtain ⟨g, hg⟩ : ∃ g, w.heap.size = g := ⟨_, rfl⟩
  rw [hg] at hZ1 hs1 hBw
  replace h12 := Lib.hid h12
  replace hNx := Lib.hid hNx
  replace hEs := Lib.hid hEs
  replace hZ1 := Lib.hid hZ1
  replace hM1 := Lib.hid hM1
  replace hK1 := Lib.hid hK1
  replace hs1 := Lib.hid hs1
  replace hM := Lib.hid hM
  go_enter Try.func7, Try.ntmps7
  go_wp2_with fail
  (with_reducible refine h12.out.mono ?_)
  rintro e w1 ⟨rfl, hM2, hk2⟩
  have hZ2 := hZ1.out.keep hk2 (by omega)
  have hK2 := hK1.out.then hk2
  have hs2 : g < w1.heap.size := by have := hk2.size; have := hs1.out; omega
  clear hk2
  replace hZ2 := Lib.hid hZ2
  replace hM2 := Lib.hid hM2
  replace hK2 := Lib.hid hK2
  have hnd : ¬ d ≤ 1 := by omega
  have hw1 : IntKind.i64.wrap (d - 1) = d - 1 := IntWalk.i64_in _ (by omega)
  have hes := hEs.out hd1
  have hes1 : ∀ W, MKm W p B → Calls Try.prog 16 #[.pointer (some ⟨p, 0, none⟩), .int .i64 (d - 1), .int .i64 1] W (MXms D p B 1 W) := fun W q => hes 1 W (by decide) q
  have hes2 : ∀ W, MKm W p B → Calls Try.prog 16 #[.pointer (some ⟨p, 0, none⟩), .int .i64 (d - 1), .int .i64 2] W (MXms D p B 2 W) := fun W q => hes 2 W (by decide) q
  have hes3 : ∀ W, MKm W p B → Calls Try.prog 16 #[.pointer (some ⟨p, 0, none⟩), .int .i64 (d - 1), .int .i64 3] W (MXms D p B 3 W) := fun W q => hes 3 W (by decide) q
  have hn2 : ∀ W, MKm W p B → Calls Try.prog 13 #[.pointer (some ⟨p, 0, none⟩), .int .i64 2] W (NX 2 p B W) := fun W q => hNx.out 2 W (by decide) (by decide) q
  unfold NX at hn2
  replace hn2 := Lib.hid hn2
  have hn3 : ∀ W, MKm W p B → Calls Try.prog 13 #[.pointer (some ⟨p, 0, none⟩), .int .i64 3] W (NX 3 p B W) := fun W q => hNx.out 3 W (by decide) (by decide) q
  unfold NX at hn3
  replace hn3 := Lib.hid hn3
  have hn4 : ∀ W, MKm W p B → Calls Try.prog 13 #[.pointer (some ⟨p, 0, none⟩), .int .i64 4] W (NX 4 p B W) := fun W q => hNx.out 4 W (by decide) (by decide) q
  unfold NX at hn4
  replace hn4 := Lib.hid hn4
  have hn9 : ∀ W, MKm W p B → Calls Try.prog 13 #[.pointer (some ⟨p, 0, none⟩), .int .i64 9] W (NX 9 p B W) := fun W q => hNx.out 9 W (by decide) (by decide) q
  unfold NX at hn9
  replace hn9 := Lib.hid hn9
  have hn21 : ∀ W, MKm W p B → Calls Try.prog 13 #[.pointer (some ⟨p, 0, none⟩), .int .i64 21] W (NX 21 p B W) := fun W q => hNx.out 21 W (by decide) (by decide) q
  unfold NX at hn21
  replace hn21 := Lib.hid hn21
  unfold MXms at hes hes1 hes2 hes3
  replace hes := Lib.hid hes
  replace hes1 := Lib.hid hes1
  replace hes2 := Lib.hid hes2
  replace hes3 := Lib.hid hes3
  go_wp2_with fail
  (with_reducible refine (hn3.out _ hM2.out).mono ?_)
  rintro e w2 ⟨r2, hr2, rfl, hM3, hk3⟩
  have hZ3 := hZ2.out.keep hk3 (by omega)
  have hK3 := hK2.out.then hk3
  have hs3 : g < w2.heap.size := Nat.lt_of_lt_of_le hs2 hk3.size
  clear hk3 hZ2 hM2 hK2
  replace hZ3 := Lib.hid hZ3
  replace hM3 := Lib.hid hM3
  replace hK3 := Lib.hid hK3
  obtain ⟨n, hn⟩ : ∃ n, 1 + r2 = n := ⟨_, rfl⟩
  have hwn : IntKind.i64.wrap (1 + (r2 : Int)) = (n : Int) := by rw [IntWalk.i64_in _ (by omega)]; omega
  have hn1 : 1 ≤ n ∧ n < 1 + 3 := by omega
  clear hn hr2
  go_wp2_with fail
  (with_reducible refine (hes.out n _ (by omega) hM3.out).mono ?_)
  rintro e w3 ⟨ts, A2, c2, hl, rfl, hts, hX, hM4, hk4⟩
  have hZ4 := hZ3.out.keep hk4 (by omega)
  have hK4 := hK3.out.then hk4
  obtain ⟨zf, zl, z0, z1, z2, z3, z4, z5⟩ := hZ4.all
  have six := hZ4.six (.int .i64 6) (.int .i64 0) (.int .i64 0) (.int .i64 0) (.string ⟨#[]⟩) (.slice A2 n c2)
  have hX1 : ∀ hd, XQ w3 (fun b => g < b ∧ b < w3.heap.size) (mkT hd ts) A2 := fun hd => (hX hd).over (fun _ _ => rfl) fun b hb => ⟨Nat.lt_of_lt_of_le hs3 hb.1, hb.2⟩
  replace six := Lib.hid six
  clear hk4 hZ4 hZ3 hM3 hK3 hX
  replace hM4 := Lib.hid hM4
  replace hK4 := Lib.hid hK4
  replace hX1 := Lib.hid hX1
  replace hts := Lib.hid hts
  replace hl := Lib.hid hl
  go_wp2_with fail
  refine bodyPost_ret (v := .agg #[.int .i64 6, .int .i64 0, .int .i64 0, .int .i64 0, .string ⟨#[]⟩, .slice A2 n c2]) (by simp [results, Try.results7, go_sem, six.out]) rfl ?_
  have hl0 := hl.out
  obtain ⟨hW, hd⟩ := WM_of (h := ⟨6, 0, 0, 0, ⟨#[]⟩⟩) (ts := ts) (D := D) ⟨rfl, rfl, rfl, fun h => by simp at h, fun h => by simp at h, fun h => by simp at h, fun h => by simp at h, fun _ => nil_list, fun h => by simp at h⟩ (by simp; omega) hts.out
  exact MXm_fin (h := ⟨6, 0, 0, 0, ⟨#[]⟩⟩) (ts := ts) (c := c2) hg hK4.out hM4.out hBw (hX1.out _) hl0 (by omega) hW hd _ _ _ _ _ _
set_option maxRecDepth 100000 in
set_option maxHeartbeats 6400000 in
theorem MakeExpr_9 (p B D : Nat) (d : Int) (w : World) (hM : MKm w p B) (hd1 : 1 < d) (hd2 : d ≤ 1000)
    (hNx : ∀ (n : Nat) W, 0 < n → n ≤ 1000 → MKm W p B → Calls Try.prog 13 #[.pointer (some ⟨p, 0, none⟩), .int .i64 (n : Int)] W (NX n p B W))
    (hEs : 1 < d → ∀ (n : Nat) W, n ≤ 3 → MKm W p B → Calls Try.prog 16 #[.pointer (some ⟨p, 0, none⟩), .int .i64 (d - 1), .int .i64 (n : Int)] W (MXms D p B n W))
    (h12 : Calls Try.prog 13 #[.pointer (some ⟨p, 0, none⟩), .int .i64 12] (w.alloc (.cells #[.int .i64 0, .int .i64 0, .int .i64 0, .int .i64 0, .string ⟨#[]⟩, .slice none 0 0] 32)) fun e w' => e = .returned (.int .i64 9) ∧ MKm w' p B ∧ Keep (· = p) (w.alloc (.cells #[.int .i64 0, .int .i64 0, .int .i64 0, .int .i64 0, .string ⟨#[]⟩, .slice none 0 0] 32)) w') :
    Calls Try.prog 7 #[.pointer (some ⟨p, 0, none⟩), .int .i64 d] w (MXm (D + 1) p B w) := by
  have hpB := hM.1
  have hBw := hM.2.1
  have hZ1 : EZ (w.alloc (.cells #[.int .i64 0, .int .i64 0, .int .i64 0, .int .i64 0, .string ⟨#[]⟩, .slice none 0 0] 32)) w.heap.size := heap_alloc_new w _
  have hM1 := hM.alloc (.cells #[.int .i64 0, .int .i64 0, .int .i64 0, .int .i64 0, .string ⟨#[]⟩, .slice none 0 0] 32)
  have hK1 := Keep.al0 (· = p) w (.cells #[.int .i64 0, .int .i64 0, .int .i64 0, .int .i64 0, .string ⟨#[]⟩, .slice none 0 0] 32)
  have hs1 : (w.alloc (.cells #[.int .i64 0, .int .i64 0, .int .i64 0, .int .i64 0, .string ⟨#[]⟩, .slice none 0 0] 32)).heap.size = w.heap.size + 1 := by simp
  obtain ⟨g, hg⟩ : ∃ g, w.heap.size = g := ⟨_, rfl⟩
  rw [hg] at hZ1 hs1 hBw
  replace h12 := Lib.hid h12
  replace hNx := Lib.hid hNx
  replace hEs := Lib.hid hEs
  replace hZ1 := Lib.hid hZ1
  replace hM1 := Lib.hid hM1
  replace hK1 := Lib.hid hK1
  replace hs1 := Lib.hid hs1
  replace hM := Lib.hid hM
  go_enter Try.func7, Try.ntmps7
  go_wp2_with fail
  (with_reducible refine h12.out.mono ?_)
  rintro e w1 ⟨rfl, hM2, hk2⟩
  have hZ2 := hZ1.out.keep hk2 (by omega)
  have hK2 := hK1.out.then hk2
  have hs2 : g < w1.heap.size := by have := hk2.size; have := hs1.out; omega
  clear hk2
  replace hZ2 := Lib.hid hZ2
  replace hM2 := Lib.hid hM2
  replace hK2 := Lib.hid hK2
  have hnd : ¬ d ≤ 1 := by omega
  have hw1 : IntKind.i64.wrap (d - 1) = d - 1 := IntWalk.i64_in _ (by omega)
  have hes := hEs.out hd1
  have hes1 : ∀ W, MKm W p B → Calls Try.prog 16 #[.pointer (some ⟨p, 0, none⟩), .int .i64 (d - 1), .int .i64 1] W (MXms D p B 1 W) := fun W q => hes 1 W (by decide) q
  have hes2 : ∀ W, MKm W p B → Calls Try.prog 16 #[.pointer (some ⟨p, 0, none⟩), .int .i64 (d - 1), .int .i64 2] W (MXms D p B 2 W) := fun W q => hes 2 W (by decide) q
  have hes3 : ∀ W, MKm W p B → Calls Try.prog 16 #[.pointer (some ⟨p, 0, none⟩), .int .i64 (d - 1), .int .i64 3] W (MXms D p B 3 W) := fun W q => hes 3 W (by decide) q
  have hn2 : ∀ W, MKm W p B → Calls Try.prog 13 #[.pointer (some ⟨p, 0, none⟩), .int .i64 2] W (NX 2 p B W) := fun W q => hNx.out 2 W (by decide) (by decide) q
  unfold NX at hn2
  replace hn2 := Lib.hid hn2
  have hn3 : ∀ W, MKm W p B → Calls Try.prog 13 #[.pointer (some ⟨p, 0, none⟩), .int .i64 3] W (NX 3 p B W) := fun W q => hNx.out 3 W (by decide) (by decide) q
  unfold NX at hn3
  replace hn3 := Lib.hid hn3
  have hn4 : ∀ W, MKm W p B → Calls Try.prog 13 #[.pointer (some ⟨p, 0, none⟩), .int .i64 4] W (NX 4 p B W) := fun W q => hNx.out 4 W (by decide) (by decide) q
  unfold NX at hn4
  replace hn4 := Lib.hid hn4
  have hn9 : ∀ W, MKm W p B → Calls Try.prog 13 #[.pointer (some ⟨p, 0, none⟩), .int .i64 9] W (NX 9 p B W) := fun W q => hNx.out 9 W (by decide) (by decide) q
  unfold NX at hn9
  replace hn9 := Lib.hid hn9
  have hn21 : ∀ W, MKm W p B → Calls Try.prog 13 #[.pointer (some ⟨p, 0, none⟩), .int .i64 21] W (NX 21 p B W) := fun W q => hNx.out 21 W (by decide) (by decide) q
  unfold NX at hn21
  replace hn21 := Lib.hid hn21
  unfold MXms at hes hes1 hes2 hes3
  replace hes := Lib.hid hes
  replace hes1 := Lib.hid hes1
  replace hes2 := Lib.hid hes2
  replace hes3 := Lib.hid hes3
  go_wp2_with fail
  (with_reducible refine (hn2.out _ hM2.out).mono ?_)
  rintro e w2 ⟨r2, hr2, rfl, hM3, hk3⟩
  have hZ3 := hZ2.out.keep hk3 (by omega)
  have hK3 := hK2.out.then hk3
  have hs3 : g < w2.heap.size := Nat.lt_of_lt_of_le hs2 hk3.size
  clear hk3 hZ2 hM2 hK2
  replace hZ3 := Lib.hid hZ3
  replace hM3 := Lib.hid hM3
  replace hK3 := Lib.hid hK3
  obtain ⟨n, hn⟩ : ∃ n, 2 + r2 = n := ⟨_, rfl⟩
  have hwn : IntKind.i64.wrap (2 + (r2 : Int)) = (n : Int) := by rw [IntWalk.i64_in _ (by omega)]; omega
  have hn1 : 2 ≤ n ∧ n < 2 + 2 := by omega
  clear hn hr2
  go_wp2_with fail
  (with_reducible refine (hes.out n _ (by omega) hM3.out).mono ?_)
  rintro e w3 ⟨ts, A2, c2, hl, rfl, hts, hX, hM4, hk4⟩
  have hZ4 := hZ3.out.keep hk4 (by omega)
  have hK4 := hK3.out.then hk4
  obtain ⟨zf, zl, z0, z1, z2, z3, z4, z5⟩ := hZ4.all
  have six := hZ4.six (.int .i64 7) (.int .i64 0) (.int .i64 0) (.int .i64 0) (.string ⟨#[]⟩) (.slice A2 n c2)
  have hX1 : ∀ hd, XQ w3 (fun b => g < b ∧ b < w3.heap.size) (mkT hd ts) A2 := fun hd => (hX hd).over (fun _ _ => rfl) fun b hb => ⟨Nat.lt_of_lt_of_le hs3 hb.1, hb.2⟩
  replace six := Lib.hid six
  clear hk4 hZ4 hZ3 hM3 hK3 hX
  replace hM4 := Lib.hid hM4
  replace hK4 := Lib.hid hK4
  replace hX1 := Lib.hid hX1
  replace hts := Lib.hid hts
  replace hl := Lib.hid hl
  go_wp2_with fail
  refine bodyPost_ret (v := .agg #[.int .i64 7, .int .i64 0, .int .i64 0, .int .i64 0, .string ⟨#[]⟩, .slice A2 n c2]) (by simp [results, Try.results7, go_sem, six.out]) rfl ?_
  have hl0 := hl.out
  obtain ⟨hW, hd⟩ := WM_of (h := ⟨7, 0, 0, 0, ⟨#[]⟩⟩) (ts := ts) (D := D) ⟨rfl, rfl, rfl, fun h => by simp at h, fun h => by simp at h, fun h => by simp at h, fun h => by simp at h, fun _ => nil_list, fun h => by simp at h⟩ (by simp; omega) hts.out
  exact MXm_fin (h := ⟨7, 0, 0, 0, ⟨#[]⟩⟩) (ts := ts) (c := c2) hg hK4.out hM4.out hBw (hX1.out _) hl0 (by omega) hW hd _ _ _ _ _ _
end Go.Proofs.Ytljiiniocnljmaa
