/-
  Package ast: Depth and Names whole.
-/
import Derived.Test.YtljiiniocnljmaaAd
import Derived.Test.YtljiiniocnljmaaLc
import Derived.Sort.OwnSorted
import Derived.Lib.OwnBridge
import Derived.Lib.RowBridge
namespace Go.Proofs.Ytljiiniocnljmaa
open Go.RowKit Go.Lib Go.Sort
/-- The slice is as it was, the row within is l. -/
def OSN (B : Nat) (v : Value) (l : List NB) (w w' : World) : Prop := w'.ownsRow B 9 1 v l.length (l.map encStr) ∧ Below B w w'
theorem SortN_s (B : Nat) (v : Value) (l : List NB) (w : World) (h : w.ownsRow B 9 1 v l.length (l.map encStr)) (hl : l.length ≤ 1000000000) (hB : B ≤ w.heap.size) :
    Calls Try.prog 22 #[v] w fun e w' => e = .returned (.tuple #[]) ∧ OSN B v (srtN l) w w' := by
  by_cases hn : v = .slice none 0 0
  · subst hn
    have h0 : l.length = 0 := by
      rcases h.2 with ⟨_, e⟩ | ⟨g, cap, cur, e, _⟩
      · exact e
      · cases e
    have h1 : l = [] := List.length_eq_zero_iff.1 h0
    subst h1
    exact (Try.slices_Sort_string_none _ _ w).mono fun e w' ⟨he, hw⟩ => ⟨he, by subst hw; exact ⟨by rw [show srtN [] = [] by simp [srtN]]; exact h, Below.refl _ _⟩⟩
  · obtain ⟨g, cap, rfl, hg, hgl, hcap, hmax, _, hH⟩ := holds_of_ownsRow h hn
    have := Try.slices_Sort_string g 0 cap l w hH hgl (by omega)
    refine this.mono fun e w' ⟨he, n, os, hw⟩ => ⟨he, ?_⟩
    subst hw
    rcases h.2 with ⟨e0, _⟩ | ⟨g', cap', cur, e0, hb, hgg, h1, h2, h3, h4⟩
    · cases e0
    cases e0
    have hl2 : (srtN l).length = l.length := srtN_len l
    refine ⟨?_, ?_⟩
    · have := ownsRow_sorted (n := n) (os := os) (ss := l) (ts := srtN l) hl2 hg hgg h1 h2 h3
      rw [← hl2] at this
      rw [hl2] at this ⊢
      exact this
    · exact (Below.refl B w).grown (grownBy_sorted (n := n) (os := os) (srtN l).toArray) hB (fun k e => by cases e; exact hg)
theorem CompactN_s (B : Nat) (v : Value) (l : List NB) (w : World) (h : w.ownsRow B 9 1 v l.length (l.map encStr)) (hl : l.length ≤ 1000000000) (hB : B ≤ w.heap.size) :
    Calls Try.prog 23 #[v] w fun e w' => ∃ v', e = .returned v' ∧ OSN B v' (Lib.compact l) w w' := by
  by_cases hn : v = .slice none 0 0
  · subst hn
    have h0 : l.length = 0 := by
      rcases h.2 with ⟨_, e⟩ | ⟨g, cap, cur, e, _⟩
      · exact e
      · cases e
    have h1 : l = [] := List.length_eq_zero_iff.1 h0
    subst h1
    exact (Try.slices_Compact_string_empty _ _ w).mono fun e w' ⟨he, hw⟩ => ⟨_, he, by subst hw; exact ⟨h, Below.refl _ _⟩⟩
  · obtain ⟨g, cap, rfl, hg, hgl, hcap, hmax, _, hH⟩ := holds_of_ownsRow h hn
    refine (Try.slices_Compact_string g 0 cap l w hH (by omega) hcap).mono fun e w' ⟨he, q, hw⟩ => ⟨_, he, ?_⟩
    subst hw
    have hle := compact_length_le l
    refine ⟨?_, below_putRow (Below.refl B w) hg⟩
    have := ownsRow_putRow (enc := encStr) (q := q) (ys := Lib.compact l ++ List.replicate (l.length - (Lib.compact l).length) []) h (by simp; omega) hle
    rw [List.take_left] at this
    exact this
/-- The greatest depth. -/
def dst (s : Int) (_ : XH) (d : Int) : Int := max s d
theorem dst_vis : ∀ (t : XT) (d s : Int), vis dst t d s = max s (d + t.dep)
  | .z h, d, s => by simp [vis, dst, XT.dep]
  | .u h x, d, s => by
    simp only [vis, dst_vis x, XT.dep, dst]; omega
  | .b h x y, d, s => by
    simp only [vis, dst_vis x, dst_vis y, XT.dep, dst]; omega
  | .t h x y q, d, s => by
    simp only [vis, dst_vis x, dst_vis y, dst_vis q, XT.dep, dst]; omega
theorem dep_VIS (p B : Nat) (hB : B ≤ p) : VIS p B 24 (fun (s : Int) W => W.heap[p]? = some (.cells #[.int .i64 s] 3 (0, 0))) dst (fun _ => 0) where
  en := enters_of Try.func24 (by kernel_rfl) rfl
  ft s W h g hg := by
    rcases hg with rfl | ⟨v, T, f, h1, h2⟩
    · exact ⟨hB, lt_of_get h⟩
    · rw [h] at h1; cases h1; cases h2
  kp s W W' h k _ := (k p (.inl rfl)).trans h
  me _ _ _ := by simp
  ct h A n c d s W hI _ := depth1_t h A n c d s p W hI
set_option maxRecDepth 100000 in
theorem Depth_t (t : XT) (A : Option Addr) (c : Nat) (w : World) (hX : XQ w (· < w.heap.size) t A) (hd : t.dep ≤ 900) (hn : t.nds ≤ 1000000) :
    Calls Try.prog 11 #[xv t.h A t.args.length c] w (RV w (.int .i64 ((t.dep : Int) + 1))) := by
  have hb1 := (Below.refl w.heap.size w).alloc (Nat.le_refl _) (.cells #[.int .i64 t.h.k, .int .i64 t.h.f, .int .i64 t.h.l, .int .i64 t.h.c, .string t.h.s, .slice A t.args.length c] 36)
  have hM1 := BX.new w 36 t.h A t.args.length c
  have hz1 : (w.alloc (.cells #[.int .i64 t.h.k, .int .i64 t.h.f, .int .i64 t.h.l, .int .i64 t.h.c, .string t.h.s, .slice A t.args.length c] 36)).heap.size = w.heap.size + 1 := by simp
  obtain ⟨g1, hg1⟩ : ∃ g, w.heap.size = g := ⟨_, rfl⟩
  obtain ⟨w1, hw1⟩ : ∃ W, w.alloc (.cells #[.int .i64 t.h.k, .int .i64 t.h.f, .int .i64 t.h.l, .int .i64 t.h.c, .string t.h.s, .slice A t.args.length c] 36) = W := ⟨_, rfl⟩
  rw [hg1, hw1] at hM1
  rw [hw1] at hb1
  rw [hw1, hg1] at hz1
  have hb2 := (Below.refl w1.heap.size w1).alloc (Nat.le_refl _) (.cells #[.int .i64 0] 3)
  have hP2 := heap_alloc_new w1 (.cells #[.int .i64 0] 3)
  have hz2 : (w1.alloc (.cells #[.int .i64 0] 3)).heap.size = g1 + 2 := by simp [hz1]
  obtain ⟨w2, hw2⟩ : ∃ W, w1.alloc (.cells #[.int .i64 0] 3) = W := ⟨_, rfl⟩
  rw [hz1, hw2] at hP2
  rw [hw2] at hb2 hz2
  have hM2 := hM1.ov hb2
  have hX2 := (hX.over (w' := w1) (G := (· < g1)) (fun b hb => hb1.block b hb) (fun b hb => by omega)).over (w' := w2) (G := (· < g1 + 1)) (fun b hb => hb2.block b (by omega)) (fun b hb => by omega)
  have hk2 := below_call hb2 hb1
  have hW := fun (W : World) (q : W.heap[g1 + 1]? = some (.cells #[.int .i64 0] 3 (0, 0))) (r : XQ W (· < g1 + 1) t A) => walk_all (dep_VIS (g1 + 1) (g1 + 1) (Nat.le_refl _)) t A c 1 0 W q r (by omega) (by decide) (by omega)
  rw [dst_vis, show max (0 : Int) (1 + (t.dep : Int)) = (t.dep : Int) + 1 by omega] at hW
  obtain ⟨D, hD⟩ : ∃ D : Int, (t.dep : Int) + 1 = D := ⟨_, rfl⟩
  rw [hD] at hW ⊢
  obtain ⟨n, hn'⟩ : ∃ n, t.args.length = n := ⟨_, rfl⟩
  rw [hn'] at hW hM2 hw1 ⊢
  obtain ⟨m0, m1, m2, m3, m4, m5⟩ := hM2.all
  have ml := hM2.lt
  replace hW := Lib.hid hW
  replace hP2 := Lib.hid hP2
  replace hX2 := Lib.hid hX2
  replace hk2 := Lib.hid hk2
  clear hX hb1 hb2 hM1 hM2 hD
  replace hw1 := Lib.hid hw1
  replace hw2 := Lib.hid hw2
  go_enter Try.func11, Try.ntmps11
  go_upto_region 2 with fail
  rw [hw1.out, hw2.out]
  clear hw1 hw2
  go_wp2_with fail
  (with_reducible refine (hW.out _ hP2.out hX2.out).mono ?_)
  rintro e w3 ⟨rfl, hP3, hWP⟩
  have hP3' : w3.heap[g1 + 1]? = some (.cells #[.int .i64 D] 3 (0, 0)) := hP3
  have c0 : w3.cell? ⟨g1 + 1, 0, none⟩ = some (.int .i64 D) := by rw [Lib.cell_of_heap hP3']; rfl
  have cl := lt_of_get hP3'
  have hbb : Below g1 w2 w3 := hWP.below (by omega) fun b hb => by
    have := ((dep_VIS (g1 + 1) (g1 + 1) (Nat.le_refl _)).ft 0 w2 hP2.out b hb).1
    omega
  have hk3 : Below w.heap.size w w3 := hk2.out.trans (by rw [hg1]; exact hbb)
  replace hk3 := Lib.hid hk3
  clear hP2 hX2 hk2 hW hP3 hP3' hWP hbb m0 m1 m2 m3 m4 m5 ml
  go_wp2_with fail
  go_ret
  exact ⟨rfl, by have := hk3.out; go_grown⟩
/-- The names on the way. -/
def nst (l : List NB) (h : XH) (_ : Int) : List NB := l ++ nm1 h
theorem nm1_len (h : XH) : (nm1 h).length ≤ 1 := by unfold nm1; split <;> simp
theorem nam_VIS (p B : Nat) : VIS p B 20 (fun (l : List NB) W => NV W p B l) nst List.length where
  en := enters_of Try.func20 (by kernel_rfl) rfl
  ft _ _ h g hg := h.ft g hg
  kp _ _ _ h k hz := h.keep k hz
  me l h _ := by
    have := nm1_len h
    simp only [nst, List.length_append]; omega
  ct h A n c d l W hI hl := names1_t h A n c d p B l W hI hl
def XT.nms (t : XT) : List NB := vis nst t 1 []
theorem own_raise {w : World} {B B' n : Nat} {e : TypeId} {sz : Nat} {v : Value} {xs : List Value} (h : w.ownsRow B e sz v n xs) (hg : ∀ g, v.ownBlock = some g → B ≤ g → B' ≤ g) : w.ownsRow B' e sz v n xs := by
  refine ⟨h.1, ?_⟩
  rcases h.2 with e0 | ⟨g, cap, cur, e, hb, h2⟩
  · exact .inl e0
  · subst e; exact .inr ⟨g, cap, cur, rfl, hg g rfl hb, h2⟩
set_option maxRecDepth 100000 in
set_option maxHeartbeats 1600000 in
theorem Names_t (t : XT) (A : Option Addr) (c : Nat) (w : World) (hX : XQ w (· < w.heap.size) t A) (hd : t.dep ≤ 900) (hn : t.nds ≤ 1000000) :
    Calls Try.prog 9 #[xv t.h A t.args.length c] w fun e w' => ∃ v, e = .returned v ∧ OSN w.heap.size v (insAll [] t.nms) w w' := by
  have hb1 := (Below.refl w.heap.size w).alloc (Nat.le_refl _) (.cells #[.int .i64 t.h.k, .int .i64 t.h.f, .int .i64 t.h.l, .int .i64 t.h.c, .string t.h.s, .slice A t.args.length c] 36)
  have hM1 := BX.new w 36 t.h A t.args.length c
  have hz1 : (w.alloc (.cells #[.int .i64 t.h.k, .int .i64 t.h.f, .int .i64 t.h.l, .int .i64 t.h.c, .string t.h.s, .slice A t.args.length c] 36)).heap.size = w.heap.size + 1 := by simp
  obtain ⟨g1, hg1⟩ : ∃ g, w.heap.size = g := ⟨_, rfl⟩
  obtain ⟨w1, hw1⟩ : ∃ W, w.alloc (.cells #[.int .i64 t.h.k, .int .i64 t.h.f, .int .i64 t.h.l, .int .i64 t.h.c, .string t.h.s, .slice A t.args.length c] 36) = W := ⟨_, rfl⟩
  rw [hg1, hw1] at hM1
  rw [hw1] at hb1
  rw [hw1, hg1] at hz1
  have hb2 := (Below.refl w1.heap.size w1).alloc (Nat.le_refl _) (.cells #[.slice none 0 0] 38)
  have hP2 := heap_alloc_new w1 (.cells #[.slice none 0 0] 38)
  have hz2 : (w1.alloc (.cells #[.slice none 0 0] 38)).heap.size = g1 + 2 := by simp [hz1]
  obtain ⟨w2, hw2⟩ : ∃ W, w1.alloc (.cells #[.slice none 0 0] 38) = W := ⟨_, rfl⟩
  rw [hz1, hw2] at hP2
  rw [hw2] at hb2 hz2
  have hM2 := hM1.ov hb2
  have hX2 := (hX.over (w' := w1) (G := (· < g1)) (fun b hb => hb1.block b hb) (fun b hb => by omega)).over (w' := w2) (G := (· < g1 + 1)) (fun b hb => hb2.block b (by omega)) (fun b hb => by omega)
  have hk2 := below_call hb2 hb1
  have hN2 : NV w2 (g1 + 1) (g1 + 1) [] := ⟨Nat.le_refl _, by omega, _, hP2, (by simp [Value.ownBlock]), ⟨rfl, Or.inl ⟨rfl, rfl⟩⟩⟩
  have hW := fun (W : World) (q : NV W (g1 + 1) (g1 + 1) []) (r : XQ W (· < g1 + 1) t A) => walk_all (nam_VIS (g1 + 1) (g1 + 1)) t A c 1 [] W q r (by simpa using hn) (by decide) (by omega)
  have hml := vis_meas nst List.length (nam_VIS (g1 + 1) (g1 + 1)).me t 1 []
  have hL : vis nst t 1 [] = t.nms := rfl
  rw [hL] at hW hml
  rw [← names_eq]
  obtain ⟨L, hLe⟩ : ∃ L, t.nms = L := ⟨_, rfl⟩
  rw [hLe] at hW hml ⊢
  have hlen : L.length ≤ 1000000 := by simp at hml; omega
  obtain ⟨n, hn'⟩ : ∃ n, t.args.length = n := ⟨_, rfl⟩
  rw [hn'] at hW hM2 hw1 ⊢
  obtain ⟨m0, m1, m2, m3, m4, m5⟩ := hM2.all
  have ml := hM2.lt
  replace hW := Lib.hid hW
  replace hN2 := Lib.hid hN2
  replace hX2 := Lib.hid hX2
  replace hk2 := Lib.hid hk2
  replace hlen := Lib.hid hlen
  clear hX hb1 hb2 hM1 hM2 hL hLe hml hP2
  replace hw1 := Lib.hid hw1
  replace hw2 := Lib.hid hw2
  go_enter Try.func9, Try.ntmps9
  go_upto_region 2 with fail
  rw [hw1.out, hw2.out]
  clear hw1 hw2
  go_wp2_with fail
  (with_reducible refine (hW.out _ hN2.out hX2.out).mono ?_)
  rintro e w3 ⟨rfl, hN3, hWP⟩
  have hbb : Below g1 w2 w3 := hWP.below (by omega) fun b hb => by
    have := (hN2.out.ft b hb).1
    omega
  have hk3 : Below w.heap.size w w3 := hk2.out.trans (by rw [hg1]; exact hbb)
  have hN3' : NV w3 (g1 + 1) (g1 + 1) L := hN3
  obtain ⟨_, hs3, v, hp3, hvn, ho3⟩ := hN3'
  have ho3' : w3.ownsRow (g1 + 1 + 1) 9 1 v L.length (L.map encStr) := own_raise ho3 fun g hg hb => by
    rcases Nat.lt_or_ge (g1 + 1) g with h | h
    · exact h
    · exact absurd (by rw [hg, show g = g1 + 1 by omega]) hvn
  have hpl := lt_of_get hp3
  have hSo := SortN_s (g1 + 1 + 1) v L w3 ho3' (by have := hlen.out; omega) (by omega)
  have c0 : w3.cell? ⟨g1 + 1, 0, none⟩ = some v := by rw [Lib.cell_of_heap hp3]; rfl
  obtain ⟨A3, c3, rfl⟩ := own_shape ho3
  replace hSo := Lib.hid hSo
  replace hk3 := Lib.hid hk3
  replace hp3 := Lib.hid hp3
  clear hN2 hX2 hk2 hW hN3 hWP hbb m0 m1 m2 m3 m4 m5 ml ho3 ho3' hvn
  go_wp2_with fail
  (with_reducible refine (hSo.out).mono ?_)
  rintro e w4 ⟨rfl, ho4, hb4⟩
  have hp4 := (hb4.block _ (by omega)).trans hp3.out
  have hk4 : Below w.heap.size w w4 := hk3.out.trans (hb4.mono (by omega))
  have hs4 : g1 + 1 + 1 ≤ w4.heap.size := Nat.le_trans hpl hb4.size
  have hCo := CompactN_s (g1 + 1 + 1) (.slice A3 L.length c3) (srtN L) w4 ho4 (by rw [srtN_len]; have := hlen.out; omega) hs4
  have d0 : w4.cell? ⟨g1 + 1, 0, none⟩ = some (.slice A3 L.length c3) := by rw [Lib.cell_of_heap hp4]; rfl
  have dl := lt_of_get hp4
  replace hCo := Lib.hid hCo
  replace hk4 := Lib.hid hk4
  clear hSo hk3 hp3 ho4 hb4 hp4 c0 hpl
  go_wp2_with fail
  (with_reducible refine (hCo.out).mono ?_)
  rintro e w5 ⟨v', rfl, ho5, hb5⟩
  have hk5 : Below w.heap.size w w5 := hk4.out.trans (hb5.mono (by omega))
  have ho6 : w5.ownsRow w.heap.size 9 1 v' (Lib.compact (srtN L)).length ((Lib.compact (srtN L)).map encStr) := own_raise ho5 fun g _ hb => by omega
  replace ho6 := Lib.hid ho6
  replace hk5 := Lib.hid hk5
  clear hCo hk4 ho5 hb5 d0 dl
  go_wp2_with fail
  go_ret
  exact ⟨_, rfl, ho6.out, hk5.out⟩
end Go.Proofs.Ytljiiniocnljmaa
