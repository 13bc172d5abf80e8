/-
  konst.Eval; konst.Value.
-/
import Derived.Test.YtcifljbcoioogaaGreatDoorXn
import Derived.Test.YtcifljbcoioogaaGreatDoorFj
namespace Go.Proofs.YtcifljbcoioogaaGreatDoor
open Go.RowKit Go.Lib Go.Maps
theorem tl_ok (s t : ByteArray) (h : Nat) (sg : Bool) : (tlV s h sg t).n ≤ 128 ∧ (tlV s h sg t).x < 2 ^ (tlV s h sg t).n := by
  have hb : ∀ e : Int, (badP e).n ≤ 128 ∧ (badP e).x < 2 ^ (badP e).n := fun e => ⟨by show 0 ≤ 128; omega, by show 0 < 2 ^ 0; decide⟩
  unfold tlV
  split
  · exact hb 6
  split
  · exact hb 5
  split
  · exact hb 6
  split
  · exact hb 5
  split
  · exact ⟨by show 32 ≤ 128; decide, numF_lt _ _ _ _⟩
  split
  · rename_i hc
    exact ⟨hc.2, numF_lt _ _ _ _⟩
  · exact hb 2
theorem paV_ok (s : ByteArray) : (paV s).n ≤ 128 ∧ (paV s).x < 2 ^ (paV s).n := by
  have hb : ∀ e : Int, (badP e).n ≤ 128 ∧ (badP e).x < 2 ^ (badP e).n := fun e => ⟨by show 0 ≤ 128; omega, by show 0 < 2 ^ 0; decide⟩
  unfold paV
  split
  · split
    · exact hb 6
    split
    · rename_i hc
      exact ⟨by show 32 ≤ 128; decide, by show capF s 2147483648 s.size < 2 ^ 32; omega⟩
    · exact hb 3
  split
  · unfold bhV
    split
    · exact hb 6
    split
    · exact tl_ok _ _ _ _
    · exact tl_ok _ _ _ _
  · exact hb 5
/-- What konst.Eval leaves. -/
def KO (w : World) (r : KR) (x : Ending) (w' : World) : Prop := x = .returned (.tuple #[.int .i64 r.n, .agg #[.int .i64 r.f, .int .i64 r.l, .int .i64 r.c], .int .i64 r.e]) ∧ Below w.heap.size w w'
theorem EnvIs.lt {w : World} {M : Value} {es : List (List UInt8 × Int)} (h : EnvIs w M es) : ∀ m, M = .map (some m) → m < w.heap.size := by
  intro m e
  rcases h with ⟨e2, _⟩ | ⟨m2, n, e2, hown, _⟩
  · rw [e] at e2; cases e2
  · rw [e] at e2
    injection e2 with e2
    injection e2 with e2
    subst e2
    exact hown.lt
set_option maxRecDepth 100000 in
set_option maxHeartbeats 1600000 in
theorem Eval_t (t : XT) (A : Option Addr) (c : Nat) (mo : Option Nat) (es : List (List UInt8 × Int)) (w : World) (hM : EnvIs w (.map mo) es) (hX : XAr w w.heap.size t A) (hW : WX t) :
    Calls Tryz.prog 10 #[xv t.h A t.args.length c, .agg #[.map mo]] w (KO w (ev (envB es) t)) := by
  have hlt := hM.lt
  have hE := fun (W : World) (p : Nat) (q0 : w.heap.size ≤ p) (q1 : EVB W p (.map mo) 0 0 0 0) (q2 : EnvIs W (.map mo) es) (q3 : XAr W w.heap.size t A) => eval_all (B := w.heap.size) (fun s _ => paV_ok s) t A c W q0 (fun m e h => by have := hlt m e; omega) q1 q2 q3 hW
  unfold FR at hE
  obtain ⟨r, hr⟩ : ∃ r, ev (envB es) t = r := ⟨_, rfl⟩
  rw [hr] at hE ⊢
  unfold KO
  replace hE := Lib.hid hE
  have hb := ((((Below.refl w.heap.size w).alloc (Nat.le_refl _) (.cells #[.int .i64 t.h.k, .int .i64 t.h.f, .int .i64 t.h.l, .int .i64 t.h.c, .string t.h.s, .slice A t.args.length c] 47)).alloc (by simp) (.cells #[.map mo] 39)).alloc (by simp; omega) (.cells #[.int .i64 0, .int .i64 0, .int .i64 0] 30)).alloc (by simp; omega) (.cells #[.map mo, .int .i64 0, .int .i64 0, .int .i64 0, .int .i64 0] 66)
  have hM4 := (((hM.alloc (.cells #[.int .i64 t.h.k, .int .i64 t.h.f, .int .i64 t.h.l, .int .i64 t.h.c, .string t.h.s, .slice A t.args.length c] 47)).alloc (.cells #[.map mo] 39)).alloc (.cells #[.int .i64 0, .int .i64 0, .int .i64 0] 30)).alloc (.cells #[.map mo, .int .i64 0, .int .i64 0, .int .i64 0, .int .i64 0] 66)
  have hX4 := hX.over hb
  have hp4 : EVB ((((w.alloc (.cells #[.int .i64 t.h.k, .int .i64 t.h.f, .int .i64 t.h.l, .int .i64 t.h.c, .string t.h.s, .slice A t.args.length c] 47)).alloc (.cells #[.map mo] 39)).alloc (.cells #[.int .i64 0, .int .i64 0, .int .i64 0] 30)).alloc (.cells #[.map mo, .int .i64 0, .int .i64 0, .int .i64 0, .int .i64 0] 66)) (w.heap.size + 1 + 1 + 1) (.map mo) 0 0 0 0 := by
    have h := heap_alloc_new (((w.alloc (.cells #[.int .i64 t.h.k, .int .i64 t.h.f, .int .i64 t.h.l, .int .i64 t.h.c, .string t.h.s, .slice A t.args.length c] 47)).alloc (.cells #[.map mo] 39)).alloc (.cells #[.int .i64 0, .int .i64 0, .int .i64 0] 30)) (.cells #[.map mo, .int .i64 0, .int .i64 0, .int .i64 0, .int .i64 0] 66)
    rw [show (((w.alloc (.cells #[.int .i64 t.h.k, .int .i64 t.h.f, .int .i64 t.h.l, .int .i64 t.h.c, .string t.h.s, .slice A t.args.length c] 47)).alloc (.cells #[.map mo] 39)).alloc (.cells #[.int .i64 0, .int .i64 0, .int .i64 0] 30)).heap.size = w.heap.size + 1 + 1 + 1 by simp] at h
    exact h
  have hP4 : ((((w.alloc (.cells #[.int .i64 t.h.k, .int .i64 t.h.f, .int .i64 t.h.l, .int .i64 t.h.c, .string t.h.s, .slice A t.args.length c] 47)).alloc (.cells #[.map mo] 39)).alloc (.cells #[.int .i64 0, .int .i64 0, .int .i64 0] 30)).alloc (.cells #[.map mo, .int .i64 0, .int .i64 0, .int .i64 0, .int .i64 0] 66)).heap[w.heap.size + 1 + 1]? = some (.cells #[.int .i64 0, .int .i64 0, .int .i64 0] 30 (0, 0)) := by
    have h := heap_alloc_new ((w.alloc (.cells #[.int .i64 t.h.k, .int .i64 t.h.f, .int .i64 t.h.l, .int .i64 t.h.c, .string t.h.s, .slice A t.args.length c] 47)).alloc (.cells #[.map mo] 39)) (.cells #[.int .i64 0, .int .i64 0, .int .i64 0] 30)
    rw [show ((w.alloc (.cells #[.int .i64 t.h.k, .int .i64 t.h.f, .int .i64 t.h.l, .int .i64 t.h.c, .string t.h.s, .slice A t.args.length c] 47)).alloc (.cells #[.map mo] 39)).heap.size = w.heap.size + 1 + 1 by simp] at h
    rw [((Below.refl (w.heap.size + 1 + 1 + 1) (((w.alloc (.cells #[.int .i64 t.h.k, .int .i64 t.h.f, .int .i64 t.h.l, .int .i64 t.h.c, .string t.h.s, .slice A t.args.length c] 47)).alloc (.cells #[.map mo] 39)).alloc (.cells #[.int .i64 0, .int .i64 0, .int .i64 0] 30))).alloc (by simp) (.cells #[.map mo, .int .i64 0, .int .i64 0, .int .i64 0, .int .i64 0] 66)).block _ (by omega)]
    exact h
  replace hM4 := Lib.hid hM4
  replace hX4 := Lib.hid hX4
  replace hp4 := Lib.hid hp4
  replace hP4 := Lib.hid hP4
  replace hb := Lib.hid hb
  clear hX hM hlt hr hW
  go_enter Tryz.func10, Tryz.ntmps10
  go_wp2_with fail
  (with_reducible refine (hE.out _ _ (by omega) hp4.out hM4.out hX4.out).mono ?_)
  rintro e w1 ⟨rfl, hp5, hk5⟩
  have hP5 := (hk5.block (w.heap.size + 1 + 1) (lt_of_get hP4.out) (by omega)).trans hP4.out
  obtain ⟨d0, d1, d2, d3, d4, df⟩ := hp5.all
  have dl := hp5.lt
  have l0 : w1.cell? ⟨w.heap.size + 1 + 1, 0, none⟩ = some (.int .i64 0) := by rw [Lib.cell_of_heap hP5]; rfl
  have l1 : w1.cell? ⟨w.heap.size + 1 + 1, 1, none⟩ = some (.int .i64 0) := by rw [Lib.cell_of_heap hP5]; rfl
  have l2 : w1.cell? ⟨w.heap.size + 1 + 1, 2, none⟩ = some (.int .i64 0) := by rw [Lib.cell_of_heap hP5]; rfl
  have lf := Lib.frozen_of_heap hP5
  have ll := lt_of_get hP5
  have hbw1 := Lib.hid (hb.out.trans (hk5.below (B := w.heap.size) (by have := hb.out.size; omega) (fun b hb => by omega)))
  have hP6 := heap_set _ (w.heap.size + 1 + 1) 2 _ _ (.int .i64 r.c) (heap_set _ (w.heap.size + 1 + 1) 1 _ _ (.int .i64 r.l) (heap_set _ (w.heap.size + 1 + 1) 0 _ _ (.int .i64 r.f) hP5))
  clear hk5 hP5
  replace hP6 := Lib.hid hP6
  replace hp5 := Lib.hid hp5
  go_wp2_with fail
  go_region
  go_wp2_with fail
  have m0 : (((w1.setCell ⟨w.heap.size + 1 + 1, 0, none⟩ (.int .i64 r.f)).setCell ⟨w.heap.size + 1 + 1, 1, none⟩ (.int .i64 r.l)).setCell ⟨w.heap.size + 1 + 1, 2, none⟩ (.int .i64 r.c)).cell? ⟨w.heap.size + 1 + 1, 0, none⟩ = some (.int .i64 r.f) := by rw [Lib.cell_of_heap hP6.out]; rfl
  have m1 : (((w1.setCell ⟨w.heap.size + 1 + 1, 0, none⟩ (.int .i64 r.f)).setCell ⟨w.heap.size + 1 + 1, 1, none⟩ (.int .i64 r.l)).setCell ⟨w.heap.size + 1 + 1, 2, none⟩ (.int .i64 r.c)).cell? ⟨w.heap.size + 1 + 1, 1, none⟩ = some (.int .i64 r.l) := by rw [Lib.cell_of_heap hP6.out]; rfl
  have m2 : (((w1.setCell ⟨w.heap.size + 1 + 1, 0, none⟩ (.int .i64 r.f)).setCell ⟨w.heap.size + 1 + 1, 1, none⟩ (.int .i64 r.l)).setCell ⟨w.heap.size + 1 + 1, 2, none⟩ (.int .i64 r.c)).cell? ⟨w.heap.size + 1 + 1, 2, none⟩ = some (.int .i64 r.c) := by rw [Lib.cell_of_heap hP6.out]; rfl
  have hbz := hbw1.out
  refine bodyPost_ret (v := .tuple #[.int .i64 r.n, .agg #[.int .i64 r.f, .int .i64 r.l, .int .i64 r.c], .int .i64 r.e]) (by simp [results, Tryz.results10, go_sem, m0, m1, m2]) rfl ⟨rfl, ?_⟩
  go_grown
end Go.Proofs.YtcifljbcoioogaaGreatDoor
