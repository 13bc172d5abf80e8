/-
  What the statements of ast share: the bytes cut to 300, the maker's block, the fixed fact.
-/
import Derived.Test.YtljiiniocnljmaaAh
import Derived.Test.YtljiiniocnljmaaVj
namespace Go.Proofs.Ytljiiniocnljmaa
open Go.RowKit Go.Lib
set_option maxRecDepth 100000 in
theorem Short_t (A : Option Addr) (n c : Nat) (w : World) (hc : n ≤ c) (h63 : c ≤ 9223372036854775807) (hA : 0 < n → ∃ b o : Nat, A = some ⟨b, o, none⟩) : Calls Try.prog 6 #[.slice A n c] w fun e w' => ∃ n' : Nat, n' ≤ n ∧ n' ≤ 300 ∧ e = .returned (.slice A n' c) ∧ w' = w := by
  by_cases h : 300 < n
  · obtain ⟨b, o, rfl⟩ := hA (by omega)
    have h1 : (300 : Int) < (n : Int) := by omega
    have h3 : 300 ≤ c := by omega
    have h4 : (300 : Int) ≤ (c : Int) := by omega
    go_enter Try.func6, Try.ntmps6
    go_wp2_with fail
    go_ret
    exact ⟨300, by omega, Nat.le_refl _, rfl, rfl⟩
  · have h1 : ¬ (300 : Int) < (n : Int) := by omega
    go_enter Try.func6, Try.ntmps6
    go_wp2_with fail
    go_ret
    exact ⟨n, Nat.le_refl _, by omega, rfl, rfl⟩
theorem nds_dep : ∀ t : XT, t.nds ≤ 4 ^ (t.dep + 1)
  | .z _ => by simp [XT.nds, XT.dep]
  | .u _ x => by
    have h1 := nds_dep x
    have h2 : 1 ≤ 4 ^ (x.dep + 1) := Nat.one_le_iff_ne_zero.2 (by simp)
    simp only [XT.nds, XT.dep]
    rw [Nat.pow_succ 4 (x.dep + 1)]
    omega
  | .b _ x y => by
    have h1 := nds_dep x
    have h2 := nds_dep y
    have e1 : 4 ^ (x.dep + 1) ≤ 4 ^ (max x.dep y.dep + 1) := Nat.pow_le_pow_right (by decide) (by omega)
    have e2 : 4 ^ (y.dep + 1) ≤ 4 ^ (max x.dep y.dep + 1) := Nat.pow_le_pow_right (by decide) (by omega)
    have h3 : 1 ≤ 4 ^ (max x.dep y.dep + 1) := Nat.one_le_iff_ne_zero.2 (by simp)
    simp only [XT.nds, XT.dep]
    rw [Nat.pow_succ 4 (max x.dep y.dep + 1)]
    omega
  | .t _ x y q => by
    have h1 := nds_dep x
    have h2 := nds_dep y
    have h4 := nds_dep q
    have e1 : 4 ^ (x.dep + 1) ≤ 4 ^ (max x.dep (max y.dep q.dep) + 1) := Nat.pow_le_pow_right (by decide) (by omega)
    have e2 : 4 ^ (y.dep + 1) ≤ 4 ^ (max x.dep (max y.dep q.dep) + 1) := Nat.pow_le_pow_right (by decide) (by omega)
    have e3 : 4 ^ (q.dep + 1) ≤ 4 ^ (max x.dep (max y.dep q.dep) + 1) := Nat.pow_le_pow_right (by decide) (by omega)
    have h3 : 1 ≤ 4 ^ (max x.dep (max y.dep q.dep) + 1) := Nat.one_le_iff_ne_zero.2 (by simp)
    simp only [XT.nds, XT.dep]
    rw [Nat.pow_succ 4 (max x.dep (max y.dep q.dep) + 1)]
    omega
/-- Bytes in a slice. -/
def BY (w : World) (A : Option Addr) (n : Nat) : Prop := 0 < n → ∃ b o : Nat, A = some ⟨b, o, none⟩ ∧ b < w.heap.size ∧ ∀ i, i < n → ∃ u : Nat, u < 256 ∧ w.cell? ⟨b, o + i, none⟩ = some (.int .u8 (u : Int))
theorem BY.over {w w' : World} {A : Option Addr} {n : Nat} (h : BY w A n) (k : Below w.heap.size w w') : BY w' A n := fun h0 => by
  obtain ⟨b, o, e, hb, hc⟩ := h h0
  exact ⟨b, o, e, Nat.lt_of_lt_of_le hb k.size, fun i hi => by obtain ⟨u, hu, h1⟩ := hc i hi; exact ⟨u, hu, (k.cell (p := ⟨b, o + i, none⟩) hb).trans h1⟩⟩
theorem BY.mk {w : World} {A : Option Addr} {n n' c : Nat} (h : BY w A n) (hn : n' ≤ n) (h3 : n' ≤ 300) : MKm (w.alloc (.cells #[.slice A n' c, .int .i64 0] 27)) w.heap.size (w.heap.size + 1) := by
  refine ⟨by omega, by simp, A, n', c, 0, heap_alloc_new w _, Nat.zero_le _, h3, fun h0 => ?_⟩
  obtain ⟨b, o, e, hb, hc⟩ := h (by omega)
  refine ⟨b, o, e, by omega, by omega, fun i hi => ?_⟩
  obtain ⟨u, hu, h1⟩ := hc i (by omega)
  exact ⟨u, hu, (((Below.refl _ w).alloc (Nat.le_refl _) _).cell (p := ⟨b, o + i, none⟩) hb).trans h1⟩
/-- A slice that the call owns, as one that reads. -/
theorem OSN.sn {B : Nat} {v : Value} {l : List NB} {w w' : World} (h : OSN B v l w w') : ∃ A c, v = .slice A l.length c ∧ SN w' A l := by
  obtain ⟨A, c, rfl⟩ := own_shape h.1
  obtain ⟨h1, h2, _⟩ := own_SN h.1
  exact ⟨A, c, rfl, h1⟩
def awT : XT := .b ⟨4, 0, 0, 0, ⟨#[43]⟩⟩ (.z ⟨2, 0, 0, 0, ⟨#[97]⟩⟩) (.u ⟨3, 0, 0, 0, ⟨#[45]⟩⟩ (.z ⟨2, 0, 0, 0, ⟨#[98]⟩⟩))
theorem aw_nms : insAll [] awT.nms = [[97], [98]] := by
  rw [nms_nmp]
  have h1 : nm1 ⟨4, 0, 0, 0, ⟨#[43]⟩⟩ = [] := rfl
  have h2 : nm1 ⟨2, 0, 0, 0, ⟨#[97]⟩⟩ = [[97]] := rfl
  have h3 : nm1 ⟨3, 0, 0, 0, ⟨#[45]⟩⟩ = [] := rfl
  have h4 : nm1 ⟨2, 0, 0, 0, ⟨#[98]⟩⟩ = [[98]] := rfl
  show insAll [] (nm1 _ ++ (nm1 _ ++ (nm1 _ ++ nm1 _))) = _
  rw [h1, h2, h3, h4]
  decide
set_option maxRecDepth 100000 in
set_option maxHeartbeats 1600000 in
theorem awake_t (w : World) : Calls Try.prog 5 #[] w (RV w (.bool true)) := by
  obtain ⟨g1, hg1⟩ : ∃ g, w.heap.size = g := ⟨_, rfl⟩
  have hk1 := (Below.refl w.heap.size w).alloc (Nat.le_refl _) (.cells #[.int .i64 2, .int .i64 0, .int .i64 0, .int .i64 0, .string ⟨#[98]⟩, .slice none 0 0] 36)
  have hR1 := heap_alloc_new w (.cells #[.int .i64 2, .int .i64 0, .int .i64 0, .int .i64 0, .string ⟨#[98]⟩, .slice none 0 0] 36)
  have hz1 : (w.alloc (.cells #[.int .i64 2, .int .i64 0, .int .i64 0, .int .i64 0, .string ⟨#[98]⟩, .slice none 0 0] 36)).heap.size = g1 + 1 := by simp [hg1]
  obtain ⟨w1, hw1⟩ : ∃ W, w.alloc (.cells #[.int .i64 2, .int .i64 0, .int .i64 0, .int .i64 0, .string ⟨#[98]⟩, .slice none 0 0] 36) = W := ⟨_, rfl⟩
  rw [hg1, hw1] at hR1
  rw [hw1] at hk1 hz1
  have hk2 := (Below.refl w1.heap.size w1).alloc (Nat.le_refl _) (.cells #[.int .i64 2, .int .i64 0, .int .i64 0, .int .i64 0, .string ⟨#[97]⟩, .slice none 0 0, .int .i64 3, .int .i64 0, .int .i64 0, .int .i64 0, .string ⟨#[45]⟩, .slice (some ⟨g1, 0, none⟩) 1 1] 36)
  have hR2 := heap_alloc_new w1 (.cells #[.int .i64 2, .int .i64 0, .int .i64 0, .int .i64 0, .string ⟨#[97]⟩, .slice none 0 0, .int .i64 3, .int .i64 0, .int .i64 0, .int .i64 0, .string ⟨#[45]⟩, .slice (some ⟨g1, 0, none⟩) 1 1] 36)
  have hz2 : (w1.alloc (.cells #[.int .i64 2, .int .i64 0, .int .i64 0, .int .i64 0, .string ⟨#[97]⟩, .slice none 0 0, .int .i64 3, .int .i64 0, .int .i64 0, .int .i64 0, .string ⟨#[45]⟩, .slice (some ⟨g1, 0, none⟩) 1 1] 36)).heap.size = g1 + 2 := by simp [hz1]
  obtain ⟨w2, hw2⟩ : ∃ W, w1.alloc (.cells #[.int .i64 2, .int .i64 0, .int .i64 0, .int .i64 0, .string ⟨#[97]⟩, .slice none 0 0, .int .i64 3, .int .i64 0, .int .i64 0, .int .i64 0, .string ⟨#[45]⟩, .slice (some ⟨g1, 0, none⟩) 1 1] 36) = W := ⟨_, rfl⟩
  rw [hz1, hw2] at hR2
  rw [hw2] at hk2 hz2
  have hk3 := (Below.refl w2.heap.size w2).alloc (Nat.le_refl _) (.cells #[.int .i64 4, .int .i64 0, .int .i64 0, .int .i64 0, .string ⟨#[43]⟩, .slice (some ⟨g1 + 1, 0, none⟩) 2 2] 36)
  have hR3 := heap_alloc_new w2 (.cells #[.int .i64 4, .int .i64 0, .int .i64 0, .int .i64 0, .string ⟨#[43]⟩, .slice (some ⟨g1 + 1, 0, none⟩) 2 2] 36)
  have hz3 : (w2.alloc (.cells #[.int .i64 4, .int .i64 0, .int .i64 0, .int .i64 0, .string ⟨#[43]⟩, .slice (some ⟨g1 + 1, 0, none⟩) 2 2] 36)).heap.size = g1 + 3 := by simp [hz2]
  obtain ⟨w3, hw3⟩ : ∃ W, w2.alloc (.cells #[.int .i64 4, .int .i64 0, .int .i64 0, .int .i64 0, .string ⟨#[43]⟩, .slice (some ⟨g1 + 1, 0, none⟩) 2 2] 36) = W := ⟨_, rfl⟩
  rw [hz2, hw3] at hR3
  rw [hw3] at hk3 hz3
  have hM3 : BX w3 (g1 + 2) 36 awT.h (some ⟨g1 + 1, 0, none⟩) 2 2 := hR3
  have hb1 : w3.heap[g1]? = some (.cells #[.int .i64 2, .int .i64 0, .int .i64 0, .int .i64 0, .string ⟨#[98]⟩, .slice none 0 0] 36 (0, 0)) := ((hk3.block g1 (by omega)).trans (hk2.block g1 (by omega))).trans hR1
  have hb2 : w3.heap[g1 + 1]? = some (.cells #[.int .i64 2, .int .i64 0, .int .i64 0, .int .i64 0, .string ⟨#[97]⟩, .slice none 0 0, .int .i64 3, .int .i64 0, .int .i64 0, .int .i64 0, .string ⟨#[45]⟩, .slice (some ⟨g1, 0, none⟩) 1 1] 36 (0, 0)) := (hk3.block (g1 + 1) (by omega)).trans hR2
  have hX3 : XQ w3 (· < w3.heap.size) awT (some ⟨g1 + 1, 0, none⟩) := by
    refine ⟨g1 + 1, 0, rfl, by omega, ⟨none, 0, ?_, trivial⟩, some ⟨g1, 0, none⟩, 1, ?_, g1, 0, rfl, by omega, none, 0, ?_, trivial⟩
    · unfold XC
      refine ⟨?_, ?_, ?_, ?_, ?_, ?_⟩ <;> rw [Lib.cell_of_heap hb2] <;> rfl
    · unfold XC
      refine ⟨?_, ?_, ?_, ?_, ?_, ?_⟩ <;> rw [Lib.cell_of_heap hb2] <;> rfl
    · unfold XC
      refine ⟨?_, ?_, ?_, ?_, ?_, ?_⟩ <;> rw [Lib.cell_of_heap hb1] <;> rfl
  have hK3 := below_call hk3 (below_call hk2 hk1)
  have hNa := fun W (q : XQ W (· < W.heap.size) awT (some ⟨g1 + 1, 0, none⟩)) => Names_t awT (some ⟨g1 + 1, 0, none⟩) 2 W q (by decide) (by decide)
  have hDe := fun W (q : XQ W (· < W.heap.size) awT (some ⟨g1 + 1, 0, none⟩)) => Depth_t awT (some ⟨g1 + 1, 0, none⟩) 2 W q (by decide) (by decide)
  rw [aw_nms] at hNa
  unfold RV at hDe
  replace hNa : ∀ W, XQ W (· < W.heap.size) awT (some ⟨g1 + 1, 0, none⟩) → Calls Try.prog 9 #[.agg #[.int .i64 4, .int .i64 0, .int .i64 0, .int .i64 0, .string ⟨#[43]⟩, .slice (some ⟨g1 + 1, 0, none⟩) 2 2]] W fun e w' => ∃ v, e = .returned v ∧ OSN W.heap.size v [[97], [98]] W w' := hNa
  replace hDe : ∀ W, XQ W (· < W.heap.size) awT (some ⟨g1 + 1, 0, none⟩) → Calls Try.prog 11 #[.agg #[.int .i64 4, .int .i64 0, .int .i64 0, .int .i64 0, .string ⟨#[43]⟩, .slice (some ⟨g1 + 1, 0, none⟩) 2 2]] W fun e w' => e = .returned (.int .i64 3) ∧ Below W.heap.size W w' := hDe
  obtain ⟨m0, m1, m2, m3, m4, m5⟩ := hM3.all
  have ml := hM3.lt
  replace hNa := Lib.hid hNa
  replace hDe := Lib.hid hDe
  replace hM3 := Lib.hid hM3
  replace hX3 := Lib.hid hX3
  replace hK3 := Lib.hid hK3
  replace hw1 := Lib.hid hw1
  replace hw2 := Lib.hid hw2
  replace hw3 := Lib.hid hw3
  clear hk1 hk2 hk3 hR1 hR2 hR3 hb1 hb2 hz1 hz2
  go_enter Try.func5, Try.ntmps5
  go_upto_region 2 with fail
  rw [hw1.out, hw2.out, hw3.out]
  clear hw1 hw2 hw3
  dsimp only [awT, XT.h] at m0 m1 m2 m3 m4 m5
  go_wp2_with fail
  (with_reducible refine (hNa.out _ hX3.out).mono ?_)
  rintro e w4 ⟨v, rfl, hv⟩
  have hM4 := hM3.out.ov hv.2
  have hX4 : XQ w4 (· < w4.heap.size) awT (some ⟨g1 + 1, 0, none⟩) := hX3.out.over (fun b hb => hv.2.block b hb) (fun b hb => Nat.lt_of_lt_of_le hb hv.2.size)
  have hK4 := below_call hv.2 hK3.out
  obtain ⟨A4, c4, rfl, hS4⟩ := hv.sn
  obtain ⟨b, o, rfl, hbl, hc⟩ := hS4 (by decide)
  have hc0 := hc 0 (by decide)
  obtain ⟨n0, n1, n2, n3, n4, n5⟩ := hM4.all
  have nl := hM4.lt
  replace hX4 := Lib.hid hX4
  replace hK4 := Lib.hid hK4
  clear hM3 hX3 hK3 hNa hv hS4 hM4 hc m0 m1 m2 m3 m4 m5 ml
  dsimp only [awT, XT.h] at n0 n1 n2 n3 n4 n5
  replace hc0 : w4.cell? ⟨b, o, none⟩ = some (.string ⟨#[97]⟩) := hc0
  go_wp2_with fail
  (with_reducible refine (hDe.out _ hX4.out).mono ?_)
  rintro e w5 ⟨rfl, hb5⟩
  have hc5 : w5.cell? ⟨b, o, none⟩ = some (.string ⟨#[97]⟩) := (hb5.cell (p := ⟨b, o, none⟩) hbl).trans hc0
  have hbl5 : b < w5.heap.size := Nat.lt_of_lt_of_le hbl hb5.size
  have hK5 := Lib.hid (below_call hb5 hK4.out)
  clear hX4 hK4 hDe hb5 hc0 n0 n1 n2 n3 n4 n5 nl
  go_wp2_with fail
  go_ret
  exact ⟨rfl, by have hq := hK5.out; have hzq := hq.size; go_grown⟩
end Go.Proofs.Ytljiiniocnljmaa
