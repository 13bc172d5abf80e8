/-
  OwnExpr, OwnExprs: a tree in new memory, the same.
-/
import Derived.Test.YtljiiniocnljmaaVf
import Derived.Test.YtljiiniocnljmaaRt
namespace Go.Proofs.Ytljiiniocnljmaa
open Go.RowKit Go.Lib
theorem BX.ov {w w' : World} {g : Nat} {T : TypeId} {h : XH} {A : Option Addr} {n c : Nat} (x : BX w g T h A n c) (k : Below w.heap.size w w') : BX w' g T h A n c := (k.block g x.lt).trans x
theorem BX.al {w : World} {g : Nat} {T : TypeId} {h : XH} {A : Option Addr} {n c : Nat} (x : BX w g T h A n c) (o : Obj) : BX (w.alloc o) g T h A n c := x.ov ((Below.refl _ w).alloc (Nat.le_refl _) o)
/-- A tree in new memory is handed back. -/
def TRt (t : XT) (w : World) (e : Ending) (w' : World) : Prop := ∃ A c, e = .returned (xv t.h A t.args.length c) ∧ XQ w' (fun b => w.heap.size ≤ b ∧ b < w'.heap.size) t A ∧ Below w.heap.size w w'
def TRts (t : XT) (w : World) (e : Ending) (w' : World) : Prop := ∃ A c, e = .returned (.slice A t.args.length c) ∧ XQ w' (fun b => w.heap.size ≤ b ∧ b < w'.heap.size) t A ∧ Below w.heap.size w w'
theorem info_aexpr : (Try.prog.info? 36).map (fun i => (i.zero, i.size, i.bytes)) = some (some (.agg #[.int .i64 0, .int .i64 0, .int .i64 0, .int .i64 0, .string ⟨#[]⟩, .slice none 0 0]), 6, 72) := by kernel_rfl
theorem XQ.belowed {w w' : World} {t : XT} {A : Option Addr} (h : XQ w (· < w.heap.size) t A) (k : Below w.heap.size w w') : XQ w' (· < w'.heap.size) t A := h.over (fun b hb => k.block b hb) fun _ hb => Nat.lt_of_lt_of_le hb k.size
theorem take_snocT {l : List XT} {k : Nat} (h : k < l.length) : l.take (k + 1) = l.take k ++ [l[k]] := List.take_succ_eq_append_getElem h
/-- A variable for an expression of the program's that holds nothing yet. -/
def AZ (w : World) (g : Nat) : Prop := w.heap[g]? = some (.cells #[.int .i64 0, .int .i64 0, .int .i64 0, .int .i64 0, .string ⟨#[]⟩, .slice none 0 0] 36 (0, 0))
theorem AZ.over {w w' : World} {g : Nat} (h : AZ w g) (k : Below w.heap.size w w') : AZ w' g := (k.block g (lt_of_get h)).trans h
theorem AZ.all {w : World} {g : Nat} (h : AZ w g) : (∀ i, w.frozen? ⟨g, i, none⟩ = false) ∧ g < w.heap.size ∧ w.cell? ⟨g, 0, none⟩ = some (.int .i64 0) ∧ w.cell? ⟨g, 1, none⟩ = some (.int .i64 0) ∧ w.cell? ⟨g, 2, none⟩ = some (.int .i64 0) ∧ w.cell? ⟨g, 3, none⟩ = some (.int .i64 0) ∧ w.cell? ⟨g, 4, none⟩ = some (.string ⟨#[]⟩) ∧ w.cell? ⟨g, 5, none⟩ = some (.slice none 0 0) := by
  unfold AZ at h
  refine ⟨fun i => Lib.frozen_of_heap h i, lt_of_get h, ?_, ?_, ?_, ?_, ?_, ?_⟩ <;> rw [Lib.cell_of_heap h] <;> rfl
theorem AZ.six {w : World} {g : Nat} (h : AZ w g) (u0 u1 u2 u3 u4 u5 : Value) : ((((((w.setCell ⟨g, 0, none⟩ u0).setCell ⟨g, 1, none⟩ u1).setCell ⟨g, 2, none⟩ u2).setCell ⟨g, 3, none⟩ u3).setCell ⟨g, 4, none⟩ u4).setCell ⟨g, 5, none⟩ u5).cell? ⟨g, 0, none⟩ = some u0 ∧ ((((((w.setCell ⟨g, 0, none⟩ u0).setCell ⟨g, 1, none⟩ u1).setCell ⟨g, 2, none⟩ u2).setCell ⟨g, 3, none⟩ u3).setCell ⟨g, 4, none⟩ u4).setCell ⟨g, 5, none⟩ u5).cell? ⟨g, 1, none⟩ = some u1 ∧ ((((((w.setCell ⟨g, 0, none⟩ u0).setCell ⟨g, 1, none⟩ u1).setCell ⟨g, 2, none⟩ u2).setCell ⟨g, 3, none⟩ u3).setCell ⟨g, 4, none⟩ u4).setCell ⟨g, 5, none⟩ u5).cell? ⟨g, 2, none⟩ = some u2 ∧ ((((((w.setCell ⟨g, 0, none⟩ u0).setCell ⟨g, 1, none⟩ u1).setCell ⟨g, 2, none⟩ u2).setCell ⟨g, 3, none⟩ u3).setCell ⟨g, 4, none⟩ u4).setCell ⟨g, 5, none⟩ u5).cell? ⟨g, 3, none⟩ = some u3 ∧ ((((((w.setCell ⟨g, 0, none⟩ u0).setCell ⟨g, 1, none⟩ u1).setCell ⟨g, 2, none⟩ u2).setCell ⟨g, 3, none⟩ u3).setCell ⟨g, 4, none⟩ u4).setCell ⟨g, 5, none⟩ u5).cell? ⟨g, 4, none⟩ = some u4 ∧ ((((((w.setCell ⟨g, 0, none⟩ u0).setCell ⟨g, 1, none⟩ u1).setCell ⟨g, 2, none⟩ u2).setCell ⟨g, 3, none⟩ u3).setCell ⟨g, 4, none⟩ u4).setCell ⟨g, 5, none⟩ u5).cell? ⟨g, 5, none⟩ = some u5 := by
  have h6 := heap_set _ g 5 _ _ u5 (heap_set _ g 4 _ _ u4 (heap_set _ g 3 _ _ u3 (heap_set _ g 2 _ _ u2 (heap_set _ g 1 _ _ u1 (heap_set _ g 0 _ _ u0 h)))))
  refine ⟨?_, ?_, ?_, ?_, ?_, ?_⟩ <;> rw [Lib.cell_of_heap h6] <;> simp
set_option maxRecDepth 100000 in
set_option maxHeartbeats 3200000 in
theorem OwnExprs_t (t : XT) (A : Option Addr) (c : Nat) (w : World) (hX0 : XQ w (· < w.heap.size) t A) (hE : ∀ a ∈ t.args, ∀ Aj cj W, XQ W (· < W.heap.size) a Aj → Calls Try.prog 8 #[xv a.h Aj a.args.length cj] W (TRt a W)) :
    Calls Try.prog 18 #[.slice A t.args.length c] w (TRts t w) := by
  obtain ⟨i0, hi, hz0, hz1, hz2⟩ := info_parts info_aexpr
  have h3 := t.args_le
  unfold TRts
  obtain ⟨n, hn⟩ : ∃ n, t.args.length = n := ⟨_, rfl⟩
  rw [hn] at h3 ⊢
  unfold TRt at hE
  replace hE := Lib.hid hE
  replace hX0 := Lib.hid hX0
  replace hn := Lib.hid hn
  go_enter Try.func18, Try.ntmps18
  go_wp2_with fail
  go_loopw [3, 8] (fun v iv wr => ∃ (k : Nat) (rs : List XE), rs.length = k ∧ k ≤ n ∧ iv = .int .i64 (k : Int) ∧ wr.ownsRow w.heap.size 36 6 v k (ecs rs) ∧ XRow wr (GX w.heap.size v wr) rs ∧ rs.map XE.t = t.args.take k ∧ Below w.heap.size w wr) (fun _ iv _ => n - (RowKit.intOf iv).toNat)
  case atStart => exact ⟨0, [], rfl, Nat.zero_le _, rfl, ⟨rfl, Or.inl ⟨rfl, rfl⟩⟩, XRow.nil _ _, rfl, Below.refl _ _⟩
  case round =>
    obtain ⟨k, rs, hrk, hk, rfl, ho, hX, hP, hK⟩ := hrel
    obtain ⟨A1, c1, rfl⟩ := own_shape ho
    have hz := hK.size
    replace hrk := Lib.hid hrk
    by_cases hlt : k < n
    · have hw1 : IntKind.i64.wrap ((k : Int) + 1) = (k : Int) + 1 := IntWalk.i64_in _ (by omega)
      have hkl : k < t.args.length := by rw [hn.out]; exact hlt
      have hXr := hX0.out.belowed hK
      obtain ⟨b, o, rfl, hb, Aj, cj, hxc, hxq⟩ := hX0.out.get k hkl
      obtain ⟨b', o', hbe, hb', Aj', cj', hxc', hxq'⟩ := hXr.get k hkl
      cases hbe
      have hC := fun W (q : XQ W (· < W.heap.size) t.args[k] Aj') => hE.out t.args[k] (List.getElem_mem hkl) Aj' cj' W q
      have hPn := (congrArg (· ++ [t.args[k]]) hP).trans (take_snocT hkl).symm
      obtain ⟨a, ha⟩ : ∃ a, t.args[k] = a := ⟨_, rfl⟩
      rw [ha] at hC hxc' hxq' hPn
      clear hxc hxq ha hX0 hXr hP
      obtain ⟨x0, x1, x2, x3, x4, x5⟩ := hxc'
      have hba := (Below.refl wr.heap.size wr).alloc (Nat.le_refl _) (.cells #[.int .i64 a.h.k, .int .i64 a.h.f, .int .i64 a.h.l, .int .i64 a.h.c, .string a.h.s, .slice Aj' a.args.length cj'] 32)
      have hxq2 := hxq'.belowed hba
      have ho0 := ho.alloc (.cells #[.int .i64 a.h.k, .int .i64 a.h.f, .int .i64 a.h.l, .int .i64 a.h.c, .string a.h.s, .slice Aj' a.args.length cj'] 32)
      have hsz0 : (wr.alloc (.cells #[.int .i64 a.h.k, .int .i64 a.h.f, .int .i64 a.h.l, .int .i64 a.h.c, .string a.h.s, .slice Aj' a.args.length cj'] 32)).heap.size = wr.heap.size + 1 := by simp
      have hX2 := hX.over (G := GX w.heap.size (.slice A1 k c1) (wr.alloc (.cells #[.int .i64 a.h.k, .int .i64 a.h.f, .int .i64 a.h.l, .int .i64 a.h.c, .string a.h.s, .slice Aj' a.args.length cj'] 32))) (fun b hb => hba.block b hb.2.1) (GX.grow hba.size)
      have hK2 := below_call hba hK
      have hown := own_ltT ho
      clear hxq' hba ho hX
      replace ho0 := Lib.hid ho0
      replace hX2 := Lib.hid hX2
      replace hK2 := Lib.hid hK2
      replace hxq2 := Lib.hid hxq2
      replace hC := Lib.hid hC
      replace hPn := Lib.hid hPn
      replace hsz0 := Lib.hid hsz0
      replace hown := Lib.hid hown
      replace hK := Lib.hid hK
      go_wp2_with fail
      (with_reducible refine (hC.out _ hxq2.out).mono ?_)
      rintro e w1 ⟨A2, c2, rfl, hXt, hb1⟩
      have hs0 := hsz0.out
      have ho1 := own_keepT ho0.out fun b hb => hb1.block b (by have := (hown.out b hb).2; omega)
      have hX1 := hX2.out.over (G := GX w.heap.size (.slice A1 k c1) w1) (fun b hb => hb1.block b hb.2.1) (GX.grow hb1.size)
      have hXt1 : XQ w1 (GX w.heap.size (.slice A1 k c1) w1) a A2 := hXt.over (fun _ _ => rfl) fun b hb => ⟨by omega, hb.2, fun e => by have := (hown.out b e.symm).2; omega⟩
      have hKw1 := below_call hb1 hK2.out
      clear hXt ho0 hX2 hK2 hsz0 x0 x1 x2 x3 x4 x5
      have hz1' : w.heap.size ≤ w1.heap.size := hKw1.size
      have hR := heap_alloc_new w1 (.cells #[.int .i64 a.h.k, .int .i64 a.h.f, .int .i64 a.h.l, .int .i64 a.h.c, .string a.h.s, .slice A2 a.args.length c2] 36)
      have hba := (Below.refl w1.heap.size w1).alloc (Nat.le_refl _) (.cells #[.int .i64 a.h.k, .int .i64 a.h.f, .int .i64 a.h.l, .int .i64 a.h.c, .string a.h.s, .slice A2 a.args.length c2] 36)
      have ho2 := ho1.alloc (.cells #[.int .i64 a.h.k, .int .i64 a.h.f, .int .i64 a.h.l, .int .i64 a.h.c, .string a.h.s, .slice A2 a.args.length c2] 36)
      have hX2 := hX1.over (G := GX w.heap.size (.slice A1 k c1) (w1.alloc (.cells #[.int .i64 a.h.k, .int .i64 a.h.f, .int .i64 a.h.l, .int .i64 a.h.c, .string a.h.s, .slice A2 a.args.length c2] 36))) (fun b hb => hba.block b hb.2.1) (GX.grow hba.size)
      have hXt2 := hXt1.over (G := GX w.heap.size (.slice A1 k c1) (w1.alloc (.cells #[.int .i64 a.h.k, .int .i64 a.h.f, .int .i64 a.h.l, .int .i64 a.h.c, .string a.h.s, .slice A2 a.args.length c2] 36))) (fun b hb => hba.block b hb.2.1) (GX.grow hba.size)
      have hK2 := below_call hba hKw1
      clear hba ho1 hX1 hXt1 hKw1 hb1 hs0
      replace hR := Lib.hid hR
      replace ho2 := Lib.hid ho2
      replace hX2 := Lib.hid hX2
      replace hXt2 := Lib.hid hXt2
      replace hK2 := Lib.hid hK2
      go_wp2_with (at_builtin; refine wpList_append_lies _ rfl _ _ 34 rfl w.heap.size 36 i0 (.agg #[.int .i64 0, .int .i64 0, .int .i64 0, .int .i64 0, .string ⟨#[]⟩, .slice none 0 0]) 6 72 Try.underlying34 hi hz0 hz1 hz2 rfl (by decide) _ k (ecs rs) rfl ho2.out ⟨w1.heap.size, 0, none⟩ 1 1 [.int .i64 a.h.k, .int .i64 a.h.f, .int .i64 a.h.l, .int .i64 a.h.c, .string a.h.s, .slice A2 a.args.length c2] rfl ?a0 ?a1 ?a2 ?a3 ?a4 ?a5 ?a6 (w1.heap.size + 1) ?a7 ?a8)
      case a0 => rfl
      case a1 => exact World.news_of_block hR.out
      case a2 => simp [Value.oneCell']
      case a3 => decide
      case a4 => unfold maxLen; omega
      case a5 => omega
      case a6 => simp; omega
      case a7 => simp
      case a8 =>
        intro g6 cap6 w6 ho6 hg6 hgb hlt6
        have hX6 := row_grown (k := k + 1) (cap := cap6) (r := ⟨a, A2, c2⟩) hg6 (by rw [World.size_alloc]; exact hgb) hX2.out hXt2.out
        have hown2 := own_ltT ho2.out
        have hK6 : Below w.heap.size w w6 := hK2.out.trans ⟨hg6.os, hg6.tape, hg6.output, hg6.size, fun q hq => hg6.block q (by have := hK2.out.size; omega) fun e => by have := (hown2 q e.symm).1; omega⟩
        have hl6 : (rs ++ [(⟨a, A2, c2⟩ : XE)]).length = k + 1 := by rw [List.length_append, hrk.out]; rfl
        have hP6 : (rs ++ [(⟨a, A2, c2⟩ : XE)]).map XE.t = t.args.take (k + 1) := by rw [List.map_append]; exact hPn.out
        have he6 : ecs rs ++ [.int .i64 a.h.k, .int .i64 a.h.f, .int .i64 a.h.l, .int .i64 a.h.c, .string a.h.s, .slice A2 a.args.length c2] = ecs (rs ++ [(⟨a, A2, c2⟩ : XE)]) := by rw [ecs_app]; rfl
        rw [he6] at ho6
        clear ho2 hX2 hXt2 hK2 hR hg6 hgb he6 hown2
        replace ho6 := Lib.hid ho6
        replace hX6 := Lib.hid hX6
        replace hK6 := Lib.hid hK6
        replace hl6 := Lib.hid hl6
        replace hP6 := Lib.hid hP6
        go_wp2_with fail
        go_roundw
        case rel => exact ⟨k + 1, rs ++ [⟨a, A2, c2⟩], hl6.out, by omega, by go_num, ho6.out, hX6.out, hP6.out, hK6.out⟩
        case measure => (simp [RowKit.intOf]; omega)
    · obtain rfl : k = n := by omega
      have hl := hrk.out
      have hXn := hX.over (G := fun b => w.heap.size ≤ b ∧ b < wr.heap.size) (fun _ _ => rfl) fun b hb => ⟨hb.1, hb.2.1⟩
      have ho0 : wr.ownsRow w.heap.size 36 6 (.slice A1 k c1) rs.length (ecs rs) := by rw [hl]; exact ho
      have hq := (row_XQ ho0 hXn (fun g h1 h2 => ⟨h1, h2⟩) (by omega) t.h).2
      rw [hP, ← hn.out, List.take_length, mkT_eta] at hq
      replace hq := Lib.hid hq
      replace hK := Lib.hid hK
      clear ho hX hXn ho0
      go_wp2_with fail
      go_ret
      exact ⟨A1, c1, rfl, hq.out, hK.out⟩
set_option maxRecDepth 100000 in
set_option maxHeartbeats 3200000 in
theorem OwnExpr_t1 (t : XT) (A : Option Addr) (c : Nat) (w : World) (hX0 : XQ w (· < w.heap.size) t A) (hE : ∀ W c, XQ W (· < W.heap.size) t A → Calls Try.prog 18 #[.slice A t.args.length c] W (TRts t W)) :
    Calls Try.prog 8 #[xv t.h A t.args.length c] w (TRt t w) := by
  unfold TRt
  unfold TRts at hE
  obtain ⟨n, hn⟩ : ∃ n, t.args.length = n := ⟨_, rfl⟩
  obtain ⟨h, hh⟩ : ∃ h, t.h = h := ⟨_, rfl⟩
  rw [hn] at hE ⊢
  rw [hh]
  clear hn hh
  have hB0 := (BX.new w 32 h A n c).al (.cells #[.int .i64 0, .int .i64 0, .int .i64 0, .int .i64 0, .string ⟨#[]⟩, .slice none 0 0] 36)
  have hZ0 : AZ ((w.alloc (.cells #[.int .i64 h.k, .int .i64 h.f, .int .i64 h.l, .int .i64 h.c, .string h.s, .slice A n c] 32)).alloc (.cells #[.int .i64 0, .int .i64 0, .int .i64 0, .int .i64 0, .string ⟨#[]⟩, .slice none 0 0] 36)) (w.heap.size + 1) := by
    have h1 := heap_alloc_new (w.alloc (.cells #[.int .i64 h.k, .int .i64 h.f, .int .i64 h.l, .int .i64 h.c, .string h.s, .slice A n c] 32)) (.cells #[.int .i64 0, .int .i64 0, .int .i64 0, .int .i64 0, .string ⟨#[]⟩, .slice none 0 0] 36)
    rw [show (w.alloc (.cells #[.int .i64 h.k, .int .i64 h.f, .int .i64 h.l, .int .i64 h.c, .string h.s, .slice A n c] 32)).heap.size = w.heap.size + 1 by simp] at h1
    exact h1
  have hb0 : Below w.heap.size w ((w.alloc (.cells #[.int .i64 h.k, .int .i64 h.f, .int .i64 h.l, .int .i64 h.c, .string h.s, .slice A n c] 32)).alloc (.cells #[.int .i64 0, .int .i64 0, .int .i64 0, .int .i64 0, .string ⟨#[]⟩, .slice none 0 0] 36)) := by go_grown
  have hXq := hX0.belowed hb0
  have hsz : ((w.alloc (.cells #[.int .i64 h.k, .int .i64 h.f, .int .i64 h.l, .int .i64 h.c, .string h.s, .slice A n c] 32)).alloc (.cells #[.int .i64 0, .int .i64 0, .int .i64 0, .int .i64 0, .string ⟨#[]⟩, .slice none 0 0] 36)).heap.size = w.heap.size + 1 + 1 := by simp
  obtain ⟨g, hg⟩ : ∃ g, w.heap.size = g := ⟨_, rfl⟩
  obtain ⟨w2, hw2⟩ : ∃ W, ((w.alloc (.cells #[.int .i64 h.k, .int .i64 h.f, .int .i64 h.l, .int .i64 h.c, .string h.s, .slice A n c] 32)).alloc (.cells #[.int .i64 0, .int .i64 0, .int .i64 0, .int .i64 0, .string ⟨#[]⟩, .slice none 0 0] 36)) = W := ⟨_, rfl⟩
  rw [hw2] at hB0 hZ0 hb0 hXq hsz
  rw [hg] at hB0 hZ0 hsz hb0
  obtain ⟨k0, k1, k2, k3, k4, k5⟩ := hB0.all
  have kl := hB0.lt
  have hs0 : w2.drew.cell? ⟨g, 0, none⟩ = some (.int .i64 h.k) ∧ w2.drew.cell? ⟨g, 1, none⟩ = some (.int .i64 h.f) ∧ w2.drew.cell? ⟨g, 2, none⟩ = some (.int .i64 h.l) ∧ w2.drew.cell? ⟨g, 3, none⟩ = some (.int .i64 h.c) ∧ w2.drew.cell? ⟨g, 4, none⟩ = some (.string h.s) ∧ w2.drew.cell? ⟨g, 5, none⟩ = some (.slice A n c) := ⟨k0, k1, k2, k3, k4, k5⟩
  have hXd : XQ w2.drew (· < w2.drew.heap.size) t A := XQ.over (w := w2) (w' := w2.drew) (F := fun b => b < w2.heap.size) (G := fun b => b < w2.drew.heap.size) (fun _ _ => rfl) (fun _ h => h) hXq
  replace hE := Lib.hid hE
  replace hB0 := Lib.hid hB0
  replace hZ0 := Lib.hid hZ0
  replace hb0 := Lib.hid hb0
  replace hXd := Lib.hid hXd
  replace hsz := Lib.hid hsz
  clear hXq hX0 k0 k1 k2 k3 k4 k5
  go_enter Try.func8, Try.ntmps8
  go_wp2_with fail
  refine region_anyT (n := 10) (S := (fun w' => w'.cell? ⟨g, 0, none⟩ = some (.int .i64 h.k) ∧ w'.cell? ⟨g, 1, none⟩ = some (.int .i64 h.f) ∧ w'.cell? ⟨g, 2, none⟩ = some (.int .i64 h.l) ∧ w'.cell? ⟨g, 3, none⟩ = some (.int .i64 h.c) ∧ w'.cell? ⟨g, 4, none⟩ = some (.string h.s) ∧ w'.cell? ⟨g, 5, none⟩ = some (.slice A n c))) (by kernel_rfl) ?_
  refine anyT_take (i := 0) (v := .pointer (some ⟨g, 0, none⟩)) rfl (by kernel_rfl) (by kernel_rfl) (fun _ _ _ h => h) (Or.inl ⟨by rfl, ?_⟩) hs0 ?_
  · intro w' hw'
    obtain ⟨q0, q1, q2, q3, q4, q5⟩ := hw'
    go_simp
    try with_reducible rfl
  try simp only [Act.put, List.getElem_toArray, List.getElem_cons_zero, List.setIfInBounds_toArray, List.set_cons_zero, List.set_cons_succ]
  refine anyT_take (i := 1) (v := .int .i64 h.k) rfl (by kernel_rfl) (by kernel_rfl) (fun _ _ _ h => h) (Or.inl ⟨by rfl, ?_⟩) hs0 ?_
  · intro w' hw'
    obtain ⟨q0, q1, q2, q3, q4, q5⟩ := hw'
    go_simp
    try with_reducible rfl
  try simp only [Act.put, List.getElem_toArray, List.getElem_cons_zero, List.getElem_cons_succ, List.setIfInBounds_toArray, List.set_cons_zero, List.set_cons_succ]
  refine anyT_take (i := 2) (v := .pointer (some ⟨g, 1, none⟩)) rfl (by kernel_rfl) (by kernel_rfl) (fun _ _ _ h => h) (Or.inl ⟨by rfl, ?_⟩) hs0 ?_
  · intro w' hw'
    obtain ⟨q0, q1, q2, q3, q4, q5⟩ := hw'
    go_simp
    try with_reducible rfl
  try simp only [Act.put, List.getElem_toArray, List.getElem_cons_zero, List.getElem_cons_succ, List.setIfInBounds_toArray, List.set_cons_zero, List.set_cons_succ]
  refine anyT_take (i := 3) (v := .agg #[.int .i64 h.f, .int .i64 h.l, .int .i64 h.c]) rfl (by kernel_rfl) (by kernel_rfl) (fun _ _ _ h => h) (Or.inl ⟨by rfl, ?_⟩) hs0 ?_
  · intro w' hw'
    obtain ⟨q0, q1, q2, q3, q4, q5⟩ := hw'
    go_simp
    try with_reducible rfl
  try simp only [Act.put, List.getElem_toArray, List.getElem_cons_zero, List.getElem_cons_succ, List.setIfInBounds_toArray, List.set_cons_zero, List.set_cons_succ]
  refine anyT_take (i := 4) (v := .pointer (some ⟨g, 4, none⟩)) rfl (by kernel_rfl) (by kernel_rfl) (fun _ _ _ h => h) (Or.inl ⟨by rfl, ?_⟩) hs0 ?_
  · intro w' hw'
    obtain ⟨q0, q1, q2, q3, q4, q5⟩ := hw'
    go_simp
    try with_reducible rfl
  try simp only [Act.put, List.getElem_toArray, List.getElem_cons_zero, List.getElem_cons_succ, List.setIfInBounds_toArray, List.set_cons_zero, List.set_cons_succ]
  refine anyT_take (i := 5) (v := .string h.s) rfl (by kernel_rfl) (by kernel_rfl) (fun _ _ _ h => h) (Or.inl ⟨by rfl, ?_⟩) hs0 ?_
  · intro w' hw'
    obtain ⟨q0, q1, q2, q3, q4, q5⟩ := hw'
    go_simp
    try with_reducible rfl
  try simp only [Act.put, List.getElem_toArray, List.getElem_cons_zero, List.getElem_cons_succ, List.setIfInBounds_toArray, List.set_cons_zero, List.set_cons_succ]
  refine anyT_take (i := 6) (v := .pointer (some ⟨g, 5, none⟩)) rfl (by kernel_rfl) (by kernel_rfl) (fun _ _ _ h => h) (Or.inl ⟨by rfl, ?_⟩) hs0 ?_
  · intro w' hw'
    obtain ⟨q0, q1, q2, q3, q4, q5⟩ := hw'
    go_simp
    try with_reducible rfl
  try simp only [Act.put, List.getElem_toArray, List.getElem_cons_zero, List.getElem_cons_succ, List.setIfInBounds_toArray, List.set_cons_zero, List.set_cons_succ]
  refine anyT_take (i := 7) (v := .slice A n c) rfl (by kernel_rfl) (by kernel_rfl) (fun _ _ _ h => h) (Or.inl ⟨by rfl, ?_⟩) hs0 ?_
  · intro w' hw'
    obtain ⟨q0, q1, q2, q3, q4, q5⟩ := hw'
    go_simp
    try with_reducible rfl
  try simp only [Act.put, List.getElem_toArray, List.getElem_cons_zero, List.getElem_cons_succ, List.setIfInBounds_toArray, List.set_cons_zero, List.set_cons_succ]
  refine anyT_one (i := 8) (by kernel_rfl) ?_
  refine wpOp_step rfl (fun K hK => ?_)
  replace hK := Lib.hid hK
  go_simp
  (with_reducible refine (hE.out _ _ hXd.out).mono ?_)
  rintro e w3 ⟨A2, c2, rfl, hX3, hb3⟩
  have hb3' : Below w2.heap.size w2 w3 := ⟨hb3.os, hb3.tape, hb3.output, hb3.size, hb3.block⟩
  have hB3 := hB0.out.ov hb3'
  have hZ3 := hZ0.out.over hb3'
  have hs3 := hB3.all
  have hs2 := hsz.out
  have hX4 : XQ w3 (fun b => g + 1 < b ∧ b < w3.heap.size) t A2 := hX3.over (fun _ _ => rfl) fun b hb => ⟨by have h1 : w2.heap.size ≤ b := hb.1; omega, hb.2⟩
  have hk4 : Below g w w3 := hb0.out.trans (hb3'.mono (by omega))
  refine hK.out _ _ ⟨fun _ => hs3, ?_⟩
  clear hK K hb3 hb3' hX3 hB3 hXd hB0 hZ0 hb0 hs0 hE
  replace hZ3 := Lib.hid hZ3
  replace hX4 := Lib.hid hX4
  replace hk4 := Lib.hid hk4
  try simp only [Act.put, List.getElem_toArray, List.getElem_cons_zero, List.getElem_cons_succ, List.setIfInBounds_toArray, List.set_cons_zero, List.set_cons_succ]
  refine anyT_take (i := 9) (v := .agg #[.int .i64 h.k, .int .i64 h.f, .int .i64 h.l, .int .i64 h.c, .string h.s, .slice A2 n c2]) rfl (by kernel_rfl) (by kernel_rfl) (fun _ _ _ h => h) (Or.inl ⟨by rfl, ?_⟩) hs3 ?_
  · intro w' hw'
    obtain ⟨q0, q1, q2, q3, q4, q5⟩ := hw'
    go_simp
    try with_reducible rfl
  try simp only [Act.put, List.getElem_toArray, List.getElem_cons_zero, List.getElem_cons_succ, List.setIfInBounds_toArray, List.set_cons_zero, List.set_cons_succ]
  obtain ⟨zf, zl, z0, z1, z2, z3, z4, z5⟩ := hZ3.out.all
  have six := hZ3.out.six (.int .i64 h.k) (.int .i64 h.f) (.int .i64 h.l) (.int .i64 h.c) (.string h.s) (.slice A2 n c2)
  replace six := Lib.hid six
  refine anyT_one (i := 10) (by kernel_rfl) ?_
  refine wpOp_step rfl (fun K hK => ?_)
  replace hK := Lib.hid hK
  go_simp
  refine hK.out _ _ ⟨fun h => absurd h (by decide), ?_⟩
  clear hK K zf zl z0 z1 z2 z3 z4 z5
  try simp only [Act.put, List.getElem_toArray, List.getElem_cons_zero, List.getElem_cons_succ, List.setIfInBounds_toArray, List.set_cons_zero, List.set_cons_succ]
  refine anyT_done (by kernel_rfl) ?_ _
  go_wp2_with fail
  refine bodyPost_ret (v := .agg #[.int .i64 h.k, .int .i64 h.f, .int .i64 h.l, .int .i64 h.c, .string h.s, .slice A2 n c2]) (by simp [results, Try.results8, go_sem, six.out]) rfl ?_
  refine ⟨A2, c2, rfl, ?_, ?_⟩
  · exact hX4.out.over (fun b hb => set6_far _ _ _ _ _ _ _ _ b (by omega)) fun b hb => ⟨by omega, by rw [set6_size]; exact hb.2⟩
  · rw [hg]
    exact hk4.out.trans ((set6_keep w3 (g + 1) _ _ _ _ _ _).below (by have := hk4.out.size; omega) fun b hb => by omega)
/-- OwnExpr and OwnExprs, of every tree. -/
theorem Own_all : ∀ (t : XT), (∀ (A : Option Addr) (c : Nat) (w : World), XQ w (· < w.heap.size) t A → Calls Try.prog 8 #[xv t.h A t.args.length c] w (TRt t w))
  | .z h => fun A c w hX => OwnExpr_t1 _ A c w hX fun W c' hW => OwnExprs_t _ A c' W hW fun a ha => by simp [XT.args] at ha
  | .u h a => fun A c w hX => OwnExpr_t1 _ A c w hX fun W c' hW => OwnExprs_t _ A c' W hW fun x hx => by
    have h1 := Own_all a
    simp [XT.args] at hx
    subst hx
    exact fun Aj cj W q => h1 Aj cj W q
  | .b h a1 a2 => fun A c w hX => OwnExpr_t1 _ A c w hX fun W c' hW => OwnExprs_t _ A c' W hW fun x hx => by
    have h1 := Own_all a1
    have h2 := Own_all a2
    simp [XT.args] at hx
    rcases hx with rfl | rfl
    · exact fun Aj cj W q => h1 Aj cj W q
    · exact fun Aj cj W q => h2 Aj cj W q
  | .t h a1 a2 a3 => fun A c w hX => OwnExpr_t1 _ A c w hX fun W c' hW => OwnExprs_t _ A c' W hW fun x hx => by
    have h1 := Own_all a1
    have h2 := Own_all a2
    have h3 := Own_all a3
    simp [XT.args] at hx
    rcases hx with rfl | rfl | rfl
    · exact fun Aj cj W q => h1 Aj cj W q
    · exact fun Aj cj W q => h2 Aj cj W q
    · exact fun Aj cj W q => h3 Aj cj W q
end Go.Proofs.Ytljiiniocnljmaa
