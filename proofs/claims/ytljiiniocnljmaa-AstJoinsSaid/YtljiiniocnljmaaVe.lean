/-
  MakeExprs.
-/
import Derived.Test.YtljiiniocnljmaaVd
namespace Go.Proofs.Ytljiiniocnljmaa
open Go.RowKit Go.Lib
set_option maxRecDepth 100000 in
set_option maxHeartbeats 3200000 in
theorem MakeExprs_t (p B n D : Nat) (d : Int) (w : World) (hn : n ≤ 3) (hM : MKm w p B) (hE : ∀ W, MKm W p B → Calls Try.prog 7 #[.pointer (some ⟨p, 0, none⟩), .int .i64 d] W (MXm D p B W)) :
    Calls Try.prog 16 #[.pointer (some ⟨p, 0, none⟩), .int .i64 d, .int .i64 (n : Int)] w (MXms D p B n w) := by
  obtain ⟨i0, hi, hz0, hz1, hz2⟩ := info_parts info_expr
  have hpB := hM.1
  have hBw := hM.2.1
  unfold MXm at hE
  replace hE := Lib.hid hE
  replace hM := Lib.hid hM
  go_enter Try.func16, Try.ntmps16
  go_wp2_with fail
  go_loopw [7, 8] (fun v iv wr => ∃ (k : Nat) (rs : List XE), rs.length = k ∧ k ≤ n ∧ iv = .int .i64 (k : Int) ∧ wr.ownsRow w.heap.size 32 6 v k (ecs rs) ∧ XRow wr (GX w.heap.size v wr) rs ∧ (∀ r ∈ rs, WM r.t ∧ r.t.dep ≤ D) ∧ MKm wr p B ∧ Keep (· = p) w wr) (fun _ iv _ => n - (RowKit.intOf iv).toNat)
  case atStart => exact ⟨0, [], rfl, Nat.zero_le _, rfl, ⟨rfl, Or.inl ⟨rfl, rfl⟩⟩, XRow.nil _ _, (fun r hr => by cases hr), hM.out, Keep.refl _ _⟩
  case round =>
    obtain ⟨k, rs, hrk, hk, rfl, ho, hX, hP, hMr, hK⟩ := hrel
    obtain ⟨A1, c1, rfl⟩ := own_shape ho
    have hz := hK.size
    replace hrk := Lib.hid hrk
    replace hP := Lib.hid hP
    by_cases hlt : k < n
    · have hw1 : IntKind.i64.wrap ((k : Int) + 1) = (k : Int) + 1 := IntWalk.i64_in _ (by omega)
      replace ho := Lib.hid ho
      replace hX := Lib.hid hX
      replace hMr := Lib.hid hMr
      replace hK := Lib.hid hK
      go_wp2_with fail
      (with_reducible refine (hE.out _ hMr.out).mono ?_)
      rintro e w1 ⟨t, A2, c2, rfl, hWt, hdt, hXt, hM1, hK1⟩
      have hown := own_ltT ho.out
      have hnp : ∀ b, w.heap.size ≤ b → b ≠ p := fun b hb => by omega
      have ho1 := own_keepT ho.out fun b hb => hK1.block b (hown b hb).2 (hnp b (hown b hb).1)
      have hX1 := hX.out.over (G := GX w.heap.size (.slice A1 k c1) w1) (fun b hb => hK1.block b hb.2.1 (hnp b hb.1)) (GX.grow hK1.size)
      have hXt1 : XQ w1 (GX w.heap.size (.slice A1 k c1) w1) t A2 := hXt.over (fun _ _ => rfl) fun b hb => ⟨Nat.le_trans hz hb.1, hb.2, fun e => by have := (hown b e.symm).2; omega⟩
      have hKw1 := hK.out.then hK1
      clear hXt hK1 hown ho hX hMr hK
      have hR := heap_alloc_new w1 (.cells #[.int .i64 t.h.k, .int .i64 t.h.f, .int .i64 t.h.l, .int .i64 t.h.c, .string t.h.s, .slice A2 t.args.length c2] 32)
      have hba := (Below.refl w1.heap.size w1).alloc (Nat.le_refl _) (.cells #[.int .i64 t.h.k, .int .i64 t.h.f, .int .i64 t.h.l, .int .i64 t.h.c, .string t.h.s, .slice A2 t.args.length c2] 32)
      have ho2 := ho1.alloc (.cells #[.int .i64 t.h.k, .int .i64 t.h.f, .int .i64 t.h.l, .int .i64 t.h.c, .string t.h.s, .slice A2 t.args.length c2] 32)
      have hX2 := hX1.over (G := GX w.heap.size (.slice A1 k c1) (w1.alloc (.cells #[.int .i64 t.h.k, .int .i64 t.h.f, .int .i64 t.h.l, .int .i64 t.h.c, .string t.h.s, .slice A2 t.args.length c2] 32))) (fun b hb => hba.block b hb.2.1) (GX.grow hba.size)
      have hXt2 := hXt1.over (G := GX w.heap.size (.slice A1 k c1) (w1.alloc (.cells #[.int .i64 t.h.k, .int .i64 t.h.f, .int .i64 t.h.l, .int .i64 t.h.c, .string t.h.s, .slice A2 t.args.length c2] 32))) (fun b hb => hba.block b hb.2.1) (GX.grow hba.size)
      have hM2 := hM1.alloc (.cells #[.int .i64 t.h.k, .int .i64 t.h.f, .int .i64 t.h.l, .int .i64 t.h.c, .string t.h.s, .slice A2 t.args.length c2] 32)
      have hK2 := hKw1.then (Keep.al0 _ w1 (.cells #[.int .i64 t.h.k, .int .i64 t.h.f, .int .i64 t.h.l, .int .i64 t.h.c, .string t.h.s, .slice A2 t.args.length c2] 32))
      have hz1' : w.heap.size ≤ w1.heap.size := hKw1.size
      clear hba ho1 hX1 hXt1 hM1 hKw1
      replace hR := Lib.hid hR
      replace ho2 := Lib.hid ho2
      replace hX2 := Lib.hid hX2
      replace hXt2 := Lib.hid hXt2
      replace hM2 := Lib.hid hM2
      replace hK2 := Lib.hid hK2
      replace hWt := Lib.hid hWt
      replace hdt := Lib.hid hdt
      go_wp2_with (at_builtin; refine wpList_append_lies _ rfl _ _ 30 rfl w.heap.size 32 i0 (.agg #[.int .i64 0, .int .i64 0, .int .i64 0, .int .i64 0, .string ⟨#[]⟩, .slice none 0 0]) 6 72 Try.underlying30 hi hz0 hz1 hz2 rfl (by decide) _ k (ecs rs) rfl ho2.out ⟨w1.heap.size, 0, none⟩ 1 1 [.int .i64 t.h.k, .int .i64 t.h.f, .int .i64 t.h.l, .int .i64 t.h.c, .string t.h.s, .slice A2 t.args.length c2] rfl ?a0 ?a1 ?a2 ?a3 ?a4 ?a5 ?a6 (w1.heap.size + 1) ?a7 ?a8)
      case a0 => rfl
      case a1 => exact World.news_of_block hR.out
      case a2 => simp [Value.oneCell']
      case a3 => decide
      case a4 => unfold maxLen; omega
      case a5 => omega
      case a6 => simp; omega
      case a7 => simp
      case a8 =>
        intro g6 cap6 w6 ho6 hg6 hgb hlt6
        have hX6 := row_grown (k := k + 1) (cap := cap6) (r := ⟨t, A2, c2⟩) hg6 (by rw [World.size_alloc]; exact hgb) hX2.out hXt2.out
        have hown2 := own_ltT ho2.out
        have hM6 : MKm w6 p B := hM2.out.kept (fun b hb => hg6.block b (by have := hM2.out.2.1; omega) fun e => by have := (hown2 b e.symm).1; omega) hg6.size
        have hK6 : Keep (· = p) w w6 := hK2.out.trans (keep_grown (F := fun b => w.heap.size ≤ b) hg6 fun b hb => (hown2 b hb).1) fun x hx => .inr hx
        have hl6 : (rs ++ [(⟨t, A2, c2⟩ : XE)]).length = k + 1 := by rw [List.length_append, hrk.out]; rfl
        have he6 : ecs rs ++ [.int .i64 t.h.k, .int .i64 t.h.f, .int .i64 t.h.l, .int .i64 t.h.c, .string t.h.s, .slice A2 t.args.length c2] = ecs (rs ++ [(⟨t, A2, c2⟩ : XE)]) := by rw [ecs_app]; rfl
        rw [he6] at ho6
        have hP6 : ∀ r ∈ rs ++ [(⟨t, A2, c2⟩ : XE)], WM r.t ∧ r.t.dep ≤ D := fun r hr => by
          rcases List.mem_append.1 hr with h | h
          · exact hP.out r h
          · rw [List.mem_singleton.1 h]; exact ⟨hWt.out, hdt.out⟩
        clear ho2 hX2 hXt2 hM2 hK2 hR hg6 hgb he6 hown2
        replace ho6 := Lib.hid ho6
        replace hX6 := Lib.hid hX6
        replace hM6 := Lib.hid hM6
        replace hK6 := Lib.hid hK6
        replace hP6 := Lib.hid hP6
        replace hl6 := Lib.hid hl6
        go_wp2_with fail
        go_roundw
        case rel => exact ⟨k + 1, rs ++ [⟨t, A2, c2⟩], hl6.out, by omega, by go_num, ho6.out, hX6.out, hP6.out, hM6.out, hK6.out⟩
        case measure => (simp [RowKit.intOf]; omega)
    · obtain rfl : k = n := by omega
      have hl := hrk.out
      have hX0 := hX.over (G := fun b => w.heap.size ≤ b ∧ b < wr.heap.size) (fun _ _ => rfl) fun b hb => ⟨hb.1, hb.2.1⟩
      have ho0 : wr.ownsRow w.heap.size 32 6 (.slice A1 k c1) rs.length (ecs rs) := by rw [hl]; exact ho
      have hq := Lib.hid fun hd => (row_XQ ho0 hX0 (fun g h1 h2 => ⟨h1, h2⟩) (by omega) hd).2
      clear hX0 ho0
      replace hK := Lib.hid hK
      replace hMr := Lib.hid hMr
      clear ho hX
      go_wp2_with fail
      go_ret
      exact ⟨rs.map XE.t, A1, c1, by rw [List.length_map]; exact hl, rfl, fun t ht => by obtain ⟨r, hr, rfl⟩ := List.mem_map.1 ht; exact hP.out r hr, hq.out, hMr.out, hK.out⟩
end Go.Proofs.Ytljiiniocnljmaa
