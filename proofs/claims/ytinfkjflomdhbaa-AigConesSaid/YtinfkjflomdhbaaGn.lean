/-
  plain: at most 60 acts, their kinds reduced.
-/
import Derived.Test.YtinfkjflomdhbaaGm
namespace Go.Proofs.Ytinfkjflomdhbaa
open Go.RowKit Go.Lib Go.Maps
theorem info_act : (Try.prog.info? 52).map (fun i => (i.zero, i.size, i.bytes)) = some (some (.agg #[.int .i64 0, .int .i64 0, .int .i64 0, .int .i64 0]), 4, 32) := by kernel_rfl
def nrm (x : AC) : AC := ⟨nk x.k, x.a, x.b, x.c⟩
theorem plainA_eq (l : List AC) : plainA l = (l.take 60).map nrm := rfl
theorem take_snocA (l : List AC) (k : Nat) (h : k < l.length) : l.take (k + 1) = l.take k ++ [l[k]] := List.take_succ_eq_append_getElem h
set_option maxRecDepth 100000 in
set_option maxHeartbeats 1600000 in
theorem plain_t (A : Option Addr) (c0 : Nat) (l : List AC) (w : World) (hA : AL w A l) :
    Calls Try.prog 8 #[.slice A l.length c0] w fun e w' => ∃ A' c', e = .returned (.slice A' (plainA l).length c') ∧ w'.ownsRow w.heap.size 52 4 (.slice A' (plainA l).length c') (plainA l).length (acells (plainA l)) ∧ Below w.heap.size w w' := by
  obtain ⟨i0, hi, hz0, hz1, hz2⟩ := info_parts info_act
  obtain ⟨n, hn⟩ : ∃ n, l.length = n := ⟨_, rfl⟩
  rw [hn]
  have hfin : ∀ k, k ≤ n → k ≤ 60 → (k = n ∨ k = 60) → (l.take k).map nrm = plainA l ∧ (plainA l).length = k := fun k h1 h2 h3 => by
    have e : l.take k = l.take 60 := by
      rcases h3 with e | e
      · rw [e, ← hn, List.take_length, List.take_of_length_le (by omega)]
      · rw [e]
    rw [plainA_eq, e]
    refine ⟨rfl, ?_⟩
    rw [List.length_map, ← e, List.length_take]
    omega
  replace hA := Lib.hid hA
  replace hn := Lib.hid hn
  replace hfin := Lib.hid hfin
  go_enter Try.func8, Try.ntmps8
  go_wp2_with fail
  go_loopw [3, 4] (fun ov iw wr => ∃ (k : Nat) (Ao : Option Addr) (co : Nat), k ≤ n ∧ k ≤ 60 ∧ iw = .int .i64 (k : Int) ∧ ov = .slice Ao k co ∧ wr.ownsRow w.heap.size 52 4 (.slice Ao k co) k (acells ((l.take k).map nrm)) ∧ Below w.heap.size w wr) (fun _ iw _ => n - (intOf iw).toNat)
  case atStart => exact ⟨0, none, 0, Nat.zero_le _, Nat.zero_le _, rfl, rfl, by rw [List.take_zero]; exact World.ownsRow_nil _ _ _ _, Below.refl _ _⟩
  case round =>
    obtain ⟨k, Ao, co, hk1, hk2, rfl, rfl, hown, hbw⟩ := hrel
    by_cases h1 : k < n
    · by_cases h2 : k < 60
      · have hkl : k < l.length := by rw [hn.out]; exact h1
        obtain ⟨b, off, rfl, hb, hcell⟩ := hA.out.over hbw (by omega)
        obtain ⟨x0, x1, x2, x3⟩ := hcell k hkl
        have htk := take_snocA l k hkl
        have hs6 : acells ((l.take (k + 1)).map nrm) = acells ((l.take k).map nrm) ++ [.int .i64 (nk l[k].k), .int .i64 l[k].a, .int .i64 l[k].b, .int .i64 l[k].c] := by
          rw [htk, List.map_append, acells_app]; rfl
        obtain ⟨x, hx⟩ : ∃ x, l[k] = x := ⟨_, rfl⟩
        rw [hx] at x0 x1 x2 x3 hs6
        obtain ⟨xk, hxk⟩ : ∃ v, x.k = v := ⟨_, rfl⟩
        obtain ⟨xa, hxa⟩ : ∃ v, x.a = v := ⟨_, rfl⟩
        obtain ⟨xb, hxb⟩ : ∃ v, x.b = v := ⟨_, rfl⟩
        obtain ⟨xc, hxc⟩ : ∃ v, x.c = v := ⟨_, rfl⟩
        rw [hxk] at x0 hs6
        rw [hxa] at x1 hs6
        rw [hxb] at x2 hs6
        rw [hxc] at x3 hs6
        have b1 := Int.tmod_lt_of_pos xk (b := 6) (by decide)
        have b2 := Int.lt_tmod_of_pos xk (b := 6) (by decide)
        obtain ⟨q1, hq1⟩ : ∃ q, xk.tmod 6 = q := ⟨_, rfl⟩
        obtain ⟨q2, hq2⟩ : ∃ q, (q1 + 6).tmod 6 = q := ⟨_, rfl⟩
        have hnk : nk xk = q2 := by unfold nk; rw [hq1, hq2]
        rw [hq1] at b1 b2
        have c1 := Int.tmod_lt_of_pos (q1 + 6) (b := 6) (by decide)
        have c2 := Int.tmod_nonneg 6 (show 0 ≤ q1 + 6 by omega)
        rw [hq2] at c1 c2
        rw [hnk] at hs6
        have hbs := hbw.size
        have hbA := (Below.refl wr.heap.size wr).alloc (Nat.le_refl _) (.cells #[.int .i64 q2, .int .i64 xa, .int .i64 xb, .int .i64 xc] 52)
        have hbB := hbA.alloc hbA.size (.cells #[.int .i64 q2, .int .i64 xa, .int .i64 xb, .int .i64 xc] 52)
        have hC1 := heap_alloc_new wr (.cells #[.int .i64 q2, .int .i64 xa, .int .i64 xb, .int .i64 xc] 52)
        have hR := heap_alloc_new (wr.alloc (.cells #[.int .i64 q2, .int .i64 xa, .int .i64 xb, .int .i64 xc] 52)) (.cells #[.int .i64 q2, .int .i64 xa, .int .i64 xb, .int .i64 xc] 52)
        have s1 : (wr.alloc (.cells #[.int .i64 q2, .int .i64 xa, .int .i64 xb, .int .i64 xc] 52)).heap.size = wr.heap.size + 1 := by simp
        have s2 : ((wr.alloc (.cells #[.int .i64 q2, .int .i64 xa, .int .i64 xb, .int .i64 xc] 52)).alloc (.cells #[.int .i64 q2, .int .i64 xa, .int .i64 xb, .int .i64 xc] 52)).heap.size = wr.heap.size + 1 + 1 := by simp
        have hown2 := (hown.alloc (.cells #[.int .i64 q2, .int .i64 xa, .int .i64 xb, .int .i64 xc] 52)).alloc (.cells #[.int .i64 q2, .int .i64 xa, .int .i64 xb, .int .i64 xc] 52)
        have hbw2 := (hbw.alloc hbs (.cells #[.int .i64 q2, .int .i64 xa, .int .i64 xb, .int .i64 xc] 52)).alloc (by rw [s1]; omega) (.cells #[.int .i64 q2, .int .i64 xa, .int .i64 xb, .int .i64 xc] 52)
        have hlow := own_ltT hown
        have k0 : (wr.alloc (.cells #[.int .i64 q2, .int .i64 xa, .int .i64 xb, .int .i64 xc] 52)).cell? ⟨wr.heap.size, 0, none⟩ = some (.int .i64 q2) := by rw [Lib.cell_of_heap hC1]; rfl
        have k1 : (wr.alloc (.cells #[.int .i64 q2, .int .i64 xa, .int .i64 xb, .int .i64 xc] 52)).cell? ⟨wr.heap.size, 1, none⟩ = some (.int .i64 xa) := by rw [Lib.cell_of_heap hC1]; rfl
        have k2 : (wr.alloc (.cells #[.int .i64 q2, .int .i64 xa, .int .i64 xb, .int .i64 xc] 52)).cell? ⟨wr.heap.size, 2, none⟩ = some (.int .i64 xb) := by rw [Lib.cell_of_heap hC1]; rfl
        have k3 : (wr.alloc (.cells #[.int .i64 q2, .int .i64 xa, .int .i64 xb, .int .i64 xc] 52)).cell? ⟨wr.heap.size, 3, none⟩ = some (.int .i64 xc) := by rw [Lib.cell_of_heap hC1]; rfl
        replace hown2 := Lib.hid hown2
        replace hbw2 := Lib.hid hbw2
        rw [s1] at hR
        replace hR := Lib.hid hR
        replace s2 := Lib.hid s2
        replace hlow := Lib.hid hlow
        have hx1 : k + 1 ≤ maxLen := by unfold maxLen; omega
        replace hx1 := Lib.hid hx1
        have hone : ∀ u ∈ [Value.int .i64 q2, .int .i64 xa, .int .i64 xb, .int .i64 xc], u.oneCell' = true := by simp [Value.oneCell']
        replace hone := Lib.hid hone
        replace hown := Lib.hid hown
        replace hbw := Lib.hid hbw
        replace hs6 := Lib.hid hs6
        clear hcell htk hx hxk hxa hxb hxc hnk hbA hbB hkl hC1 s1
        go_upto_region 7 with fail
        go_wp2_with (first
          | (at_builtin; refine wpList_append_lies _ rfl _ _ 22 rfl w.heap.size 52 i0 (.agg #[.int .i64 0, .int .i64 0, .int .i64 0, .int .i64 0]) 4 32 Try.underlying22 hi hz0 hz1 hz2 rfl (by decide) _ k (acells ((l.take k).map nrm)) rfl hown2.out ⟨wr.heap.size + 1, 0, none⟩ 1 1 [.int .i64 q2, .int .i64 xa, .int .i64 xb, .int .i64 xc] (by simp [Act.eval]) rfl (World.news_of_block hR.out) hone.out (by decide) hx1.out (by omega) (by rw [s2.out]; omega) _ rfl ?_; intro g6 cap6 w6 ho6 hg6 hgb6 hlt6; replace ho6 := Lib.hid ho6; replace hg6 := Lib.hid hg6; replace hgb6 := Lib.hid hgb6)
          | fail)
        have hbw6 : Below w.heap.size w w6 := hbw2.out.grown hg6.out (by rw [s2.out]; omega) (fun q hq => (hlow.out q hq).1)
        replace hbw6 := Lib.hid hbw6
        clear hown2 hbw2 hR k0 k1 k2 k3
        go_roundw
        case rel =>
          refine ⟨k + 1, _, cap6, by omega, by omega, by go_num, rfl, ?_, hbw6.out⟩
          rw [hs6.out]
          exact ho6.out
        case measure => simp [intOf]; omega
      · obtain ⟨h3, h4⟩ := hfin.out k hk1 hk2 (by omega)
        rw [h3] at hown
        replace hown := Lib.hid hown
        replace hbw := Lib.hid hbw
        have h60 : k = 60 := by omega
        have hd : decide ((k : Int) < 60) = false := by simp; omega
        replace h3 := Lib.hid h3
        replace h4 := Lib.hid h4
        replace h60 := Lib.hid h60
        go_wp2_with fail
        go_ret
        exact ⟨Ao, co, by rw [h4.out]; rfl, by rw [h4.out]; exact hown.out, hbw.out⟩
    · obtain ⟨h3, h4⟩ := hfin.out k hk1 hk2 (by omega)
      rw [h3] at hown
      replace hown := Lib.hid hown
      replace hbw := Lib.hid hbw
      have hd : decide ((k : Int) < (n : Int)) = false := by simp; omega
      replace h3 := Lib.hid h3
      replace h4 := Lib.hid h4
      go_wp2_with fail
      go_ret
      exact ⟨Ao, co, by rw [h4.out]; rfl, by rw [h4.out]; exact hown.out, hbw.out⟩
end Go.Proofs.Ytinfkjflomdhbaa
