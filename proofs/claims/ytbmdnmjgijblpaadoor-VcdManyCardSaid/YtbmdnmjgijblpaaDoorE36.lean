/-
  Check: its closures, and the whole.
-/
import Derived.Test.YtbmdnmjgijblpaaDoorE35
namespace Go.Proofs.YtbmdnmjgijblpaaDoor
open Go Go.RowKit Go.Lib Go.Maps
def wdB (u : Nat) : Bool := decide (1 ≤ (u : Int)) && decide ((u : Int) ≤ 128)
set_option maxRecDepth 100000 in
theorem mis_t (x : NV) (hx : x.1.length ≤ 1000000000) (W : World) : Calls Tryd.prog 21 #[.agg #[.string (bt x.1), iz (x.2 : Int)]] W fun e W' => e = .returned (.bool (!wordB x.1)) ∧ Below W.heap.size W W' := by
  have hb := vnew W (.cells #[.string (bt x.1), iz (x.2 : Int)] 30)
  have hC := isWord_t x.1 hx
  unfold RQ at hC
  obtain ⟨S, hS⟩ : ∃ S, bt x.1 = S := ⟨_, rfl⟩
  obtain ⟨u, hu⟩ : ∃ u : Int, (x.2 : Int) = u := ⟨_, rfl⟩
  obtain ⟨R, hR⟩ : ∃ R, wordB x.1 = R := ⟨_, rfl⟩
  rw [hS, hu] at hb
  rw [hS, hu, hR]
  simp only [hS, hR] at hC
  replace hb := Lib.hid hb
  replace hC := Lib.hid hC
  clear hS hu hR
  go_enter Tryd.func21, Tryd.ntmps21
  go_wp2_with fail
  (with_reducible refine (hC.out _).mono ?_)
  rintro e w2 ⟨rfl, hw2⟩
  subst hw2
  clear hC
  go_wp2_with fail
  go_ret
  exact ⟨by simp, hb.out⟩
set_option maxRecDepth 100000 in
theorem miw_t (x : NV) (W : World) : Calls Tryd.prog 23 #[.agg #[.string (bt x.1), iz (x.2 : Int)]] W fun e W' => e = .returned (.bool (!wdB x.2)) ∧ Below W.heap.size W W' := by
  have hb := vnew W (.cells #[.string (bt x.1), iz (x.2 : Int)] 30)
  have hC := fun W => isWidth_t (x.2 : Int) W
  unfold RQ at hC
  obtain ⟨S, hS⟩ : ∃ S, bt x.1 = S := ⟨_, rfl⟩
  obtain ⟨R, hR⟩ : ∃ R, wdB x.2 = R := ⟨_, rfl⟩
  rw [hS] at hb
  rw [hS, hR]
  unfold wdB at hR
  obtain ⟨u, hu⟩ : ∃ u : Int, (x.2 : Int) = u := ⟨_, rfl⟩
  simp only [hu] at hC hb hR ⊢
  simp only [hR] at hC
  replace hb := Lib.hid hb
  replace hC := Lib.hid hC
  clear hS hu hR
  go_enter Tryd.func23, Tryd.ntmps23
  go_wp2_with fail
  (with_reducible refine (hC.out _).mono ?_)
  rintro e w2 ⟨rfl, hw2⟩
  subst hw2
  clear hC
  go_wp2_with fail
  go_ret
  exact ⟨by simp, hb.out⟩
set_option maxRecDepth 100000 in
theorem mir_t (S v2 : Value) (hv2 : ∃ A n c, v2 = .slice A n c) (hS0 : ∃ s, S = .string s) (vs : List NV) (A : Option Addr) (c : Nat) (r : List (Nat × Nat)) (A' : Option Addr) (c' : Nat) (g : Nat) (W : World) (hg : CV W g #[S, .slice A vs.length c, v2] 26) (hV : RVs W A vs) (hR : RD3 W A' r) (hl : r.length ≤ 1000000000) (hl2 : vs.length ≤ 1000000000) :
    Calls Tryd.prog 25 #[.slice A' r.length c', pp g] W fun e W' => e = .returned (.bool (!isRowB vs r)) ∧ Below W.heap.size W W' := by
  have hC := isRow_t S vs A c v2 r A' c' W hV hR hl hl2
  have g0 : W.cell? ⟨g, 0, none⟩ = some S := hg.c 0
  have g1 : W.cell? ⟨g, 1, none⟩ = some (.slice A vs.length c) := hg.c 1
  have g2 : W.cell? ⟨g, 2, none⟩ = some v2 := hg.c 2
  have gl := hg.lt
  obtain ⟨R, hR2⟩ : ∃ R, isRowB vs r = R := ⟨_, rfl⟩
  rw [hR2] at hC ⊢
  obtain ⟨n, hn⟩ : ∃ n, vs.length = n := ⟨_, rfl⟩
  obtain ⟨nr, hnr⟩ : ∃ n, r.length = n := ⟨_, rfl⟩
  rw [hn] at hC g1
  rw [hnr] at hC ⊢
  obtain ⟨A3, n3, c3, rfl⟩ := hv2
  obtain ⟨s0, rfl⟩ := hS0
  replace hC := Lib.hid hC
  clear hg hV hR hl hl2 hR2 hn hnr
  go_enter Tryd.func25, Tryd.ntmps25
  go_wp2_with fail
  (with_reducible refine hC.out.mono ?_)
  rintro e w2 ⟨rfl, hb2⟩
  replace hb2 := Lib.hid hb2
  clear hC
  go_wp2_with fail
  go_ret
  exact ⟨by simp, hb2.out⟩
/-- The first error of a trace. -/
def chkF (top : List UInt8) (vs : List NV) (rows : RW) : Int :=
  if (!wordB top || vs.any fun x => !wordB x.1) = true then 9
  else if ¬ (vs.map Prod.fst).Nodup then 10
  else if (vs.any fun x => !wdB x.2) = true then 2
  else if 300 < vs.length ∨ 200 < rows.length then 19
  else if (rows.any fun r => !isRowB vs r) = true then 3
  else 0
set_option maxRecDepth 100000 in
set_option maxHeartbeats 6400000 in
theorem Check_t (top : List UInt8) (vs : List NV) (rows : RW) (A A2 : Option Addr) (c c2 : Nat) (w : World) (hV : RVs w A vs) (hR : RM w A2 rows) (ht : top.length ≤ 1000000000) (hn : ∀ x ∈ vs, x.1.length ≤ 1000000000) (hvl : vs.length ≤ 10000) (hrl : rows.length ≤ 10000) (hr : ∀ r ∈ rows, r.length ≤ 1000000000) :
    Calls Tryd.prog 12 #[.agg #[.string (bt top), .slice A vs.length c, .slice A2 rows.length c2]] w fun e w' => e = .returned (.int .i64 (chkF top vs rows)) ∧ Below w.heap.size w w' := by
  have hb1 := vnew w (.cells #[.string (bt top), .slice A vs.length c, .slice A2 rows.length c2] 26)
  have hg1 : CV (w.alloc (.cells #[.string (bt top), .slice A vs.length c, .slice A2 rows.length c2] 26)) w.heap.size #[.string (bt top), .slice A vs.length c, .slice A2 rows.length c2] 26 := by unfold CV; exact Array.getElem?_push_size ..
  obtain ⟨w1, hw1⟩ : ∃ W, w.alloc (.cells #[.string (bt top), .slice A vs.length c, .slice A2 rows.length c2] 26) = W := ⟨_, rfl⟩
  obtain ⟨g, hg⟩ : ∃ g, w.heap.size = g := ⟨_, rfl⟩
  have hV1 := hV.over hb1
  have hR1 := hR.low hb1
  rw [hw1] at hb1 hg1 hV1 hR1
  rw [hg] at hg1
  have hC1 := isWord_t top ht
  unfold RQ at hC1
  have hC2 : ∀ W, Below w1.heap.size w1 W → Calls Tryd.prog 27 #[.slice A vs.length c, .func (.func 21) #[] #[]] W fun e w' => e = .returned (.bool (vs.any fun x => !wordB x.1)) ∧ Below W.heap.size W w' := fun W hb =>
    contV_t 21 #[] (enters_of Tryd.func21 (by kernel_rfl) rfl) (fun x => !wordB x.1) vs c A W (by omega) (hV1.over hb) (fun x hx W2 _ => mis_t x (hn x hx) W2)
  have hC3 : (vs.any fun x => !wordB x.1) = false → ∀ W, Below w1.heap.size w1 W → Calls Tryd.prog 28 #[.slice A vs.length c] W fun e w' => e = .returned (.bool (decide (vs.map Prod.fst).Nodup)) ∧ Below W.heap.size W w' := fun h W hb =>
    diff_t vs A c W (hV1.over hb) (fun x hx => wordB_len (by have := List.any_eq_false.1 h x hx; simpa using this)) (by omega)
  have hC4 : ∀ W, Below w1.heap.size w1 W → Calls Tryd.prog 27 #[.slice A vs.length c, .func (.func 23) #[] #[]] W fun e w' => e = .returned (.bool (vs.any fun x => !wdB x.2)) ∧ Below W.heap.size W w' := fun W hb =>
    contV_t 23 #[] (enters_of Tryd.func23 (by kernel_rfl) rfl) (fun x => !wdB x.2) vs c A W (by omega) (hV1.over hb) (fun x hx W2 _ => miw_t x W2)
  have hC5 : ∀ W, Below w1.heap.size w1 W → Calls Tryd.prog 29 #[.slice A2 rows.length c2, .func (.func 25) #[] #[pp g]] W fun e w' => e = .returned (.bool (rows.any fun r => !isRowB vs r)) ∧ Below W.heap.size W w' := fun W hb =>
    contR_t 25 #[pp g] (enters_of Tryd.func25 (by kernel_rfl) rfl) (fun r => !isRowB vs r) rows c2 A2 W (by omega) (hR1.low hb) (fun r hr2 W2 hb2 A' c' hRD => mir_t _ _ ⟨_, _, _, rfl⟩ ⟨_, rfl⟩ vs A c r A' c' g W2 (hg1.over (below_step hb hb2)) (hV1.over (below_step hb hb2)) hRD (hr r hr2) (by omega))
  have hS : ∀ W, Below w1.heap.size w1 W → W.cell? ⟨g, 0, none⟩ = some (.string (bt top)) ∧ W.cell? ⟨g, 1, none⟩ = some (.slice A vs.length c) ∧ W.cell? ⟨g, 2, none⟩ = some (.slice A2 rows.length c2) ∧ g < W.heap.size := fun W hb => by
    have h := hg1.over hb
    exact ⟨h.c 0, h.c 1, h.c 2, h.lt⟩
  obtain ⟨x1, e1⟩ : ∃ x, wordB top = x := ⟨_, rfl⟩
  obtain ⟨x2, e2⟩ : ∃ x, (vs.any fun x => !wordB x.1) = x := ⟨_, rfl⟩
  obtain ⟨x3, e3⟩ : ∃ x, decide (vs.map Prod.fst).Nodup = x := ⟨_, rfl⟩
  obtain ⟨x4, e4⟩ : ∃ x, (vs.any fun x => !wdB x.2) = x := ⟨_, rfl⟩
  obtain ⟨x5, e5⟩ : ∃ x, (rows.any fun r => !isRowB vs r) = x := ⟨_, rfl⟩
  obtain ⟨nv, hnv⟩ : ∃ n, vs.length = n := ⟨_, rfl⟩
  obtain ⟨nr, hnr⟩ : ∃ n, rows.length = n := ⟨_, rfl⟩
  have hF : chkF top vs rows = if (!x1 || x2) = true then 9 else if x3 = false then 10 else if x4 = true then 2 else if 300 < nv ∨ 200 < nr then 19 else if x5 = true then 3 else 0 := by
    unfold chkF
    rw [e1, e2, e4, e5, hnv, hnr, ← e3]
    simp
  rw [hF]
  simp only [e1] at hC1
  simp only [e2] at hC2 hC3
  simp only [e3] at hC3
  simp only [e4] at hC4
  simp only [e5] at hC5
  simp only [hnv, hnr] at hC2 hC3 hC4 hC5 hS hw1 ⊢
  obtain ⟨ST, hST⟩ : ∃ S, bt top = S := ⟨_, rfl⟩
  simp only [hST] at hC1 hS hw1 ⊢
  obtain ⟨F, hFe⟩ : ∃ F : Int, (if (!x1 || x2) = true then 9 else if x3 = false then 10 else if x4 = true then 2 else if 300 < nv ∨ 200 < nr then 19 else if x5 = true then 3 else 0) = F := ⟨_, rfl⟩
  rw [hFe]
  have hb1' := hb1
  replace hb1 := Lib.hid hb1
  replace hC1 := Lib.hid hC1
  replace hC2 := Lib.hid hC2
  replace hC3 := Lib.hid hC3
  replace hC4 := Lib.hid hC4
  replace hC5 := Lib.hid hC5
  replace hS := Lib.hid hS
  replace hw1 := Lib.hid hw1
  replace hg := Lib.hid hg
  clear e1 e2 e3 e4 e5 hnv hnr hST hF hV hR hV1 hR1 hg1 ht hn hvl hrl hr hb1'
  obtain ⟨k0, k1, k2, kl⟩ := hS.out w1 (Below.refl _ _)
  go_enter Tryd.func12, Tryd.ntmps12
  go_wp2_with fail
  rw [hw1.out, hg.out]
  (with_reducible refine (hC1.out _).mono ?_)
  rintro e w2 ⟨rfl, hw2⟩
  subst hw2
  have hL := hb1
  clear hC1 hw1 hg
  cases x1
  · replace hFe := Lib.hid (show (9 : Int) = F by simpa using hFe)
    clear hS
    go_wp2_with fail
    go_ret
    exact ⟨by rw [← hFe.out]; rfl, hL.out⟩
  have hC := Lib.hid (hC2.out w1 (Below.refl _ _))
  clear hC2
  go_wp2_with fail
  (with_reducible refine hC.out.mono ?_)
  rintro e w2 ⟨rfl, hb2⟩
  obtain ⟨k0, k1, k2, kl⟩ := hS.out w2 hb2
  replace hL := Lib.hid (below_step hb1.out hb2)
  cases x2
  case true =>
    replace hFe := Lib.hid (show (9 : Int) = F by simpa using hFe)
    clear hS
    go_wp2_with fail
    go_ret
    exact ⟨by rw [← hFe.out]; rfl, hL.out⟩
  have hC := Lib.hid (hC3.out rfl w2 hb2)
  replace hb2 := Lib.hid hb2
  clear hC3
  go_wp2_with fail
  (with_reducible refine hC.out.mono ?_)
  rintro e w3 ⟨rfl, hb3⟩
  have hb13 := Lib.hid (below_step hb2.out hb3)
  obtain ⟨k0, k1, k2, kl⟩ := hS.out w3 hb13.out
  replace hL := Lib.hid (below_step hL.out hb3)
  clear hb2 hb3
  cases x3
  · replace hFe := Lib.hid (show (10 : Int) = F by simpa using hFe)
    clear hS
    go_wp2_with fail
    go_ret
    exact ⟨by rw [← hFe.out]; rfl, hL.out⟩
  replace hC := Lib.hid (hC4.out w3 hb13.out)
  clear hC4
  go_wp2_with fail
  (with_reducible refine hC.out.mono ?_)
  rintro e w4 ⟨rfl, hb4⟩
  have hb14 := Lib.hid (below_step hb13.out hb4)
  obtain ⟨k0, k1, k2, kl⟩ := hS.out w4 hb14.out
  replace hL := Lib.hid (below_step hL.out hb4)
  clear hb13 hb4
  cases x4
  case true =>
    replace hFe := Lib.hid (show (2 : Int) = F by simpa using hFe)
    clear hS
    go_wp2_with fail
    go_ret
    exact ⟨by rw [← hFe.out]; rfl, hL.out⟩
  by_cases h1 : 300 < nv
  · replace hFe := Lib.hid (show (19 : Int) = F by rw [← hFe]; simp [h1])
    clear hS
    go_wp2_with fail
    go_ret
    exact ⟨by rw [← hFe.out]; rfl, hL.out⟩
  by_cases h2 : 200 < nr
  · replace hFe := Lib.hid (show (19 : Int) = F by rw [← hFe]; simp [h2])
    clear hS
    go_wp2_with fail
    go_ret
    exact ⟨by rw [← hFe.out]; rfl, hL.out⟩
  replace hC := Lib.hid (hC5.out w4 hb14.out)
  clear hC5
  go_wp2_with fail
  (with_reducible refine hC.out.mono ?_)
  rintro e w5 ⟨rfl, hb5⟩
  replace hL := Lib.hid (below_step hL.out hb5)
  clear hb14 hb5
  cases x5
  · replace hFe := Lib.hid (show (0 : Int) = F by rw [← hFe]; simp [h1, h2])
    clear hS
    go_wp2_with fail
    go_ret
    exact ⟨by rw [← hFe.out]; rfl, hL.out⟩
  · replace hFe := Lib.hid (show (3 : Int) = F by rw [← hFe]; simp [h1, h2])
    clear hS
    go_wp2_with fail
    go_ret
    exact ⟨by rw [← hFe.out]; rfl, hL.out⟩
end Go.Proofs.YtbmdnmjgijblpaaDoor
