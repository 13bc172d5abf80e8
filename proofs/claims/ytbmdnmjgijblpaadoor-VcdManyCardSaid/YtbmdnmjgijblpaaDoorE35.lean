/-
  Check.
-/
import Derived.Test.YtbmdnmjgijblpaaDoorE34
namespace Go.Proofs.YtbmdnmjgijblpaaDoor
open Go Go.RowKit Go.Lib Go.Maps
theorem any_take_r {vs : RW} {p : List (Nat × Nat) → Bool} {k : Nat} {x : List (Nat × Nat)} (h : vs[k]? = some x) : (vs.take (k + 1)).any p = ((vs.take k).any p || p x) := by
  obtain ⟨h1, h2⟩ := List.getElem?_eq_some_iff.1 h
  rw [List.take_succ_eq_append_getElem h1, List.any_append, h2]
  simp
set_option maxHeartbeats 1600000 in
set_option maxRecDepth 100000 in
theorem idxR_t (g : Nat) (lb : Array Value) (eg : ∀ args w, (callFunc g args).run Tryd.prog w = .ok (.enter g args) w) (p : List (Nat × Nat) → Bool) (vs : RW) (c : Nat) (A : Option Addr) (w : World) (hl : vs.length ≤ 100000) (hA : RM w A vs)
    (hp : ∀ x, x ∈ vs → ∀ W : World, Below w.heap.size w W → ∀ A' c', RD3 W A' x → Calls Tryd.prog g (#[.slice A' x.length c'] ++ lb) W fun e W' => e = .returned (.bool (p x)) ∧ Below W.heap.size W W') :
    Calls Tryd.prog 47 #[.slice A vs.length c, .func (.func g) #[] lb] w fun e w' => ∃ r : Int, e = .returned (iz r) ∧ decide (r ≥ 0) = vs.any p ∧ Below w.heap.size w w' := by
  obtain ⟨n, hn⟩ : ∃ n, vs.length = n := ⟨_, rfl⟩
  rw [hn] at hl ⊢
  replace hA := Lib.hid hA
  replace hp := Lib.hid hp
  replace hn := Lib.hid hn
  go_enter Tryd.func47, Tryd.ntmps47
  go_wp2_with fail
  go_loopw [8] (fun i wr => ∃ k : Nat, k ≤ n ∧ i = .int .i64 (k : Int) ∧ Hid ((vs.take k).any p = false ∧ Below w.heap.size w wr)) (fun i _ => n - (RowKit.intOf i).toNat)
  case atStart => exact ⟨0, Nat.zero_le _, rfl, Lib.hid ⟨rfl, Below.refl _ _⟩⟩
  case round =>
    obtain ⟨k, hk, rfl, hI⟩ := hrel
    by_cases hlt : k < n
    · have hkl : k < vs.length := by have := hn.out; omega
      obtain ⟨x, hx⟩ : ∃ x, vs[k]? = some x := ⟨_, List.getElem?_eq_getElem hkl⟩
      have hany := any_take_r (p := p) hx
      rw [hI.out.1, Bool.false_or] at hany
      have hRV := hA.out.low hI.out.2
      obtain ⟨b, rfl, hb, hc⟩ := hRV (by omega)
      obtain ⟨A', c', c0, hRD⟩ := hc k x hx
      have cS := hp.out x (List.mem_of_getElem? hx) wr hI.out.2 A' c' hRD
      have hbI := Lib.hid hI.out.2
      have hyes : p x = true → vs.any p = true := fun h => List.any_eq_true.2 ⟨x, List.mem_of_getElem? hx, h⟩
      obtain ⟨N, hN⟩ : ∃ N, x.length = N := ⟨_, rfl⟩
      rw [hN] at c0 cS
      clear hN hRD hc hx hRV hI hkl
      cases hpx : p x
      · rw [hpx] at cS hany
        replace cS := Lib.hid cS
        replace hany := Lib.hid hany
        clear hyes hpx
        go_wp2_with fail
        go_at_fn g
        refine cS.out.mono ?_
        rintro e w1 ⟨rfl, hw1⟩
        have hI2 := Lib.hid (And.intro hany.out (below_step hbI.out hw1))
        clear cS hw1
        go_wp2_with fail
        go_roundw
        case rel => exact ⟨k + 1, by omega, by go_num, hI2⟩
        case measure => simp [RowKit.intOf]; omega
      · rw [hpx] at cS
        replace cS := Lib.hid cS
        replace hyes := Lib.hid (hyes hpx)
        clear hany hpx
        go_wp2_with fail
        go_at_fn g
        refine cS.out.mono ?_
        rintro e w1 ⟨rfl, hw1⟩
        have hI2 := Lib.hid (below_step hbI.out hw1)
        clear cS hw1
        go_wp2_with fail
        go_ret
        exact ⟨(k : Int), rfl, by rw [hyes.out]; simp, hI2.out⟩
    · obtain rfl : k = n := by omega
      have hno : vs.any p = false := by have := hI.out.1; rwa [List.take_of_length_le (by have := hn.out; omega)] at this
      have hb := Lib.hid hI.out.2
      replace hno := Lib.hid hno
      clear hI
      go_wp2_with fail
      go_ret
      exact ⟨-1, rfl, by rw [hno.out]; rfl, hb.out⟩
set_option maxHeartbeats 1600000 in
set_option maxRecDepth 100000 in
theorem contR_t (g : Nat) (lb : Array Value) (eg : ∀ args w, (callFunc g args).run Tryd.prog w = .ok (.enter g args) w) (p : List (Nat × Nat) → Bool) (vs : RW) (c : Nat) (A : Option Addr) (w : World) (hl : vs.length ≤ 100000) (hA : RM w A vs)
    (hp : ∀ x, x ∈ vs → ∀ W : World, Below w.heap.size w W → ∀ A' c', RD3 W A' x → Calls Tryd.prog g (#[.slice A' x.length c'] ++ lb) W fun e W' => e = .returned (.bool (p x)) ∧ Below W.heap.size W W') :
    Calls Tryd.prog 29 #[.slice A vs.length c, .func (.func g) #[] lb] w fun e w' => e = .returned (.bool (vs.any p)) ∧ Below w.heap.size w w' := by
  have hI := idxR_t g lb eg p vs c A w hl hA hp
  obtain ⟨n, hn⟩ : ∃ n, vs.length = n := ⟨_, rfl⟩
  rw [hn] at hI ⊢
  obtain ⟨R, hR⟩ : ∃ R, vs.any p = R := ⟨_, rfl⟩
  rw [hR] at hI ⊢
  replace hI := Lib.hid hI
  clear hA hp hn hR hl
  go_enter Tryd.func29, Tryd.ntmps29
  go_wp2_with fail
  (with_reducible refine hI.out.mono ?_)
  rintro e w' ⟨r, rfl, hr, hb⟩
  replace hr := Lib.hid hr
  replace hb := Lib.hid hb
  go_wp2_with fail
  go_ret
  exact ⟨ret_b hr.out, hb.out⟩
theorem WidthV_t (n x : Nat) (w : World) : Calls Tryd.prog 45 #[.agg #[iz (n : Int), .int .u64 ((lo x : Nat) : Int), .int .u64 ((hi x : Nat) : Int)]] w fun e w' => e = .returned (.int .i64 (n : Int)) ∧ Below w.heap.size w w' := by
  go_enter Tryd.func45, Tryd.ntmps45
  go_wp2_with fail
  go_ret
  exact ⟨rfl, vnew _ _⟩
/-- Does a row have a value of each variable? -/
def isRowB (vs : List NV) (r : List (Nat × Nat)) : Bool := decide (r.map Prod.fst = vs.map Prod.snd)
theorem isRow_len {vs : List NV} {r : List (Nat × Nat)} (h : r.length ≠ vs.length) : isRowB vs r = false := by
  unfold isRowB
  rw [decide_eq_false_iff_not]
  intro e
  have := congrArg List.length e
  simp at this
  exact h this
set_option maxRecDepth 100000 in
set_option maxHeartbeats 3200000 in
theorem isRow_t (S : Value) (vs : List NV) (A : Option Addr) (c : Nat) (v2 : Value) (r : List (Nat × Nat)) (A' : Option Addr) (c' : Nat) (w : World) (hV : RVs w A vs) (hR : RD3 w A' r) (hl : r.length ≤ 1000000000) (hl2 : vs.length ≤ 1000000000) :
    Calls Tryd.prog 26 #[.agg #[S, .slice A vs.length c, v2], .slice A' r.length c'] w fun e w' => e = .returned (.bool (isRowB vs r)) ∧ Below w.heap.size w w' := by
  have hb1 := vnew w (.cells #[S, .slice A vs.length c, v2] 26)
  have hg1 : CV (w.alloc (.cells #[S, .slice A vs.length c, v2] 26)) w.heap.size #[S, .slice A vs.length c, v2] 26 := by unfold CV; exact Array.getElem?_push_size ..
  have hV1 := hV.over hb1
  have hR1 := hR.low hb1
  obtain ⟨w1, hw1⟩ : ∃ W, w.alloc (.cells #[S, .slice A vs.length c, v2] 26) = W := ⟨_, rfl⟩
  obtain ⟨g, hg⟩ : ∃ g, w.heap.size = g := ⟨_, rfl⟩
  rw [hw1] at hb1 hg1 hV1 hR1
  rw [hg] at hg1
  obtain ⟨nv, hnv⟩ : ∃ n, vs.length = n := ⟨_, rfl⟩
  obtain ⟨nr, hnr⟩ : ∃ n, r.length = n := ⟨_, rfl⟩
  have hne : nr ≠ nv → isRowB vs r = false := fun h => isRow_len (by omega)
  have k1 : w1.cell? ⟨g, 1, none⟩ = some (.slice A vs.length c) := hg1.c 1
  have kl := hg1.lt
  rw [hnv] at k1 hw1 ⊢
  rw [hnr] at hl ⊢
  rw [hnv] at hl2
  replace hw1 := Lib.hid hw1
  replace hg := Lib.hid hg
  by_cases hq : nr = nv
  · have hqb : Hid (∀ k, k ≤ nr → ((r.take k).map Prod.fst = (vs.take k).map Prod.snd) → k = nr → isRowB vs r = true) := Lib.hid fun k hk h e => by
      subst e
      rw [← hnr] at h
      rw [List.take_length, show r.length = vs.length from by omega, List.take_length] at h
      unfold isRowB
      exact decide_eq_true h
    have hqn : Hid (∀ (k : Nat) (x : Nat × Nat) (y : NV), r[k]? = some x → vs[k]? = some y → x.1 ≠ y.2 → isRowB vs r = false) := Lib.hid fun k x y hx hy h => by
      unfold isRowB
      rw [decide_eq_false_iff_not]
      intro e
      have := congrArg (fun l => l[k]?) e
      simp only [List.getElem?_map, hx, hy, Option.map_some] at this
      exact h (Option.some.inj this)
    have hWd := Lib.hid WidthV_t
    replace hV1 := Lib.hid hV1
    replace hR1 := Lib.hid hR1
    replace hnv := Lib.hid hnv
    replace hnr := Lib.hid hnr
    replace hb1 := Lib.hid hb1
    replace hg1 := Lib.hid hg1
    subst hq
    clear hV hR hne
    go_enter Tryd.func26, Tryd.ntmps26
    go_wp2_with fail
    rw [hw1.out, hg.out]
    clear k1 kl
    have hcell : Hid (∀ W, Below w1.heap.size w1 W → W.cell? ⟨g, 1, none⟩ = some (.slice A nr c) ∧ g < W.heap.size) := Lib.hid fun W hb => by
      have h := hg1.out.over hb
      exact ⟨(h.c 1).trans (by rw [hnv.out]; rfl), h.lt⟩
    go_loopw [14] (fun i wr => ∃ k : Nat, k ≤ nr ∧ i = .int .i64 (k : Int) ∧ Hid ((r.take k).map Prod.fst = (vs.take k).map Prod.snd ∧ Below w1.heap.size w1 wr)) (fun i _ => nr - (RowKit.intOf i).toNat)
    case atStart => exact ⟨0, Nat.zero_le _, rfl, Lib.hid ⟨rfl, Below.refl _ _⟩⟩
    case round =>
      obtain ⟨k, hk, rfl, hI⟩ := hrel
      by_cases hlt : k < nr
      · obtain ⟨x, hx⟩ : ∃ x, r[k]? = some x := ⟨_, List.getElem?_eq_getElem (by have := hnr.out; omega)⟩
        obtain ⟨y, hy⟩ : ∃ y, vs[k]? = some y := ⟨_, List.getElem?_eq_getElem (by have := hnv.out; omega)⟩
        obtain ⟨hpre, hbw⟩ := hI.out
        obtain ⟨b3, rfl, hb3, hc3⟩ := hR1.out.low hbw (by have := hnr.out; omega)
        obtain ⟨b2, rfl, hb2, hc2⟩ := hV1.out.over hbw (by have := hnv.out; omega)
        obtain ⟨x0, x1, x2⟩ := hc3 k x hx
        obtain ⟨_, y1⟩ := hc2 k y hy
        obtain ⟨z1, zl⟩ := hcell.out wr hbw
        have hxt : (r.take (k + 1)).map Prod.fst = (r.take k).map Prod.fst ++ [x.1] := by
          rw [List.take_succ_eq_append_getElem (List.getElem?_eq_some_iff.1 hx).1, List.map_append]
          simp [(List.getElem?_eq_some_iff.1 hx).2]
        have hyt : (vs.take (k + 1)).map Prod.snd = (vs.take k).map Prod.snd ++ [y.2] := by
          rw [List.take_succ_eq_append_getElem (List.getElem?_eq_some_iff.1 hy).1, List.map_append]
          simp [(List.getElem?_eq_some_iff.1 hy).2]
        have hW := fun W => hWd.out x.1 x.2 W
        obtain ⟨P, hP⟩ : ∃ P, (lo x.2 : Nat) = P := ⟨_, rfl⟩
        obtain ⟨Q, hQ⟩ : ∃ P, (hi x.2 : Nat) = P := ⟨_, rfl⟩
        obtain ⟨m1, hm1⟩ : ∃ m, x.1 = m := ⟨_, rfl⟩
        obtain ⟨m2, hm2⟩ : ∃ m, y.2 = m := ⟨_, rfl⟩
        have hS : ∀ W, Below wr.heap.size wr W → W.cell? ⟨b3, k * 3, none⟩ = some (iz (m1 : Int)) ∧ W.cell? ⟨b3, k * 3 + 1, none⟩ = some (.int .u64 (P : Int)) ∧ W.cell? ⟨b3, k * 3 + 2, none⟩ = some (.int .u64 (Q : Int)) ∧ b3 < W.heap.size ∧ W.cell? ⟨b2, k * 2 + 1, none⟩ = some (iz (m2 : Int)) ∧ b2 < W.heap.size ∧ W.cell? ⟨g, 1, none⟩ = some (.slice (some ⟨b2, 0, none⟩) nr c) ∧ g < W.heap.size := fun W hb => by
          rw [hm1] at x0
          rw [hP] at x1
          rw [hQ] at x2
          rw [hm2] at y1
          exact ⟨(hb.cell (p := ⟨b3, _, none⟩) hb3).trans x0, (hb.cell (p := ⟨b3, _, none⟩) hb3).trans x1, (hb.cell (p := ⟨b3, _, none⟩) hb3).trans x2, Nat.lt_of_lt_of_le hb3 hb.size, (hb.cell (p := ⟨b2, _, none⟩) hb2).trans y1, Nat.lt_of_lt_of_le hb2 hb.size, (hb.cell (p := ⟨g, _, none⟩) zl).trans z1, Nat.lt_of_lt_of_le zl hb.size⟩
        have hbq : ∀ W, Below wr.heap.size wr W → Below w.heap.size w W := fun W hb => below_step (below_step hb1.out hbw) hb
        simp only [hP, hQ, hm1] at hW
        replace hS := Lib.hid hS
        replace hbq := Lib.hid hbq
        replace hW := Lib.hid hW
        replace hbw := Lib.hid hbw
        have hbd : Hid (Below wr.heap.size wr wr.drew) := Lib.hid ((Below.refl _ wr).drew)
        by_cases hxy : m1 = m2
        · have hI2 : ∀ W, Below wr.heap.size wr W → Hid ((r.take (k + 1)).map Prod.fst = (vs.take (k + 1)).map Prod.snd ∧ Below w1.heap.size w1 W) := fun W hb => Lib.hid ⟨by rw [hxt, hyt, hpre, hm1, hm2, hxy], below_step hbw.out hb⟩
          replace hI2 := Lib.hid hI2
          have d0 : ((m1 : Int) != (m2 : Int)) = false := by simp [hxy]
          replace hxy := Lib.hid hxy
          clear hI hpre x0 x1 x2 y1 z1 zl hxt hyt hx hy hP hQ hm1 hm2 hc3 hc2 hb3 hb2 hqn hqb
          go_upto_region 6 with fail
          obtain ⟨kk0, kk1, kk2, kk3, kk4, kk5, kk6, kk7⟩ := hS.out wr (Below.refl _ _)
          go_region_held3 (fun w' => w'.cell? ⟨b3, k * 3, none⟩ = some (iz (m1 : Int)) ∧ w'.cell? ⟨b3, k * 3 + 1, none⟩ = some (.int .u64 (P : Int)) ∧ w'.cell? ⟨b3, k * 3 + 2, none⟩ = some (.int .u64 (Q : Int)) ∧ b3 < w'.heap.size ∧ w'.cell? ⟨b2, k * 2 + 1, none⟩ = some (iz (m2 : Int)) ∧ b2 < w'.heap.size ∧ w'.cell? ⟨g, 1, none⟩ = some (.slice (some ⟨b2, 0, none⟩) nr c) ∧ g < w'.heap.size) (first | exact kk | exact ⟨kk0, kk1, kk2, kk3, kk4, kk5, kk6, kk7⟩)
            (first | (go_at_call 45; (with_reducible refine (hW.out _).mono ?_); rintro e w7 ⟨rfl, hb7⟩; have hbp := below_step hbd.out hb7; have kk := hS.out w7 hbp; replace hbp := Lib.hid hbp; clear hb7))
          all_goals (
            have hI3 := hI2.out _ hbp.out
            clear kk kk0 kk1 kk2 kk3 kk4 kk5 kk6 kk7
            go_wp2_with fail
            go_roundw
            case rel => exact ⟨k + 1, by omega, by go_num, hI3⟩
            case measure => simp [RowKit.intOf]; omega)
        · have hF := Lib.hid (hqn.out k x y hx hy (by rw [hm1, hm2]; exact hxy))
          have d0 : ((m1 : Int) != (m2 : Int)) = true := by simp; omega
          replace hxy := Lib.hid hxy
          clear hI hpre x0 x1 x2 y1 z1 zl hxt hyt hx hy hP hQ hm1 hm2 hc3 hc2 hb3 hb2 hqn hqb
          go_upto_region 6 with fail
          obtain ⟨kk0, kk1, kk2, kk3, kk4, kk5, kk6, kk7⟩ := hS.out wr (Below.refl _ _)
          go_region_held3 (fun w' => w'.cell? ⟨b3, k * 3, none⟩ = some (iz (m1 : Int)) ∧ w'.cell? ⟨b3, k * 3 + 1, none⟩ = some (.int .u64 (P : Int)) ∧ w'.cell? ⟨b3, k * 3 + 2, none⟩ = some (.int .u64 (Q : Int)) ∧ b3 < w'.heap.size ∧ w'.cell? ⟨b2, k * 2 + 1, none⟩ = some (iz (m2 : Int)) ∧ b2 < w'.heap.size ∧ w'.cell? ⟨g, 1, none⟩ = some (.slice (some ⟨b2, 0, none⟩) nr c) ∧ g < w'.heap.size) (first | exact kk | exact ⟨kk0, kk1, kk2, kk3, kk4, kk5, kk6, kk7⟩)
            (first | (go_at_call 45; (with_reducible refine (hW.out _).mono ?_); rintro e w7 ⟨rfl, hb7⟩; have hbp := below_step hbd.out hb7; have kk := hS.out w7 hbp; replace hbp := Lib.hid hbp; clear hb7))
          all_goals (
            have hL := Lib.hid (hbq.out _ hbp.out)
            clear kk kk0 kk1 kk2 kk3 kk4 kk5 kk6 kk7
            go_wp2_with fail
            go_ret
            exact ⟨ret_b hF.out.symm, hL.out⟩)
      · obtain rfl : k = nr := by omega
        have hF := Lib.hid (hqb.out k (Nat.le_refl _) hI.out.1 rfl)
        have hL := Lib.hid (below_step hb1.out hI.out.2)
        clear hI
        go_wp2_with fail
        go_ret
        exact ⟨ret_b hF.out.symm, hL.out⟩
  · have hF := Lib.hid (hne hq)
    have d0 : ((nr : Int) != (nv : Int)) = true := by simp; omega
    replace hb1 := Lib.hid hb1
    clear hV hR hne hV1 hR1
    go_enter Tryd.func26, Tryd.ntmps26
    go_wp2_with fail
    rw [hw1.out]
    go_ret
    exact ⟨ret_b hF.out.symm, hb1.out⟩
end Go.Proofs.YtbmdnmjgijblpaaDoor
