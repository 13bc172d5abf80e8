/-
  slices.DeleteFunc, walked; slices.Sort.
-/
import Derived.Test.YtembgefbmecdbaaR33
namespace Go.Proofs.Ytembgefbmecdbaa
open Go.RowKit Go.Lib
section
variable {B : Nat} {pr : Int → Bool}
theorem Sort_i (v : Value) (l : List Int) (w : World) (h : w.ownsRow B 3 1 v l.length (iv l)) (hl : l.length ≤ 1000000000) (hB : B ≤ w.heap.size) :
    Calls Try.prog 41 #[v] w fun e w' => e = .returned (.tuple #[]) ∧ OS B v (l.mergeSort fun x y => decide (x ≤ y)) w w' := by
  by_cases hn : v = .slice none 0 0
  · subst hn
    have h0 : l.length = 0 := by
      rcases h.2 with ⟨_, e⟩ | ⟨g, cap, cur, e, _⟩
      · exact e
      · cases e
    have h1 : l = [] := List.length_eq_zero_iff.1 h0
    subst h1
    exact (Try.slices_Sort_int_none _ _ w).mono fun e w' ⟨he, hw⟩ => ⟨he, by subst hw; exact ⟨by simpa using h, Below.refl _ _⟩⟩
  · obtain ⟨g, cap, rfl, hg, hgl, hcap, hmax, _, hH⟩ := holds_of_ownsRow h hn
    refine (Try.slices_Sort_int g 0 cap l w hH hgl (by omega)).mono fun e w' ⟨he, n, os, hw⟩ => ⟨he, ?_⟩
    subst hw
    rcases h.2 with ⟨e0, _⟩ | ⟨g', cap', cur, e0, hb, hgg, h1, h2, h3, h4⟩
    · cases e0
    cases e0
    have hl2 : (l.mergeSort fun x y => decide (x ≤ y)).length = l.length := List.length_mergeSort l
    refine ⟨?_, ?_⟩
    · have := ownsRow_sortedI (n := n) (os := os) (ss := l) (ts := l.mergeSort fun x y => decide (x ≤ y)) hl2 hg hgg h1 h2 h3
      rw [hl2]
      exact this
    · exact (Below.refl B w).grown (grownBy_sortedI (n := n) (os := os) (l.mergeSort fun x y => decide (x ≤ y)).toArray) hB (fun k e => by cases e; exact hg)
set_option maxRecDepth 100000 in
set_option maxHeartbeats 1600000 in
theorem del_t (g : Nat) (bnd lb : Array Value) (eg : ∀ args w, (callFunc g args).run Try.prog w = .ok (.enter g args) w) (v : Value) (l : List Int) (w : World) (h : w.ownsRow B 3 1 v l.length (iv l)) (hl : l.length ≤ 1000000) (hB : B ≤ w.heap.size)
    (hp : ∀ x, x ∈ l → ∀ W : World, Below B w W → Calls Try.prog g (bnd ++ #[.int .i64 x] ++ lb) W (RV W (.bool (pr x)))) :
    Calls Try.prog 39 #[v, .func (.func g) bnd lb] w fun e w' => ∃ v', e = .returned v' ∧ OS B v' (l.filter fun x => !pr x) w w' := by
  have hcells : ∀ (A : Option Addr) (c : Nat), v = .slice A l.length c → ∀ (j : Nat) (wr : World), Below B w wr ∧ True → j < l.length → True := fun _ _ _ _ _ _ _ => trivial
  clear hcells
  obtain ⟨A, c, ev⟩ := own_shape' h
  have hIx : Calls Try.prog 32 #[v, .func (.func g) bnd lb] w fun e w' => (∃ j, j < l.length ∧ e = .returned (.int .i64 (j : Int)) ∧ Below w.heap.size w w' ∧ (∀ i, i < j → pr (l.getD i 0) = false) ∧ pr (l.getD j 0) = true) ∨ (e = .returned (.int .i64 (-1)) ∧ Below w.heap.size w w' ∧ ∀ i, i < l.length → pr (l.getD i 0) = false) := by
    subst ev
    refine idxS_t g bnd lb eg (fun j => l.getD j 0) l.length c A w (by omega) (fun j wr => Below w.heap.size w wr ∧ ∀ i, i < j → pr (l.getD i 0) = false) (fun j wr => Below w.heap.size w wr ∧ (∀ i, i < j → pr (l.getD i 0) = false) ∧ pr (l.getD j 0) = true) ?_ ?_ ⟨Below.refl _ _, fun i hi => absurd hi (by omega)⟩
    · rintro j wr ⟨hb, _⟩ hj
      rcases h.2 with ⟨e, e0⟩ | ⟨g', cap, cur, e, b1, b2, b3, b4, b5, b6⟩
      · omega
      · cases e
        refine ⟨g', 0, rfl, Nat.lt_of_lt_of_le (lt_of_get b2) hb.size, (hb.cell (p := ⟨g', 0 + j, none⟩) (lt_of_get b2)).trans ?_⟩
        rw [Nat.zero_add, h.cellAt j (by omega)]
        simp [iv, List.getD, List.getElem?_eq_getElem hj]
    · rintro j wr ⟨hb, hall⟩ hj
      refine (hp _ (getD_mem' l j hj) wr (hb.mono hB)).mono ?_
      rintro e w' ⟨rfl, hb2⟩
      have hb3 := hb.trans (hb2.mono hb.size)
      cases hq : pr (l.getD j 0)
      · refine .inr ⟨rfl, hb3, fun i hi => ?_⟩
        by_cases k : i < j
        · exact hall i k
        · obtain rfl : i = j := by omega
          exact hq
      · exact .inl ⟨rfl, hb3, hall, rfl⟩
  replace hIx := Lib.hid hIx
  rcases h.2 with ⟨e, e0⟩ | ⟨gc, cap, cur, e, b1, b2, b3, b4, b5, b6⟩
  · have hl0 : l = [] := List.length_eq_zero_iff.1 e0
    subst hl0
    subst e
    replace h := Lib.hid h
    replace hB := Lib.hid hB
    clear hp ev
    go_enter Try.func39, Try.ntmps39
    go_wp2_with fail
    (with_reducible refine hIx.out.mono ?_)
    rintro e w1 (⟨j, hj, _⟩ | ⟨rfl, hb, _⟩)
    · exact absurd hj (by simp)
    · replace hb := Lib.hid hb
      clear hIx
      go_wp2_with fail
      go_ret
      exact ⟨_, rfl, own_keep h.out fun b hb2 => hb.out.block b (own_ltT h.out b hb2).2, hb.out.mono hB.out⟩
  · clear ev
    subst e
    have hcb : CB w gc cur 3 := b2
    have hls : l.length ≤ cur.size := by
      have : (cur.toList.take (l.length * 1)).length = l.length := by rw [b6]; simp [iv]
      rw [List.length_take] at this
      simp at this
      omega
    have hsame : ∀ w1, Below w.heap.size w w1 → (∀ i, i < l.length → pr (l.getD i 0) = false) → OS B (.slice (some ⟨gc, 0, none⟩) l.length cap) (l.filter fun x => !pr x) w w1 := by
      intro w1 hb hall
      have e : (l.filter fun x => !pr x) = l := by
        rw [List.filter_eq_self]
        intro x hx
        obtain ⟨i, hi⟩ := List.getElem?_of_mem hx
        have := hall i (lt_of_some hi)
        rw [List.getD_eq_getElem?_getD, hi, Option.getD_some] at this
        simp [this]
      rw [e]
      exact ⟨own_keep h fun b hb2 => hb.block b (own_ltT h b hb2).2, hb.mono hB⟩
    have hstart : ∀ w1 j, Below w.heap.size w w1 → j < l.length → (∀ i, i < j → pr (l.getD i 0) = false) → pr (l.getD j 0) = true → DI B gc l cur pr w (j + 1) j w1 := by
      intro w1 j hb hj hall hpj
      obtain ⟨y, hy⟩ : ∃ y, l[j]? = some y := ⟨_, List.getElem?_eq_getElem hj⟩
      have hyp : pr y = true := by rwa [List.getD_eq_getElem?_getD, hy, Option.getD_some] at hpj
      have e : (l.take (j + 1)).filter (fun x => !pr x) = l.take j := by
        rw [take_succ_some hy, List.filter_append]
        have e1 : (l.take j).filter (fun x => !pr x) = l.take j := by
          rw [List.filter_eq_self]
          intro x hx
          obtain ⟨i, hi⟩ := List.getElem?_of_mem hx
          have hi2 := lt_of_some hi
          rw [List.length_take] at hi2
          rw [List.getElem?_take, if_pos (by omega)] at hi
          have := hall i (by omega)
          rw [List.getD_eq_getElem?_getD, hi, Option.getD_some] at this
          simp [this]
        rw [e1]
        simp [hyp]
      have hcell : ∀ (t : Nat) (z : Int), l[t]? = some z → cur[t]? = some (iz z) := by
        intro t z hz
        have ht := lt_of_some hz
        have q : (cur.toList.take (l.length * 1))[t]? = (iv l)[t]? := by rw [b6]
        rw [List.getElem?_take, if_pos (by omega), Array.getElem?_toList] at q
        rw [q]
        simp [iv, hz]
      refine ⟨cur, hcb.over hb, rfl, by rw [e, List.length_take]; omega, by omega, fun t z hz => ?_, fun t z _ hz => hcell t z hz, hb.mono hB⟩
      rw [e] at hz
      have ht := lt_of_some hz
      rw [List.length_take] at ht
      rw [List.getElem?_take, if_pos (by omega)] at hz
      exact hcell t z hz
    have hround : ∀ wr j i, DI B gc l cur pr w j i wr → j < l.length → ∃ y, l[j]? = some y ∧ i < j ∧ gc < wr.heap.size ∧ wr.cell? ⟨gc, j, none⟩ = some (iz y) ∧ Calls Try.prog g (bnd ++ #[.int .i64 y] ++ lb) wr (RV wr (.bool (pr y))) := by
      rintro wr j i ⟨c', q1, q2, q3, q4, q5, q6, q7⟩ hj
      obtain ⟨y, hy⟩ : ∃ y, l[j]? = some y := ⟨_, List.getElem?_eq_getElem hj⟩
      exact ⟨y, hy, q4, lt_of_get q1, (q1.c j).trans (q6 j y (Nat.le_refl _) hy), hp y (List.mem_of_getElem? hy) wr q7⟩
    have hat : ∀ wr j i, DI B gc l cur pr w j i wr → j < l.length → (∃ u, wr.cell? ⟨gc, i, none⟩ = some u) ∧ wr.frozen? ⟨gc, i, none⟩ = false ∧ gc < wr.heap.size := by
      rintro wr j i ⟨c', q1, q2, q3, q4, q5, q6, q7⟩ hj
      exact ⟨⟨c'[i]'(by omega), (q1.c i).trans (Array.getElem?_eq_getElem (by omega))⟩, q1.fz i, lt_of_get q1⟩
    have hend : ∀ wr i, DI B gc l cur pr w l.length i wr → i < l.length ∧ (∀ ty, (Builtin.clear_ #[23] ty #[.slice (some ⟨gc, i, none⟩) (l.length - i) (cap - i)]).run Try.prog wr = .ok (.tuple #[]) (wr.setCells gc i (List.replicate (l.length - i) (iz 0)))) ∧ OS B (.slice (some ⟨gc, 0, none⟩) i cap) (l.filter fun x => !pr x) w (wr.setCells gc i (List.replicate (l.length - i) (iz 0))) := by
      intro wr i hI
      have hfin := hI.fin b1 h hcb (List.replicate (l.length - i) (iz 0))
      obtain ⟨c', q1, q2, q3, q4, q5, q6, q7⟩ := hI
      refine ⟨q4, fun ty => ?_, hfin⟩
      exact Lib.run_clear_slice wr 23 3 ty (iz 0) Try.underlying23 (fun w => by kernel_rfl) rfl rfl gc i (l.length - i) (cap - i) (by omega) (fun t ht => by rw [q1.c, Array.getElem?_eq_getElem (by omega)]; rfl) (fun t _ => q1.fz _)
    have hov : ∀ wr w' j i, DI B gc l cur pr w j i wr → Below wr.heap.size wr w' → DI B gc l cur pr w j i w' := fun wr w' j i q1 q2 => q1.over q2 hB
    have hkp := fun j i wr y (q : DI B gc l cur pr w j i wr) hy hpy => DI.keep (y := y) q hy hpy b1 hls
    obtain ⟨n, hn⟩ : ∃ n, l.length = n := ⟨_, rfl⟩
    simp only [hn] at hsame hstart hround hat hend hIx hl b3
    rw [hn]
    replace hsame := Lib.hid hsame
    replace hstart := Lib.hid hstart
    replace hround := Lib.hid hround
    replace hat := Lib.hid hat
    replace hend := Lib.hid hend
    replace hov := Lib.hid hov
    replace hkp := Lib.hid hkp
    clear h hp hn hcb b2 b5 b6 b4 hls hB
    go_enter Try.func39, Try.ntmps39
    go_wp2_with fail
    (with_reducible refine hIx.out.mono ?_)
    rintro e w1 (⟨j0, hj0, rfl, hb, hall, hpj⟩ | ⟨rfl, hb, hall⟩)
    · have hS := Lib.hid (hstart.out w1 j0 hb hj0 hall hpj)
      have hne : ((j0 : Int) == -1) = false := beq_eq_false_iff_ne.2 (by omega)
      clear hIx hstart hsame hb hall hpj
      go_wp2_with fail
      go_loopg [5, 6, 7] n (fun gg s5 s6 _ wr => ∃ j i : Nat, j ≤ n ∧ n - j ≤ gg ∧ s5 = .int .i64 (i : Int) ∧ s6 = .int .i64 (j : Int) ∧ i < j ∧ Hid (DI B gc l cur pr w j i wr))
      case atStart => exact ⟨j0 + 1, j0, by omega, by omega, rfl, by go_num, by omega, hS⟩
      case round =>
        obtain ⟨j, i, hj, hgg, rfl, rfl, hij, hI⟩ := hrel
        by_cases hlt : j < n
        · obtain ⟨y, hy, _, q1, q2, q3⟩ := hround.out wr j i hI.out hlt
          have hov' := Lib.hid (fun w' => hov.out wr w' j i hI.out)
          replace hy := Lib.hid hy
          clear hround hend hov hS hI
          cases hpy : pr y
          · rw [hpy] at q3
            replace hpy := Lib.hid hpy
            replace q3 := Lib.hid q3
            go_wp2_with fail
            go_at_fn g
            refine q3.out.mono ?_
            rintro e w2 ⟨rfl, hb2⟩
            have hI2 := Lib.hid (hov'.out w2 hb2)
            obtain ⟨⟨u, a1⟩, a2, a3⟩ := hat.out w2 j i hI2.out hlt
            clear q3 hov' hb2 q2 hat
            go_wp2_with fail
            go_roundg (n - (j + 1))
            case measure => omega
            case rel => exact ⟨j + 1, i + 1, by omega, by omega, by go_num, by go_num, by omega, Lib.hid (hkp.out j i w2 y hI2.out hy.out hpy.out)⟩
          · rw [hpy] at q3
            replace hpy := Lib.hid hpy
            replace q3 := Lib.hid q3
            go_wp2_with fail
            go_at_fn g
            refine q3.out.mono ?_
            rintro e w2 ⟨rfl, hb2⟩
            have hI2 := Lib.hid (hov'.out w2 hb2)
            clear q3 hov' hb2 q2 hat
            go_wp2_with fail
            go_roundg (n - (j + 1))
            case measure => omega
            case rel => exact ⟨j + 1, i, by omega, by omega, rfl, by go_num, by omega, Lib.hid (hI2.out.skip hy.out hpy.out)⟩
        · obtain rfl : j = n := by omega
          obtain ⟨a1, a2, a3⟩ := hend.out wr i hI.out
          replace a3 := Lib.hid a3
          have hic : ¬ cap = i := by omega
          clear hend hround hat hov hkp hS hI
          go_wp2_with fail
          go_ret
          exact ⟨_, rfl, a3.out⟩
    · have hS := Lib.hid (hsame.out w1 hb hall)
      clear hIx hstart hsame hround hat hend hov hkp hb hall
      go_wp2_with fail
      go_ret
      exact ⟨_, rfl, hS.out⟩
end
end Go.Proofs.Ytembgefbmecdbaa
