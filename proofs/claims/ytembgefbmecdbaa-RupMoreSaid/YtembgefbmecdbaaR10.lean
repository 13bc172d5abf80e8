/-
  moves.
-/
import Derived.Test.YtembgefbmecdbaaR9
namespace Go.Proofs.Ytembgefbmecdbaa
open Go.RowKit Go.Lib
section
variable {B p : Nat} {k : PB} {s : PS} {W : Int → List Nat} {K : List (List Int)} {C : Nat → CAt}
/-- What moves leaves of the clause a, x, r, whose literal x has become false. -/
def MV (B : Nat) (w : World) (p : Nat) (k : PB) (s : PS) (W : Int → List Nat) (K : List (List Int)) (C : Nat → CAt) (x a : Int) (r : List Int) (i : Nat) (e : Ending) (w' : World) : Prop :=
  (((s.val a = 1 ∧ e = .returned (.bool false) ∧ LM B w' k s W (K.set i (a :: x :: r)) C) ∨ (s.val a ≠ 1 ∧ (∀ y, y ∈ r → s.val y = 2) ∧ e = .returned (.bool false) ∧ LM B w' k s W (K.set i (a :: x :: r)) C)) ∧ PIx B w' p k s ∧ Below B w w') ∨
  ∃ j o v, s.val a ≠ 1 ∧ r[j]? = some o ∧ s.val o ≠ 2 ∧ e = .returned (.bool true) ∧ LM B w' k { s with hd := updF s.hd o v } (updF W o (W o ++ [i])) (K.set i (a :: o :: r.set j x)) C ∧ PIx B w' p k { s with hd := updF s.hd o v } ∧ Below B w w'
set_option maxRecDepth 100000 in
set_option maxHeartbeats 6400000 in
theorem moves_0 (w : World) (hp : PIx B w p k s) (hl : LM B w k s W K C) (x a : Int) (r : List Int) (i : Nat) (hi : K[i]? = some (a :: x :: r)) (hax : a ≠ x) (ha : -(s.V : Int) ≤ a ∧ a ≤ s.V) (hr : ∀ y, y ∈ r → -(s.V : Int) ≤ y ∧ y ≤ s.V) (hrl : r.length ≤ 1000) (hW : ∀ y : Int, -(s.V : Int) ≤ y → y ≤ s.V → (W y).length < 100000) (hB : B ≤ w.heap.size) :
    Calls Try.prog 60 #[pp p, iz x, hdr (C i)] w (MV B w p k s W K C x a r i) := by
  obtain ⟨q1, q2, q3, cur, q4, q5⟩ := hl.cl i _ hi
  have ct := hl.ct i _ hi
  have c0 : w.cell? ⟨(C i).b, 0, none⟩ = some (iz a) := hl.cell hi rfl
  have c1 : w.cell? ⟨(C i).b, 1, none⟩ = some (iz x) := hl.cell hi rfl
  have cl := lt_of_get q4
  have f0 := q4.fz 0
  have f1 := q4.fz 1
  have hl1 := hl.setc (w' := w) hi (d := a :: x :: r) rfl q4 q5 fun y _ => rfl
  have hp1 := hp
  have hb1 : Below B w w := Below.refl B w
  obtain ⟨w1, hw1, hp1, hl1, hb1⟩ : ∃ W0, w = W0 ∧ PIx B W0 p k s ∧ LM B W0 k s W (K.set i (a :: x :: r)) C ∧ Below B w W0 := ⟨w, rfl, hp1, hl1, hb1⟩
  have hxx : (a == x) = false := by simpa using hax
  have hlen : i < K.length := lt_of_some hi
  have hi1 : (K.set i (a :: x :: r))[i]? = some (a :: x :: r) := List.getElem?_set_self hlen
  have hT := isTru_t w1 hp1 a ha.1 ha.2
  have d0 : w1.cell? ⟨(C i).b, 0, none⟩ = some (iz a) := hl1.cell hi1 rfl
  have hn : (C i).n = r.length + 2 := by rw [← q1]; simp
  rw [hn] at q2
  unfold hdr
  rw [hn]
  have hB1 : B ≤ w1.heap.size := Nat.le_trans hB hb1.size
  have cl1 : (C i).b < w1.heap.size := by
    obtain ⟨_, _, _, cu, u4, _⟩ := hl1.cl i _ hi1
    exact lt_of_get u4
  obtain ⟨v, hv⟩ : ∃ v, s.val a = v := ⟨_, rfl⟩
  rw [hv] at hT
  unfold MV
  replace hp1 := Lib.hid hp1
  replace hl1 := Lib.hid hl1
  replace hb1 := Lib.hid hb1
  replace hT := Lib.hid hT
  replace hi1 := Lib.hid hi1
  replace hi := Lib.hid hi
  replace hv := Lib.hid hv
  replace hr := Lib.hid hr
  replace hW := Lib.hid hW
  replace hB := Lib.hid hB
  replace hB1 := Lib.hid hB1
  subst hw1
  clear hp hl q1 q4 q5 ct 
  go_enter Try.func60, Try.ntmps60
  go_wp2_with fail
  
  (with_reducible refine hT.out.mono ?_)
  rintro e w2 ⟨rfl, hb2⟩
  have hp2 := hp1.out.over hb2
  have hl2 := hl1.out.over hb2
  have hb3 := hb1.out.trans (hb2.mono hB1.out)
  have cl2 : (C i).b < w2.heap.size := Nat.lt_of_lt_of_le cl1 hb2.size
  have hB2 : B ≤ w2.heap.size := Nat.le_trans hB1.out hb2.size
  replace hp2 := Lib.hid hp2
  replace hl2 := Lib.hid hl2
  replace hb3 := Lib.hid hb3
  replace hB2 := Lib.hid hB2
  clear hT hp1 hl1 hb1 hb2 d0 c0 c1 f0 f1 cl cl1 
  by_cases hv1 : v = 1
  · subst hv1
    go_wp2_with fail
    go_ret
    exact .inl ⟨.inl ⟨hv.out, rfl, hl2.out⟩, hp2.out, hb3.out⟩
  · have hv2 : (v == 1) = false := by simpa using hv1
    go_wp2_with fail
    all_goals (
      go_loopw [30] (fun iv wr => ∃ kk : Nat, kk ≤ r.length ∧ iv = .int .i64 (kk : Int) ∧ (∀ (j : Nat) (y : Int), j < kk → r[j]? = some y → s.val y = 2) ∧ Below w2.heap.size w2 wr) (fun iv _ => r.length - (RowKit.intOf iv).toNat)
      case atStart => exact ⟨0, by omega, rfl, fun _ _ h => absurd h (by omega), Below.refl _ _⟩
      case round =>
        obtain ⟨kk, hk, rfl, hno, hbr⟩ := hrel
        by_cases hlt : kk < r.length
        · obtain ⟨o, ho⟩ : ∃ o, r[kk]? = some o := ⟨r[kk], List.getElem?_eq_getElem hlt⟩
          have hpr := hp2.out.over hbr
          have hlr := hl2.out.over hbr
          have hor := hr.out o (List.mem_of_getElem? ho)
          have hC1 : wr.cell? ⟨(C i).b, 2 + kk, none⟩ = some (iz o) := hlr.cell hi1.out (by rw [Nat.add_comm]; simpa using ho)
          have hbb := Lib.hid (hb3.out.trans (hbr.mono hB2.out))
          have hBr := Lib.hid (Nat.le_trans hB2.out hbr.size)
          have clr := Nat.lt_of_lt_of_le cl2 hbr.size
          have hF := isFal_t wr hpr o hor.1 hor.2
          obtain ⟨z, hz⟩ : ∃ z, s.val o = z := ⟨_, rfl⟩
          rw [hz] at hF
          replace hF := Lib.hid hF
          replace hpr := Lib.hid hpr
          replace hlr := Lib.hid hlr
          replace hz := Lib.hid hz
          replace ho := Lib.hid ho
          replace hno := Lib.hid hno
          replace hbr := Lib.hid hbr
          replace hor := Lib.hid hor
          go_wp2_with fail
          all_goals (
            (with_reducible refine hF.out.mono ?_)
            rintro e w3 ⟨rfl, hb4⟩
            have hp3 := hpr.out.over hb4
            have hl3 := hlr.out.over hb4
            have hb5 := Lib.hid (hbb.out.trans (hb4.mono hBr.out))
            have hb6 := Lib.hid (hbr.out.trans (hb4.mono hbr.out.size))
            have hB3 : B ≤ w3.heap.size := Nat.le_trans hBr.out hb4.size
            have cl3 := Nat.lt_of_lt_of_le clr hb4.size
            clear hF hpr hlr hbb hbr hb4 hC1 hBr
            by_cases hz2 : z = 2
            · subst hz2
              replace hp3 := Lib.hid hp3
              replace hl3 := Lib.hid hl3
              replace hB3 := Lib.hid hB3
              go_wp2_with fail
              go_roundw
              case rel => exact ⟨kk + 1, by omega, by simp, fun j y hj hy => by
                rcases Nat.lt_or_ge j kk with q | q
                · exact hno.out j y q hy
                · obtain rfl : j = kk := by omega
                  have := ho.out
                  rw [hy] at this
                  cases this
                  exact hz.out, hb6.out⟩
              case measure => (change r.length - (((kk : Int) + 1)).toNat < r.length - ((kk : Int)).toNat; omega)
            · have hz3 : (z == 2) = false := by simpa using hz2
              obtain ⟨m1, m2, m3, cu, m4, m5⟩ := hl3.cl i _ hi1.out
              have ct3 := hl3.ct i _ hi1.out
              have hkl : 1 < (a :: x :: r).length := by simp
              have hkl2 : kk + 2 < (a :: x :: r).length := by simp; omega
              have f1 := m4.fz 1
              have f3 := m4.fz (kk + 2)
              have e1 : w3.cell? ⟨(C i).b, 1, none⟩ = some (iz x) := hl3.cell hi1.out rfl
              have e2 : w3.cell? ⟨(C i).b, kk + 2, none⟩ = some (iz o) := hl3.cell hi1.out (by simpa using ho.out)
              have hc2 : CB ((w3.setCell ⟨(C i).b, 1, none⟩ (iz o)).setCell ⟨(C i).b, kk + 2, none⟩ (iz x)) (C i).b ((cu.setIfInBounds 1 (iz o)).setIfInBounds (kk + 2) (iz x)) 3 := heap_set _ _ (kk + 2) _ _ (iz x) (heap_set w3 _ 1 _ _ (iz o) m4)
              have f2 := CB.fz (cs := cu.setIfInBounds 1 (iz o)) (heap_set w3 _ 1 _ _ (iz o) m4) (kk + 2)
              have ht2 := take_set2 (x := o) (y := x) m5 hkl hkl2
              have hk2 : ∀ y, y ≠ (C i).b → ((w3.setCell ⟨(C i).b, 1, none⟩ (iz o)).setCell ⟨(C i).b, kk + 2, none⟩ (iz x)).heap[y]? = w3.heap[y]? := fun y hy => (Below.heap_setCell _ _ _ y hy).trans (Below.heap_setCell _ _ _ y hy)
              have hp4 := hp3.setc m4 ct3 hk2
              have he : ((a :: x :: r).set 1 o).set (kk + 2) x = a :: o :: r.set kk x := rfl
              rw [he] at ht2
              have hl4 := hl3.setc hi1.out (d := a :: o :: r.set kk x) (by simp) hc2 ht2 hk2
              rw [List.set_set] at hl4
              have hb7 : Below B w ((w3.setCell ⟨(C i).b, 1, none⟩ (iz o)).setCell ⟨(C i).b, kk + 2, none⟩ (iz x)) := (hb5.out.setCell (p := ⟨(C i).b, 1, none⟩) q3 _).setCell (p := ⟨(C i).b, kk + 2, none⟩) q3 _
              have hB4 : B ≤ ((w3.setCell ⟨(C i).b, 1, none⟩ (iz o)).setCell ⟨(C i).b, kk + 2, none⟩ (iz x)).heap.size := by simpa using hB3
              have hK4 : (K.set i (a :: o :: r.set kk x))[i]? = some (a :: o :: r.set kk x) := List.getElem?_set_self hlen
              have hWt := watch_t _ hp4 hl4 o hor.out.1 hor.out.2 i _ hK4 (hW.out o hor.out.1 hor.out.2) hB4
              unfold hdr at hWt
              rw [hn] at hWt
              replace hWt := Lib.hid hWt
              replace hp3 := Lib.hid hp3
              replace hl3 := Lib.hid hl3
              replace hB3 := Lib.hid hB3
              replace hb7 := Lib.hid hb7
              replace hB4 := Lib.hid hB4
              clear hp4 hl4 hc2 ht2 hk2 m5 m4 m1 m2 he hK4 ct3
              go_wp2_with fail
              (with_reducible refine hWt.out.mono ?_)
              rintro e w5 ⟨rfl, ⟨vv, hp5, hl5⟩, hb8⟩
              replace hl5 := Lib.hid hl5
              replace hp5 := Lib.hid hp5
              replace hb8 := Lib.hid hb8
              go_wp2_with fail
              go_ret
              exact .inr ⟨kk, o, vv, by rw [hv.out]; exact hv1, ho.out, by rw [hz.out]; exact hz2, rfl, hl5.out, hp5.out, hb7.out.trans hb8.out⟩)
        · go_wp2_with fail
          go_ret
          exact .inl ⟨.inr ⟨by rw [hv.out]; exact hv1, fun y hy => by
            obtain ⟨j, hj⟩ := List.getElem?_of_mem hy
            exact hno j y (by have := lt_of_some hj; omega) hj, rfl, hl2.out.over hbr⟩, hp2.out.over hbr, hb3.out.trans (hbr.mono hB2.out)⟩)
set_option maxRecDepth 100000 in
set_option maxHeartbeats 6400000 in
theorem moves_1 (w : World) (hp : PIx B w p k s) (hl : LM B w k s W K C) (x a : Int) (r : List Int) (i : Nat) (hi : K[i]? = some (x :: a :: r)) (_hax : a ≠ x) (ha : -(s.V : Int) ≤ a ∧ a ≤ s.V) (hr : ∀ y, y ∈ r → -(s.V : Int) ≤ y ∧ y ≤ s.V) (hrl : r.length ≤ 1000) (hW : ∀ y : Int, -(s.V : Int) ≤ y → y ≤ s.V → (W y).length < 100000) (hB : B ≤ w.heap.size) :
    Calls Try.prog 60 #[pp p, iz x, hdr (C i)] w (MV B w p k s W K C x a r i) := by
  obtain ⟨q1, q2, q3, cur, q4, q5⟩ := hl.cl i _ hi
  have ct := hl.ct i _ hi
  have c0 : w.cell? ⟨(C i).b, 0, none⟩ = some (iz x) := hl.cell hi rfl
  have c1 : w.cell? ⟨(C i).b, 1, none⟩ = some (iz a) := hl.cell hi rfl
  have cl := lt_of_get q4
  have f0 := q4.fz 0
  have f1 := q4.fz 1
  have hc2 : CB ((w.setCell ⟨(C i).b, 0, none⟩ (iz a)).setCell ⟨(C i).b, 1, none⟩ (iz x)) (C i).b ((cur.setIfInBounds 0 (iz a)).setIfInBounds 1 (iz x)) 3 := heap_set _ _ 1 _ _ (iz x) (heap_set w _ 0 _ _ (iz a) q4)
  have ht2 := take_set2 (c := x :: a :: r) (i := 0) (j := 1) (x := a) (y := x) q5 (by simp) (by simp)
  have hk2 : ∀ y, y ≠ (C i).b → ((w.setCell ⟨(C i).b, 0, none⟩ (iz a)).setCell ⟨(C i).b, 1, none⟩ (iz x)).heap[y]? = w.heap[y]? := fun y hy => (Below.heap_setCell _ _ _ y hy).trans (Below.heap_setCell _ _ _ y hy)
  have hp1 := hp.setc q4 ct hk2
  have hl1 := hl.setc hi (d := a :: x :: r) (by simp) hc2 ht2 hk2
  have hb1 : Below B w ((w.setCell ⟨(C i).b, 0, none⟩ (iz a)).setCell ⟨(C i).b, 1, none⟩ (iz x)) := ((Below.refl B w).setCell (p := ⟨(C i).b, 0, none⟩) q3 _).setCell (p := ⟨(C i).b, 1, none⟩) q3 _
  obtain ⟨w1, hw1⟩ : ∃ W, ((w.setCell ⟨(C i).b, 0, none⟩ (iz a)).setCell ⟨(C i).b, 1, none⟩ (iz x)) = W := ⟨_, rfl⟩
  rw [hw1] at hp1 hl1 hb1
  have hxx : (x == x) = true := by simp
  have hlen : i < K.length := lt_of_some hi
  have hi1 : (K.set i (a :: x :: r))[i]? = some (a :: x :: r) := List.getElem?_set_self hlen
  have hT := isTru_t w1 hp1 a ha.1 ha.2
  have d0 : w1.cell? ⟨(C i).b, 0, none⟩ = some (iz a) := hl1.cell hi1 rfl
  have hn : (C i).n = r.length + 2 := by rw [← q1]; simp
  rw [hn] at q2
  unfold hdr
  rw [hn]
  have hB1 : B ≤ w1.heap.size := Nat.le_trans hB hb1.size
  have cl1 : (C i).b < w1.heap.size := by
    obtain ⟨_, _, _, cu, u4, _⟩ := hl1.cl i _ hi1
    exact lt_of_get u4
  obtain ⟨v, hv⟩ : ∃ v, s.val a = v := ⟨_, rfl⟩
  rw [hv] at hT
  unfold MV
  replace hp1 := Lib.hid hp1
  replace hl1 := Lib.hid hl1
  replace hb1 := Lib.hid hb1
  replace hT := Lib.hid hT
  replace hi1 := Lib.hid hi1
  replace hi := Lib.hid hi
  replace hv := Lib.hid hv
  replace hr := Lib.hid hr
  replace hW := Lib.hid hW
  replace hB := Lib.hid hB
  replace hB1 := Lib.hid hB1
  replace hw1 := Lib.hid hw1
  clear hp hl q1 q4 q5 ct hc2 ht2 hk2
  go_enter Try.func60, Try.ntmps60
  go_wp2_with fail
  rw [hw1.out]
  (with_reducible refine hT.out.mono ?_)
  rintro e w2 ⟨rfl, hb2⟩
  have hp2 := hp1.out.over hb2
  have hl2 := hl1.out.over hb2
  have hb3 := hb1.out.trans (hb2.mono hB1.out)
  have cl2 : (C i).b < w2.heap.size := Nat.lt_of_lt_of_le cl1 hb2.size
  have hB2 : B ≤ w2.heap.size := Nat.le_trans hB1.out hb2.size
  replace hp2 := Lib.hid hp2
  replace hl2 := Lib.hid hl2
  replace hb3 := Lib.hid hb3
  replace hB2 := Lib.hid hB2
  clear hT hp1 hl1 hb1 hb2 d0 c0 c1 f0 f1 cl cl1 hw1
  by_cases hv1 : v = 1
  · subst hv1
    go_wp2_with fail
    go_ret
    exact .inl ⟨.inl ⟨hv.out, rfl, hl2.out⟩, hp2.out, hb3.out⟩
  · have hv2 : (v == 1) = false := by simpa using hv1
    go_wp2_with fail
    all_goals (
      go_loopw [30] (fun iv wr => ∃ kk : Nat, kk ≤ r.length ∧ iv = .int .i64 (kk : Int) ∧ (∀ (j : Nat) (y : Int), j < kk → r[j]? = some y → s.val y = 2) ∧ Below w2.heap.size w2 wr) (fun iv _ => r.length - (RowKit.intOf iv).toNat)
      case atStart => exact ⟨0, by omega, rfl, fun _ _ h => absurd h (by omega), Below.refl _ _⟩
      case round =>
        obtain ⟨kk, hk, rfl, hno, hbr⟩ := hrel
        by_cases hlt : kk < r.length
        · obtain ⟨o, ho⟩ : ∃ o, r[kk]? = some o := ⟨r[kk], List.getElem?_eq_getElem hlt⟩
          have hpr := hp2.out.over hbr
          have hlr := hl2.out.over hbr
          have hor := hr.out o (List.mem_of_getElem? ho)
          have hC1 : wr.cell? ⟨(C i).b, 2 + kk, none⟩ = some (iz o) := hlr.cell hi1.out (by rw [Nat.add_comm]; simpa using ho)
          have hbb := Lib.hid (hb3.out.trans (hbr.mono hB2.out))
          have hBr := Lib.hid (Nat.le_trans hB2.out hbr.size)
          have clr := Nat.lt_of_lt_of_le cl2 hbr.size
          have hF := isFal_t wr hpr o hor.1 hor.2
          obtain ⟨z, hz⟩ : ∃ z, s.val o = z := ⟨_, rfl⟩
          rw [hz] at hF
          replace hF := Lib.hid hF
          replace hpr := Lib.hid hpr
          replace hlr := Lib.hid hlr
          replace hz := Lib.hid hz
          replace ho := Lib.hid ho
          replace hno := Lib.hid hno
          replace hbr := Lib.hid hbr
          replace hor := Lib.hid hor
          go_wp2_with fail
          all_goals (
            (with_reducible refine hF.out.mono ?_)
            rintro e w3 ⟨rfl, hb4⟩
            have hp3 := hpr.out.over hb4
            have hl3 := hlr.out.over hb4
            have hb5 := Lib.hid (hbb.out.trans (hb4.mono hBr.out))
            have hb6 := Lib.hid (hbr.out.trans (hb4.mono hbr.out.size))
            have hB3 : B ≤ w3.heap.size := Nat.le_trans hBr.out hb4.size
            have cl3 := Nat.lt_of_lt_of_le clr hb4.size
            clear hF hpr hlr hbb hbr hb4 hC1 hBr
            by_cases hz2 : z = 2
            · subst hz2
              replace hp3 := Lib.hid hp3
              replace hl3 := Lib.hid hl3
              replace hB3 := Lib.hid hB3
              go_wp2_with fail
              go_roundw
              case rel => exact ⟨kk + 1, by omega, by simp, fun j y hj hy => by
                rcases Nat.lt_or_ge j kk with q | q
                · exact hno.out j y q hy
                · obtain rfl : j = kk := by omega
                  have := ho.out
                  rw [hy] at this
                  cases this
                  exact hz.out, hb6.out⟩
              case measure => (change r.length - (((kk : Int) + 1)).toNat < r.length - ((kk : Int)).toNat; omega)
            · have hz3 : (z == 2) = false := by simpa using hz2
              obtain ⟨m1, m2, m3, cu, m4, m5⟩ := hl3.cl i _ hi1.out
              have ct3 := hl3.ct i _ hi1.out
              have hkl : 1 < (a :: x :: r).length := by simp
              have hkl2 : kk + 2 < (a :: x :: r).length := by simp; omega
              have f1 := m4.fz 1
              have f3 := m4.fz (kk + 2)
              have e1 : w3.cell? ⟨(C i).b, 1, none⟩ = some (iz x) := hl3.cell hi1.out rfl
              have e2 : w3.cell? ⟨(C i).b, kk + 2, none⟩ = some (iz o) := hl3.cell hi1.out (by simpa using ho.out)
              have hc2 : CB ((w3.setCell ⟨(C i).b, 1, none⟩ (iz o)).setCell ⟨(C i).b, kk + 2, none⟩ (iz x)) (C i).b ((cu.setIfInBounds 1 (iz o)).setIfInBounds (kk + 2) (iz x)) 3 := heap_set _ _ (kk + 2) _ _ (iz x) (heap_set w3 _ 1 _ _ (iz o) m4)
              have f2 := CB.fz (cs := cu.setIfInBounds 1 (iz o)) (heap_set w3 _ 1 _ _ (iz o) m4) (kk + 2)
              have ht2 := take_set2 (x := o) (y := x) m5 hkl hkl2
              have hk2 : ∀ y, y ≠ (C i).b → ((w3.setCell ⟨(C i).b, 1, none⟩ (iz o)).setCell ⟨(C i).b, kk + 2, none⟩ (iz x)).heap[y]? = w3.heap[y]? := fun y hy => (Below.heap_setCell _ _ _ y hy).trans (Below.heap_setCell _ _ _ y hy)
              have hp4 := hp3.setc m4 ct3 hk2
              have he : ((a :: x :: r).set 1 o).set (kk + 2) x = a :: o :: r.set kk x := rfl
              rw [he] at ht2
              have hl4 := hl3.setc hi1.out (d := a :: o :: r.set kk x) (by simp) hc2 ht2 hk2
              rw [List.set_set] at hl4
              have hb7 : Below B w ((w3.setCell ⟨(C i).b, 1, none⟩ (iz o)).setCell ⟨(C i).b, kk + 2, none⟩ (iz x)) := (hb5.out.setCell (p := ⟨(C i).b, 1, none⟩) q3 _).setCell (p := ⟨(C i).b, kk + 2, none⟩) q3 _
              have hB4 : B ≤ ((w3.setCell ⟨(C i).b, 1, none⟩ (iz o)).setCell ⟨(C i).b, kk + 2, none⟩ (iz x)).heap.size := by simpa using hB3
              have hK4 : (K.set i (a :: o :: r.set kk x))[i]? = some (a :: o :: r.set kk x) := List.getElem?_set_self hlen
              have hWt := watch_t _ hp4 hl4 o hor.out.1 hor.out.2 i _ hK4 (hW.out o hor.out.1 hor.out.2) hB4
              unfold hdr at hWt
              rw [hn] at hWt
              replace hWt := Lib.hid hWt
              replace hp3 := Lib.hid hp3
              replace hl3 := Lib.hid hl3
              replace hB3 := Lib.hid hB3
              replace hb7 := Lib.hid hb7
              replace hB4 := Lib.hid hB4
              clear hp4 hl4 hc2 ht2 hk2 m5 m4 m1 m2 he hK4 ct3
              go_wp2_with fail
              (with_reducible refine hWt.out.mono ?_)
              rintro e w5 ⟨rfl, ⟨vv, hp5, hl5⟩, hb8⟩
              replace hl5 := Lib.hid hl5
              replace hp5 := Lib.hid hp5
              replace hb8 := Lib.hid hb8
              go_wp2_with fail
              go_ret
              exact .inr ⟨kk, o, vv, by rw [hv.out]; exact hv1, ho.out, by rw [hz.out]; exact hz2, rfl, hl5.out, hp5.out, hb7.out.trans hb8.out⟩)
        · go_wp2_with fail
          go_ret
          exact .inl ⟨.inr ⟨by rw [hv.out]; exact hv1, fun y hy => by
            obtain ⟨j, hj⟩ := List.getElem?_of_mem hy
            exact hno j y (by have := lt_of_some hj; omega) hj, rfl, hl2.out.over hbr⟩, hp2.out.over hbr, hb3.out.trans (hbr.mono hB2.out)⟩)
end
end Go.Proofs.Ytembgefbmecdbaa
