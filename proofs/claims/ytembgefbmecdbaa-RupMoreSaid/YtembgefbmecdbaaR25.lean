/-
  visit.
-/
import Derived.Test.YtembgefbmecdbaaR21
namespace Go.Proofs.Ytembgefbmecdbaa
open Go.RowKit Go.Lib
section
variable {B p : Nat} {k : PB} {s : PS} {W : Int → List Nat} {K : List (List Int)} {C : Nat → CAt}
variable {cs : List (List Int)} {A S : Int → Prop} {T0 : List Int} {g : Nat}
theorem VM.len {w wr : World} {x : Int} {j q i : Nat} (h : VM B w p k s W K C cs A S T0 g x j q i wr) : 2 ≤ (C i).n := by
  obtain ⟨kp, Wm, Km, s', tv, a, c, r, _, _, _, _, hl, _, _, _, _, _, _, _, _, _, hc, _⟩ := h
  have hi : (Km.set i (a :: x :: r))[i]? = some (a :: x :: r) := List.getElem?_set_self (lt_of_some hc)
  have := (hl.cl i _ hi).1
  rw [← this]
  simp
theorem VX.over {w wr w' : World} {b : Bool} (h : VX B w p k s K C cs A S T0 g b wr) (hb : Below wr.heap.size wr w') (hB : B ≤ wr.heap.size) : VX B w p k s K C cs A S T0 g b w' := by
  obtain ⟨W', K', s', tv, h1, h2, h3, h4, h5, h6, h7, h8, h9, h10⟩ := h
  exact ⟨W', K', s', tv, h1.over hb, h2.over hb, h3, h4, h5, h6, h7, h8, h9, h10.trans (hb.mono hB)⟩
theorem VX.drew {w wr : World} {b : Bool} (h : VX B w p k s K C cs A S T0 g b wr) (hB : B ≤ w.heap.size) : VX B w p k s K C cs A S T0 g b wr.drew := by
  have hb : Below B w wr := by obtain ⟨W', K', s', tv, h1, h2, h3, h4, h5, h6, h7, h8, h9, h10⟩ := h; exact h10
  exact h.over (Below.refl _ _).drew (Nat.le_trans hB hb.size)
set_option maxRecDepth 100000 in
set_option maxHeartbeats 3200000 in
theorem visit_t (w : World) (hp : PIx B w p k s) (hl : LM B w k s W K C) (hv : VAL s.val s.tr) (hG : GI s.V cs A S T0 s.tr g K W) (x : Int) (hx : s.tr[g]? = some (-x)) (hx0 : -x ∉ T0) (hS : ∀ y, S y → Up cs A y) (hK : K.length < 90000) (hB : B ≤ w.heap.size) (h0 : -(s.V : Int) ≤ x) (h1 : x ≤ s.V) : Calls Try.prog 47 #[pp p, iz x] w fun e w' => ∃ b, e = .returned (.bool b) ∧ VX B w p k s K C cs A S T0 g b w' := by
  have hWx : (W x).length < 90000 := by have := hG.ww.len x; omega
  have hP := place_t w.drew (hp.over (Below.refl _ _).drew) x h0 h1
  have b2 : w.cell? ⟨p, 2, none⟩ = some (sl k.wb (2 * s.V + 1)) := hp.blk.c 2
  have bl := lt_of_get hp.blk
  have c0 : w.cell? ⟨k.wb, (x + s.V).toNat, none⟩ = some (s.hd x) := (hp.wab.c _).trans (vcs_get h0 h1)
  have cl := lt_of_get hp.wab
  have hst := VL.start (W := W) (K := K) (C := C) hp hl hv hG hx hx0 (Below.refl w.heap.size w).drew hB
  have hnx := fun wr j q b i (h : VL B w p k s W K C cs A S T0 g x j q b wr) hi => VL.next h h0 h1 (i := i) hi
  have hmv := fun wr j q i (h : VL B w p k s W K C cs A S T0 g x j q true wr) hb hi => VL.moves h hK hWx hb (i := i) hi
  have hpt := fun wr j q i (h : VM B w p k s W K C cs A S T0 g x j q i wr) hb => VM.put h h0 h1 hS hb
  have hid := fun wr j q i (h : VL B w p k s W K C cs A S T0 g x j q false wr) hi => VL.idle h h0 h1 (i := i) hi
  have hsz : ∀ wr j q b, VL B w p k s W K C cs A S T0 g x j q b wr → B ≤ wr.heap.size ∧ q ≤ j ∧ j ≤ (W x).length := by
    rintro wr j q b ⟨kp, Wm, Km, s', tv, e1, e2, e3, _, _, _, _, _, _, _, _, _, _, _, hb⟩
    exact ⟨Nat.le_trans hB hb.size, e2, e3⟩
  have hen := fun wr q b (h : VL B w p k s W K C cs A S T0 g x (W x).length q b wr) A' cap hD => VL.ends h h0 h1 (D := A') (cap := cap) hD
  obtain ⟨D, cc, ev⟩ := own_shape' (hl.li x h0 h1)
  have hend := fun wr q b h => hen wr q b h D cc ev
  have hcc : (W x).length ≤ cc := by
    rcases (hl.li x h0 h1).2 with ⟨e, e0⟩ | ⟨g', cap', cur, e, _, _, b3, _⟩
    · omega
    · rw [ev] at e; injection e with _ _ e3; omega
  replace hcc := Lib.hid hcc
  rw [ev] at c0
  rw [ev] at hnx hid
  simp only [ev] at hpt
  have hV := hp.hV
  obtain ⟨n, hn⟩ : ∃ n : Nat, (x + s.V).toNat = n := ⟨_, rfl⟩
  have hn2 : n < 2 * s.V + 1 := by omega
  rw [hn] at hP c0
  obtain ⟨m, hm⟩ : ∃ m, 2 * s.V + 1 = m := ⟨_, rfl⟩
  rw [hm] at b2 hn2
  have hm2 : m ≤ 121 := by omega
  replace hP := Lib.hid hP
  replace hst := Lib.hid hst
  replace hnx := Lib.hid hnx
  replace hmv := Lib.hid hmv
  replace hpt := Lib.hid hpt
  replace hid := Lib.hid hid
  replace hsz := Lib.hid hsz
  replace hend := Lib.hid hend
  replace hp := Lib.hid hp
  replace hl := Lib.hid hl
  have hB0 := Lib.hid hB
  clear hen hv hG hx hx0 hS hB ev hn hm
  go_enter Try.func47, Try.ntmps47
  go_wp2_with fail
  go_region_held3 (fun w' => w'.cell? ⟨p, 2, none⟩ = some (sl k.wb m) ∧ w'.cell? ⟨k.wb, n, none⟩ = some (.slice D (W x).length cc)) (exact ⟨b2, c0⟩)
    (first
      | (go_at_call 46; (with_reducible refine hP.out.mono ?_); rintro e w9 ⟨rfl, hw9⟩; subst hw9))
  clear b2 c0 bl cl hP
  go_wp2_with fail
  go_loopw [6, 7, 21] (fun qv bv iv wr => ∃ (j q : Nat) (b : Bool), j ≤ (W x).length ∧ qv = .int .i64 (q : Int) ∧ bv = .bool b ∧ iv = .int .i64 (j : Int) ∧ Hid (VL B w p k s W K C cs A S T0 g x j q b wr)) (fun _ _ iv _ => (W x).length - (RowKit.intOf iv).toNat)
  case atStart => exact ⟨0, 0, true, by omega, rfl, rfl, rfl, hst⟩
  case round =>
    obtain ⟨j, q, b, hj, rfl, rfl, rfl, hI⟩ := hrel
    obtain ⟨hB1, hq, _⟩ := hsz.out _ _ _ _ hI.out
    by_cases hlt : j < (W x).length
    · obtain ⟨i, hi⟩ : ∃ i, (W x)[j]? = some i := ⟨_, List.getElem?_eq_getElem hlt⟩
      obtain ⟨c, cap, k1, k2, k3⟩ := hnx.out _ _ _ _ _ hI.out hi
      injection k1 with k1 _ k4
      subst k1 k4
      replace hi := Lib.hid hi
      cases b
      · obtain ⟨c', cap', f1, ⟨u, f2⟩, f3, f4, f5⟩ := hid.out _ _ _ _ hI.out hi.out
        injection f1 with f1 _ f6
        injection f1 with f1
        injection f1 with f1
        subst f1
        replace f5 := Lib.hid f5
        clear hI
        go_wp2_with fail
        go_roundw
        case rel => exact ⟨j + 1, q + 1, false, by omega, by go_num, rfl, by go_num, f5⟩
        case measure => (change (W x).length - ((j : Int) + 1).toNat < (W x).length - ((j : Int)).toNat; omega)
      · have hM := Lib.hid (hmv.out _ _ _ _ hI.out hB1 hi.out)
        clear hI
        go_wp2_with fail
        (with_reducible refine hM.out.mono ?_)
        rintro e w3 (⟨rfl, hI2⟩ | ⟨rfl, hI2⟩)
        · replace hI2 := Lib.hid hI2
          clear hM
          go_wp2_with fail
          go_roundw
          case rel => exact ⟨j + 1, q, true, by omega, rfl, rfl, by go_num, hI2⟩
          case measure => (change (W x).length - ((j : Int) + 1).toNat < (W x).length - ((j : Int)).toNat; omega)
        · have hB3 : B ≤ w3.heap.size := by obtain ⟨kp, Wm, Km, s', tv, a, c0, r, _, _, _, _, _, _, _, _, _, _, _, _, _, _, _, _, _, _, hb⟩ := hI2; exact Nat.le_trans hB0.out hb.size
          obtain ⟨c', cap', a, f1, ⟨u, f2⟩, f3, f4, f5, f6, hMk⟩ := hpt.out _ _ _ _ hI2 hB3
          have hn2' := VM.len hI2
          have hn1 : 0 < (C i).n := by omega
          injection f1 with f1 _ f7
          injection f1 with f1
          injection f1 with f1
          subst f1
          replace hMk := Lib.hid hMk
          clear hI2 hM f7 hn2'
          go_wp2_with fail
          (with_reducible refine hMk.out.mono ?_)
          rintro e w4 ⟨t, rfl, hI3⟩
          replace hI3 := Lib.hid hI3
          clear hMk
          cases t
          all_goals (
            go_wp2_with fail
            go_roundw
            case rel => exact ⟨j + 1, q + 1, _, by omega, by go_num, rfl, by go_num, hI3⟩
            case measure => (change (W x).length - ((j : Int) + 1).toNat < (W x).length - ((j : Int)).toNat; omega))
    · obtain rfl : j = (W x).length := by omega
      have hX := Lib.hid (hend.out wr q b hI.out)
      have hpx : ∃ tv s', PIx B wr p { k with tv := tv } s' ∧ s'.V = s.V := by
        obtain ⟨kp, Wm, Km, s', tv, _, _, _, u1, _, _, u2, _⟩ := hI.out
        exact ⟨tv, s', u1, u2⟩
      obtain ⟨tv, s', u1, u2⟩ := hpx
      have hP := place_t wr.drew (u1.over (Below.refl _ _).drew) x (by rw [u2]; exact h0) (by rw [u2]; exact h1)
      have b2 : wr.cell? ⟨p, 2, none⟩ = some (sl k.wb (2 * s'.V + 1)) := u1.blk.c 2
      have c0 : wr.cell? ⟨k.wb, (x + s'.V).toNat, none⟩ = some (s'.hd x) := (u1.wab.c _).trans (vcs_get (by rw [u2]; exact h0) (by rw [u2]; exact h1))
      have cf := u1.wab.fz (x + s'.V).toNat
      have bl := lt_of_get u1.blk
      have cl := lt_of_get u1.wab
      rw [u2] at hP b2 c0 cf
      obtain ⟨n', hn'⟩ : ∃ n' : Nat, (x + s.V).toNat = n' := ⟨_, rfl⟩
      have hnm : n' < 2 * s.V + 1 := by omega
      rw [hn'] at hP c0 cf hX
      obtain ⟨m', hm'⟩ : ∃ m', 2 * s.V + 1 = m' := ⟨_, rfl⟩
      rw [hm'] at b2 hnm
      have hm3 : m' ≤ 121 := by omega
      have hql := (hsz.out _ _ _ _ hI.out).2.1
      have hcc' := hcc.out
      have hqc : q ≤ cc := Nat.le_trans hql hcc'
      have hk : ∀ {W0 : World} {j u}, W0.cell? ⟨p, 2, none⟩ = some (sl k.wb m') → (W0.setCell ⟨k.wb, j, none⟩ u).cell? ⟨p, 2, none⟩ = some (sl k.wb m') := cell_far (u1.blk.ne u1.wab (by decide))
      replace hP := Lib.hid hP
      clear hI u1 u2 hn' hm' hst hmv hpt hid hsz hend hnx hq hql hcc' hj hlt hp hl hB1
      go_wp2_with fail
      go_region_held3 (fun w' => w'.cell? ⟨p, 2, none⟩ = some (sl k.wb m')) (first | exact b2 | exact hk b2)
        (first
          | (go_at_call 46; (with_reducible refine hP.out.mono ?_); rintro e w9 ⟨rfl, hw9⟩; subst hw9))
      all_goals (
        go_wp2_with fail
        go_ret
        exact ⟨b, rfl, hX.out.drew hB0.out⟩)
end
end Go.Proofs.Ytembgefbmecdbaa
