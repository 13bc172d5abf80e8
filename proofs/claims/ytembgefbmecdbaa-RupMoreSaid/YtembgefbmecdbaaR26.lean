/-
  propagate.
-/
import Derived.Test.YtembgefbmecdbaaR25
import Derived.Deep.LoopGhost
namespace Go.Proofs.Ytembgefbmecdbaa
open Go.RowKit Go.Lib
section
variable {B p : Nat} {k : PB} {s : PS} {W : Int → List Nat} {K : List (List Int)} {C : Nat → CAt}
variable {cs : List (List Int)} {A S : Int → Prop} {T0 : List Int} {g : Nat}
/-- While propagate goes on: b: no clause is false so far. -/
def PLI (B : Nat) (w : World) (p : Nat) (k : PB) (s : PS) (K : List (List Int)) (C : Nat → CAt) (cs : List (List Int)) (A S : Int → Prop) (T0 : List Int) (m : Nat) (b : Bool) (wr : World) : Prop :=
  ∃ (W' : Int → List Nat) (K' : List (List Int)) (s' : PS) (tv : Value), PIx B wr p { k with tv := tv } s' ∧ LM B wr { k with tv := tv } s' W' K' C ∧ VAL s'.val s'.tr ∧ s'.V = s.V ∧ s'.failed = s.failed ∧ (∃ ext, s'.tr = s.tr ++ ext) ∧ K'.length = K.length ∧ s.head ≤ s'.head ∧ s'.head ≤ s'.tr.length ∧ 2 * s.V + 1 ≤ s'.head + m ∧ (if b then GI s.V cs A S T0 s'.tr s'.head K' W' else GF s.V cs A S T0 s'.tr K' W') ∧ Below B w wr
theorem PLI.start (w : World) (hp : PIx B w p k s) (hl : LM B w k s W K C) (hv : VAL s.val s.tr) (hG : GI s.V cs A S T0 s.tr s.head K W) (hh : s.head ≤ s.tr.length) : PLI B w p k s K C cs A S T0 (2 * s.V + 1) true w :=
  ⟨W, K, s, k.tv, hp, hl, hv, rfl, rfl, ⟨[], by simp⟩, rfl, Nat.le_refl _, hh, by omega, by rw [if_pos rfl]; exact hG, Below.refl _ _⟩
theorem PIx.head {w : World} (h : PIx B w p k s) (j : Nat) : PIx B (w.setCell ⟨p, 4, none⟩ (iz (j : Int))) p k { s with head := j } ∧ KT w (w.setCell ⟨p, 4, none⟩ (iz (j : Int))) p k.vb k.tv k.tv ∧ Below B w (w.setCell ⟨p, 4, none⟩ (iz (j : Int))) := by
  have hk : ∀ y, y ≠ p → (w.setCell ⟨p, 4, none⟩ (iz (j : Int))).heap[y]? = w.heap[y]? := fun y hy => Below.heap_setCell w ⟨p, 4, none⟩ _ y hy
  have hs := heap_set w p 4 _ _ (iz (j : Int)) h.blk
  refine ⟨{ pB := h.pB, low := h.low, hV := h.hV, blk := (by exact hs), vab := (hk _ (h.vab.ne h.blk (by decide))).trans h.vab, wab := (hk _ (h.wab.ne h.blk (by decide))).trans h.wab, tro := own_keep h.tro fun b e => hk b (h.blk.own_ne h.tro (by decide) b e) }, { keep := fun y _ hy _ _ => hk y hy, own := fun _ e => .inl e }, (Below.refl B w).setCell (p := ⟨p, 4, none⟩) h.pB _⟩
/-- A literal of the trail, read. -/
theorem PIx.trail {w : World} (h : PIx B w p k s) {j : Nat} {x : Int} (hj : s.tr[j]? = some x) : ∃ b cap, k.tv = .slice (some ⟨b, 0, none⟩) s.tr.length cap ∧ w.cell? ⟨b, j, none⟩ = some (iz x) ∧ b < w.heap.size ∧ s.tr.length ≤ cap := by
  have hl := lt_of_some hj
  rcases h.tro.2 with ⟨_, e0⟩ | ⟨b, cap, cur, e, b1, b2, b3, b4, b5, b6⟩
  · omega
  · refine ⟨b, cap, e, ?_, lt_of_get b2, b3⟩
    rw [Lib.cell_of_heap b2]
    have q : (cur.toList.take (s.tr.length * 1))[j]? = (iv s.tr)[j]? := by rw [b6]
    rw [List.getElem?_take, if_pos (by omega), Array.getElem?_toList] at q
    rw [q]
    simp [iv, hj]
theorem not_take {T : List Int} (hn : T.Nodup) {n g : Nat} {x : Int} (hx : T[g]? = some x) (hg : n ≤ g) : x ∉ T.take n := by
  intro hm
  obtain ⟨i, hi⟩ := List.getElem?_of_mem hm
  have hi2 : i < n := by
    have := lt_of_some hi
    rw [List.length_take] at this
    omega
  rw [List.getElem?_take, if_pos hi2] at hi
  have h1 := lt_of_some hi
  have h2 := lt_of_some hx
  rw [List.getElem?_eq_getElem h1] at hi
  rw [List.getElem?_eq_getElem h2] at hx
  have := (List.getElem_inj hn (h₀ := h1) (h₁ := h2)).1 ((Option.some.inj hi).trans (Option.some.inj hx).symm)
  omega
/-- A literal of the trail has been visited. -/
theorem PLI.visited {w wr w' : World} {m : Nat} {K' : List (List Int)} {s' : PS} {tv : Value} {b : Bool}
    (eV : s'.V = s.V) (eF : s'.failed = s.failed) (eT : ∃ ext, s'.tr = s.tr ++ ext) (eK : K'.length = K.length) (eH : s.head ≤ s'.head) (hb : Below B w wr)
    (hj : s'.head < s'.tr.length) (hm : 2 * s.V + 1 ≤ s'.head + (m + 1)) (h : VX B wr p { k with tv := tv } { s' with head := s'.head + 1 } K' C cs A S T0 s'.head b w') : PLI B w p k s K C cs A S T0 m b w' := by
  obtain ⟨W3, K3, s3, tv3, h1, h2, h3, h4, h5, h6, ⟨ext, h7⟩, h8, h9, h10⟩ := h
  obtain ⟨ext0, eT⟩ := eT
  refine ⟨W3, K3, s3, tv3, h1, h2, h3, h4.trans eV, h6.trans eF, ⟨ext0 ++ ext, by rw [h7]; show s'.tr ++ ext = _; rw [eT, List.append_assoc]⟩, h8.trans eK, by rw [h5]; show s.head ≤ s'.head + 1; omega, by rw [h5, h7]; show s'.head + 1 ≤ (s'.tr ++ ext).length; rw [List.length_append]; omega, by rw [h5]; show 2 * s.V + 1 ≤ s'.head + 1 + m; omega, ?_, hb.trans h10⟩
  have eV' : ({ s' with head := s'.head + 1 } : PS).V = s.V := eV
  rw [eV'] at h9
  cases b
  · rw [if_neg (by decide)] at h9 ⊢
    exact h9
  · rw [if_pos rfl] at h9 ⊢
    rw [h5]
    exact h9
/-- What propagate leaves. -/
def PR (B : Nat) (w : World) (p : Nat) (k : PB) (s : PS) (K : List (List Int)) (C : Nat → CAt) (cs : List (List Int)) (A S : Int → Prop) (T0 : List Int) (b : Bool) (wr : World) : Prop :=
  ∃ (W' : Int → List Nat) (K' : List (List Int)) (s' : PS) (tv : Value), PIx B wr p { k with tv := tv } s' ∧ LM B wr { k with tv := tv } s' W' K' C ∧ VAL s'.val s'.tr ∧ s'.V = s.V ∧ s'.failed = s.failed ∧ (∃ ext, s'.tr = s.tr ++ ext) ∧ K'.length = K.length ∧ (if b then s'.head = s'.tr.length ∧ GI s.V cs A S T0 s'.tr s'.tr.length K' W' else GF s.V cs A S T0 s'.tr K' W') ∧ Below B w wr
theorem PLI.fail {w wr : World} {m : Nat} (h : PLI B w p k s K C cs A S T0 m false wr) : PR B w p k s K C cs A S T0 false wr := by
  obtain ⟨W', K', s', tv, hp, hl, hv, eV, eF, eT, eK, eH, eL, eM, hG, hb⟩ := h
  exact ⟨W', K', s', tv, hp, hl, hv, eV, eF, eT, eK, hG, hb⟩
set_option maxRecDepth 100000 in
set_option maxHeartbeats 3200000 in
theorem propagate_t (w : World) (hp : PIx B w p k s) (hl : LM B w k s W K C) (hv : VAL s.val s.tr) (n : Nat) (hn : n ≤ s.head) (hh : s.head ≤ s.tr.length) (hG : GI s.V cs A S (s.tr.take n) s.tr s.head K W) (hS : ∀ y, S y → Up cs A y) (hK : K.length < 90000) (hB : B ≤ w.heap.size) : Calls Try.prog 31 #[pp p] w fun e w' => ∃ b, e = .returned (.bool b) ∧ PR B w p k s K C cs A S (s.tr.take n) b w' := by
  have hst := Lib.hid (PLI.start w hp hl hv hG hh)
  have hsz : ∀ wr m b, PLI B w p k s K C cs A S (s.tr.take n) m b wr → B ≤ wr.heap.size := by
    rintro wr m b ⟨W', K', s', tv, _, _, _, _, _, _, _, _, _, _, _, hb⟩
    exact Nat.le_trans hB hb.size
  replace hsz := Lib.hid hsz
  have hnt : n ≤ s.tr.length := by omega
  obtain ⟨T0, hT0⟩ : ∃ T0, s.tr.take n = T0 := ⟨_, rfl⟩
  rw [hT0] at hst hsz ⊢
  replace hT0 := Lib.hid hT0
  replace hS := Lib.hid hS
  replace hn := Lib.hid hn
  replace hnt := Lib.hid hnt
  replace hK := Lib.hid hK
  have hV := Lib.hid hp.hV
  obtain ⟨M, hM⟩ : ∃ M, 2 * s.V + 1 = M := ⟨_, rfl⟩
  rw [hM] at hst
  replace hM := Lib.hid hM
  clear hp hl hv hh hG
  replace hB := Lib.hid hB
  go_enter Try.func31, Try.ntmps31
  go_wp2_with fail
  go_loopg [] M (fun gm wr => PLI B w p k s K C cs A S T0 gm true wr)
  case atStart => exact hst.out
  case round =>
    have hB1 := hsz.out _ _ _ hrel
    clear hst
    obtain ⟨W', K', s', tv, hp, hl, hv, eV, eF, eT, eK, eH, eL, eM, hG, hb⟩ := hrel
    rw [if_pos rfl] at hG
    have b4 : wr.cell? ⟨p, 4, none⟩ = some (iz (s'.head : Int)) := hp.blk.c 4
    have b3 : wr.cell? ⟨p, 3, none⟩ = some tv := hp.blk.c 3
    have bl := lt_of_get hp.blk
    have f4 := hp.blk.fz 4
    have htl := hG.wf.len
    have hVV := hV.out
    by_cases hlt : s'.head < s'.tr.length
    · obtain ⟨x, hx⟩ : ∃ x, s'.tr[s'.head]? = some x := ⟨_, List.getElem?_eq_getElem hlt⟩
      obtain ⟨c, cap, htv, c0, cl, hcap⟩ := hp.trail hx
      replace htv : tv = _ := htv
      have hxv := hG.wf.tv x (List.mem_of_getElem? hx)
      rw [htv] at b3
      obtain ⟨q1, q2, q3⟩ := hp.head (s'.head + 1)
      have hd2 : ∀ W0 : World, Below W0.heap.size W0 W0.drew.drew := fun _ => (Below.refl _ _).drew.drew
      have hl3 := (hl.kt (s' := { s' with head := s'.head + 1 }) hp q2 rfl rfl).over (hd2 _)
      replace q1 := q1.over (hd2 _)
      have eN : ((s'.head + 1 : Nat) : Int) = (s'.head : Int) + 1 := by omega
      rw [eN] at q1 q2 q3 hl3
      obtain ⟨m, rfl⟩ : ∃ m, gk = m + 1 := ⟨gk - 1, by omega⟩
      rw [← eV] at hG
      have hnd := hG.wf.tn
      have hB3 : B ≤ ((wr.setCell ⟨p, 4, none⟩ (iz ((s'.head : Int) + 1))).drew.drew).heap.size := by simpa using hB1
      have hbW : Below B w ((wr.setCell ⟨p, 4, none⟩ (iz ((s'.head : Int) + 1))).drew.drew) := (hb.trans q3).drew.drew
      have hx0 : -(-x) ∉ T0 := by
        rw [Int.neg_neg, ← hT0.out]
        have : s.tr.take n = s'.tr.take n := by
          obtain ⟨ext, e⟩ := eT
          rw [e, List.take_append_of_le_length hnt.out]
        rw [this]
        exact not_take hnd hx (by have := hn.out; omega)
      have hVt := visit_t ((wr.setCell ⟨p, 4, none⟩ (iz ((s'.head : Int) + 1))).drew.drew) q1 hl3 hv hG (-x) (by rw [Int.neg_neg]; exact hx) hx0 hS.out (by rw [eK]; exact hK.out) hB3 (by show -(s'.V : Int) ≤ -x; omega) (by show -x ≤ (s'.V : Int); omega)
      have hfin := fun b w' => PLI.visited (p := p) (k := k) (C := C) (cs := cs) (A := A) (S := S) (T0 := T0) (tv := tv) (b := b) (w' := w') (m := m) eV eF eT eK eH hbW hlt eM
      replace hVt := Lib.hid hVt
      replace hfin := Lib.hid hfin
      have hx1 : -60 ≤ x := by omega
      have hx2 : x ≤ 60 := by omega
      obtain ⟨h, hh⟩ : ∃ h, s'.head = h := ⟨_, rfl⟩
      obtain ⟨L, hL⟩ : ∃ L, s'.tr.length = L := ⟨_, rfl⟩
      rw [hh] at b4 c0
      rw [hL] at b3 htl
      rw [hh, hL] at hlt
      rw [hh] at hVt
      have hL2 : L ≤ 121 := by omega
      replace hh := Lib.hid hh
      clear hp hl hv eV eF eT eK eH eL eM hG hb hL htv hx q1 q2 q3 hl3 eN hnd hB3 hbW hx0 hd2 hB1
      go_wp2_with fail
      go_region
      go_wp2_with fail
      go_region
      go_wp2_with fail
      (with_reducible refine hVt.out.mono ?_)
      rintro e w4 ⟨b, rfl, hX⟩
      have hP := Lib.hid (hfin.out b w4 (by rw [hh.out]; exact hX))
      clear hX hVt hfin
      cases b
      · go_wp2_with fail
        go_ret
        exact ⟨false, rfl, hP.out.fail⟩
      · go_wp2_with fail
        go_roundg m
        case measure => exact Nat.lt_succ_self m
        case rel => exact hP.out
    · have hfin : PR B w p k s K C cs A S T0 true wr.drew := by
        have hd := Below.refl wr.heap.size wr
        have e : s'.head = s'.tr.length := by omega
        refine ⟨W', K', s', tv, hp.over hd.drew, hl.over hd.drew, hv, eV, eF, eT, eK, ?_, hb.drew⟩
        rw [if_pos rfl]
        rw [e] at hG
        exact ⟨e, hG⟩
      obtain ⟨D, cc, ev⟩ := own_shape' hp.tro
      replace ev : tv = _ := ev
      rw [ev] at b3
      replace hfin := Lib.hid hfin
      obtain ⟨h, hh⟩ : ∃ h, s'.head = h := ⟨_, rfl⟩
      obtain ⟨L, hL⟩ : ∃ L, s'.tr.length = L := ⟨_, rfl⟩
      rw [hh] at b4
      rw [hL] at b3 htl
      rw [hh, hL] at hlt
      have hL2 : L ≤ 121 := by omega
      clear hp hl hv eV eF eT eK eH eL eM hG hb hh hL ev f4
      go_wp2_with fail
      go_region
      go_wp2_with fail
      go_ret
      exact ⟨true, rfl, hfin.out⟩
end
end Go.Proofs.Ytembgefbmecdbaa
