/-
  The loop of visit: what holds at each place of the list.
  moves in the loop of visit.
  A clause that stays, put back into the list; makeTrue of its other watched literal.
  The rest of visit's loop once a clause is false; its end.
-/
import Derived.Test.YtembgefbmecdbaaR18
namespace Go.Proofs.Ytembgefbmecdbaa
open Go.RowKit Go.Lib
section
variable {B p : Nat} {k : PB} {s : PS} {W : Int → List Nat} {K : List (List Int)} {C : Nat → CAt}
variable {cs : List (List Int)} {A S : Int → Prop} {T0 : List Int} {g : Nat} {x : Int}
/-- A clause's header, read in the list of x. -/
theorem LM.at {w : World} (h : LM B w k s W K C) (x : Int) (h0 : -(s.V : Int) ≤ x) (h1 : x ≤ s.V) {j i : Nat} (hj : (W x)[j]? = some i) : ∃ b cap, s.hd x = .slice (some ⟨b, 0, none⟩) (W x).length cap ∧ w.cell? ⟨b, j, none⟩ = some (hdr (C i)) ∧ b < w.heap.size := by
  have hl := lt_of_some hj
  rcases (h.li x h0 h1).2 with ⟨_, e0⟩ | ⟨b, cap, cur, e, b1, b2, b3, b4, b5, b6⟩
  · omega
  · refine ⟨b, cap, e, ?_, lt_of_get b2⟩
    rw [Lib.cell_of_heap b2]
    have q : (cur.toList.take ((W x).length * 1))[j]? = ((W x).map fun i => hdr (C i))[j]? := by rw [b6]
    rw [List.getElem?_take, if_pos (by omega), Array.getElem?_toList, List.getElem?_map, hj] at q
    exact q
/-- j clauses of the list have been looked at, q of them are kept, b: no clause is false so far. -/
def VL (B : Nat) (w : World) (p : Nat) (k : PB) (s : PS) (W : Int → List Nat) (K : List (List Int)) (C : Nat → CAt) (cs : List (List Int)) (A S : Int → Prop) (T0 : List Int) (g : Nat) (x : Int) (j q : Nat) (b : Bool) (wr : World) : Prop :=
  ∃ (kp : List Nat) (Wm : Int → List Nat) (Km : List (List Int)) (s' : PS) (tv : Value), kp.length = q ∧ q ≤ j ∧ j ≤ (W x).length ∧ PIx B wr p { k with tv := tv } s' ∧ LM B wr { k with tv := tv } s' Wm Km C ∧ VAL s'.val s'.tr ∧ s'.V = s.V ∧ s'.hd x = s.hd x ∧ s'.head = s.head ∧ s'.failed = s.failed ∧ (∃ ext, s'.tr = s.tr ++ ext) ∧ Wm x = kp ++ (W x).drop q ∧ Km.length = K.length ∧ (if b then VI s.V cs A S T0 s'.tr g Km Wm x kp ((W x).drop j) else GF s.V cs A S T0 s'.tr Km (updF Wm x (kp ++ (W x).drop j))) ∧ Below B w wr
theorem VL.start {w wr : World} (hp : PIx B w p k s) (hl : LM B w k s W K C) (hv : VAL s.val s.tr) (hG : GI s.V cs A S T0 s.tr g K W) (hx : s.tr[g]? = some (-x)) (h0 : -x ∉ T0) (hb : Below w.heap.size w wr) (hB : B ≤ w.heap.size) : VL B w p k s W K C cs A S T0 g x 0 0 true wr :=
  ⟨[], W, K, s, k.tv, rfl, Nat.le_refl _, Nat.zero_le _, hp.over hb, hl.over hb, hv, rfl, rfl, rfl, rfl, ⟨[], by simp⟩, by simp, rfl, by rw [if_pos rfl]; exact hG.begin hx h0, (Below.refl B w).trans (hb.mono hB)⟩
/-- The clause that is next. -/
theorem VL.next {w wr : World} {j q : Nat} {b : Bool} (h : VL B w p k s W K C cs A S T0 g x j q b wr) (h0 : -(s.V : Int) ≤ x) (h1 : x ≤ s.V) {i : Nat} (hi : (W x)[j]? = some i) : ∃ c cap, s.hd x = .slice (some ⟨c, 0, none⟩) (W x).length cap ∧ wr.cell? ⟨c, j, none⟩ = some (hdr (C i)) ∧ c < wr.heap.size := by
  obtain ⟨kp, Wm, Km, s', tv, e1, e2, e3, hp, hl, hv, eV, eh, _, _, _, eW, _⟩ := h
  have hm : (Wm x)[j]? = some i := by
    rw [eW, List.getElem?_append_right (by omega), List.getElem?_drop, e1, show q + (j - q) = j by omega]
    exact hi
  obtain ⟨c, cap, k1, k2, k3⟩ := hl.at x (by rw [eV]; exact h0) (by rw [eV]; exact h1) hm
  have hlen : (Wm x).length = (W x).length := by
    rw [eW, List.length_append, List.length_drop, e1]; omega
  rw [eh, hlen] at k1
  exact ⟨c, cap, k1, k2, k3⟩
end
end Go.Proofs.Ytembgefbmecdbaa
namespace Go.Proofs.Ytembgefbmecdbaa
open Go.RowKit Go.Lib
section
variable {B p : Nat} {k : PB} {s : PS} {W : Int → List Nat} {K : List (List Int)} {C : Nat → CAt}
variable {cs : List (List Int)} {A S : Int → Prop} {T0 : List Int} {g : Nat} {x : Int}
/-- The clause i at place j stays: its state when moves has answered false. -/
def VM (B : Nat) (w : World) (p : Nat) (k : PB) (s : PS) (W : Int → List Nat) (K : List (List Int)) (C : Nat → CAt) (cs : List (List Int)) (A S : Int → Prop) (T0 : List Int) (g : Nat) (x : Int) (j q i : Nat) (wr : World) : Prop :=
  ∃ (kp : List Nat) (Wm : Int → List Nat) (Km : List (List Int)) (s' : PS) (tv : Value) (a : Int) (c r : List Int), kp.length = q ∧ q ≤ j ∧ j < (W x).length ∧ PIx B wr p { k with tv := tv } s' ∧ LM B wr { k with tv := tv } s' Wm (Km.set i (a :: x :: r)) C ∧ VAL s'.val s'.tr ∧ s'.V = s.V ∧ s'.hd x = s.hd x ∧ s'.head = s.head ∧ s'.failed = s.failed ∧ (∃ ext, s'.tr = s.tr ++ ext) ∧ Wm x = kp ++ (W x).drop q ∧ Km.length = K.length ∧ VI s'.V cs A S T0 s'.tr g Km Wm x kp (i :: (W x).drop (j + 1)) ∧ Km[i]? = some c ∧ (c = a :: x :: r ∨ c = x :: a :: r) ∧ (a :: x :: r).Perm c ∧ (a ∈ s'.tr ∨ ∀ y, y ∈ c → y ≠ a → -y ∈ s'.tr) ∧ Below B w wr
theorem VL.moves {w wr : World} {j q : Nat} (h : VL B w p k s W K C cs A S T0 g x j q true wr) (hK : K.length < 90000) (hWx : (W x).length < 90000) (hB : B ≤ wr.heap.size) {i : Nat} (hi : (W x)[j]? = some i) :
    Calls Try.prog 60 #[pp p, iz x, hdr (C i)] wr fun e w' => (e = .returned (.bool true) ∧ VL B w p k s W K C cs A S T0 g x (j + 1) q true w') ∨ (e = .returned (.bool false) ∧ VM B w p k s W K C cs A S T0 g x j q i w') := by
  obtain ⟨kp, Wm, Km, s', tv, e1, e2, e3, hp, hl, hv, eV, eh, eH, eF, eT, eW, eK, hG, hb⟩ := h
  rw [if_pos rfl] at hG
  have hjl := lt_of_some hi
  have hdr' : (W x).drop j = i :: (W x).drop (j + 1) := by
    rw [List.drop_eq_getElem_cons hjl]
    rw [List.getElem?_eq_getElem hjl] at hi
    cases hi
    rfl
  rw [hdr', ← eV] at hG
  have hmem : i ∈ updF Wm x (kp ++ i :: (W x).drop (j + 1)) x := by rw [updF_self]; simp
  obtain ⟨c, a, hc, hw⟩ := (hG.ww.me x i).1 hmem
  have hcm := List.mem_of_getElem? hc
  have hkl := hG.wf.kl c hcm
  have hw' : Wa c a x := by rcases hw with ⟨u1, u2⟩ | ⟨u1, u2⟩; exact .inr ⟨u1, u2⟩; exact .inl ⟨u1, u2⟩
  have hV := hp.hV
  have hlen : (Wm x).length = (W x).length := by rw [eW, List.length_append, List.length_drop, e1]; omega
  obtain ⟨r, hcr, hM⟩ := moves_t wr hp hl hc hw' (hw'.ne hkl.2.1) (fun y hy => by have := hkl.2.2 y hy; omega) (by have := hG.wf.clen hcm; omega)
    (fun y _ _ => by
      by_cases f : y = x
      · rw [f, hlen]; omega
      · have := hG.ww.len y
        rw [updF_other _ _ f] at this
        omega) hB
  refine hM.mono fun e w' hm => ?_
  rcases round_moves hG hv hc hcr hm with ⟨o, v, d, rfl, hox, hdl, q1, q2, q3, q4⟩ | ⟨rfl, q0, qp, q1, q2, q4⟩
  · refine .inl ⟨rfl, kp, _, _, _, tv, e1, by omega, by omega, q2, q1, hv, eV, ?_, eH, eF, eT, ?_, by rw [List.length_set]; exact eK, ?_, hb.trans q4⟩
    · exact (updF_other _ _ (fun f => hox f.symm)).trans eh
    · exact (updF_other _ _ (fun f => hox f.symm)).trans eW
    · rw [if_pos rfl, ← eV]; exact q3
  · exact .inr ⟨rfl, kp, Wm, Km, s', tv, a, c, r, e1, e2, hjl, q2, q1, hv, eV, eh, eH, eF, eT, eW, eK, hG, hc, hcr, qp, q0, hb.trans q4⟩
end
end Go.Proofs.Ytembgefbmecdbaa
namespace Go.Proofs.Ytembgefbmecdbaa
open Go.RowKit Go.Lib
theorem set_kept {kp l : List Nat} {i : Nat} (h : kp.length < l.length) : (kp ++ l.drop kp.length).set kp.length i = (kp ++ [i]) ++ l.drop (kp.length + 1) := by
  rw [List.set_append_right _ _ (Nat.le_refl _), Nat.sub_self, List.drop_eq_getElem_cons h, List.set_cons_zero, List.append_assoc]
  rfl
section
variable {B p : Nat} {k : PB} {s : PS} {W : Int → List Nat} {K : List (List Int)} {C : Nat → CAt}
variable {cs : List (List Int)} {A S : Int → Prop} {T0 : List Int} {g : Nat} {x : Int}
/-- The clause has been put to the kept ones: its first literal is read and made true. -/
theorem VM.put {w wr : World} {j q i : Nat} (h : VM B w p k s W K C cs A S T0 g x j q i wr) (h0 : -(s.V : Int) ≤ x) (h1 : x ≤ s.V) (hS : ∀ y, S y → Up cs A y) (hB : B ≤ wr.heap.size) :
    ∃ b cap a, s.hd x = .slice (some ⟨b, 0, none⟩) (W x).length cap ∧ (∃ u, wr.cell? ⟨b, q, none⟩ = some u) ∧ b < wr.heap.size ∧ wr.frozen? ⟨b, q, none⟩ = false ∧ (wr.setCell ⟨b, q, none⟩ (hdr (C i))).cell? ⟨(C i).b, 0, none⟩ = some (iz a) ∧ (C i).b < wr.heap.size ∧
      Calls Try.prog 30 #[pp p, iz a] (wr.setCell ⟨b, q, none⟩ (hdr (C i))) fun e w' => ∃ t, e = .returned (.bool t) ∧ VL B w p k s W K C cs A S T0 g x (j + 1) (q + 1) t w' := by
  obtain ⟨kp, Wm, Km, s', tv, a, c, r, rfl, e2, e3, hp, hl, hv, eV, eh, eH, eF, eT, eW, eK, hG, hc, hcr, hcp, ho, hb⟩ := h
  have hx0 : -(s'.V : Int) ≤ x := by rw [eV]; exact h0
  have hx1 : x ≤ s'.V := by rw [eV]; exact h1
  have hlen : (Wm x).length = (W x).length := by rw [eW, List.length_append, List.length_drop]; omega
  have hqm : kp.length < (Wm x).length := by omega
  obtain ⟨b, cap, k1, k2, hl2, hp2, hb2⟩ := hl.put hp x hx0 hx1 hqm i
  obtain ⟨u, hu⟩ : ∃ u, (Wm x)[kp.length]? = some u := ⟨_, List.getElem?_eq_getElem hqm⟩
  obtain ⟨b', cap', k3, k4, k5⟩ := hl.at x hx0 hx1 hu
  have hbb : b = b' := by
    rw [k1] at k3
    injection k3 with q1
    injection q1 with q1
    injection q1
  subst hbb
  have hil := lt_of_some hc
  have hi1 : (Km.set i (a :: x :: r))[i]? = some (a :: x :: r) := List.getElem?_set_self hil
  have hac : a ∈ c := hcp.mem_iff.1 (by simp)
  have hab := (hG.wf.kl c (List.mem_of_getElem? hc)).2.2 a hac
  obtain ⟨_, _, _, cu, c4, _⟩ := hl.cl i _ hi1
  have hst := round_stay hG hS hv hc hcr hcp ho
  have hmk := mk_t _ hp2 hl2 a hab.1 (by omega) hab.2.1 (by have := hG.wf.len; have := hp.hV; omega) (Nat.le_trans hB (by simp))
  rw [eh, hlen] at k1
  refine ⟨b, cap, a, k1, ⟨_, k4⟩, k5, k2 _, hl2.cell hi1 rfl, lt_of_get c4, hmk.mono ?_⟩
  rintro e w' ⟨rfl, tv', q1, q2, q3, _⟩
  have hWm : updF Wm x ((Wm x).set kp.length i) x = (kp ++ [i]) ++ (W x).drop (kp.length + 1) := by
    rw [updF_self, eW, set_kept (by omega)]
  have hext : ∃ ext, (s'.mk1 a).tr = s.tr ++ ext := by
    obtain ⟨ext, hext⟩ := eT
    have hm := (VAL.mk s' hv hab.1).2.2
    rw [hm]
    split
    · exact ⟨ext, hext⟩
    · exact ⟨ext ++ [a], by rw [hext, List.append_assoc]⟩
  have hF : (s'.mk1 a).failed = s.failed := by rw [← eF]; unfold PS.mk1; split <;> rfl
  have hH : (s'.mk1 a).head = s.head := by rw [← eH]; unfold PS.mk1; split <;> rfl
  refine ⟨_, rfl, kp ++ [i], _, _, s'.mk1 a, tv', by simp, by omega, by omega, q1, q2, hst.1, (s'.mk1_V a).trans eV, by rw [s'.mk1_hd a]; exact eh, hH, hF, hext, hWm, by rw [List.length_set]; exact eK, ?_, (hb.trans hb2).trans q3⟩
  rcases hst.2 with ⟨t1, t2⟩ | ⟨t1, t2, t3⟩
  · rw [if_pos (by simpa using t1), ← eV]
    exact t2.anyW _
  · rw [if_neg (by simpa using t1), ← eV, t2, updF_updF]
    exact t3
end
end Go.Proofs.Ytembgefbmecdbaa
namespace Go.Proofs.Ytembgefbmecdbaa
open Go.RowKit Go.Lib
section
variable {B p : Nat} {k : PB} {s : PS} {W : Int → List Nat} {K : List (List Int)} {C : Nat → CAt}
variable {cs : List (List Int)} {A S : Int → Prop} {T0 : List Int} {g : Nat} {x : Int}
theorem VL.idle {w wr : World} {j q : Nat} (h : VL B w p k s W K C cs A S T0 g x j q false wr) (h0 : -(s.V : Int) ≤ x) (h1 : x ≤ s.V) {i : Nat} (hi : (W x)[j]? = some i) :
    ∃ b cap, s.hd x = .slice (some ⟨b, 0, none⟩) (W x).length cap ∧ (∃ u, wr.cell? ⟨b, q, none⟩ = some u) ∧ b < wr.heap.size ∧ wr.frozen? ⟨b, q, none⟩ = false ∧ VL B w p k s W K C cs A S T0 g x (j + 1) (q + 1) false (wr.setCell ⟨b, q, none⟩ (hdr (C i))) := by
  obtain ⟨kp, Wm, Km, s', tv, rfl, e2, e3, hp, hl, hv, eV, eh, eH, eF, eT, eW, eK, hG, hb⟩ := h
  rw [if_neg (by decide)] at hG
  have hjl := lt_of_some hi
  have hdj : (W x).drop j = i :: (W x).drop (j + 1) := by
    rw [List.drop_eq_getElem_cons hjl]
    rw [List.getElem?_eq_getElem hjl] at hi
    cases hi
    rfl
  have hx0 : -(s'.V : Int) ≤ x := by rw [eV]; exact h0
  have hx1 : x ≤ s'.V := by rw [eV]; exact h1
  have hlen : (Wm x).length = (W x).length := by rw [eW, List.length_append, List.length_drop]; omega
  have hqm : kp.length < (Wm x).length := by omega
  obtain ⟨b, cap, k1, k2, hl2, hp2, hb2⟩ := hl.put hp x hx0 hx1 hqm i
  obtain ⟨u, hu⟩ : ∃ u, (Wm x)[kp.length]? = some u := ⟨_, List.getElem?_eq_getElem hqm⟩
  obtain ⟨b', cap', k3, k4, k5⟩ := hl.at x hx0 hx1 hu
  have hbb : b = b' := by
    rw [k1] at k3
    injection k3 with q1
    injection q1 with q1
    injection q1
  subst hbb
  have hWm : updF Wm x ((Wm x).set kp.length i) x = (kp ++ [i]) ++ (W x).drop (kp.length + 1) := by
    rw [updF_self, eW, set_kept (by omega)]
  rw [eh, hlen] at k1
  refine ⟨b, cap, k1, ⟨_, k4⟩, k5, k2 _, kp ++ [i], _, Km, s', tv, by simp, by omega, by omega, hp2, hl2, hv, eV, eh, eH, eF, eT, hWm, eK, ?_, hb.trans hb2⟩
  rw [if_neg (by decide), updF_updF, List.append_assoc]
  rw [hdj] at hG
  exact hG
/-- What a visit leaves. -/
def VX (B : Nat) (w : World) (p : Nat) (k : PB) (s : PS) (K : List (List Int)) (C : Nat → CAt) (cs : List (List Int)) (A S : Int → Prop) (T0 : List Int) (g : Nat) (b : Bool) (wr : World) : Prop :=
  ∃ (W' : Int → List Nat) (K' : List (List Int)) (s' : PS) (tv : Value), PIx B wr p { k with tv := tv } s' ∧ LM B wr { k with tv := tv } s' W' K' C ∧ VAL s'.val s'.tr ∧ s'.V = s.V ∧ s'.head = s.head ∧ s'.failed = s.failed ∧ (∃ ext, s'.tr = s.tr ++ ext) ∧ K'.length = K.length ∧ (if b then GI s.V cs A S T0 s'.tr (g + 1) K' W' else GF s.V cs A S T0 s'.tr K' W') ∧ Below B w wr
theorem VL.ends {w wr : World} {q : Nat} {b : Bool} (h : VL B w p k s W K C cs A S T0 g x (W x).length q b wr) (h0 : -(s.V : Int) ≤ x) (h1 : x ≤ s.V) {D : Option Addr} {cap : Nat} (hD : s.hd x = .slice D (W x).length cap) :
    VX B w p k s K C cs A S T0 g b (wr.setCell ⟨k.wb, (x + s.V).toNat, none⟩ (.slice D q cap)) := by
  obtain ⟨kp, Wm, Km, s', tv, rfl, e2, e3, hp, hl, hv, eV, eh, eH, eF, eT, eW, eK, hG, hb⟩ := h
  have hx0 : -(s'.V : Int) ≤ x := by rw [eV]; exact h0
  have hx1 : x ≤ s'.V := by rw [eV]; exact h1
  have hlen : (Wm x).length = (W x).length := by rw [eW, List.length_append, List.length_drop]; omega
  obtain ⟨q1, q2, q3⟩ := hl.cut hp x hx0 hx1 (j := kp.length) (by omega) (by rw [eh, hlen]; exact hD)
  have ht : (Wm x).take kp.length = kp := by rw [eW]; simp
  rw [ht] at q1
  rw [← eV]
  refine ⟨_, Km, _, tv, q2, q1, hv, eV, eH, eF, eT, eK, ?_, hb.trans q3⟩
  rw [List.drop_length] at hG
  cases b
  · rw [if_neg (by decide)] at hG ⊢
    rw [List.append_nil] at hG
    exact hG
  · rw [if_pos rfl] at hG ⊢
    exact hG.ends
end
end Go.Proofs.Ytembgefbmecdbaa
