/-
  refutes: what holds while its assumptions are made, at its end, and what clear then leaves.
  refutes: an assumption is made.
  refutes.
  A propagator between calls; refutes whole.
-/
import Derived.Test.YtembgefbmecdbaaR28
namespace Go.Proofs.Ytembgefbmecdbaa
open Go.RowKit Go.Lib
section
set_option maxHeartbeats 1600000 in
set_option maxRecDepth 100000 in
theorem contS_t (g : Nat) (bnd lb : Array Value) (eg : ∀ args w, (callFunc g args).run Try.prog w = .ok (.enter g args) w) (f : Nat → Int) (n c : Nat) (A : Option Addr) (w : World) (hn : n ≤ 1000000000000) (I J : Nat → World → Prop)
    (hA : ∀ j wr, I j wr → j < n → ∃ b off : Nat, A = some ⟨b, off, none⟩ ∧ b < wr.heap.size ∧ wr.cell? ⟨b, off + j, none⟩ = some (.int .i64 (f j)))
    (hs : ∀ j wr, I j wr → j < n → Calls Try.prog g (bnd ++ #[.int .i64 (f j)] ++ lb) wr fun e w' => (e = .returned (.bool true) ∧ J j w') ∨ (e = .returned (.bool false) ∧ I (j + 1) w')) (h0 : I 0 w) :
    Calls Try.prog 18 #[.slice A n c, .func (.func g) bnd lb] w fun e w' => (e = .returned (.bool true) ∧ ∃ j, j < n ∧ J j w') ∨ (e = .returned (.bool false) ∧ I n w') := by
  have hI := Lib.hid (idxS_t g bnd lb eg f n c A w hn I J hA hs h0)
  clear hA hs h0
  go_enter Try.func18, Try.ntmps18
  go_wp2_with fail
  (with_reducible refine hI.out.mono ?_)
  rintro e w' (⟨j, hj, rfl, hJ⟩ | ⟨rfl, hJ⟩)
  · replace hJ := Lib.hid hJ
    have hj2 := Lib.hid hj
    clear hI
    go_wp2_with fail
    go_ret
    exact .inl ⟨rfl, j, hj2.out, hJ.out⟩
  · replace hJ := Lib.hid hJ
    clear hI
    go_wp2_with fail
    go_ret
    exact .inr ⟨rfl, hJ.out⟩
end
/-- What must hold for the assumptions to be taken back. -/
structure GC (V : Nat) (cs : List (List Int)) (S : Int → Prop) (T0 T : List Int) (K : List (List Int)) (W : Int → List Nat) : Prop where
  wf : Wf V T K
  ww : WW K W
  p0 : PW K (fun _ => False) (· ∈ T0) (· ∈ T0)
  st : Sto cs K S
  sb : ∀ y, y ∈ T0 → y ∈ T
section
variable {V : Nat} {cs : List (List Int)} {A A' S : Int → Prop} {T0 T : List Int} {g n : Nat} {K : List (List Int)} {W : Int → List Nat}
theorem GI.gc (h : GI V cs A S T0 T g K W) : GC V cs S T0 T K W := ⟨h.wf, h.ww, h.p0, h.st, h.sb⟩
theorem GF.gc (h : GF V cs A S T0 T K W) : GC V cs S T0 T K W := ⟨h.wf, h.ww, h.p0, h.st, h.sb⟩
theorem GC.clear (h : GC V cs S (T.take n) T K W) (hu : ∀ y, y ∈ T.take n → Up cs A' y) : GI V cs A' S (T.take n) (T.take n) n K W :=
  { wf := h.wf.take n, ww := h.ww, pw := by rw [List.take_take, Nat.min_self]; exact h.p0, p0 := h.p0, st := h.st, up := hu, sb := fun _ q => q }
end
section
variable {B p : Nat} {k : PB} {s : PS} {W : Int → List Nat} {K : List (List Int)} {C : Nat → CAt}
variable {cs : List (List Int)} {A S : Int → Prop}
/-- At the end of refutes, ahead of clear: b: the assumptions fail. -/
def DS (B : Nat) (w : World) (p : Nat) (k : PB) (s : PS) (K : List (List Int)) (C : Nat → CAt) (cs : List (List Int)) (A S : Int → Prop) (b : Bool) (wr : World) : Prop :=
  (b = true ↔ Fails cs A) ∧ ∃ (W' : Int → List Nat) (K' : List (List Int)) (s' : PS) (tv : Value), PIx B wr p { k with tv := tv } s' ∧ LM B wr { k with tv := tv } s' W' K' C ∧ VAL s'.val s'.tr ∧ s'.V = s.V ∧ s'.failed = s.failed ∧ (∃ ext, s'.tr = s.tr ++ ext) ∧ K'.length = K.length ∧ GC s.V cs S s.tr s'.tr K' W' ∧ Below B w wr
/-- What refutes leaves. -/
def RF (B : Nat) (w : World) (p : Nat) (k : PB) (s : PS) (K : List (List Int)) (C : Nat → CAt) (cs : List (List Int)) (A S : Int → Prop) (b : Bool) (wr : World) : Prop :=
  (b = true ↔ Fails cs A) ∧ ∃ (W' : Int → List Nat) (K' : List (List Int)) (s' : PS) (tv : Value), PIx B wr p { k with tv := tv } s' ∧ LM B wr { k with tv := tv } s' W' K' C ∧ VAL s'.val s'.tr ∧ s'.V = s.V ∧ s'.failed = s.failed ∧ s'.tr = s.tr ∧ s'.head = s.tr.length ∧ K'.length = K.length ∧ GI s.V cs (fun _ => False) S s.tr s.tr s.tr.length K' W' ∧ Below B w wr
theorem DS.clear {w wr : World} {b : Bool} (u : FrameMode) (h : DS B w p k s K C cs A S b wr) (hu : ∀ y, y ∈ s.tr → Up cs (fun _ => False) y) (hB : B ≤ w.heap.size) :
    CallsD Try.prog 28 #[pp p, iz (s.tr.length : Int)] u wr fun e u' w' => u' = u ∧ (e = .returned (.tuple #[]) ∧ RF B w p k s K C cs A S b w') := by
  obtain ⟨hF, W', K', s', tv, hp, hl, hv, eV, eF, ⟨ext, eT⟩, eK, hG, hb⟩ := h
  have hwf := hG.wf
  have hlen := hwf.len
  have hV := hp.hV
  have htk : s'.tr.take s.tr.length = s.tr := by rw [eT, List.take_append_of_le_length (Nat.le_refl _), List.take_length]
  refine (clear_t u wr hp hv (by omega) hwf.tn hwf.to (fun y hy => by rw [eV]; exact hwf.tv y hy) s.tr.length (by rw [eT, List.length_append]; omega) (Nat.le_trans hB hb.size)).mono ?_
  rintro e u' w' ⟨rfl, rfl, tv', val, q1, q2, q3, q4⟩
  refine ⟨rfl, rfl, hF, W', K', _, tv', q1, hl.kt hp q3 rfl rfl, q2, eV, eF, htk, rfl, eK, ?_, hb.trans q4⟩
  have := GC.clear (n := s.tr.length) (A' := fun _ => False) (by rw [htk]; exact hG) (by rw [htk]; exact hu)
  rwa [htk] at this
/-- While refutes makes its assumptions: the first j of lits are false. -/
def IS (B : Nat) (w : World) (p : Nat) (k : PB) (s : PS) (W : Int → List Nat) (K : List (List Int)) (C : Nat → CAt) (cs : List (List Int)) (A S : Int → Prop) (gb : Nat) (lits : List Int) (j : Nat) (wr : World) : Prop :=
  ∃ (s' : PS) (tv : Value), PIx B wr p { k with tv := tv } s' ∧ LM B wr { k with tv := tv } s' W K C ∧ VAL s'.val s'.tr ∧ s'.V = s.V ∧ s'.failed = s.failed ∧ s'.head = s.tr.length ∧ (∃ ext, s'.tr = s.tr ++ ext) ∧ GI s.V cs A S s.tr s'.tr s.tr.length K W ∧ (∀ i, i < j → -(lits.getD i 0) ∈ s'.tr) ∧ CB wr gb #[pp p] 41 ∧ Below B w wr
end
end Go.Proofs.Ytembgefbmecdbaa
namespace Go.Proofs.Ytembgefbmecdbaa
open Go.RowKit Go.Lib
theorem getD_mem' (l : List Int) (i : Nat) (h : i < l.length) : l.getD i 0 ∈ l := by
  rw [List.getD_eq_getElem?_getD, List.getElem?_eq_getElem h]
  exact List.getElem_mem h
section
variable {B p : Nat} {k : PB} {s : PS} {W : Int → List Nat} {K : List (List Int)} {C : Nat → CAt}
variable {cs : List (List Int)} {A S : Int → Prop}
set_option maxRecDepth 100000 in
set_option maxHeartbeats 1600000 in
theorem must_t (w : World) (gb : Nat) (x : Int) (hg : CB w gb #[pp p] 41) (hx : -1000 ≤ x ∧ x ≤ 1000) (b : Bool) (Q : World → Prop) (hM : Calls Try.prog 30 #[pp p, iz (-x)] w fun e w' => e = .returned (.bool b) ∧ Q w') : Calls Try.prog 29 #[iz x, .pointer (some ⟨gb, 0, none⟩)] w fun e w' => e = .returned (.bool (!b)) ∧ Q w' := by
  have c0 : w.cell? ⟨gb, 0, none⟩ = some (pp p) := hg.c 0
  have cl := lt_of_get hg
  obtain ⟨x1, x2⟩ := hx
  replace hM := Lib.hid hM
  clear hg
  go_enter Try.func29, Try.ntmps29
  go_wp2_with fail
  (with_reducible refine hM.out.mono ?_)
  rintro e w' ⟨rfl, hq⟩
  replace hq := Lib.hid hq
  clear hM
  cases b
  · go_wp2_with fail
    go_ret
    exact ⟨rfl, hq.out⟩
  · go_wp2_with fail
    go_ret
    exact ⟨rfl, hq.out⟩
theorem IS.step {w wr : World} {gb : Nat} {lits : List Int} {j : Nat} (h : IS B w p k s W K C cs A S gb lits j wr) (hj : j < lits.length) (hL : ∀ y, y ∈ lits → y ≠ 0 ∧ y ≤ s.V ∧ -y ≤ s.V) (hA : ∀ x, -x ∈ lits → A x) (_hh : s.head ≤ s.tr.length) (hB : B ≤ w.heap.size) :
    Calls Try.prog 29 (#[] ++ #[.int .i64 (lits.getD j 0)] ++ #[.pointer (some ⟨gb, 0, none⟩)]) wr fun e w' => (e = .returned (.bool true) ∧ DS B w p k s K C cs A S true w') ∨ (e = .returned (.bool false) ∧ IS B w p k s W K C cs A S gb lits (j + 1) w') := by
  obtain ⟨s', tv, hp, hl, hv, eV, eF, eH, ⟨ext, eT⟩, hG, hI, hg, hb⟩ := h
  obtain ⟨x, hx⟩ : ∃ x, lits.getD j 0 = x := ⟨_, rfl⟩
  have hxm : x ∈ lits := by rw [← hx]; exact getD_mem' lits j hj
  obtain ⟨x0, x1, x2⟩ := hL x hxm
  have hV := hp.hV
  rw [hx]
  have hax : A (-x) := hA (-x) (by rw [Int.neg_neg]; exact hxm)
  have hlen := hG.wf.len
  have hM := mk_t wr hp hl (-x) (by omega) (by omega) (by omega) (by omega) (Nat.le_trans hB hb.size)
  obtain ⟨m1, m2, m3⟩ := VAL.mk s' hv (x := -x) (by omega)
  have hgk : ∀ w' tv', KT wr w' p k.vb tv tv' → CB w' gb #[pp p] 41 := fun w' tv' q => (q.keep gb (lt_of_get hg) (hg.ne hp.blk (by decide)) (hg.ne hp.vab (by decide)) (fun e => hg.own_ne hp.tro (by decide) gb e rfl)).trans hg
  refine (must_t wr gb x hg (by omega) _ _ hM).mono ?_
  rintro e w' ⟨rfl, tv', q1, q2, q3, q4⟩
  by_cases hone : (s'.mk1 (-x)).val (-x) = 1
  · refine .inr ⟨by rw [hone]; rfl, s'.mk1 (-x), tv', q1, q2, m1, (s'.mk1_V _).trans eV, ?_, ?_, ?_, ?_, ?_, hgk w' tv' q4, hb.trans q3⟩
    · unfold PS.mk1; split <;> exact eF
    · unfold PS.mk1; split <;> exact eH
    · rw [m3]
      split
      · exact ⟨ext, eT⟩
      · exact ⟨ext ++ [-x], by rw [eT, List.append_assoc]⟩
    · rw [m3]
      by_cases hin : -x ∈ s'.tr ∨ - -x ∈ s'.tr
      · rw [if_pos hin]; exact hG
      · rw [if_neg hin]
        exact hG.assume (by rw [eT, List.length_append]; omega) ⟨by omega, by omega, by omega⟩ (fun f => hin (.inl f)) (fun f => hin (.inr f)) (.given _ hax)
    · intro i hi
      by_cases hij : i < j
      · have := hI i hij
        rw [m3]
        split
        · exact this
        · exact List.mem_append_left _ this
      · obtain rfl : i = j := by omega
        rw [hx]
        exact m1.one.1 hone
  · refine .inl ⟨by rw [show ((s'.mk1 (-x)).val (-x) == 1) = false by simpa using hone]; rfl, ⟨fun _ => ?_, fun _ => rfl⟩, W, K, s'.mk1 (-x), tv', q1, q2, m1, (s'.mk1_V _).trans eV, ?_, ?_, rfl, ?_, hb.trans q3⟩
    · have hxt : x ∈ s'.tr := by
        by_cases f : - -x ∈ s'.tr
        · rwa [Int.neg_neg] at f
        · exact absurd (m2.2 (.inl f)) hone
      exact .inr ⟨x, hG.up x hxt, .given _ hax⟩
    · unfold PS.mk1; split <;> exact eF
    · rw [m3]
      split
      · exact ⟨ext, eT⟩
      · exact ⟨ext ++ [-x], by rw [eT, List.append_assoc]⟩
    · have hxt : - -x ∈ s'.tr := by
        by_cases f : - -x ∈ s'.tr
        · exact f
        · exact absurd (m2.2 (.inl f)) hone
      rw [m3, if_pos (.inr hxt)]
      exact hG.gc
end
end Go.Proofs.Ytembgefbmecdbaa
namespace Go.Proofs.Ytembgefbmecdbaa
open Go.RowKit Go.Lib
section
variable {B p : Nat} {k : PB} {s : PS} {W : Int → List Nat} {K : List (List Int)} {C : Nat → CAt}
variable {cs : List (List Int)} {A S : Int → Prop}
/-- Literals that lie where nothing is written any more. -/
def RB (B : Nat) (w : World) (A : Option Addr) (l : List Int) : Prop := 0 < l.length → ∃ b off : Nat, A = some ⟨b, off, none⟩ ∧ b < B ∧ ∀ j, j < l.length → w.cell? ⟨b, off + j, none⟩ = some (.int .i64 (l.getD j 0))
theorem RB.over {w w' : World} {A : Option Addr} {l : List Int} (h : RB B w A l) (k : Below B w w') : RB B w' A l := fun h0 => by
  obtain ⟨b, off, e, hb, hc⟩ := h h0
  exact ⟨b, off, e, hb, fun j hj => (k.cell (p := ⟨b, off + j, none⟩) hb).trans (hc j hj)⟩
theorem IS.start (w : World) (hp : PIx B w p k s) (hl : LM B w k s W K C) (hv : VAL s.val s.tr) (hh : s.head = s.tr.length) (hG : GI s.V cs A S s.tr s.tr s.tr.length K W) (lits : List Int) (hB : B ≤ w.heap.size) :
    IS B w p k s W K C cs A S w.heap.size lits 0 ((w.alloc (.cells #[pp p] 41)).drew) := by
  have hb : Below w.heap.size w ((w.alloc (.cells #[pp p] 41)).drew) := ((Below.refl w.heap.size w).alloc (Nat.le_refl _) _).drew
  exact ⟨s, k.tv, hp.over hb, hl.over hb, hv, rfl, rfl, hh, ⟨[], by simp⟩, hG, fun i hi => absurd hi (by omega), heap_alloc_new w _, hb.mono hB⟩
/-- When all assumptions are made: propagate, and what it tells. -/
theorem IS.go {w wr : World} {gb : Nat} {lits : List Int} (h : IS B w p k s W K C cs A S gb lits lits.length wr) (hA : ∀ x, A x → -x ∈ lits) (_hh : s.head ≤ s.tr.length) (hS : ∀ y, S y → Up cs A y) (hST : ∀ y, S y → y ∈ s.tr) (hK : K.length < 90000) (hB : B ≤ w.heap.size) :
    Calls Try.prog 31 #[pp p] wr fun e w' => ∃ b, e = .returned (.bool b) ∧ DS B w p k s K C cs A S (!b) w' := by
  obtain ⟨s', tv, hp, hl, hv, eV, eF, eH, ⟨ext, eT⟩, hG, hI, hg, hb⟩ := h
  have htk : s'.tr.take s.tr.length = s.tr := by rw [eT, List.take_append_of_le_length (Nat.le_refl _), List.take_length]
  refine (propagate_t wr hp hl hv s.tr.length (by omega) (by rw [eH, eT, List.length_append]; omega) (by rw [htk, eV, eH]; exact hG) hS hK (Nat.le_trans hB hb.size)).mono ?_
  rintro e w' ⟨b, rfl, W', K', s3, tv3, q1, q2, q3, q4, q5, ⟨ext3, q6⟩, q7, q8, q9⟩
  rw [htk, eV] at q8
  refine ⟨b, rfl, ?_, W', K', s3, tv3, q1, q2, q3, q4.trans eV, q5.trans eF, ⟨ext ++ ext3, by rw [q6, eT, List.append_assoc]⟩, q7, ?_, hb.trans q9⟩
  · cases b
    · rw [if_neg (by decide)] at q8
      exact ⟨fun _ => q8.fl, fun _ => rfl⟩
    · rw [if_pos rfl] at q8
      refine ⟨fun f => absurd f (by decide), fun f => absurd f (q8.2.complete (fun x hx => ?_) (fun x hx => q8.2.sb x (hST x hx)))⟩
      have hm := hA x hx
      obtain ⟨i, hi⟩ := List.getElem?_of_mem hm
      have hi2 := lt_of_some hi
      have := hI i hi2
      rw [List.getD_eq_getElem?_getD, hi, Option.getD_some, Int.neg_neg] at this
      rw [q6]
      exact List.mem_append_left _ this
  · cases b
    · rw [if_neg (by decide)] at q8
      exact q8.gc
    · rw [if_pos rfl] at q8
      exact q8.2.gc
set_option maxRecDepth 100000 in
set_option maxHeartbeats 3200000 in
theorem refutes_1 (w : World) (hp : PIx B w p k s) (hl : LM B w k s W K C) (hv : VAL s.val s.tr) (hh : s.head = s.tr.length) (hf : s.failed = false) (hG : GI s.V cs (fun _ => False) S s.tr s.tr s.tr.length K W) (hS : ∀ y, S y ↔ y ∈ s.tr) (hK : K.length < 90000) (hB : B ≤ w.heap.size) (D : Option Addr) (lits : List Int) (c : Nat) (hD : RB B w D lits) (hL : ∀ y, y ∈ lits → y ≠ 0 ∧ y ≤ s.V ∧ -y ≤ s.V) (hLl : lits.length ≤ 1000000) :
    Calls Try.prog 14 #[pp p, .slice D lits.length c] w fun e w' => ∃ b, e = .returned (.bool b) ∧ RF B w p k s K C cs (fun x => -x ∈ lits) S b w' := by
  have hG2 : GI s.V cs (fun x => -x ∈ lits) S s.tr s.tr s.tr.length K W := { wf := hG.wf, ww := hG.ww, pw := hG.pw, p0 := hG.p0, st := hG.st, up := fun y hy => (hG.up y hy).more (fun _ => id) (fun _ f => f.elim), sb := hG.sb }
  have hst := IS.start (A := fun x => -x ∈ lits) w hp hl hv hh hG2 lits hB
  have hSu : ∀ y, S y → Up cs (fun x => -x ∈ lits) y := fun y hy => hG2.up y ((hS y).1 hy)
  have hstep := fun j wr (h : IS B w p k s W K C cs (fun x => -x ∈ lits) S w.heap.size lits j wr) hj => IS.step h hj hL (fun x hx => hx) (by omega) hB
  have hgo := fun wr (h : IS B w p k s W K C cs (fun x => -x ∈ lits) S w.heap.size lits lits.length wr) => IS.go h (fun x hx => hx) (by omega) hSu (fun y hy => (hS y).1 hy) hK hB
  have hcl := fun u wr b (h : DS B w p k s K C cs (fun x => -x ∈ lits) S b wr) => DS.clear u h hG.up hB
  have hcell : ∀ j wr, IS B w p k s W K C cs (fun x => -x ∈ lits) S w.heap.size lits j wr → j < lits.length → ∃ b off : Nat, D = some ⟨b, off, none⟩ ∧ b < wr.heap.size ∧ wr.cell? ⟨b, off + j, none⟩ = some (.int .i64 (lits.getD j 0)) := by
    rintro j wr ⟨_, _, _, _, _, _, _, _, _, _, _, _, hb⟩ hj
    obtain ⟨b, off, e, h1, h2⟩ := (hD.over hb) (by omega)
    exact ⟨b, off, e, Nat.lt_of_lt_of_le h1 (Nat.le_trans hB hb.size), h2 j hj⟩
  have hcont := contS_t 29 #[] #[.pointer (some ⟨w.heap.size, 0, none⟩)] (enters_of Try.func29 (by kernel_rfl) rfl) (fun j => lits.getD j 0) lits.length c D ((w.alloc (.cells #[pp p] 41)).drew) (by omega) (fun j wr => IS B w p k s W K C cs (fun x => -x ∈ lits) S w.heap.size lits j wr) (fun _ wr => DS B w p k s K C cs (fun x => -x ∈ lits) S true wr) hcell hstep hst
  have hcb : ∀ wr, IS B w p k s W K C cs (fun x => -x ∈ lits) S w.heap.size lits lits.length wr → wr.cell? ⟨w.heap.size, 0, none⟩ = some (pp p) ∧ w.heap.size < wr.heap.size := by
    rintro wr ⟨_, _, _, _, _, _, _, _, _, _, _, hg, _⟩
    exact ⟨hg.c 0, lt_of_get hg⟩
  have b3 : w.cell? ⟨p, 3, none⟩ = some k.tv := hp.blk.c 3
  have b5 : w.cell? ⟨p, 5, none⟩ = some (.bool s.failed) := hp.blk.c 5
  rw [hf] at b5
  have bl := lt_of_get hp.blk
  obtain ⟨E, ec, ev⟩ := own_shape' hp.tro
  rw [ev] at b3
  have hV := hp.hV
  have hTl := hG.wf.len
  obtain ⟨n, hn⟩ : ∃ n, s.tr.length = n := ⟨_, rfl⟩
  rw [hn] at b3 hTl hcl
  have hn2 : n ≤ 121 := by omega
  replace hcont := Lib.hid hcont
  replace hgo := Lib.hid hgo
  replace hcl := Lib.hid hcl
  replace hcb := Lib.hid hcb
  clear hcell hstep hst hSu hG hG2 hS hD hL hl hv hh hf ev hn hTl hp
  have e1 : (w.alloc (.cells #[pp p] 41)).cell? ⟨w.heap.size, 0, none⟩ = some (pp p) := by simp [go_sem]
  have e2 : (w.alloc (.cells #[pp p] 41)).cell? ⟨p, 3, none⟩ = some (.slice E n ec) := (World.cell?_alloc_past _ p 3 bl).trans b3
  go_enter_defers Try.func14, Try.ntmps14
  go_wp2_with fail
  go_region_held3 (fun w' => w'.cell? ⟨w.heap.size, 0, none⟩ = some (pp p) ∧ w'.cell? ⟨p, 3, none⟩ = some (.slice E n ec)) (exact ⟨e1, e2⟩) (fail)
  go_wp2_with fail
  (with_reducible refine hcont.out.mono ?_)
  rintro e w2 (⟨rfl, j, hj, hD⟩ | ⟨rfl, hI⟩)
  · replace hD := Lib.hid hD
    clear hcont hgo hcb hj
    go_wp2_with fail
    refine leaves_cons (f := 28) (args := #[pp p, iz (n : Int)]) (by simp) (by simp [go_sem]) ?_
    refine (hcl.out .returning _ true hD.out).mono ?_
    rintro e u' w'' ⟨rfl, rfl, hR⟩
    exact ⟨_, results_tmp rfl _ _ _, true, rfl, hR⟩
  · obtain ⟨g1, g2⟩ := hcb.out _ hI
    have hP := Lib.hid (hgo.out _ hI)
    clear hcont hgo hcb hI
    go_wp2_with fail
    (with_reducible refine hP.out.mono ?_)
    rintro e w3 ⟨b, rfl, hD⟩
    replace hD := Lib.hid hD
    clear hP
    cases b
    · go_wp2_with fail
      refine leaves_cons (f := 28) (args := #[pp p, iz (n : Int)]) (by simp) (by simp [go_sem]) ?_
      refine (hcl.out .returning _ true hD.out).mono ?_
      rintro e u' w'' ⟨rfl, rfl, hR⟩
      exact ⟨_, results_tmp rfl _ _ _, true, rfl, hR⟩
    · go_wp2_with fail
      refine leaves_cons (f := 28) (args := #[pp p, iz (n : Int)]) (by simp) (by simp [go_sem]) ?_
      refine (hcl.out .returning _ false hD.out).mono ?_
      rintro e u' w'' ⟨rfl, rfl, hR⟩
      exact ⟨_, results_tmp rfl _ _ _, false, rfl, hR⟩
end
end Go.Proofs.Ytembgefbmecdbaa
namespace Go.Proofs.Ytembgefbmecdbaa
open Go.RowKit Go.Lib
section
variable {B p : Nat} {k : PB} {s : PS} {cs : List (List Int)}
/-- A propagator with the clauses cs lies at p; fl: they fail without assumptions. -/
def PZ (B : Nat) (w : World) (p V : Nat) (cs : List (List Int)) (m : Nat) (fl : Bool) : Prop :=
  ∃ (k : PB) (s : PS), PIx B w p k s ∧ VAL s.val s.tr ∧ s.V = V ∧ s.failed = fl ∧ (if fl then s.tr.length ≤ 121 ∧ Fails cs (fun _ => False) else s.head = s.tr.length ∧ ∃ (W : Int → List Nat) (K : List (List Int)) (C : Nat → CAt), LM B w k s W K C ∧ K.length ≤ m ∧ GI V cs (fun _ => False) (· ∈ s.tr) s.tr s.tr s.tr.length K W)
theorem PZ.over {w w' : World} {V m : Nat} {fl : Bool} (h : PZ B w p V cs m fl) (hb : Below w.heap.size w w') : PZ B w' p V cs m fl := by
  obtain ⟨k, s, h1, h2, h3, h4, h5⟩ := h
  refine ⟨k, s, h1.over hb, h2, h3, h4, ?_⟩
  cases fl
  · rw [if_neg (by decide)] at h5 ⊢
    obtain ⟨e, W, K, C, q1, q2, q3⟩ := h5
    exact ⟨e, W, K, C, q1.over hb, q2, q3⟩
  · rw [if_pos rfl] at h5 ⊢
    exact h5
set_option maxRecDepth 100000 in
set_option maxHeartbeats 3200000 in
theorem refutes_0 (w : World) (hp : PIx B w p k s) (hv : VAL s.val s.tr) (hTl : s.tr.length ≤ 121) (hf : s.failed = true) (hB : B ≤ w.heap.size) (L : Value) :
    Calls Try.prog 14 #[pp p, L] w fun e w' => e = .returned (.bool true) ∧ ∃ tv val, PIx B w' p { k with tv := tv } { s with val := val, tr := s.tr.take s.tr.length, head := s.tr.length } ∧ VAL val (s.tr.take s.tr.length) ∧ Below B w w' := by
  have hb : Below w.heap.size w ((w.alloc (.cells #[pp p] 41)).drew) := ((Below.refl w.heap.size w).alloc (Nat.le_refl _) _).drew
  have hcl := clear_0 (B := B) (p := p) (k := k) (s := s) .returning ((w.alloc (.cells #[pp p] 41)).drew) (hp.over hb) hv (by omega)
  have hbB := hb.mono hB
  have b3 : w.cell? ⟨p, 3, none⟩ = some k.tv := hp.blk.c 3
  have b5 : w.cell? ⟨p, 5, none⟩ = some (.bool s.failed) := hp.blk.c 5
  rw [hf] at b5
  have bl := lt_of_get hp.blk
  obtain ⟨E, ec, ev⟩ := own_shape' hp.tro
  rw [ev] at b3
  obtain ⟨P, hP⟩ : ∃ P : World → Prop, P = fun w' => ∃ tv val, PIx B w' p { k with tv := tv } { s with val := val, tr := s.tr.take s.tr.length, head := s.tr.length } ∧ VAL val (s.tr.take s.tr.length) ∧ Below B w w' := ⟨_, rfl⟩
  change Calls _ _ _ _ fun e w' => e = .returned (.bool true) ∧ (fun w' => ∃ tv val, PIx B w' p { k with tv := tv } { s with val := val, tr := s.tr.take s.tr.length, head := s.tr.length } ∧ VAL val (s.tr.take s.tr.length) ∧ Below B w w') w'
  have hfin : CallsD Try.prog 28 #[pp p, iz (s.tr.length : Int)] .returning ((w.alloc (.cells #[pp p] 41)).drew) fun e u' w' => u' = .returning ∧ (e = .returned (.tuple #[]) ∧ P w') := by
    rw [hP]
    refine hcl.mono ?_
    rintro e u' w' ⟨rfl, rfl, tv, val, q1, q2, _, q4⟩
    exact ⟨rfl, rfl, tv, val, q1, q2, hbB.trans q4⟩
  rw [← hP]
  clear hP hcl
  have e1 : (w.alloc (.cells #[pp p] 41)).cell? ⟨w.heap.size, 0, none⟩ = some (pp p) := by simp [go_sem]
  have e2 : (w.alloc (.cells #[pp p] 41)).cell? ⟨p, 3, none⟩ = some (.slice E s.tr.length ec) := (World.cell?_alloc_past _ p 3 bl).trans b3
  obtain ⟨n, hn⟩ : ∃ n, s.tr.length = n := ⟨_, rfl⟩
  rw [hn] at b3 hTl hfin e2
  replace hfin := Lib.hid hfin
  clear hn ev hp hv hf hb hbB
  go_enter_defers Try.func14, Try.ntmps14
  go_wp2_with fail
  go_region_held3 (fun w' => w'.cell? ⟨w.heap.size, 0, none⟩ = some (pp p) ∧ w'.cell? ⟨p, 3, none⟩ = some (.slice E n ec)) (exact ⟨e1, e2⟩) (fail)
  go_wp2_with fail
  refine leaves_cons (f := 28) (args := #[pp p, iz (n : Int)]) (by simp) (by simp [go_sem]) ?_
  refine hfin.out.mono ?_
  rintro e u' w'' ⟨rfl, rfl, hR⟩
  exact ⟨_, results_tmp rfl _ _ _, rfl, hR⟩
/-- REFUTES: unit propagation under the assumption that all the literals are false. -/
theorem refutes_t (w : World) {V m : Nat} {fl : Bool} (h : PZ B w p V cs m fl) (hm : m < 90000) (hB : B ≤ w.heap.size) (D : Option Addr) (lits : List Int) (c : Nat) (hD : RB B w D lits) (hL : ∀ y, y ∈ lits → y ≠ 0 ∧ y ≤ V ∧ -y ≤ V) (hLl : lits.length ≤ 1000000) :
    Calls Try.prog 14 #[pp p, .slice D lits.length c] w fun e w' => ∃ b, e = .returned (.bool b) ∧ (b = true ↔ Fails cs (fun x => -x ∈ lits)) ∧ PZ B w' p V cs m fl ∧ Below B w w' := by
  obtain ⟨k, s, h1, h2, h3, h4, h5⟩ := h
  cases fl
  · rw [if_neg (by decide)] at h5
    obtain ⟨e, W, K, C, q1, q2, q3⟩ := h5
    rw [← h3] at q3 hL
    refine (refutes_1 w h1 q1 h2 e h4 q3 (fun _ => Iff.rfl) (by omega) hB D lits c hD hL hLl).mono ?_
    rintro e' w' ⟨b, rfl, hF, W', K', s', tv, r1, r2, r3, r4, r5, r6, r7, r8, r9, r10⟩
    refine ⟨b, rfl, hF, ⟨_, s', r1, r3, r4.trans h3, r5.trans h4, ?_⟩, r10⟩
    rw [if_neg (by decide), r6]
    exact ⟨r7, W', K', C, r2, by omega, by rw [← h3]; exact r9⟩
  · rw [if_pos rfl] at h5
    refine (refutes_0 w h1 h2 h5.1 h4 hB _).mono ?_
    rintro e' w' ⟨rfl, tv, val, r1, r2, r3⟩
    refine ⟨true, rfl, ⟨fun _ => h5.2.more (fun _ => id) (fun _ f => f.elim), fun _ => rfl⟩, ⟨_, _, r1, r2, h3, h4, ?_⟩, r3⟩
    rw [if_pos rfl]
    refine ⟨?_, h5.2⟩
    show (s.tr.take s.tr.length).length ≤ 121
    rw [List.take_length]
    exact h5.1
end
end Go.Proofs.Ytembgefbmecdbaa
