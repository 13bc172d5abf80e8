/-
  clear.
-/
import Derived.Test.YtembgefbmecdbaaR26
import Derived.Defers
namespace Go.Proofs.Ytembgefbmecdbaa
open Go.RowKit Go.Lib
theorem VAL.take {val val' : Int → Int} {T : List Int} (h : VAL val T) (ht : T.Nodup) (ho : ∀ y, y ∈ T → -y ∉ T) (n : Nat) (hv : ∀ y, val' y = if y ∈ T.drop n ∨ -y ∈ T.drop n then 0 else val y) : VAL val' (T.take n) := by
  have hT : T.take n ++ T.drop n = T := List.take_append_drop n T
  have hmem : ∀ y, y ∈ T ↔ y ∈ T.take n ∨ y ∈ T.drop n := fun y => by
    conv => lhs; rw [← hT]
    exact List.mem_append
  have hdis : ∀ y, y ∈ T.take n → y ∉ T.drop n := fun y h1 h2 => by
    rw [← hT] at ht
    exact (List.nodup_append.1 ht).2.2 y h1 y h2 rfl
  intro y
  rw [hv y, h y]
  by_cases a : y ∈ T.take n
  · have b := hdis y a
    have c : -y ∉ T.drop n := fun q => ho y ((hmem y).2 (.inl a)) ((hmem _).2 (.inr q))
    rw [if_neg (by simp [b, c]), if_pos ((hmem y).2 (.inl a)), if_pos a]
  · rw [if_neg a]
    by_cases b : y ∈ T.drop n
    · have c : -y ∉ T.take n := fun q => ho y ((hmem y).2 (.inr b)) ((hmem _).2 (.inl q))
      rw [if_pos (.inl b), if_neg c]
    · by_cases c : -y ∈ T.drop n
      · have d : -y ∉ T.take n := fun q => hdis _ q c
        rw [if_pos (.inr c), if_neg d]
      · have e : y ∉ T := fun q => by rcases (hmem y).1 q with f | f <;> contradiction
        rw [if_neg (by simp [b, c]), if_neg e]
        by_cases d : -y ∈ T.take n
        · rw [if_pos d, if_pos ((hmem _).2 (.inl d))]
        · rw [if_neg d, if_neg fun q => by rcases (hmem _).1 q with f | f <;> contradiction]
section
variable {B p : Nat} {k : PB} {s : PS}
/-- The trail is cut, the head put to its end. -/
theorem PIx.cutT {w : World} (h : PIx B w p k s) {n : Nat} (hn : n ≤ s.tr.length) {A : Option Addr} {cap : Nat} (hA : k.tv = .slice A s.tr.length cap) :
    PIx B ((w.setCell ⟨p, 3, none⟩ (.slice A n cap)).setCell ⟨p, 4, none⟩ (iz (n : Int))) p { k with tv := .slice A n cap } { s with tr := s.tr.take n, head := n } ∧ KT w ((w.setCell ⟨p, 3, none⟩ (.slice A n cap)).setCell ⟨p, 4, none⟩ (iz (n : Int))) p k.vb k.tv (.slice A n cap) ∧ Below B w ((w.setCell ⟨p, 3, none⟩ (.slice A n cap)).setCell ⟨p, 4, none⟩ (iz (n : Int))) := by
  have hk : ∀ y, y ≠ p → ((w.setCell ⟨p, 3, none⟩ (.slice A n cap)).setCell ⟨p, 4, none⟩ (iz (n : Int))).heap[y]? = w.heap[y]? := fun y hy => (Below.heap_setCell _ ⟨p, 4, none⟩ _ y hy).trans (Below.heap_setCell w ⟨p, 3, none⟩ _ y hy)
  have hs := heap_set _ p 4 _ _ (iz (n : Int)) (heap_set w p 3 _ _ (.slice A n cap) h.blk)
  have hne : ∀ b, k.tv.ownBlock = some b → b ≠ p := h.blk.own_ne h.tro (by decide)
  have hown : (Value.slice A n cap).ownBlock = k.tv.ownBlock := by rw [hA]; cases A <;> rfl
  refine ⟨{ pB := h.pB, low := h.low, hV := h.hV, blk := (by exact hs), vab := (hk _ (h.vab.ne h.blk (by decide))).trans h.vab, wab := (hk _ (h.wab.ne h.blk (by decide))).trans h.wab, tro := ?_ }, { keep := fun y _ hy _ _ => hk y hy, own := fun _ e => .inl (hown ▸ e) }, ((Below.refl B w).setCell (p := ⟨p, 3, none⟩) h.pB _).setCell (p := ⟨p, 4, none⟩) h.pB _⟩
  have hk2 : ((w.setCell ⟨p, 3, none⟩ (.slice A n cap)).setCell ⟨p, 4, none⟩ (iz (n : Int))).ownsRow B 3 1 k.tv s.tr.length (iv s.tr) := own_keep h.tro fun b e => hk b (hne b e)
  show World.ownsRow _ B 3 1 (.slice A n cap) (s.tr.take n).length (iv (s.tr.take n))
  have hl2 : (s.tr.take n).length = n := by rw [List.length_take]; omega
  rw [hl2]
  refine ⟨by simp only [List.length_map, hl2, Nat.mul_one], ?_⟩
  rcases hk2.2 with ⟨e, e0⟩ | ⟨g, cap', cur, e, b1, b2, b3, b4, b5, b6⟩
  · rw [hA] at e
    injection e with e1 e2 e3
    subst e1 e3
    exact .inl ⟨by rw [show n = 0 by omega], by omega⟩
  · rw [hA] at e
    injection e with e1 e2 e3
    subst e1 e3
    refine .inr ⟨g, _, cur, rfl, b1, b2, by omega, b4, b5, ?_⟩
    rw [show iv (s.tr.take n) = (iv s.tr).take n from List.map_take, ← b6, List.take_take]
    congr 1
    omega
set_option maxRecDepth 100000 in
set_option maxHeartbeats 1600000 in
theorem clear_0 (u : FrameMode) (w : World) (h : PIx B w p k s) (hv : VAL s.val s.tr) (hl : s.tr.length < 1000) : CallsD Try.prog 28 #[pp p, iz (s.tr.length : Int)] u w fun e u' w' => u' = u ∧ (e = .returned (.tuple #[]) ∧ ∃ tv val, PIx B w' p { k with tv := tv } { s with val := val, tr := s.tr.take s.tr.length, head := s.tr.length } ∧ VAL val (s.tr.take s.tr.length) ∧ KT w w' p k.vb k.tv tv ∧ Below B w w') := by
  have b3 : w.cell? ⟨p, 3, none⟩ = some k.tv := h.blk.c 3
  have bl := lt_of_get h.blk
  have f3 := h.blk.fz 3
  have f4 := h.blk.fz 4
  obtain ⟨A, cap, ev⟩ := own_shape' h.tro
  have hcap : s.tr.length ≤ cap := by
    rcases h.tro.2 with ⟨e, e0⟩ | ⟨g', cap', cur, e, _, _, q3, _⟩
    · omega
    · rw [ev] at e; injection e with _ _ e3; omega
  rw [ev] at b3
  have hfin := h.cutT (n := s.tr.length) (Nat.le_refl _) ev
  have b4 : w.cell? ⟨p, 4, none⟩ = some (iz (s.head : Int)) := h.blk.c 4
  have hvt : VAL s.val (s.tr.take s.tr.length) := by rw [List.take_length]; exact hv
  obtain ⟨P, hP⟩ : ∃ P : World → Prop, P = fun w' => ∃ tv val, PIx B w' p { k with tv := tv } { s with val := val, tr := s.tr.take s.tr.length, head := s.tr.length } ∧ VAL val (s.tr.take s.tr.length) ∧ KT w w' p k.vb k.tv tv ∧ Below B w w' := ⟨_, rfl⟩
  have hfin2 : P ((w.setCell ⟨p, 3, none⟩ (.slice A s.tr.length cap)).setCell ⟨p, 4, none⟩ (iz (s.tr.length : Int))) := by
    rw [hP]
    exact ⟨_, s.val, hfin.1, hvt, hfin.2.1, hfin.2.2⟩
  change CallsD _ _ _ _ _ fun e u' w' => u' = u ∧ (e = .returned (.tuple #[]) ∧ (fun w' => ∃ tv val, PIx B w' p { k with tv := tv } { s with val := val, tr := s.tr.take s.tr.length, head := s.tr.length } ∧ VAL val (s.tr.take s.tr.length) ∧ KT w w' p k.vb k.tv tv ∧ Below B w w') w')
  rw [← hP]
  clear hP hfin hvt hv ev h
  obtain ⟨n, hn⟩ : ∃ n, s.tr.length = n := ⟨_, rfl⟩
  rw [hn] at b3 hfin2 hcap hl ⊢
  replace hfin2 := Lib.hid hfin2
  clear hn
  go_enter_d Try.func28, Try.ntmps28
  go_wp2_with fail
  all_goals (
    go_loopw [13] (fun iv wr => iv = .int .i64 0 ∧ wr = w) (fun _ _ => 0)
    case atStart => exact ⟨rfl, rfl⟩
    case round =>
      obtain ⟨rfl, rfl⟩ := hrel
      go_wp2_with fail
      first
        | exact bodyPost_end (v := .tuple #[]) (by simp [results, Try.results28, go_sem]) rfl ⟨rfl, hfin2.out⟩
        | (have e : cap = n := by assumption
           subst e
           exact bodyPost_end (v := .tuple #[]) (by simp [results, Try.results28, go_sem]) rfl ⟨rfl, hfin2.out⟩))
def setO (val : Int → Int) (x : Int) : Int → Int := fun y => if y = -x then 0 else if y = x then 0 else val y
set_option maxRecDepth 100000 in
set_option maxHeartbeats 3200000 in
theorem clear_1 (u : FrameMode) (w : World) (h : PIx B w p k s) (hv : VAL s.val s.tr) (hl : s.tr.length < 1000) (ht : s.tr.Nodup) (ho : ∀ y, y ∈ s.tr → -y ∉ s.tr) (hr : ∀ y, y ∈ s.tr → y ≠ 0 ∧ y ≤ s.V ∧ -y ≤ s.V) (n : Nat) (hn : n < s.tr.length) (_hB : B ≤ w.heap.size) : CallsD Try.prog 28 #[pp p, iz (n : Int)] u w fun e u' w' => u' = u ∧ (e = .returned (.tuple #[]) ∧ ∃ tv val, PIx B w' p { k with tv := tv } { s with val := val, tr := s.tr.take n, head := n } ∧ VAL val (s.tr.take n) ∧ KT w w' p k.vb k.tv tv ∧ Below B w w') := by
  have b3 : w.cell? ⟨p, 3, none⟩ = some k.tv := h.blk.c 3
  have bl := lt_of_get h.blk
  obtain ⟨x0, hx0⟩ : ∃ x, s.tr[n]? = some x := ⟨_, List.getElem?_eq_getElem hn⟩
  obtain ⟨c, cap, htv, _, cl, hcap⟩ := h.trail hx0
  rw [htv] at b3
  have hV := h.hV
  let inv : Nat → World → Prop := fun j wr => ∃ val, PIx B wr p k { s with val := val } ∧ (∀ y, val y = if y ∈ (s.tr.drop n).take j ∨ -y ∈ (s.tr.drop n).take j then 0 else s.val y) ∧ KT w wr p k.vb k.tv k.tv ∧ Below B w wr
  obtain ⟨I, hI⟩ : ∃ I, I = inv := ⟨_, rfl⟩
  have hst : I 0 w := by
    rw [hI]
    exact ⟨s.val, h, fun y => by simp, KT.below (Below.refl _ _), Below.refl _ _⟩
  have hstep : ∀ j wr, I j wr → j < s.tr.length - n → ∃ x v0 v1, -60 ≤ x ∧ x ≤ 60 ∧ wr.cell? ⟨c, n + j, none⟩ = some (iz x) ∧ wr.cell? ⟨p, 1, none⟩ = some (sl k.vb (2 * s.V + 1)) ∧ p < wr.heap.size ∧ c < wr.heap.size ∧ (x + s.V).toNat < 2 * s.V + 1 ∧ (-x + s.V).toNat < 2 * s.V + 1 ∧ (x + s.V).toNat ≠ (-x + s.V).toNat ∧ (-x + s.V).toNat ≠ (x + s.V).toNat ∧ k.vb < wr.heap.size ∧
      wr.cell? ⟨k.vb, (x + s.V).toNat, none⟩ = some v0 ∧ wr.cell? ⟨k.vb, (-x + s.V).toNat, none⟩ = some v1 ∧ wr.frozen? ⟨k.vb, (x + s.V).toNat, none⟩ = false ∧ wr.frozen? ⟨k.vb, (-x + s.V).toNat, none⟩ = false ∧
      Calls Try.prog 46 #[pp p, iz x] wr.drew (RW wr.drew (iz (((x + s.V).toNat : Nat) : Int))) ∧ Calls Try.prog 46 #[pp p, iz (-x)] wr.drew (RW wr.drew (iz (((-x + s.V).toNat : Nat) : Int))) ∧
      I (j + 1) (((wr.setCell ⟨k.vb, (x + s.V).toNat, none⟩ (i8 0)).setCell ⟨k.vb, (-x + s.V).toNat, none⟩ (i8 0)).drew) := by
    rw [hI]
    rintro j wr ⟨val, q1, q2, q3, q4⟩ hj
    obtain ⟨x, hx⟩ : ∃ x, s.tr[n + j]? = some x := ⟨_, List.getElem?_eq_getElem (by omega)⟩
    have hxm := List.mem_of_getElem? hx
    obtain ⟨r0, r1, r2⟩ := hr x hxm
    have htr : ({ s with val := val } : PS).tr[n + j]? = some x := hx
    obtain ⟨c', cap', e1, e2, e3, _⟩ := q1.trail htr
    rw [htv] at e1
    injection e1 with e1
    injection e1 with e1
    injection e1 with e1
    subst e1
    have g0 : -(s.V : Int) ≤ x := by omega
    have g1 : -(s.V : Int) ≤ -x := by omega
    refine ⟨x, _, _, by omega, by omega, e2, q1.blk.c 1, lt_of_get q1.blk, e3, by omega, by omega, by omega, by omega, lt_of_get q1.vab, (q1.vab.c _).trans (vcs_get g0 r1), (q1.vab.c _).trans (vcs_get g1 r2), q1.vab.fz _, q1.vab.fz _, place_t wr.drew (q1.over (Below.refl _ _).drew) x g0 r1, place_t wr.drew (q1.over (Below.refl _ _).drew) (-x) g1 r2, setO val x, ?_, fun y => ?_, ?_, ?_⟩
    · have u1 := heap_set wr k.vb (x + s.V).toNat _ _ (.int .i8 0) q1.vab
      have u2 := heap_set _ k.vb (-x + s.V).toNat _ _ (.int .i8 0) u1
      rw [vcs_set _ g0 r1, vcs_set _ g1 r2] at u2
      have e : (fun y => if y = -x then (Value.int IntKind.i8 0) else if y = x then Value.int IntKind.i8 0 else i8 (val y)) = fun y => i8 (setO val x y) := by
        funext y
        unfold setO
        split
        · rfl
        · split <;> rfl
      rw [e] at u2
      exact (q1.vals (setO val x) u2 fun y hy => (Below.heap_setCell _ _ _ y hy).trans (Below.heap_setCell _ _ _ y hy)).over (Below.refl _ _).drew
    · have hd : (s.tr.drop n).take (j + 1) = (s.tr.drop n).take j ++ [x] := by
        rw [List.take_add_one, List.getElem?_drop, hx]
        rfl
      rw [hd]
      unfold setO
      rw [q2 y]
      by_cases a : y = -x
      · subst a
        rw [if_pos rfl, if_pos (.inr (by simp))]
      · rw [if_neg a]
        by_cases b : y = x
        · subst b
          rw [if_pos rfl, if_pos (.inl (by simp))]
        · rw [if_neg b]
          have a1 : y ∈ (s.tr.drop n).take j ++ [x] ↔ y ∈ (s.tr.drop n).take j := by simp [b]
          have a2 : -y ∈ (s.tr.drop n).take j ++ [x] ↔ -y ∈ (s.tr.drop n).take j := by
            rw [List.mem_append, List.mem_singleton]
            exact ⟨fun q => q.elim id fun q => absurd (by omega) a, .inl⟩
          simp only [a1, a2]
    · exact q3.trans { keep := fun y _ _ h3 _ => (Below.heap_setCell _ _ _ y h3).trans (Below.heap_setCell _ _ _ y h3), own := fun _ hg => .inl hg } q4.size
    · exact q4.trans (((Below.refl B wr).setCell (p := ⟨k.vb, (x + s.V).toNat, none⟩) h.low.1 _).setCell (p := ⟨k.vb, (-x + s.V).toNat, none⟩) h.low.1 _).drew
  let fin : World → Prop := fun w' => ∃ tv val, PIx B w' p { k with tv := tv } { s with val := val, tr := s.tr.take n, head := n } ∧ VAL val (s.tr.take n) ∧ KT w w' p k.vb k.tv tv ∧ Below B w w'
  obtain ⟨P, hP⟩ : ∃ P : World → Prop, P = fin := ⟨_, rfl⟩
  have hfin : ∀ wr, I (s.tr.length - n) wr → wr.cell? ⟨p, 3, none⟩ = some (.slice (some ⟨c, 0, none⟩) s.tr.length cap) ∧ p < wr.heap.size ∧ wr.frozen? ⟨p, 3, none⟩ = false ∧ wr.frozen? ⟨p, 4, none⟩ = false ∧ (∃ u, wr.cell? ⟨p, 4, none⟩ = some u) ∧ P ((wr.setCell ⟨p, 3, none⟩ (.slice (some ⟨c, 0, none⟩) n cap)).setCell ⟨p, 4, none⟩ (iz (n : Int))) := by
    rw [hI, hP]
    rintro wr ⟨val, q1, q2, q3, q4⟩
    obtain ⟨u1, u2, u3⟩ := q1.cutT (n := n) (by show n ≤ s.tr.length; omega) htv
    have e3 : wr.cell? ⟨p, 3, none⟩ = some k.tv := q1.blk.c 3
    rw [htv] at e3
    refine ⟨e3, lt_of_get q1.blk, q1.blk.fz 3, q1.blk.fz 4, ⟨_, q1.blk.c 4⟩, _, val, u1, hv.take ht ho n fun y => ?_, q3.trans u2 q4.size, q4.trans u3⟩
    rw [q2 y, show (s.tr.drop n).take (s.tr.length - n) = s.tr.drop n from List.take_of_length_le (by simp)]
  change CallsD _ _ _ _ _ fun e u' w' => u' = u ∧ (e = .returned (.tuple #[]) ∧ fin w')
  rw [← hP]
  replace hst := Lib.hid hst
  replace hstep := Lib.hid hstep
  replace hfin := Lib.hid hfin
  have hkn : p ≠ k.vb := h.blk.ne h.vab (by decide)
  clear hP fin hI inv hx0 htv ht ho hr hv h _hB
  obtain ⟨L, hL⟩ : ∃ L, s.tr.length = L := ⟨_, rfl⟩
  rw [hL] at b3 hstep hfin hn hcap hl
  obtain ⟨V, hVV⟩ : ∃ V, s.V = V := ⟨_, rfl⟩
  rw [hVV] at hstep hV
  clear hL hVV
  have hcn : n < cap := by omega
  have hcn2 : (cap = n) = False := by simp; omega
  go_enter_d Try.func28, Try.ntmps28
  go_wp2_with fail
  go_loopw [13] (fun iv wr => ∃ j : Nat, j ≤ L - n ∧ iv = .int .i64 (j : Int) ∧ Hid (I j wr)) (fun iv _ => L - n - (RowKit.intOf iv).toNat)
  case atStart => exact ⟨0, by omega, rfl, hst⟩
  case round =>
    obtain ⟨j, hj, rfl, hI⟩ := hrel
    by_cases hlt : j < L - n
    · obtain ⟨x, v0, v1, a1, a2, a3, a4, a5, a6, a7, a8, a9, a10, a11, a12, a13, a14, a15, a16, a17, a18⟩ := hstep.out j wr hI.out hlt
      replace a17 : Calls Try.prog 46 #[pp p, iz (IntKind.i64.wrap (-x))] wr.drew (RW wr.drew (iz (((-x + V).toNat : Nat) : Int))) := by
        rw [IntWalk.i64_in _ (by omega)]
        exact a17
      have hkne : p ≠ k.vb := hkn
      have hk : ∀ {W0 : World} {i u}, W0.cell? ⟨p, 1, none⟩ = some (sl k.vb (2 * V + 1)) → (W0.setCell ⟨k.vb, i, none⟩ u).cell? ⟨p, 1, none⟩ = some (sl k.vb (2 * V + 1)) := cell_far hkne
      obtain ⟨n1, hn1⟩ : ∃ n : Nat, (x + V).toNat = n := ⟨_, rfl⟩
      obtain ⟨n2, hn2⟩ : ∃ n : Nat, (-x + V).toNat = n := ⟨_, rfl⟩
      obtain ⟨m, hm⟩ : ∃ m, 2 * V + 1 = m := ⟨_, rfl⟩
      have hm2 : m ≤ 121 := by omega
      simp only [hn1, hn2, hm] at a4 a7 a8 a9 a10 a12 a13 a14 a15 a16 a17 a18 hk
      obtain ⟨w5, hw5⟩ : ∃ W5, ((wr.setCell ⟨k.vb, n1, none⟩ (i8 0)).setCell ⟨k.vb, n2, none⟩ (i8 0)).drew = W5 := ⟨_, rfl⟩
      rw [hw5] at a18
      replace hw5 := Lib.hid hw5
      replace a16 := Lib.hid a16
      replace a17 := Lib.hid a17
      replace a18 := Lib.hid a18
      clear hn1 hn2 hm hI b3
      go_wp2_with fail
      go_region_held3 (fun w' => w'.cell? ⟨p, 1, none⟩ = some (sl k.vb m)) (first | exact a4 | exact hk a4 | exact hk (hk a4))
        (first
          | (go_at_call 46; (with_reducible refine a16.out.mono ?_); rintro e w9 ⟨rfl, hw9⟩; subst hw9)
          | (go_at_call 46; (with_reducible refine a17.out.mono ?_); rintro e w9 ⟨rfl, hw9⟩; subst hw9))
      rw [hw5.out]
      clear hw5 a3 a4 a12 a13 a14 a15 a16 a17 hk
      go_wp2_with fail
      go_roundw
      case rel => exact ⟨j + 1, by omega, by go_num, a18⟩
      case measure => (change L - n - ((j : Int) + 1).toNat < L - n - ((j : Int)).toNat; omega)
    · obtain rfl : j = L - n := by omega
      obtain ⟨e3, e4, e5, e6, ⟨u, e7⟩, e8⟩ := hfin.out wr hI.out
      replace e8 := Lib.hid e8
      clear hI hstep hst
      go_wp2_with fail
      exact bodyPost_end (v := .tuple #[]) (by simp [results, Try.results28, go_sem]) rfl ⟨rfl, e8.out⟩
/-- clear, called at the end of refutes. -/
theorem clear_t (u : FrameMode) (w : World) (h : PIx B w p k s) (hv : VAL s.val s.tr) (hl : s.tr.length < 1000) (ht : s.tr.Nodup) (ho : ∀ y, y ∈ s.tr → -y ∉ s.tr) (hr : ∀ y, y ∈ s.tr → y ≠ 0 ∧ y ≤ s.V ∧ -y ≤ s.V) (n : Nat) (hn : n ≤ s.tr.length) (hB : B ≤ w.heap.size) : CallsD Try.prog 28 #[pp p, iz (n : Int)] u w fun e u' w' => u' = u ∧ (e = .returned (.tuple #[]) ∧ ∃ tv val, PIx B w' p { k with tv := tv } { s with val := val, tr := s.tr.take n, head := n } ∧ VAL val (s.tr.take n) ∧ KT w w' p k.vb k.tv tv ∧ Below B w w') := by
  by_cases e : n = s.tr.length
  · subst e
    exact clear_0 u w h hv hl
  · exact clear_1 u w h hv hl ht ho hr n (by omega) hB
end
end Go.Proofs.Ytembgefbmecdbaa
