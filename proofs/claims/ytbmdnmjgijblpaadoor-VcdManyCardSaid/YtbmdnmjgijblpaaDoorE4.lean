/-
  vcd's reader: take, must.
  A text as words with one blank ahead of each; take, expect, element and skip on it.
  vcd's reader: skip, element.
  vcd's reader: element.
-/
import Derived.Test.YtbmdnmjgijblpaaDoorE3
namespace Go.Proofs.YtbmdnmjgijblpaaDoor
open Go Go.RowKit Go.Lib
theorem vnew (w : World) (o : Obj) : Below w.heap.size w (w.alloc o) := (Below.refl _ _).alloc (Nat.le_refl _) o
theorem KV.far {b c i : Nat} {w w' : World} (h : KV b w w') (hc : w.heap.size ≤ c) (u : Value) : KV b w (w'.setCell ⟨c, i, none⟩ u) :=
  ⟨h.os, h.tape, h.output, by simpa using h.size, fun k hk hkw => (Below.heap_setCell _ _ _ k (by show k ≠ c; omega)).trans (h.blk k hk hkw)⟩
theorem KV.alloc {b : Nat} {w w' : World} (h : KV b w w') (o : Obj) : KV b w (w'.alloc o) := h.trans (KV.below (vnew w' o))
theorem bt_ne {l : List UInt8} (h : l ≠ []) : (bt l).toList.isEmpty = false ∧ ¬ (bt l).toList = [] := by
  rw [Lib.toList_data]
  cases l with
  | nil => exact absurd rfl h
  | cons a r => exact ⟨rfl, fun e => by cases e⟩
set_option maxRecDepth 100000 in
set_option maxHeartbeats 1600000 in
theorem take_m (w : World) (q : Nat) (T : List UInt8) (mk : Nat → Nat → VR) (m : MK T mk) (i0 l0 : Nat) (h : VX w q (mk i0 l0)) (hT : T.length ≤ 1048576) (hi : i0 ≤ T.length) (hl : l0 ≤ i0 + 1) {bl wd rest : List UInt8} (hN : NW T i0 bl wd rest) (hw : wd ≠ []) :
    Calls Tryd.prog 53 #[pp q] w (NP w q mk wd (i0 + bl.length + wd.length)) := by
  obtain ⟨w1, hw1⟩ : ∃ W, w.alloc (.cells #[.string (bt []), iz 0] 76) = W := ⟨_, rfl⟩
  have hba : Below w.heap.size w w1 := by rw [← hw1]; exact vnew w _
  have hv1 : CV w1 w.heap.size #[.string (bt []), iz 0] 76 := by rw [← hw1]; unfold CV; exact Array.getElem?_push_size ..
  have hnx := next_m w1 q T mk m i0 l0 (h.over hba) hT hi hl hN
  have hqw : w.heap.size ≠ q := fun e => Nat.ne_of_lt h.lt e.symm
  obtain ⟨P, hP⟩ : ∃ P, i0 + bl.length + wd.length = P := ⟨_, rfl⟩
  rw [hP] at hnx ⊢
  obtain ⟨n1, n2⟩ := bt_ne hw
  obtain ⟨S, hS⟩ : ∃ S, bt wd = S := ⟨_, rfl⟩
  have hpost : ∀ W (ln : Nat), VX W q (mk P ln) → ln ≤ P + 1 → KV q w W → NP w q mk wd P (.returned (.agg #[.string S, iz (ln : Int)])) W := fun W ln a b c => ⟨ln, by rw [← hS], a, b, c⟩
  have hnx' : Calls Tryd.prog 52 #[pp q] w1 fun e w' => ∃ ln : Nat, e = .returned (.agg #[.string S, iz (ln : Int)]) ∧ VX w' q (mk P ln) ∧ ln ≤ P + 1 ∧ KV q w1 w' := by
    refine hnx.mono ?_
    rintro e w' ⟨ln, rfl, a, b, c⟩
    exact ⟨ln, by rw [hS], a, b, c⟩
  rw [hS] at n1 n2
  replace hnx' := Lib.hid hnx'
  replace hpost := Lib.hid hpost
  replace hba := Lib.hid hba
  replace hv1 := Lib.hid hv1
  replace hqw := Lib.hid hqw
  replace hw1 := Lib.hid hw1
  clear hnx hP hS hN hi hl h hT m hw
  go_enter Tryd.func53, Tryd.ntmps53
  go_wp2_with fail
  rw [show w.alloc (.cells #[.string { data := #[] }, .int .i64 0] 76) = w1 from hw1.out]
  (with_reducible refine hnx'.out.mono ?_)
  rintro e w2 ⟨ln, rfl, hx, hln, hk⟩
  have hv2 := hk.keep hv1.out hqw.out
  have v0 : w2.cell? ⟨w.heap.size, 0, none⟩ = some (.string (bt [])) := hv2.c 0
  have v1 : w2.cell? ⟨w.heap.size, 1, none⟩ = some (iz 0) := hv2.c 1
  have vl := hv2.lt
  have vf0 := hv2.fz 0
  have vf1 := hv2.fz 1
  have hfin : NP w q mk wd P (.returned (.agg #[.string S, iz (ln : Int)])) (((w2.setCell ⟨w.heap.size, 0, none⟩ (.string S)).setCell ⟨w.heap.size, 1, none⟩ (iz (ln : Int))).alloc (.cells #[.string S, iz (ln : Int)] 76)) := by
    have hk0 : KV q w w2 := (KV.below hba.out).trans hk
    have hq0 : q ≠ w.heap.size := fun e => hqw.out e.symm
    exact hpost.out _ ln (((hx.far _ _ hq0).far _ _ hq0).over (vnew _ _)) hln (((hk0.far (Nat.le_refl _) _).far (Nat.le_refl _) _).alloc _)
  replace hfin := Lib.hid hfin
  clear hnx' hpost hx hln hk hv2
  go_wp2_with fail
  exact bodyPost_ret (v := .agg #[.string S, iz (ln : Int)]) (by simp [results, Tryd.results53, go_sem, v0, v1, vl]) rfl hfin.out
set_option maxRecDepth 100000 in
set_option maxHeartbeats 1600000 in
/-- must of the word that is asked for. -/
theorem must_m (w : World) (q : Nat) (wd : List UInt8) (hw : wd ≠ []) (ln : Int) : Calls Tryd.prog 35 #[pp q, .agg #[.string (bt wd), iz ln], .string (bt wd)] w fun e w' => e = .returned (.tuple #[]) ∧ Below w.heap.size w w' := by
  obtain ⟨n1, n2⟩ := bt_ne hw
  obtain ⟨S, hS⟩ : ∃ S, bt wd = S := ⟨_, rfl⟩
  rw [hS] at n1 n2 ⊢
  have heq : (S.toList == S.toList) = true := by simp
  have heq2 : (S.toList != S.toList) = false := by simp
  clear hS hw
  have hb := Lib.hid (vnew w (.cells #[.string S, iz ln] 76))
  go_enter Tryd.func35, Tryd.ntmps35
  go_wp2_with fail
  exact bodyPost_end (v := .tuple #[]) (by simp [results, Tryd.results35, go_sem]) rfl ⟨rfl, hb.out⟩
end Go.Proofs.YtbmdnmjgijblpaaDoor
namespace Go.Proofs.YtbmdnmjgijblpaaDoor
open Go Go.RowKit Go.Lib
/-- The rest of a text: words, each behind a blank, and a line feed. -/
def RT (l : List (UInt8 × List UInt8)) : List UInt8 := l.flatMap (fun x => x.1 :: x.2) ++ [10]
/-- Right words. -/
def WD (l : List (UInt8 × List UInt8)) : Prop := ∀ x, x ∈ l → vblk x.1.toNat = true ∧ x.2 ≠ [] ∧ ∀ c, c ∈ x.2 → vblk c.toNat = false
structure PT (T : List UInt8) (p : Nat) (l : List (UInt8 × List UInt8)) : Prop where
  e : T.drop p = RT l
  p : p ≤ T.length
  w : WD l
theorem RT_head (l : List (UInt8 × List UInt8)) (hw : WD l) : ∀ c, (RT l).head? = some c → vblk c.toNat = true := by
  intro c hc
  cases l with
  | nil =>
    have : c = 10 := by simpa [RT] using hc.symm
    subst this
    rfl
  | cons x r =>
    have : c = x.1 := by simpa [RT] using hc.symm
    subst this
    exact (hw x (List.mem_cons_self ..)).1
section
variable {T : List UInt8} {p : Nat} {c : UInt8} {wd : List UInt8} {l : List (UInt8 × List UInt8)}
theorem PT.nw (h : PT T p ((c, wd) :: l)) : NW T p [c] wd (RT l) := by
  obtain ⟨h1, h2, h3⟩ := h.w (c, wd) (List.mem_cons_self ..)
  have hw : WD l := fun x hx => h.w x (List.mem_cons_of_mem _ hx)
  exact ⟨by rw [h.e]; simp [RT], fun d hd => by rw [List.mem_singleton.1 hd]; exact h1, h3, RT_head l hw, fun e => absurd e h2⟩
theorem PT.next (h : PT T p ((c, wd) :: l)) : PT T (p + 1 + wd.length) l := by
  have hl := h.nw.len h.p
  refine ⟨?_, by simp at hl; omega, fun x hx => h.w x (List.mem_cons_of_mem _ hx)⟩
  rw [Nat.add_assoc, ← List.drop_drop, h.e]
  simp only [RT, List.flatMap_cons, List.cons_append, List.append_assoc]
  rw [Nat.add_comm 1, List.drop_succ_cons, List.drop_append_of_le_length (Nat.le_refl _), List.drop_length, List.nil_append]
theorem PT.ne (h : PT T p ((c, wd) :: l)) : wd ≠ [] := (h.w (c, wd) (List.mem_cons_self ..)).2.1
theorem PT.done (h : PT T p []) : NW T p [10] [] [] := ⟨by rw [h.e]; rfl, fun d hd => by rw [List.mem_singleton.1 hd]; rfl, fun d hd => absurd hd (by simp), fun d hd => (by cases hd), fun _ => rfl⟩
theorem PT.first (hT : T = wd ++ RT l) (hw : WD l) (h1 : wd ≠ []) (h2 : ∀ c, c ∈ wd → vblk c.toNat = false) : NW T 0 [] wd (RT l) ∧ PT T (0 + 0 + wd.length) l := by
  refine ⟨⟨by rw [List.drop_zero, hT]; rfl, fun d hd => absurd hd (by simp), h2, RT_head l hw, fun e => absurd e h1⟩, ?_, ?_, hw⟩
  · rw [hT, Nat.zero_add, List.drop_append_of_le_length (Nat.le_refl _), List.drop_length, List.nil_append]
  · rw [hT, List.length_append]; omega
end
/-- The reader stands at p, the words l are still to come. -/
def RX (w : World) (q : Nat) (mk : Nat → Nat → VR) (T : List UInt8) (p : Nat) (l : List (UInt8 × List UInt8)) : Prop := ∃ ln, VX w q (mk p ln) ∧ ln ≤ p + 1 ∧ PT T p l
theorem RX.over {w w' : World} {q : Nat} {mk : Nat → Nat → VR} {T : List UInt8} {p : Nat} {l : List (UInt8 × List UInt8)} (h : RX w q mk T p l) (hb : Below w.heap.size w w') : RX w' q mk T p l := by
  obtain ⟨ln, h1, h2, h3⟩ := h
  exact ⟨ln, h1.over hb, h2, h3⟩
theorem RX.lt {w : World} {q : Nat} {mk : Nat → Nat → VR} {T : List UInt8} {p : Nat} {l : List (UInt8 × List UInt8)} (h : RX w q mk T p l) : q < w.heap.size := by
  obtain ⟨ln, h1, h2, h3⟩ := h
  exact h1.lt
section
variable {q : Nat} {T : List UInt8} {mk : Nat → Nat → VR} {p : Nat} {c : UInt8} {wd : List UInt8} {l : List (UInt8 × List UInt8)}
/-- The word wd has been read. -/
def RN (w : World) (q : Nat) (mk : Nat → Nat → VR) (T : List UInt8) (p : Nat) (l : List (UInt8 × List UInt8)) (wd : List UInt8) (e : Ending) (w' : World) : Prop := ∃ ln : Nat, e = .returned (.agg #[.string (bt wd), iz (ln : Int)]) ∧ RX w' q mk T p l ∧ KV q w w'
theorem take_p (m : MK T mk) (hT : T.length ≤ 1048576) (w : World) (h : RX w q mk T p ((c, wd) :: l)) : Calls Tryd.prog 53 #[pp q] w (RN w q mk T (p + 1 + wd.length) l wd) := by
  obtain ⟨ln, h1, h2, h3⟩ := h
  refine (take_m w q T mk m p ln h1 hT h3.p h2 h3.nw h3.ne).mono ?_
  rintro e w' ⟨ln', rfl, q1, q2, q3⟩
  exact ⟨ln', rfl, ⟨ln', q1, q2, h3.next⟩, q3⟩
theorem next_p (m : MK T mk) (hT : T.length ≤ 1048576) (w : World) (h : RX w q mk T p ((c, wd) :: l)) : Calls Tryd.prog 52 #[pp q] w (RN w q mk T (p + 1 + wd.length) l wd) := by
  obtain ⟨ln, h1, h2, h3⟩ := h
  refine (next_m w q T mk m p ln h1 hT h3.p h2 h3.nw).mono ?_
  rintro e w' ⟨ln', rfl, q1, q2, q3⟩
  exact ⟨ln', rfl, ⟨ln', q1, q2, h3.next⟩, q3⟩
/-- At the end of the text there is no word. -/
theorem next_e (m : MK T mk) (hT : T.length ≤ 1048576) (w : World) (h : RX w q mk T p []) : Calls Tryd.prog 52 #[pp q] w fun e w' => ∃ ln : Nat, e = .returned (.agg #[.string (bt []), iz (ln : Int)]) ∧ (∃ p ln, VX w' q (mk p ln)) ∧ KV q w w' := by
  obtain ⟨ln, h1, h2, h3⟩ := h
  refine (next_m w q T mk m p ln h1 hT h3.p h2 h3.done).mono ?_
  rintro e w' ⟨ln', rfl, q1, q2, q3⟩
  exact ⟨ln', rfl, ⟨_, _, q1⟩, q3⟩
theorem next_0 (m : MK T mk) (hT : T.length ≤ 1048576) (w : World) (h : VX w q (mk 0 1)) (hTe : T = wd ++ RT l) (hw : WD l) (h1 : wd ≠ []) (h2 : ∀ c, c ∈ wd → vblk c.toNat = false) : Calls Tryd.prog 52 #[pp q] w (RN w q mk T (0 + 0 + wd.length) l wd) := by
  obtain ⟨n1, n2⟩ := PT.first hTe hw h1 h2
  refine (next_m w q T mk m 0 1 h hT (Nat.zero_le _) (by omega) n1).mono ?_
  rintro e w' ⟨ln', rfl, q1, q2, q3⟩
  exact ⟨ln', rfl, ⟨ln', q1, q2, n2⟩, q3⟩
set_option maxRecDepth 100000 in
set_option maxHeartbeats 1600000 in
/-- expect of one word. -/
theorem expect_p (m : MK T mk) (hT : T.length ≤ 1048576) (w : World) (h : RX w q mk T p ((c, wd) :: l)) (g : Nat) (hg : CV w g #[.string (bt wd)] 9) : Calls Tryd.prog 38 #[pp q, .slice (some ⟨g, 0, none⟩) 1 1] w fun e w' => e = .returned (.tuple #[]) ∧ RX w' q mk T (p + 1 + wd.length) l ∧ KV q w w' := by
  have hne : wd ≠ [] := by obtain ⟨ln, h1, h2, h3⟩ := h; exact h3.ne
  have hTk := Lib.hid (take_p m hT w h)
  have hMu := Lib.hid (fun W ln => must_m W q wd hne ln)
  have c0 : w.cell? ⟨g, 0, none⟩ = some (.string (bt wd)) := hg.c 0
  have gl := hg.lt
  obtain ⟨S, hS⟩ : ∃ S, bt wd = S := ⟨_, rfl⟩
  obtain ⟨P, hP⟩ : ∃ P, p + 1 + wd.length = P := ⟨_, rfl⟩
  rw [hP] at hTk ⊢
  unfold RN at hTk
  simp only [hS] at hTk hMu c0
  clear h hg hS hP hne
  go_enter Tryd.func38, Tryd.ntmps38
  go_wp2_with fail
  go_loopw [8] (fun iv wr => (iv = .int .i64 0 ∧ wr = w) ∨ (iv = .int .i64 1 ∧ Hid (RX wr q mk T P l ∧ KV q w wr))) (fun iv _ => 1 - (intOf iv).toNat)
  case atStart => exact .inl ⟨rfl, rfl⟩
  case round =>
    rcases hrel with ⟨rfl, rfl⟩ | ⟨rfl, hI⟩
    · go_wp2_with fail
      (with_reducible refine hTk.out.mono ?_)
      rintro e w2 ⟨ln, rfl, hx, hk⟩
      have hM2 := Lib.hid (hMu.out w2 (ln : Int))
      clear hTk hMu
      go_wp2_with fail
      (with_reducible refine hM2.out.mono ?_)
      rintro e w3 ⟨rfl, hb⟩
      have hI : Hid (RX w3 q mk T P l ∧ KV q wr w3) := Lib.hid ⟨hx.over hb, hk.trans (KV.below hb)⟩
      clear hM2 hx hk hb
      go_wp2_with fail
      go_roundw
      case rel => exact .inr ⟨rfl, hI⟩
      case measure => decide
    · go_wp2_with fail
      exact bodyPost_end (v := .tuple #[]) (by simp [results, Tryd.results38, go_sem]) rfl ⟨rfl, hI.out⟩
end
end Go.Proofs.YtbmdnmjgijblpaaDoor
namespace Go.Proofs.YtbmdnmjgijblpaaDoor
open Go Go.RowKit Go.Lib
abbrev sEnd : List UInt8 := [36, 101, 110, 100]
abbrev sCom : List UInt8 := [36, 99, 111, 109, 109, 101, 110, 116]
theorem bt_is {l r : List UInt8} (h : l = r) : (bt l).toList = r := by rw [Lib.toList_data, h]
theorem bt_not {l r : List UInt8} (h : l ≠ r) : ¬ (bt l).toList = r ∧ ((bt l).toList == r) = false ∧ ((bt l).toList != r) = true := by
  rw [Lib.toList_data]
  refine ⟨h, beq_eq_false_iff_ne.2 h, ?_⟩
  simpa using h
section
variable {q : Nat} {T : List UInt8} {mk : Nat → Nat → VR} {p : Nat} {c : UInt8} {wd : List UInt8} {l : List (UInt8 × List UInt8)}
/-- While skip goes on: cur has been read, n words are still to come up to the end. -/
def SK (w : World) (q : Nat) (mk : Nat → Nat → VR) (T : List UInt8) (pe : Nat) (l : List (UInt8 × List UInt8)) (n : Nat) (cur : List UInt8) (wr : World) : Prop :=
  KV q w wr ∧ ((n = 0 ∧ cur = sEnd ∧ RX wr q mk T pe l) ∨ ∃ (ws : List (UInt8 × List UInt8)) (c : UInt8) (p : Nat), n = ws.length + 1 ∧ cur ≠ sEnd ∧ cur ≠ [] ∧ (∀ x, x ∈ ws → x.2 ≠ sEnd) ∧ RX wr q mk T p (ws ++ (c, sEnd) :: l) ∧ pe = p + (ws.flatMap fun x => x.1 :: x.2).length + 5)
theorem SK.over {w wr w' : World} {pe n : Nat} {cur : List UInt8} (h : SK w q mk T pe l n cur wr) (hb : Below wr.heap.size wr w') : SK w q mk T pe l n cur w' := by
  obtain ⟨h1, h2⟩ := h
  refine ⟨h1.trans (KV.below hb), ?_⟩
  rcases h2 with ⟨a, b, d⟩ | ⟨ws, c, p, a1, a2, a3, a4, a5, a6⟩
  · exact .inl ⟨a, b, d.over hb⟩
  · exact .inr ⟨ws, c, p, a1, a2, a3, a4, a5.over hb, a6⟩
theorem RX.far {w : World} {b i : Nat} {u : Value} (h : RX w q mk T p l) (hb : b ≠ q) : RX (w.setCell ⟨b, i, none⟩ u) q mk T p l := by
  obtain ⟨ln, h1, h2, h3⟩ := h
  exact ⟨ln, h1.far _ _ hb.symm, h2, h3⟩
theorem SK.far {w wr : World} {pe n b i : Nat} {cur : List UInt8} {u : Value} (h : SK w q mk T pe l n cur wr) (hb : b ≠ q) (hw : w.heap.size ≤ b) : SK w q mk T pe l n cur (wr.setCell ⟨b, i, none⟩ u) := by
  obtain ⟨h1, h2⟩ := h
  refine ⟨h1.far hw u, ?_⟩
  rcases h2 with ⟨a, b, d⟩ | ⟨ws, c, p, a1, a2, a3, a4, a5, a6⟩
  · exact .inl ⟨a, b, d.far hb⟩
  · exact .inr ⟨ws, c, p, a1, a2, a3, a4, a5.far hb, a6⟩
/-- The next word, read by take, on the way of skip. -/
theorem SK.take (m : MK T mk) (hT : T.length ≤ 1048576) {w wr : World} {ws : List (UInt8 × List UInt8)} (hk : KV q w wr) (hws : ∀ x, x ∈ ws → x.2 ≠ sEnd) (hx : RX wr q mk T p (ws ++ (c, sEnd) :: l)) :
    Calls Tryd.prog 53 #[pp q] wr fun e w' => ∃ (cur : List UInt8) (ln : Nat), e = .returned (.agg #[.string (bt cur), iz (ln : Int)]) ∧ cur ≠ [] ∧ KV q wr w' ∧ SK w q mk T (p + (ws.flatMap fun x => x.1 :: x.2).length + 5) l ws.length cur w' := by
  cases ws with
  | nil =>
    refine (take_p m hT wr hx).mono ?_
    rintro e w' ⟨ln, rfl, q1, q2⟩
    refine ⟨sEnd, ln, rfl, by decide, q2, hk.trans q2, .inl ⟨rfl, rfl, ?_⟩⟩
    exact q1
  | cons x r =>
    obtain ⟨cx, wx⟩ := x
    refine (take_p m hT wr hx).mono ?_
    rintro e w' ⟨ln, rfl, q1, q2⟩
    have hne : wx ≠ [] := by obtain ⟨_, _, _, h3⟩ := hx; exact h3.ne
    refine ⟨wx, ln, rfl, hne, q2, hk.trans q2, .inr ⟨r, c, p + 1 + wx.length, rfl, hws (cx, wx) (by simp), hne, fun y hy => hws y (List.mem_cons_of_mem _ hy), q1, ?_⟩⟩
    simp only [List.flatMap_cons, List.length_append, List.length_cons]
    omega
set_option maxRecDepth 100000 in
set_option maxHeartbeats 1600000 in
theorem skip_p (m : MK T mk) (hT : T.length ≤ 1048576) (w : World) {ws : List (UInt8 × List UInt8)} (hws : ∀ x, x ∈ ws → x.2 ≠ sEnd) (h : RX w q mk T p (ws ++ (c, sEnd) :: l)) : Calls Tryd.prog 37 #[pp q] w fun e w' => e = .returned (.tuple #[]) ∧ RX w' q mk T (p + (ws.flatMap fun x => x.1 :: x.2).length + 5) l ∧ KV q w w' := by
  have hTk := Lib.hid (SK.take m hT (KV.refl q w) hws h)
  have hnx : ∀ pe n cur wr, SK w q mk T pe l (n + 1) cur wr → Calls Tryd.prog 53 #[pp q] wr fun e w' => ∃ (cur : List UInt8) (ln : Nat), e = .returned (.agg #[.string (bt cur), iz (ln : Int)]) ∧ cur ≠ [] ∧ KV q wr w' ∧ SK w q mk T pe l n cur w' := by
    rintro pe n cur wr ⟨hk, ⟨h1, _⟩ | ⟨ws', c', p', a1, a2, a3, a4, a5, a6⟩⟩
    · omega
    · have := SK.take m hT hk a4 a5
      rw [← a6, show ws'.length = n by omega] at this
      exact this
  have hlt := h.lt
  obtain ⟨pe, hpe⟩ : ∃ pe, p + (ws.flatMap fun x => x.1 :: x.2).length + 5 = pe := ⟨_, rfl⟩
  rw [hpe] at hTk ⊢
  obtain ⟨n0, hn0⟩ : ∃ n, ws.length = n := ⟨_, rfl⟩
  rw [hn0] at hTk
  replace hnx := Lib.hid hnx
  clear h hws hpe hn0
  replace hlt := Lib.hid hlt
  go_enter Tryd.func37, Tryd.ntmps37
  go_wp2_with fail
  (with_reducible refine hTk.out.mono ?_)
  rintro e w1 ⟨cur, ln, rfl, hne, hk1, hI⟩
  have hI1 := Lib.hid (hI.over (vnew w1 (.cells #[.string (bt cur), iz (ln : Int)] 76)))
  have hv1 : CV (w1.alloc (.cells #[.string (bt cur), iz (ln : Int)] 76)) w1.heap.size #[.string (bt cur), iz (ln : Int)] 76 := Array.getElem?_push_size ..
  have hqn : w1.heap.size ≠ q := fun e => by have := hk1.size; have := hlt.out; omega
  replace hv1 := Lib.hid hv1
  replace hqn := Lib.hid hqn
  replace hne := Lib.hid hne
  clear hTk hI hk1
  go_wp2_with fail
  go_loopg [2] n0 (fun g sv wr => ∃ (b : Nat) (cur : List UInt8) (ln : Nat), sv = .pointer (some ⟨b, 0, none⟩) ∧ b ≠ q ∧ Hid (CV wr b #[.string (bt cur), iz (ln : Int)] 76) ∧ Hid (cur ≠ []) ∧ Hid (SK w q mk T pe l g cur wr))
  case atStart => exact ⟨w1.heap.size, cur, ln, rfl, hqn.out, hv1, hne, hI1⟩
  case round =>
    obtain ⟨b, cur2, ln2, rfl, hbq, hv, hcn, hI⟩ := hrel
    have v0 : wr.cell? ⟨b, 0, none⟩ = some (.string (bt cur2)) := hv.out.c 0
    have v1 : wr.cell? ⟨b, 1, none⟩ = some (iz (ln2 : Int)) := hv.out.c 1
    have vl := hv.out.lt
    clear hI1 hv1 hqn hne
    obtain ⟨n1, n2⟩ := bt_ne hcn.out
    by_cases he : cur2 = sEnd
    · have hfin : RX wr q mk T pe l ∧ KV q w wr := by
        obtain ⟨h1, ⟨_, _, h3⟩ | ⟨_, _, _, _, h2, _⟩⟩ := hI.out
        · exact ⟨h3, h1⟩
        · exact absurd he h2
      replace hfin := Lib.hid hfin
      have e1 : (bt cur2).toList = sEnd := bt_is he
      have e2 : ((bt cur2).toList == sEnd) = true := by rw [e1]; rfl
      have e3 : ((bt cur2).toList != sEnd) = false := by rw [e1]; rfl
      obtain ⟨S, hS⟩ : ∃ S, bt cur2 = S := ⟨_, rfl⟩
      rw [hS] at v0 n1 n2 e2 e3
      replace e1 := Lib.hid e1
      replace hS := Lib.hid hS
      replace he := Lib.hid he
      clear hI hnx hv hcn
      go_wp2_with fail
      exact bodyPost_end (v := .tuple #[]) (by simp [results, Tryd.results37, go_sem]) rfl ⟨rfl, hfin.out⟩
    · obtain ⟨g, rfl⟩ : ∃ g, gk = g + 1 := by
        obtain ⟨h1, ⟨_, h2, _⟩ | ⟨ws', _, _, h2, _⟩⟩ := hI.out
        · exact absurd h2 he
        · exact ⟨_, h2⟩
      obtain ⟨e1, e2, e3⟩ := bt_not he
      have hI3 := hI.out.over (vnew wr (.cells #[.string (bt cur2), iz (ln2 : Int)] 76))
      have hA := hnx.out _ _ _ _ hI3
      have hq2 : wr.heap.size ≠ q := fun e => by
        obtain ⟨h1, _⟩ := hI.out
        have := h1.size; have := hlt.out; omega
      have hv2 : CV (wr.alloc (.cells #[.string (bt cur2), iz (ln2 : Int)] 76)) wr.heap.size #[.string (bt cur2), iz (ln2 : Int)] 76 := Array.getElem?_push_size ..
      obtain ⟨S, hS⟩ : ∃ S, bt cur2 = S := ⟨_, rfl⟩
      rw [hS] at v0 n1 n2 e1 e2 e3 hA hv2
      have hws2 : w.heap.size ≤ wr.heap.size := hI.out.1.size
      replace hA := Lib.hid hA
      replace hv2 := Lib.hid hv2
      replace hq2 := Lib.hid hq2
      replace he := Lib.hid he
      replace hS := Lib.hid hS
      replace hws2 := Lib.hid hws2
      clear hI hnx hv hcn hI3
      go_wp2_with fail
      (with_reducible refine hA.out.mono ?_)
      rintro e w4 ⟨cur4, ln4, rfl, hne4, hk4, hI4⟩
      have hv4 := hk4.keep hv2.out hq2.out
      have x0 : w4.cell? ⟨wr.heap.size, 0, none⟩ = some (.string S) := hv4.c 0
      have x1 : w4.cell? ⟨wr.heap.size, 1, none⟩ = some (iz (ln2 : Int)) := hv4.c 1
      have xl := hv4.lt
      have xf0 := hv4.fz 0
      have xf1 := hv4.fz 1
      have hI5 : Hid (SK w q mk T pe l g cur4 ((w4.setCell ⟨wr.heap.size, 0, none⟩ (.string (bt cur4))).setCell ⟨wr.heap.size, 1, none⟩ (iz (ln4 : Int)))) := Lib.hid ((hI4.far hq2.out hws2.out).far hq2.out hws2.out)
      have hv5 : Hid (CV ((w4.setCell ⟨wr.heap.size, 0, none⟩ (.string (bt cur4))).setCell ⟨wr.heap.size, 1, none⟩ (iz (ln4 : Int))) wr.heap.size #[.string (bt cur4), iz (ln4 : Int)] 76) := Lib.hid (by
        have := (hv4.set 0 (.string (bt cur4))).set 1 (iz (ln4 : Int))
        exact this)
      replace hne4 := Lib.hid hne4
      clear hA hk4 hI4 hv4 v0 v1 vl
      go_wp2_with fail
      go_roundg g
      case measure => exact Nat.lt_succ_self g
      case rel => exact ⟨wr.heap.size, cur4, ln4, rfl, hq2.out, hv5, hne4, hI5⟩
end
end Go.Proofs.YtbmdnmjgijblpaaDoor
namespace Go.Proofs.YtbmdnmjgijblpaaDoor
open Go Go.RowKit Go.Lib
section
variable {q : Nat} {T : List UInt8} {mk : Nat → Nat → VR} {p : Nat} {c : UInt8} {wd : List UInt8} {l : List (UInt8 × List UInt8)}
set_option maxRecDepth 100000 in
set_option maxHeartbeats 1600000 in
theorem elem_of (w : World) (hlt : q < w.heap.size) (hne : wd ≠ sCom) (Q : World → Prop)
    (hN : ∀ W, Below w.heap.size w W → Calls Tryd.prog 52 #[pp q] W fun e w' => ∃ ln : Nat, e = .returned (.agg #[.string (bt wd), iz (ln : Int)]) ∧ Q w' ∧ KV q W w')
    (h1 : ∀ W W', Q W → Below W.heap.size W W' → Q W') (h2 : ∀ W i u, Q W → Q (W.setCell ⟨w.heap.size, i, none⟩ u)) :
    Calls Tryd.prog 36 #[pp q] w fun e w' => ∃ ln : Nat, e = .returned (.agg #[.string (bt wd), iz (ln : Int)]) ∧ Q w' ∧ KV q w w' := by
  obtain ⟨w1, hw1⟩ : ∃ W, w.alloc (.cells #[.string (bt []), iz 0] 76) = W := ⟨_, rfl⟩
  have hba : Below w.heap.size w w1 := by rw [← hw1]; exact vnew w _
  have hv1 : CV w1 w.heap.size #[.string (bt []), iz 0] 76 := by rw [← hw1]; unfold CV; exact Array.getElem?_push_size ..
  have hnx := hN w1 hba
  have hqw : w.heap.size ≠ q := by omega
  obtain ⟨e1, e2, e3⟩ := bt_not hne
  obtain ⟨S, hS⟩ : ∃ S, bt wd = S := ⟨_, rfl⟩
  rw [hS] at e1 e2 e3 hnx ⊢
  have hfin : ∀ (W : World) (ln : Nat), Q W → KV q w1 W → (∃ ln' : Nat, Ending.returned (.agg #[.string S, iz (ln : Int)]) = .returned (.agg #[.string S, iz (ln' : Int)]) ∧ Q (((W.setCell ⟨w.heap.size, 0, none⟩ (.string S)).setCell ⟨w.heap.size, 1, none⟩ (iz (ln : Int))).alloc (.cells #[.string S, iz (ln : Int)] 76)) ∧ KV q w (((W.setCell ⟨w.heap.size, 0, none⟩ (.string S)).setCell ⟨w.heap.size, 1, none⟩ (iz (ln : Int))).alloc (.cells #[.string S, iz (ln : Int)] 76))) := by
    intro W ln hq hk
    have hk0 : KV q w W := (KV.below hba).trans hk
    exact ⟨ln, rfl, h1 _ _ (h2 _ _ _ (h2 _ _ _ hq)) (vnew _ _), ((hk0.far (Nat.le_refl _) _).far (Nat.le_refl _) _).alloc _⟩
  replace hnx := Lib.hid hnx
  replace hfin := Lib.hid hfin
  replace hv1 := Lib.hid hv1
  replace hqw := Lib.hid hqw
  replace hw1 := Lib.hid hw1
  clear hS hba hN h1 h2 hlt hne
  obtain ⟨P, hP⟩ : ∃ P : Ending → World → Prop, P = fun e w' => ∃ ln : Nat, e = .returned (.agg #[.string S, iz (ln : Int)]) ∧ Q w' ∧ KV q w w' := ⟨_, rfl⟩
  rw [← hP]
  have hfin2 : ∀ (W : World) (ln : Nat), Q W → KV q w1 W → P (.returned (.agg #[.string S, iz (ln : Int)])) (((W.setCell ⟨w.heap.size, 0, none⟩ (.string S)).setCell ⟨w.heap.size, 1, none⟩ (iz (ln : Int))).alloc (.cells #[.string S, iz (ln : Int)] 76)) := fun W ln a b => by
    rw [hP]
    exact hfin.out W ln a b
  replace hfin2 := Lib.hid hfin2
  clear hfin
  clear hP
  go_enter Tryd.func36, Tryd.ntmps36
  go_wp2_with fail
  rw [show w.alloc (.cells #[.string { data := #[] }, .int .i64 0] 76) = w1 from hw1.out]
  (with_reducible refine hnx.out.mono ?_)
  rintro e w2 ⟨ln, rfl, hq, hk⟩
  have hv2 := hk.keep hv1.out hqw.out
  have v0 : w2.cell? ⟨w.heap.size, 0, none⟩ = some (.string (bt [])) := hv2.c 0
  have v1 : w2.cell? ⟨w.heap.size, 1, none⟩ = some (iz 0) := hv2.c 1
  have vl := hv2.lt
  have vf0 := hv2.fz 0
  have vf1 := hv2.fz 1
  have hF := Lib.hid (hfin2.out w2 ln hq hk)
  clear hnx hfin2 hq hk hv2
  go_wp2_with fail
  go_loopw [] (fun wr => wr = w2.alloc (.cells #[.string S, iz (ln : Int)] 76)) (fun _ => 0)
  case atStart => rfl
  case round =>
    subst hrel
    go_wp2_with fail
    exact bodyPost_ret (v := .agg #[.string S, iz (ln : Int)]) (by simp [results, Tryd.results36, go_sem, v0, v1, vl]) rfl hF.out
/-- The next word, which is no comment's. -/
theorem elem_p (m : MK T mk) (hT : T.length ≤ 1048576) (w : World) (h : RX w q mk T p ((c, wd) :: l)) (hne : wd ≠ sCom) : Calls Tryd.prog 36 #[pp q] w (RN w q mk T (p + 1 + wd.length) l wd) :=
  (elem_of w h.lt hne (fun W => RX W q mk T (p + 1 + wd.length) l) (fun W hW => (next_p m hT W (h.over hW)).mono fun _ _ ⟨ln, e, a, b⟩ => ⟨ln, e, a, b⟩) (fun _ _ a b => a.over b) (fun W i u a => a.far (fun e => by have := h.lt; omega))).mono fun _ _ ⟨ln, e, a, b⟩ => ⟨ln, e, a, b⟩
/-- The first word. -/
theorem elem_0 (m : MK T mk) (hT : T.length ≤ 1048576) (w : World) (h : VX w q (mk 0 1)) (hTe : T = wd ++ RT l) (hw : WD l) (h1 : wd ≠ []) (h2 : ∀ c, c ∈ wd → vblk c.toNat = false) (hne : wd ≠ sCom) : Calls Tryd.prog 36 #[pp q] w (RN w q mk T (0 + 0 + wd.length) l wd) :=
  (elem_of w h.lt hne (fun W => RX W q mk T (0 + 0 + wd.length) l) (fun W hW => (next_0 m hT W (h.over hW) hTe hw h1 h2).mono fun _ _ ⟨ln, e, a, b⟩ => ⟨ln, e, a, b⟩) (fun _ _ a b => a.over b) (fun W i u a => a.far (fun e => by have := h.lt; omega))).mono fun _ _ ⟨ln, e, a, b⟩ => ⟨ln, e, a, b⟩
/-- At the end. -/
theorem elem_e (m : MK T mk) (hT : T.length ≤ 1048576) (w : World) (h : RX w q mk T p []) : Calls Tryd.prog 36 #[pp q] w fun e w' => ∃ ln : Nat, e = .returned (.agg #[.string (bt []), iz (ln : Int)]) ∧ (∃ p ln, VX w' q (mk p ln)) ∧ KV q w w' :=
  elem_of w h.lt (by decide) (fun W => ∃ p ln, VX W q (mk p ln)) (fun W hW => next_e m hT W (h.over hW)) (fun _ _ ⟨p, ln, a⟩ b => ⟨p, ln, a.over b⟩) (fun W i u ⟨p, ln, a⟩ => ⟨p, ln, a.far _ _ (fun e => by have := h.lt; have e' : q = w.heap.size := e; omega)⟩)
end
end Go.Proofs.YtbmdnmjgijblpaaDoor
