/-
  The reader's calls while it reads definitions, in one form; how many words are still to come.
  definitions.
-/
import Derived.Test.YtbmdnmjgijblpaaDoorE12
namespace Go.Proofs.YtbmdnmjgijblpaaDoor
open Go Go.RowKit Go.Lib Go.Maps
/-- The reader of T at block q: the scope's name, the variables and Ids read, and the words still to come. -/
def DQ (w : World) (B q : Nat) (T top : List UInt8) (ids : List (List UInt8)) (vs : List NV) (l : List (UInt8 × List UInt8)) : Prop := ∃ p, DR w B q T top ids vs p l
abbrev DE (w : World) (B q : Nat) (T top : List UInt8) (ids : List (List UInt8)) (vs : List NV) (l : List (UInt8 × List UInt8)) (w' : World) : Prop := DQ w' B q T top ids vs l ∧ VW B q w w'
section
variable {w w' : World} {B q : Nat} {T top : List UInt8} {ids : List (List UInt8)} {vs : List NV} {c : UInt8} {wd : List UInt8} {l : List (UInt8 × List UInt8)}
theorem DE.of {v : Value} {m n p p' : Nat} {D : DU} {l0 : List (UInt8 × List UInt8)} (hB : B ≤ q) (hx : DX w B ids vs v m n D) (hr : RX w q (mkD T top v m) T p l0) (hr' : RX w' q (mkD T top v m) T p' l) (k : KV q w w') : DE w B q T top ids vs l w' := by
  obtain ⟨cs, hc, _⟩ := hr.cv
  exact ⟨⟨p', hB, v, m, n, D, hx.kv hc k, hr'⟩, VW.kv k hB⟩
theorem DQ.over (h : DQ w B q T top ids vs l) (k : Below w.heap.size w w') : DQ w' B q T top ids vs l := by
  obtain ⟨p, hB, v, m, n, D, hx, hr⟩ := h
  exact ⟨p, hB, v, m, n, D, hx.over k, hr.over k⟩
theorem DQ.ge (h : DQ w B q T top ids vs l) : B ≤ q ∧ q < w.heap.size := by
  obtain ⟨p, hB, v, m, n, D, hx, hr⟩ := h
  exact ⟨hB, hr.lt⟩
theorem DQ.ne (h : DQ w B q T top ids vs l) {b : Nat} {cs : Array Value} (hb : CV w b cs 76) : b ≠ q := fun e => by
  obtain ⟨p, hB, v, m, n, D, hx, hr⟩ := h
  obtain ⟨cs2, hc, _⟩ := hr.cv
  subst e
  have : some (Obj.cells cs 76 (0, 0)) = some (.cells cs2 64 (0, 0)) := hb.symm.trans hc
  cases this
theorem DQ.far (h : DQ w B q T top ids vs l) {b i : Nat} {cs : Array Value} (u : Value) (hb : CV w b cs 76) : DQ (w.setCell ⟨b, i, none⟩ u) B q T top ids vs l := by
  have hn := h.ne hb
  obtain ⟨p, hB, v, m, n, D, hx, hr⟩ := h
  exact ⟨p, hB, v, m, n, D, hx.kp fun g hg => Below.heap_setCell w _ u g (hx.ne hb (by decide) g hg), hr.far hn⟩
theorem DQ.elem (hT : T.length ≤ 1048576) (h : DQ w B q T top ids vs ((c, wd) :: l)) (hne : wd ≠ sCom) : Calls Tryd.prog 36 #[pp q] w fun e w' => ∃ ln : Nat, e = .returned (.agg #[.string (bt wd), iz (ln : Int)]) ∧ DE w B q T top ids vs l w' := by
  obtain ⟨p, hB, v, m, n, D, hx, hr⟩ := h
  refine (elem_p (mkD_MK T top v m) hT w hr hne).mono ?_
  rintro e w' ⟨ln, e1, h1, h2⟩
  exact ⟨ln, e1, DE.of hB hx hr h1 h2⟩
theorem DQ.name (hT : T.length ≤ 1048576) (h : DQ w B q T top ids vs ((c, wd) :: l)) (hwl : wd.length ≤ 1000) (hwd : wordB wd = true) : Calls Tryd.prog 39 #[pp q] w fun e w' => ∃ ln : Nat, e = .returned (.agg #[.string (bt wd), iz (ln : Int)]) ∧ DE w B q T top ids vs l w' := by
  obtain ⟨p, hB, v, m, n, D, hx, hr⟩ := h
  refine (name_p (mkD_MK T top v m) hT w hr hwl hwd).mono ?_
  rintro e w' ⟨ln, e1, h1, h2⟩
  exact ⟨ln, e1, DE.of hB hx hr h1 h2⟩
theorem DQ.expect (hT : T.length ≤ 1048576) (h : DQ w B q T top ids vs ((c, wd) :: l)) (S : ByteArray) (hS : bt wd = S) : Calls Tryd.prog 38 #[pp q, .slice (some ⟨w.heap.size, 0, none⟩) 1 1] (w.alloc (.cells #[.string S] 9)) fun e w' => e = .returned (.tuple #[]) ∧ DE w B q T top ids vs l w' := by
  subst hS
  have hb := vnew w (.cells #[.string (bt wd)] 9)
  have hg : CV (w.alloc (.cells #[.string (bt wd)] 9)) w.heap.size #[.string (bt wd)] 9 := by unfold CV; exact Array.getElem?_push_size ..
  obtain ⟨p, hB, v, m, n, D, hx, hr⟩ := h
  refine (expect_p (mkD_MK T top v m) hT _ (hr.over hb) w.heap.size hg).mono ?_
  rintro e w' ⟨e1, h1, h2⟩
  have h3 := DE.of hB (hx.over hb) (hr.over hb) h1 h2
  exact ⟨e1, h3.1, (VW.below hb).trans h3.2⟩
theorem DQ.skip (hT : T.length ≤ 1048576) {ws : List (UInt8 × List UInt8)} (hws : ∀ x, x ∈ ws → x.2 ≠ sEnd) (h : DQ w B q T top ids vs (ws ++ (c, sEnd) :: l)) : Calls Tryd.prog 37 #[pp q] w fun e w' => e = .returned (.tuple #[]) ∧ DE w B q T top ids vs l w' := by
  obtain ⟨p, hB, v, m, n, D, hx, hr⟩ := h
  refine (skip_p (mkD_MK T top v m) hT w hws hr).mono ?_
  rintro e w' ⟨e1, h1, h2⟩
  exact ⟨e1, DE.of hB hx hr h1 h2⟩
theorem DQ.must (h : DQ w B q T top ids vs l) (hwd : wd ≠ []) (ln : Int) : Calls Tryd.prog 35 #[pp q, .agg #[.string (bt wd), iz ln], .string (bt wd)] w fun e w' => e = .returned (.tuple #[]) ∧ DE w B q T top ids vs l w' := by
  refine (must_m w q wd hwd ln).mono ?_
  rintro e w' ⟨e1, h1⟩
  exact ⟨e1, h.over h1, VW.below h1⟩
/-- The scope's name is kept. -/
theorem DQ.stop (h : DQ w B q T top ids vs l) (top' : List UInt8) : DE w B q T top' ids vs l (w.setCell ⟨q, 3, none⟩ (.string (bt top'))) := by
  obtain ⟨p, hB, v, m, n, D, hx, hr⟩ := h
  obtain ⟨cs, hc, _⟩ := hr.cv
  obtain ⟨ln, h1, h2, h3⟩ := hr
  have h4 : VX (w.setCell ⟨q, 3, none⟩ (.string (bt top'))) q (mkD T top' v m p ln) := by
    have := h1.set 3 (.string (bt top'))
    exact this
  exact ⟨⟨p, hB, v, m, n, D, hx.kv hc (KV.set q 3 w _), ln, h4, h2, h3⟩, VW.kv (KV.set q 3 w _) hB⟩
theorem DQ.fz (h : DQ w B q T top ids vs l) (i : Nat) : w.frozen? ⟨q, i, none⟩ = false := by
  obtain ⟨p, hB, v, m, n, D, hx, hr⟩ := h
  obtain ⟨cs, hc, _⟩ := hr.cv
  exact hc.fz i
theorem DQ.c3 (h : DQ w B q T top ids vs l) : w.cell? ⟨q, 3, none⟩ = some (.string (bt top)) := by
  obtain ⟨p, hB, v, m, n, D, hx, ln, hr, _⟩ := h
  exact hr.c 3
end
/-- The data of a variable's line. -/
structure VD where
  c0 : UInt8
  c1 : UInt8
  c2 : UInt8
  c3 : UInt8
  c4 : UInt8
  c5 : UInt8
  dw : List UInt8
  id : List UInt8
  nm : List UInt8
  u : Nat
abbrev sVar : List UInt8 := [36, 118, 97, 114]
abbrev VD.ws (x : VD) : List (UInt8 × List UInt8) := vline x.c1 x.c2 x.c3 x.c4 x.c5 x.dw x.id x.nm
def VD.all (x : VD) : List (UInt8 × List UInt8) := (x.c0, sVar) :: x.ws
structure VD.ok (x : VD) : Prop where
  dw : x.dw.length ≤ 3
  u : Lib.parseUintB 32 x.dw = .ok x.u
  u1 : 1 ≤ x.u
  u2 : x.u ≤ 128
  id : idB x.id = true
  nm : wordB x.nm = true
theorem idB_len {l : List UInt8} (h : idB l = true) : l.length ≤ 1000 := by
  unfold idB at h
  simp at h
  omega
theorem wordB_len {l : List UInt8} (h : wordB l = true) : l.length ≤ 1000 := by
  unfold wordB at h
  simp only [Bool.and_eq_true] at h
  exact idB_len h.1
abbrev vids (L : List VD) : List (List UInt8) := L.map VD.id
abbrev vnvs (L : List VD) : List NV := L.map fun x => (x.nm, x.u)
theorem DQ.var {w : World} {B q : Nat} {T top : List UInt8} {L : List VD} {l : List (UInt8 × List UInt8)} (hT : T.length ≤ 1048576) (x : VD) (hx : x.ok) (hi : x.id ∉ vids L) (hn : ∀ y ∈ L, y.nm ≠ x.nm) (hl : L.length < 300) (h : DQ w B q T top (vids L) (vnvs L) (x.ws ++ l)) :
    Calls Tryd.prog 40 #[pp q] w fun e w' => e = .returned (.tuple #[]) ∧ DE w B q T top (vids (L ++ [x])) (vnvs (L ++ [x])) l w' := by
  obtain ⟨p, h⟩ := h
  refine (variable_p hT w h hx.dw hx.u hx.u1 hx.u2 hx.id (idB_len hx.id) hi hx.nm (wordB_len hx.nm) ?_ (by simpa using hl)).mono ?_
  · intro y hy
    obtain ⟨z, hz, rfl⟩ := List.mem_map.1 hy
    exact hn z hz
  · rintro e w' ⟨e1, h1, h2⟩
    exact ⟨e1, by simpa [DQ, vids, vnvs] using h1, h2⟩
end Go.Proofs.YtbmdnmjgijblpaaDoor
namespace Go.Proofs.YtbmdnmjgijblpaaDoor
open Go Go.RowKit Go.Lib Go.Maps
abbrev sTime : List UInt8 := [36, 116, 105, 109, 101, 115, 99, 97, 108, 101]
abbrev sScope : List UInt8 := [36, 115, 99, 111, 112, 101]
abbrev sModule : List UInt8 := [109, 111, 100, 117, 108, 101]
abbrev sUp : List UInt8 := [36, 117, 112, 115, 99, 111, 112, 101]
abbrev sEndDef : List UInt8 := [36, 101, 110, 100, 100, 101, 102, 105, 110, 105, 116, 105, 111, 110, 115]
def vlines (L : List VD) : List (UInt8 × List UInt8) := L.flatMap VD.all
/-- What comes behind the variables' lines. -/
def wTail (_a8 a9 a10 a11 : UInt8) (l : List (UInt8 × List UInt8)) : List (UInt8 × List UInt8) := (a9, sEnd) :: (a10, sEndDef) :: (a11, sEnd) :: l
/-- What comes behind the scope's line. -/
def wVars (a8 : UInt8) (L : List VD) (tl : List (UInt8 × List UInt8)) : List (UInt8 × List UInt8) := vlines L ++ (a8, sUp) :: tl
def wHead (a1 a2 a3 a4 a5 a6 a7 : UInt8) (n1 n2 top : List UInt8) (r : List (UInt8 × List UInt8)) : List (UInt8 × List UInt8) := ([(a1, n1), (a2, n2)] : List (UInt8 × List UInt8)) ++ (a3, sEnd) :: (a4, sScope) :: (a5, sModule) :: (a6, top) :: (a7, sEnd) :: r
theorem wVars_cons (a8 : UInt8) (x : VD) (L : List VD) (tl : List (UInt8 × List UInt8)) : wVars a8 (x :: L) tl = (x.c0, sVar) :: (x.ws ++ wVars a8 L tl) := by simp [wVars, vlines, VD.all]
/-- The loop over the variables' lines: cur has been read. -/
def DL (w : World) (B q : Nat) (T top : List UInt8) (a8 : UInt8) (L : List VD) (tl : List (UInt8 × List UInt8)) (g : Nat) (cur : List UInt8) (wr : World) : Prop :=
  VW B q w wr ∧ ((g = 0 ∧ cur = sUp ∧ DQ wr B q T top (vids L) (vnvs L) tl) ∨ ∃ (k : Nat) (x : VD), g + k = L.length ∧ L[k]? = some x ∧ cur = sVar ∧ DQ wr B q T top (vids (L.take k)) (vnvs (L.take k)) (x.ws ++ wVars a8 (L.drop (k + 1)) tl))
theorem DL.over {w wr w' : World} {B q : Nat} {T top : List UInt8} {a8 : UInt8} {L : List VD} {tl : List (UInt8 × List UInt8)} {g : Nat} {cur : List UInt8} (h : DL w B q T top a8 L tl g cur wr) (k : Below wr.heap.size wr w') : DL w B q T top a8 L tl g cur w' := by
  obtain ⟨h1, h2⟩ := h
  refine ⟨h1.trans (VW.below k), ?_⟩
  rcases h2 with ⟨a, b, c⟩ | ⟨k2, x, a, b, c, d⟩
  · exact .inl ⟨a, b, c.over k⟩
  · exact .inr ⟨k2, x, a, b, c, d.over k⟩
theorem DL.far {w wr : World} {B q : Nat} {T top : List UInt8} {a8 : UInt8} {L : List VD} {tl : List (UInt8 × List UInt8)} {g b i : Nat} {cur : List UInt8} {cs : Array Value} (u : Value) (h : DL w B q T top a8 L tl g cur wr) (hb : CV wr b cs 76) (hlow : w.heap.size ≤ b) (_hB : B ≤ b) : DL w B q T top a8 L tl g cur (wr.setCell ⟨b, i, none⟩ u) := by
  obtain ⟨h1, h2⟩ := h
  refine ⟨⟨h1.os, h1.tape, h1.output, Nat.le_trans h1.size (by simp), fun k hk hs => ?_, fun k cs T f hc a1 a2 a3 a4 => ?_⟩, ?_⟩
  · exact (Below.heap_setCell wr _ u k (fun e => by have e' : k = b := e; omega)).trans (h1.low k hk hs)
  · exact (Below.heap_setCell wr _ u k (fun e => by have e' : k = b := e; have := lt_of_get hc; omega)).trans (h1.oth k cs T f hc a1 a2 a3 a4)
  rcases h2 with ⟨a, b, c⟩ | ⟨k2, x, a, b, c, d⟩
  · exact .inl ⟨a, b, c.far u hb⟩
  · exact .inr ⟨k2, x, a, b, c, d.far u hb⟩
/-- The word ahead of which the lines from k on stand. -/
theorem DL.next {w wr : World} {B q : Nat} {T top : List UInt8} {a8 : UInt8} {L : List VD} {tl : List (UInt8 × List UInt8)} {g k : Nat} (hT : T.length ≤ 1048576) (hv : VW B q w wr) (hk : g + k = L.length) (h : DQ wr B q T top (vids (L.take k)) (vnvs (L.take k)) (wVars a8 (L.drop k) tl)) :
    Calls Tryd.prog 36 #[pp q] wr fun e w' => ∃ (cur : List UInt8) (ln : Nat), e = .returned (.agg #[.string (bt cur), iz (ln : Int)]) ∧ VW B q wr w' ∧ DL w B q T top a8 L tl g cur w' := by
  rcases Nat.lt_or_ge k L.length with hlt | hge
  · rw [List.drop_eq_getElem_cons hlt, wVars_cons] at h
    refine (h.elem hT (by decide)).mono ?_
    rintro e w' ⟨ln, rfl, h1, h2⟩
    exact ⟨sVar, ln, rfl, h2, hv.trans h2, .inr ⟨k, _, hk, List.getElem?_eq_getElem hlt, rfl, h1⟩⟩
  · rw [List.drop_eq_nil_of_le hge, List.take_of_length_le hge] at h
    refine (h.elem hT (wd := sUp) (by decide)).mono ?_
    rintro e w' ⟨ln, rfl, h1, h2⟩
    exact ⟨sUp, ln, rfl, h2, hv.trans h2, .inl ⟨by omega, rfl, h1⟩⟩
/-- A line more. -/
theorem DL.var {w wr : World} {B q : Nat} {T top : List UInt8} {a8 : UInt8} {L : List VD} {tl : List (UInt8 × List UInt8)} {g : Nat} {cur : List UInt8} (hT : T.length ≤ 1048576) (hok : ∀ x ∈ L, x.ok) (hi : (vids L).Nodup) (hn : (L.map VD.nm).Nodup) (hl : L.length ≤ 300) (hc : cur ≠ sUp) (h : DL w B q T top a8 L tl g cur wr) :
    ∃ g', g = g' + 1 ∧ cur = sVar ∧ Calls Tryd.prog 40 #[pp q] wr fun e w' => e = .returned (.tuple #[]) ∧ VW B q wr w' ∧ Calls Tryd.prog 36 #[pp q] w' fun e w2 => ∃ (cur : List UInt8) (ln : Nat), e = .returned (.agg #[.string (bt cur), iz (ln : Int)]) ∧ VW B q w' w2 ∧ DL w B q T top a8 L tl g' cur w2 := by
  obtain ⟨h1, ⟨_, h2, _⟩ | ⟨k, x, a, b, c, d⟩⟩ := h
  · exact absurd h2 hc
  obtain ⟨hk, hx⟩ := List.getElem?_eq_some_iff.1 b
  have htk : L.take (k + 1) = L.take k ++ [x] := by rw [List.take_succ_eq_append_getElem hk, hx]
  refine ⟨g - 1, by omega, c, ?_⟩
  refine (DQ.var hT x (hok x (hx ▸ List.getElem_mem hk)) ?_ ?_ (by rw [List.length_take]; omega) d).mono ?_
  · intro hm
    have h3 : (vids (L.take (k + 1))).Nodup := by rw [vids, List.map_take]; exact hi.sublist (List.take_sublist _ _)
    rw [htk, vids, List.map_append, List.nodup_append] at h3
    exact h3.2.2 x.id hm x.id (by simp) rfl
  · intro y hy e
    have h3 : ((L.take (k + 1)).map VD.nm).Nodup := by rw [List.map_take]; exact hn.sublist (List.take_sublist _ _)
    rw [htk, List.map_append, List.nodup_append] at h3
    exact h3.2.2 y.nm (List.mem_map.2 ⟨y, hy, rfl⟩) x.nm (by simp) e
  · rintro e w' ⟨rfl, h3, h4⟩
    rw [← htk] at h3
    exact ⟨rfl, h4, DL.next hT (h1.trans h4) (by omega) h3⟩
end Go.Proofs.YtbmdnmjgijblpaaDoor
