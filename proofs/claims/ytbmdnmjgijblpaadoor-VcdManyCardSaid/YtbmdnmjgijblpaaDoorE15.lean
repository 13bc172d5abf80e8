/-
  definitions: the walk.
-/
import Derived.Test.YtbmdnmjgijblpaaDoorE13
namespace Go.Proofs.YtbmdnmjgijblpaaDoor
open Go Go.RowKit Go.Lib Go.Maps
theorem must_s {w : World} {B q : Nat} {T top : List UInt8} {ids : List (List UInt8)} {vs : List NV} {l : List (UInt8 × List UInt8)} (wd : List UInt8) (h : DQ w B q T top ids vs l) (hwd : wd ≠ []) (ln : Int) : Calls Tryd.prog 35 #[pp q, .agg #[.string (bt wd), iz ln], .string (bt wd)] w fun e w' => e = .returned (.tuple #[]) ∧ DE w B q T top ids vs l w' := h.must hwd ln
theorem DL.ne {w wr : World} {B q : Nat} {T top : List UInt8} {a8 : UInt8} {L : List VD} {tl : List (UInt8 × List UInt8)} {g b : Nat} {cur : List UInt8} {cs : Array Value} (h : DL w B q T top a8 L tl g cur wr) (hb : CV wr b cs 76) : b ≠ q := by
  obtain ⟨_, ⟨_, _, h⟩ | ⟨_, _, _, _, _, h⟩⟩ := h
  · exact h.ne hb
  · exact h.ne hb
set_option maxRecDepth 100000 in
set_option maxHeartbeats 6400000 in
theorem defs_t {B q m : Nat} {T top n1 n2 : List UInt8} {a1 a2 a3 a4 a5 a6 a7 a8 a9 a10 a11 : UInt8} {L : List VD} {l : List (UInt8 × List UInt8)} (hT : T.length ≤ 1048576) (w : World) (hB : B ≤ q) (hx : DX w B [] [] (.slice none 0 0) m 0 (.map [])) (h : VX w q (mkD T [] (.slice none 0 0) m 0 1))
    (hTe : T = sTime ++ RT (wHead a1 a2 a3 a4 a5 a6 a7 n1 n2 top (wVars a8 L (wTail a8 a9 a10 a11 l)))) (hw : WD (wHead a1 a2 a3 a4 a5 a6 a7 n1 n2 top (wVars a8 L (wTail a8 a9 a10 a11 l)))) (hn1 : n1 ≠ sEnd) (hn2 : n2 ≠ sEnd) (htop : wordB top = true)
    (hok : ∀ x ∈ L, x.ok) (hi : (vids L).Nodup) (hn : (L.map VD.nm).Nodup) (hl : L.length ≤ 300) :
    Calls Tryd.prog 18 #[pp q] w fun e w' => e = .returned (.tuple #[]) ∧ DE w B q T top (vids L) (vnvs L) l w' := by
  have hC := Lib.hid (elem_0 (mkD_MK T [] (.slice none 0 0) m) hT w h hTe hw (by decide) (by decide) (by decide))
  have hF1 : ∀ W p, RX W q (mkD T [] (.slice none 0 0) m) T p (wHead a1 a2 a3 a4 a5 a6 a7 n1 n2 top (wVars a8 L (wTail a8 a9 a10 a11 l))) → KV q w W → DE w B q T [] [] [] (wHead a1 a2 a3 a4 a5 a6 a7 n1 n2 top (wVars a8 L (wTail a8 a9 a10 a11 l))) W := fun W p hr hk => ⟨⟨p, hB, _, m, 0, _, hx.kv h hk, hr⟩, VW.kv hk hB⟩
  have hskip : ∀ x, x ∈ ([(a1, n1), (a2, n2)] : List (UInt8 × List UInt8)) → x.2 ≠ sEnd := by
    intro x hx2
    simp at hx2
    rcases hx2 with rfl | rfl
    · exact hn1
    · exact hn2
  replace hF1 := Lib.hid hF1
  replace hskip := Lib.hid hskip
  replace hok := Lib.hid hok
  replace hi := Lib.hid hi
  replace hn := Lib.hid hn
  replace hl := Lib.hid hl
  replace htop := Lib.hid htop
  have hBw : Hid (B ≤ w.heap.size) := Lib.hid (by have := h.lt; omega)
  clear hx h hTe hw hn1 hn2 hB
  unfold RN at hC
  go_enter Tryd.func18, Tryd.ntmps18
  go_wp2_with fail
  (with_reducible refine hC.out.mono ?_)
  rintro e w1 ⟨ln, rfl, hr1, hk1⟩
  obtain ⟨hD, hV⟩ := hF1.out w1 _ hr1 hk1
  replace hC := Lib.hid (must_s sTime hD (by decide) (ln : Int))
  clear hr1 hk1 hF1
  replace hV := Lib.hid hV
  clear hD
  go_wp2_with fail
  (with_reducible refine hC.out.mono ?_)
  rintro e w2 ⟨rfl, hD, hV2⟩
  replace hV := Lib.hid (hV.out.trans hV2)
  replace hC := Lib.hid (DQ.skip hT hskip.out hD)
  clear hD hV2 hskip
  go_wp2_with fail
  (with_reducible refine hC.out.mono ?_)
  rintro e w3 ⟨rfl, hD, hV2⟩
  replace hV := Lib.hid (hV.out.trans hV2)
  replace hC := Lib.hid (hD.elem hT (wd := sScope) (by decide))
  clear hD hV2
  go_wp2_with fail
  (with_reducible refine hC.out.mono ?_)
  rintro e w4 ⟨ln4, rfl, hD, hV2⟩
  replace hV := Lib.hid (hV.out.trans hV2)
  replace hC := Lib.hid (must_s sScope hD (by decide) (ln4 : Int))
  clear hD hV2
  go_wp2_with fail
  (with_reducible refine hC.out.mono ?_)
  rintro e w5 ⟨rfl, hD, hV2⟩
  replace hV := Lib.hid (hV.out.trans hV2)
  replace hC := Lib.hid (hD.expect hT (wd := sModule) _ rfl)
  clear hD hV2
  go_wp2_with fail
  (with_reducible refine hC.out.mono ?_)
  rintro e w6 ⟨rfl, hD, hV2⟩
  replace hV := Lib.hid (hV.out.trans hV2)
  replace hC := Lib.hid (hD.name hT (wordB_len htop.out) htop.out)
  clear hD hV2
  go_wp2_with fail
  (with_reducible refine hC.out.mono ?_)
  rintro e w7 ⟨ln7, rfl, hD, hV2⟩
  have hfd : ∀ W : World, (Instr.field 76 (.agg #[.string (bt top), iz (ln7 : Int)]) 0).run Tryd.prog W = .ok (.string (bt top)) W := fun _ => by kernel_rfl
  have v3 := hD.c3
  have vf := hD.fz 3
  have vl := hD.ge.2
  obtain ⟨hD8, hV3⟩ := hD.stop top
  replace hV := Lib.hid ((hV.out.trans hV2).trans hV3)
  have hC8 := hD8.expect hT (wd := sEnd) _ rfl
  rw [World.size_setCell] at hC8
  replace hC := Lib.hid hC8
  clear hD hV2 hD8 hV3 hC8
  go_wp2_with fail
  (with_reducible refine hC.out.mono ?_)
  rintro e w8 ⟨rfl, hD, hV2⟩
  have hV8 := hV.out.trans hV2
  replace hC := Lib.hid (DL.next (L := L) (k := 0) (g := L.length) (a8 := a8) (tl := wTail a8 a9 a10 a11 l) hT hV8 rfl hD)
  have hwn : w.heap.size ≤ w8.heap.size := hV8.size
  replace hwn := Lib.hid hwn
  clear hD hV2 hV hV8 v3 vf vl hfd
  go_wp2_with fail
  (with_reducible refine hC.out.mono ?_)
  rintro e w9 ⟨cur, ln9, rfl, hv9, hI⟩
  have hwn9 : w.heap.size ≤ w9.heap.size := Nat.le_trans hwn.out hv9.size
  have hI10 := hI.over (vnew w9 (.cells #[.string (bt cur), iz (ln9 : Int)] 76))
  have hg10 : CV (w9.alloc (.cells #[.string (bt cur), iz (ln9 : Int)] 76)) w9.heap.size #[.string (bt cur), iz (ln9 : Int)] 76 := by unfold CV; exact Array.getElem?_push_size ..
  obtain ⟨w10, hw10⟩ : ∃ W, w9.alloc (.cells #[.string (bt cur), iz (ln9 : Int)] 76) = W := ⟨_, rfl⟩
  obtain ⟨g, hg⟩ : ∃ g, w9.heap.size = g := ⟨_, rfl⟩
  rw [hw10] at hI10 hg10
  rw [hg] at hg10 hwn9
  replace hI10 := Lib.hid hI10
  replace hg10 := Lib.hid hg10
  replace hwn9 := Lib.hid hwn9
  replace hw10 := Lib.hid hw10
  replace hg := Lib.hid hg
  obtain ⟨n0, hn0⟩ : ∃ n, L.length = n := ⟨_, rfl⟩
  rw [hn0] at hI10
  replace hn0 := Lib.hid hn0
  clear hC hv9 hI hwn
  go_wp2_with fail
  rw [hw10.out, hg.out]
  clear hw10 hg
  go_loopg [] n0 (fun gk wr => ∃ (cur : List UInt8) (ln : Nat), Hid (CV wr g #[.string (bt cur), iz (ln : Int)] 76) ∧ Hid (DL w B q T top a8 L (wTail a8 a9 a10 a11 l) gk cur wr))
  case atStart => exact ⟨cur, ln9, hg10, hI10⟩
  case round =>
    obtain ⟨cur2, ln2, hv, hI⟩ := hrel
    have v0 : wr.cell? ⟨g, 0, none⟩ = some (.string (bt cur2)) := hv.out.c 0
    have v1 : wr.cell? ⟨g, 1, none⟩ = some (iz (ln2 : Int)) := hv.out.c 1
    have vl := hv.out.lt
    have hgq := hI.out.ne hv.out
    clear hI10 hg10
    by_cases he : cur2 = sUp
    · subst he
      obtain ⟨hV, ⟨_, _, hD⟩ | ⟨_, _, _, _, h4, _⟩⟩ := hI.out
      case inr => exact absurd h4 (by decide)
      obtain ⟨e1, e2, e3⟩ := bt_not (show sUp ≠ sVar by decide)
      have hC := Lib.hid (must_s sUp hD (by decide) (ln2 : Int))
      replace hV := Lib.hid hV
      clear hI hD hv hgq
      go_wp2_with fail
      (with_reducible refine hC.out.mono ?_)
      rintro e w2 ⟨rfl, hD, hV2⟩
      replace hV := Lib.hid (hV.out.trans hV2)
      replace hC := Lib.hid (hD.expect hT (wd := sEnd) _ rfl)
      clear hD hV2 v0 v1 vl e1 e2 e3
      go_wp2_with fail
      (with_reducible refine hC.out.mono ?_)
      rintro e w3 ⟨rfl, hD, hV2⟩
      replace hV := Lib.hid (hV.out.trans hV2)
      replace hC := Lib.hid (hD.elem hT (wd := sEndDef) (by decide))
      clear hD hV2
      go_wp2_with fail
      (with_reducible refine hC.out.mono ?_)
      rintro e w4 ⟨ln4, rfl, hD, hV2⟩
      replace hV := Lib.hid (hV.out.trans hV2)
      replace hC := Lib.hid (must_s sEndDef hD (by decide) (ln4 : Int))
      clear hD hV2
      go_wp2_with fail
      (with_reducible refine hC.out.mono ?_)
      rintro e w5 ⟨rfl, hD, hV2⟩
      replace hV := Lib.hid (hV.out.trans hV2)
      replace hC := Lib.hid (hD.expect hT (wd := sEnd) _ rfl)
      clear hD hV2
      go_wp2_with fail
      (with_reducible refine hC.out.mono ?_)
      rintro e w6 ⟨rfl, hD, hV2⟩
      replace hV := Lib.hid (hV.out.trans hV2)
      replace hD := Lib.hid hD
      clear hC hV2
      go_wp2_with fail
      exact bodyPost_end (v := .tuple #[]) (by simp [results, Tryd.results18, go_sem]) rfl ⟨rfl, hD.out, hV.out⟩
    · obtain ⟨g', rfl, rfl, hC⟩ := DL.var hT hok.out hi.out hn.out hl.out he hI.out
      have e1 : (bt sVar).toList = sVar := bt_is rfl
      have e2 : ((bt sVar).toList == sVar) = true := by rw [e1]; rfl
      replace e1 := Lib.hid e1
      replace hC := Lib.hid hC
      replace hgq := Lib.hid hgq
      replace he := Lib.hid he
      clear hI
      go_wp2_with fail
      (with_reducible refine hC.out.mono ?_)
      rintro e w2 ⟨rfl, hV2, hE⟩
      have hv2 := hV2.cv hv.out hgq.out (by decide) (by decide) (by decide)
      replace hE := Lib.hid hE
      replace hv2 := Lib.hid hv2
      clear hC hV2 v0 v1 vl hv
      go_wp2_with fail
      (with_reducible refine hE.out.mono ?_)
      rintro e w3 ⟨cur3, ln3, rfl, hV3, hI3⟩
      have hv3 := hV3.cv hv2.out hgq.out (by decide) (by decide) (by decide)
      have x0 : w3.cell? ⟨g, 0, none⟩ = some (.string (bt sVar)) := hv3.c 0
      have x1 : w3.cell? ⟨g, 1, none⟩ = some (iz (ln2 : Int)) := hv3.c 1
      have xl := hv3.lt
      have xf0 := hv3.fz 0
      have xf1 := hv3.fz 1
      have hBg : B ≤ g := Nat.le_trans hBw.out hwn9.out
      have hI4 := hI3.far (i := 0) (.string (bt cur3)) hv3 hwn9.out hBg
      have hv4 := hv3.set 0 (.string (bt cur3))
      have hI5 := Lib.hid (hI4.far (i := 1) (iz (ln3 : Int)) hv4 hwn9.out hBg)
      have hv5 : CV ((w3.setCell ⟨g, 0, none⟩ (.string (bt cur3))).setCell ⟨g, 1, none⟩ (iz (ln3 : Int))) g #[.string (bt cur3), iz (ln3 : Int)] 76 := hv4.set 1 (iz (ln3 : Int))
      replace hv5 := Lib.hid hv5
      replace hBg := Lib.hid hBg
      clear hE hv2 hV3 hI3 hv3 hI4 hv4
      go_wp2_with fail
      go_roundg g'
      case measure => exact Nat.lt_succ_self g'
      case rel => exact ⟨cur3, ln3, hv5, hI5⟩
end Go.Proofs.YtbmdnmjgijblpaaDoor
