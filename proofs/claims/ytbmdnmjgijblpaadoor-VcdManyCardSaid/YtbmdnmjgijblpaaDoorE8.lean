/-
  vcd's reader: decimal, width, name.
-/
import Derived.Test.YtbmdnmjgijblpaaDoorE4
import Derived.Test.YtbmdnmjgijblpaaDoorLc
import Derived.Lib.AtoiErrMem
namespace Go.Proofs.YtbmdnmjgijblpaaDoor
open Go Go.RowKit Go.Lib
set_option maxRecDepth 100000 in
set_option maxHeartbeats 1600000 in
theorem dec_t (l : List UInt8) (most u : Nat) (hl : l.length ≤ most) (hm : most ≤ 100) (hu : Lib.parseUintB 32 l = .ok u) (hu2 : u ≤ 4294967295) (w : World) : Calls Tryd.prog 56 #[.string (bt l), .int .i64 (most : Int)] w fun e w' => e = .returned (.tuple #[iz (u : Int), .bool true]) ∧ Below w.heap.size w w' := by
  have hP := Tryd.strconv_ParseUint_10_at32_ok (bt l) (by show l.length ≤ _; omega) u hu w
  have hsz : (bt l).size = l.length := rfl
  obtain ⟨S, hS⟩ : ∃ S, bt l = S := ⟨_, rfl⟩
  rw [hS] at hP hsz ⊢
  have hb : ∀ w', (w' = w ∨ w' = Lib.bytesWorld w 5 S) → Below w.heap.size w w' := by
    rintro w' (rfl | rfl)
    · exact Below.refl _ _
    · exact Lib.bytesWorld_below w 5 S
  have t1 : decide (S.size ≤ most) = true := by simp; omega
  have hSm : S.size ≤ 100 := by omega
  replace hP := Lib.hid hP
  replace hb := Lib.hid hb
  clear hu hS hsz
  go_enter Tryd.func56, Tryd.ntmps56
  go_wp2_with fail
  (with_reducible refine hP.out.mono ?_)
  rintro e w1 ⟨rfl, hw⟩
  have hb1 := Lib.hid (hb.out w1 hw)
  clear hP hb hw
  go_wp2_with fail
  go_ret2
  exact ⟨rfl, hb1.out⟩
section
variable {q : Nat} {T : List UInt8} {mk : Nat → Nat → VR} {p : Nat} {c : UInt8} {wd : List UInt8} {l : List (UInt8 × List UInt8)}
set_option maxRecDepth 100000 in
set_option maxHeartbeats 1600000 in
theorem width_p (m : MK T mk) (hT : T.length ≤ 1048576) (w : World) (h : RX w q mk T p ((c, wd) :: l)) (u : Nat) (hwl : wd.length ≤ 3) (hu : Lib.parseUintB 32 wd = .ok u) (h1 : 1 ≤ u) (h2 : u ≤ 128) : Calls Tryd.prog 54 #[pp q] w fun e w' => e = .returned (iz (u : Int)) ∧ RX w' q mk T (p + 1 + wd.length) l ∧ KV q w w' := by
  have hTk := Lib.hid (take_p m hT w h)
  have hD : ∀ W, Calls Tryd.prog 56 #[.string (bt wd), .int .i64 3] W fun e w' => e = .returned (.tuple #[iz (u : Int), .bool true]) ∧ Below W.heap.size W w' := fun W => dec_t wd 3 u hwl (by omega) hu (by omega) W
  replace hD := Lib.hid hD
  have hW := isWidth_t (u : Int)
  rw [show (decide (1 ≤ (u : Int)) && decide ((u : Int) ≤ 128)) = true by simp; omega] at hW
  replace hW := Lib.hid hW
  obtain ⟨S, hS⟩ : ∃ S, bt wd = S := ⟨_, rfl⟩
  obtain ⟨P, hP⟩ : ∃ P, p + 1 + wd.length = P := ⟨_, rfl⟩
  rw [hP] at hTk ⊢
  unfold RN at hTk
  simp only [hS] at hTk hD
  clear h hS hP hu hwl
  go_enter Tryd.func54, Tryd.ntmps54
  go_wp2_with fail
  (with_reducible refine hTk.out.mono ?_)
  rintro e w1 ⟨ln, rfl, hx, hk⟩
  have hx1 := hx.over (vnew w1 (.cells #[.string S, iz (ln : Int)] 76))
  have hk1 := hk.alloc (.cells #[.string S, iz (ln : Int)] 76)
  have hD1 := Lib.hid (hD.out (w1.alloc (.cells #[.string S, iz (ln : Int)] 76)))
  replace hx1 := Lib.hid hx1
  replace hk1 := Lib.hid hk1
  clear hTk hD hx hk
  go_wp2_with fail
  (with_reducible refine hD1.out.mono ?_)
  rintro e w2 ⟨rfl, hb⟩
  have hW2 := Lib.hid (hW.out w2)
  have hfin : RX w2 q mk T P l ∧ KV q w w2 := ⟨hx1.out.over hb, hk1.out.trans (KV.below hb)⟩
  replace hfin := Lib.hid hfin
  clear hD1 hx1 hk1 hb hW
  go_wp2_with fail
  (with_reducible refine hW2.out.mono ?_)
  rintro e w3 ⟨rfl, hw3⟩
  subst hw3
  clear hW2
  go_wp2_with fail
  go_ret
  exact ⟨rfl, hfin.out⟩
set_option maxRecDepth 100000 in
set_option maxHeartbeats 1600000 in
theorem name_p (m : MK T mk) (hT : T.length ≤ 1048576) (w : World) (h : RX w q mk T p ((c, wd) :: l)) (hwl : wd.length ≤ 1000) (hwd : wordB wd = true) : Calls Tryd.prog 39 #[pp q] w (RN w q mk T (p + 1 + wd.length) l wd) := by
  obtain ⟨w1, hw1⟩ : ∃ W, w.alloc (.cells #[.string (bt []), iz 0] 76) = W := ⟨_, rfl⟩
  have hba : Below w.heap.size w w1 := by rw [← hw1]; exact vnew w _
  have hv1 : CV w1 w.heap.size #[.string (bt []), iz 0] 76 := by rw [← hw1]; unfold CV; exact Array.getElem?_push_size ..
  have hqw : w.heap.size ≠ q := by have := h.lt; omega
  have hTk := take_p m hT w1 (h.over hba)
  have hI := isWord_t wd (by omega)
  rw [hwd] at hI
  replace hI := Lib.hid hI
  obtain ⟨P, hP⟩ : ∃ P, p + 1 + wd.length = P := ⟨_, rfl⟩
  rw [hP] at hTk ⊢
  have hfin : ∀ (W : World) (ln : Nat), RX W q mk T P l → KV q w1 W → RN w q mk T P l wd (.returned (.agg #[.string (bt wd), iz (ln : Int)])) (((W.setCell ⟨w.heap.size, 0, none⟩ (.string (bt wd))).setCell ⟨w.heap.size, 1, none⟩ (iz (ln : Int))).alloc (.cells #[.string (bt wd), iz (ln : Int)] 76)) := by
    intro W ln hx hk
    have hk0 : KV q w W := (KV.below hba).trans hk
    exact ⟨ln, rfl, ((hx.far hqw).far hqw).over (vnew _ _), ((hk0.far (Nat.le_refl _) _).far (Nat.le_refl _) _).alloc _⟩
  obtain ⟨S, hS⟩ : ∃ S, bt wd = S := ⟨_, rfl⟩
  unfold RN at hTk
  simp only [hS] at hTk hI hfin
  replace hTk := Lib.hid hTk
  replace hfin := Lib.hid hfin
  replace hv1 := Lib.hid hv1
  replace hqw := Lib.hid hqw
  replace hw1 := Lib.hid hw1
  clear h hS hP hba hwd hwl
  go_enter Tryd.func39, Tryd.ntmps39
  go_wp2_with fail
  rw [show w.alloc (.cells #[.string { data := #[] }, .int .i64 0] 76) = w1 from hw1.out]
  (with_reducible refine hTk.out.mono ?_)
  rintro e w2 ⟨ln, rfl, hx, hk⟩
  have hv2 := hk.keep hv1.out hqw.out
  have v0 : w2.cell? ⟨w.heap.size, 0, none⟩ = some (.string (bt [])) := hv2.c 0
  have v1 : w2.cell? ⟨w.heap.size, 1, none⟩ = some (iz 0) := hv2.c 1
  have vl := hv2.lt
  have vf0 := hv2.fz 0
  have vf1 := hv2.fz 1
  have hF := Lib.hid (hfin.out w2 ln hx hk)
  clear hTk hfin hx hk hv2
  have hI2 := Lib.hid (hI.out (w2.alloc (.cells #[.string S, iz (ln : Int)] 76)))
  go_wp2_with fail
  (with_reducible refine hI2.out.mono ?_)
  rintro e w3 ⟨rfl, hw3⟩
  subst hw3
  clear hI hI2
  go_wp2_with fail
  exact bodyPost_ret (v := .agg #[.string S, iz (ln : Int)]) (by simp [results, Tryd.results39, go_sem, v0, v1, vl]) rfl hF.out
end
end Go.Proofs.YtbmdnmjgijblpaaDoor
