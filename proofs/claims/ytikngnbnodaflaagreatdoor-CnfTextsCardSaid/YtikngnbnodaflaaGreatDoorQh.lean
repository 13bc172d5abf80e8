/-
  CnfTexts walked.
-/
import Derived.Test.YtikngnbnodaflaaGreatDoorQe
import Derived.Test.YtikngnbnodaflaaGreatDoorQg
import Derived.Test.YtikngnbnodaflaaGreatDoorKs
import Derived.Test.YtikngnbnodaflaaGreatDoorKu
namespace Go.Proofs.YtikngnbnodaflaaGreatDoor
open Go.RowKit Go.Lib
set_option maxRecDepth 100000 in
set_option maxHeartbeats 8000000 in
theorem texts_t (x : Int) (V : Nat) (hxV : max 0 (min x 60) = (V : Int)) (A1 : Option Addr) (L1 : List (List Int)) (c1 : Nat) (w : World) (hT : LT w) (hM : MX w) (hR1 : RLL w A1 L1) (hn1 : L1.length ≤ 9223372036854775807) :
    Calls Tryz.prog 3 #[.int .i64 x, .slice A1 L1.length c1] w (RV w (.bool true)) := by
  have hV60 : V ≤ 60 := by omega
  have hAw := fun W (hb : Below w.heap.size w W) => awake_t W (hT.on hb)
  have hM1 := fun W (hb : Below w.heap.size w W) => Make_t x V hxV A1 L1 c1 W (hR1.over hb) hn1
  obtain ⟨n1, hn1e⟩ : ∃ n1, L1.length = n1 := ⟨_, rfl⟩
  simp only [hn1e] at hM1
  rw [hn1e]
  replace hAw := Lib.hid hAw
  replace hM1 := Lib.hid hM1
  replace hV60 := Lib.hid hV60
  replace hxV := Lib.hid hxV
  replace hT := Lib.hid hT
  replace hM := Lib.hid hM
  clear hn1 hn1e hR1
  go_enter Tryz.func3, Tryz.ntmps3
  have hbw0 : Below w.heap.size w w := Below.refl _ w
  go_wp2_with fail
  (with_reducible refine (hAw.out _ hbw0).mono ?_)
  rintro e w1 ⟨rfl, hbw1⟩
  clear hAw hbw0
  go_wp2_with fail
  (with_reducible refine (hM1.out _ hbw1).mono ?_)
  rintro e w2 ⟨p, cs, vl, ve, Ac, cc, vs, rfl, h, hlen, hg, hna, hL, hb2⟩
  have hbw2 : Below w.heap.size w w2 := below_call hb2 hbw1 hbw1.size
  have hal := (Below.refl w2.heap.size w2).alloc (Nat.le_refl _) (.cells #[.int .i64 (V : Int), .slice Ac cs.length cc] 26)
  have hbw3 : Below w.heap.size w (w2.alloc (.cells #[.int .i64 (V : Int), .slice Ac cs.length cc] 26)) := hbw2.alloc hbw2.size _
  have h3 := h.over hal
  have hL3 := hL.keep (Keep.of_below hal)
  have v3 := heap_alloc_new w2 (.cells #[.int .i64 (V : Int), .slice Ac cs.length cc] 26)
  have hTx := Text_t h3 (hT.out.on hbw3)
  have hcc : ∀ c, c ∈ cs → c.length ≤ 1000 := h.hc
  have hdd : ∀ c, c ∈ cs → Dom c ∧ c.length ≤ 1000 := fun c hc => ⟨h.hd c hc, h.hc c hc⟩
  have hfl := flat_le cs hcc
  have hcl := cls_len cs h.hd
  have hP := fun W (hb : MX W) => Parse_t V cs (by have := hV60.out; omega) (by omega) hg hcc (by omega) W hb
  have hRT := fun F Ac cc vs W (hL : RLLd F W Ac vs cs) => rText_t F V cs Ac cc vs W (by have := hV60.out; omega) (by omega) hdd hL
  obtain ⟨TX, hTXe⟩ : ∃ TX : ByteArray, (⟨(txT V cs).toArray⟩ : ByteArray) = TX := ⟨_, rfl⟩
  rw [hTXe] at hTx
  simp only [hTXe] at hP hRT
  have hIs := fun (w : World) (q : Nat) (vl' ve' : Value) (B : Nat) (hq : CF B w q V cs vl' ve') (hLq : RLLd (FP q vl' ve') w Ac vs cs) => Is_t hq Ac cc vs hLq
  have hRT2 := fun W hL => hRT (FP p vl ve) Ac cc vs W hL
  obtain ⟨nc, hnc⟩ : ∃ nc, cs.length = nc := ⟨_, rfl⟩
  simp only [hnc] at hRT2 hIs
  rw [hnc] at hal hbw3 h3 hL3 v3 hTx
  rw [hnc]
  replace hTx := Lib.hid hTx
  replace hP := Lib.hid hP
  replace hRT2 := Lib.hid hRT2
  replace hIs := Lib.hid hIs
  replace hnc := Lib.hid hnc
  replace h3 := Lib.hid h3
  replace hL3 := Lib.hid hL3
  replace v3 := Lib.hid v3
  clear hM1 hb2 hbw1 h hlen hg hna hL hbw2 hal hcc hdd hfl hcl hTXe hRT
  go_wp2_with fail
  (with_reducible refine hTx.out.mono ?_)
  rintro e w4 ⟨rfl, hb4⟩
  have hbw4 := below_call hb4 hbw3 hbw3.size
  have hL4 := Lib.hid (hL3.out.keep (Keep.of_below hb4))
  have v4 := Lib.hid ((hb4.block w2.heap.size (by simp)).trans v3.out)
  clear hTx hb4 hbw3 hL3 v3 h3
  go_wp2_with fail
  (with_reducible refine (hP.out _ (hM.out.on hbw4)).mono ?_)
  rintro e w5 ⟨q, vlq, veq, rfl, hq, hb5⟩
  have hbw5 := below_call hb5 hbw4 hbw4.size
  have hLq : RLLd (FP q vlq veq) w5 Ac vs cs := (hL4.out.mono fun b hb hG => absurd (hq.fp b hG).1 (by omega)).keep (Keep.of_below hb5)
  have hLp : RLLd (FP p vl ve) w5 Ac vs cs := hL4.out.keep (Keep.of_below hb5)
  have v5 := (hb5.block w2.heap.size (lt_of_get v4.out)).trans v4.out
  have hRT5 := hRT2.out _ hLp
  obtain ⟨B8, hB8⟩ : ∃ B8, w2.heap.size = B8 := ⟨_, rfl⟩
  rw [hB8] at v5 ⊢
  have c0 : w5.cell? ⟨B8, 0, none⟩ = some (.int .i64 (V : Int)) := by rw [Lib.cell_of_heap v5]; rfl
  have c1 : w5.cell? ⟨B8, 1, none⟩ = some (.slice Ac nc cc) := by rw [Lib.cell_of_heap v5]; rfl
  have f5 := Lib.frozen_of_heap v5
  replace hRT5 := Lib.hid hRT5
  replace hLq := Lib.hid hLq
  replace hq := Lib.hid hq
  clear hP hRT2 hb5 hbw4 hL4 v4 hLp hB8
  go_wp2_with fail
  (with_reducible refine hRT5.out.mono ?_)
  rintro e w6 ⟨rfl, hb6⟩
  have hbw6 := below_call hb6 hbw5 hbw5.size
  have hq6 := hq.out.over hb6
  have hL6 := hLq.out.keep (Keep.of_below hb6)
  have v6 := (hb6.block B8 (lt_of_get v5)).trans v5
  have d0 : w6.cell? ⟨B8, 0, none⟩ = some (.int .i64 (V : Int)) := by rw [Lib.cell_of_heap v6]; rfl
  have d1 : w6.cell? ⟨B8, 1, none⟩ = some (.slice Ac nc cc) := by rw [Lib.cell_of_heap v6]; rfl
  have hI6 := Lib.hid (hIs.out _ _ _ _ _ hq6 hL6)
  clear hb6 hbw5 hq hLq v5 v6 c0 c1 hq6 hL6 f5
  go_wp2_with fail
  (with_reducible refine hI6.out.mono ?_)
  rintro e w7 ⟨rfl, hb7⟩
  have hbw7 := below_call hb7 hbw6 hbw6.size
  go_wp2_with fail
  go_ret
  exact ⟨rfl, hbw7⟩
end Go.Proofs.YtikngnbnodaflaaGreatDoor
