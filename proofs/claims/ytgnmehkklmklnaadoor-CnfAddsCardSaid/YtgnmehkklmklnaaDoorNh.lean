/-
  CnfAdds walked.
-/
import Derived.Test.YtgnmehkklmklnaaDoorNg
import Derived.Test.YtgnmehkklmklnaaDoorKr
import Derived.Test.YtgnmehkklmklnaaDoorKx
namespace Go.Proofs.YtgnmehkklmklnaaDoor
open Go.RowKit Go.Lib
theorem pos_add {U : Nat} (h1 : 1 ≤ U) (h2 : U ≤ 60000) (cs : List (List Int)) (hn : cs.length < 200000) : addF U cs [(U : Int)] = (0, cs ++ [[(U : Int)]]) := by
  have hc : canon [(U : Int)] = [(U : Int)] := canon_of_sorted (List.pairwise_singleton _ _)
  have ha : ([(U : Int)]).any (fgn U) = false := by simp [fgn]; omega
  have ho : opB [(U : Int)] = false := by simp [opB]; omega
  unfold addF
  rw [ha, ho, hc, if_neg (by decide), if_neg (by rw [List.length_singleton]; omega), if_neg (by decide)]
theorem CF.low {base B : Nat} {w w' : World} {p V : Nat} {cs : List (List Int)} {vl ve : Value} (h : CF base w p V cs vl ve) (hB : ∀ b, FP p vl ve b → b < B) (hz : B ≤ w.heap.size) (k : Below B w w') : CF base w' p V cs vl ve :=
  h.keep (F := fun b => B ≤ b) ⟨k.os, k.tape, k.output, k.size, fun b hb hn => k.block b (by omega)⟩ fun b hb hf => by have := hB b hb; omega
theorem RLLd.low {F : Nat → Prop} {B : Nat} {w w' : World} {A : Option Addr} {vs : List Value} {cs : List (List Int)} (h : RLLd F w A vs cs) (hz : B = w.heap.size) (k : Below B w w') : RLLd F w' A vs cs := h.keep (Keep.of_below (hz ▸ k))
theorem Clause0_t {base : Nat} {w : World} {p V : Nat} {cs : List (List Int)} {vl ve : Value} (h : CF base w p V cs vl ve) : ∃ l0 : List Int, l0.length ≤ 1000 ∧ Calls Tryd.prog 16 #[pv p, .int .i64 0] w (OV w.heap.size w l0) := by
  by_cases h0 : 0 < cs.length
  · exact ⟨cs[0], h.hc _ (List.getElem_mem h0), Clause_t h 0 h0⟩
  · refine ⟨[], by decide, (Clause_over h 0 (by omega)).mono fun e w' ⟨he, hw⟩ => ?_⟩
    subst hw
    exact ⟨_, he, World.ownsRow_nil _ _ _ _, Below.refl _ _⟩
set_option maxRecDepth 100000 in
set_option maxHeartbeats 8000000 in
theorem adds_t (x : Int) (V : Nat) (hxV : max 0 (min x 60) = (V : Int)) (A1 Am : Option Addr) (L1 : List (List Int)) (c1 cm : Nat) (m : List Bool) (w : World) (hT : LT w) (hR1 : RLL w A1 L1) (hRm : RBo w Am m) (hn1 : L1.length ≤ 9223372036854775807) :
    Calls Tryd.prog 3 #[.int .i64 x, .slice A1 L1.length c1, .slice Am m.length cm] w (RV w (.bool true)) := by
  have hV60 : V ≤ 60 := by omega
  have hAw := awake_t w hT
  have hM1 := fun W (hb : Below w.heap.size w W) => Make_t x V hxV A1 L1 c1 W (hR1.over hb) hn1
  obtain ⟨n1, hn1e⟩ : ∃ n1, L1.length = n1 := ⟨_, rfl⟩
  obtain ⟨nm, hnme⟩ : ∃ nm, m.length = nm := ⟨_, rfl⟩
  simp only [hn1e] at hM1
  rw [hn1e, hnme]
  replace hAw := Lib.hid hAw
  replace hM1 := Lib.hid hM1
  replace hV60 := Lib.hid hV60
  replace hRm := Lib.hid hRm
  replace hnme := Lib.hid hnme
  replace hxV := Lib.hid hxV
  clear hn1 hn1e hR1
  go_enter Tryd.func3, Tryd.ntmps3
  go_wp2_with fail
  (with_reducible refine hAw.out.mono ?_)
  rintro e w1 ⟨rfl, hb1⟩
  clear hAw
  go_wp2_with fail
  (with_reducible refine (hM1.out _ hb1).mono ?_)
  rintro e w2 ⟨p, cs, vl, ve, Ac, cc, vs, rfl, ha, hla, hga, hna, hLa, hb2⟩
  obtain ⟨nc, hnc⟩ : ∃ nc, cs.length = nc := ⟨_, rfl⟩
  rw [hnc]
  have hbw2 : Below w.heap.size w w2 := below_call hb2 hb1 hb1.size
  have hal := (Below.refl w2.heap.size w2).alloc (Nat.le_refl _) (.cells #[.int .i64 (V : Int), .slice Ac nc cc] 27)
  have ha3 := ha.over hal
  have hL3 := hLa.keep (Keep.of_below hal)
  have v3 := heap_alloc_new w2 (.cells #[.int .i64 (V : Int), .slice Ac nc cc] 27)
  have hbw3 : Below w.heap.size w (w2.alloc (.cells #[.int .i64 (V : Int), .slice Ac nc cc] 27)) := hbw2.alloc hbw2.size _
  replace ha3 := Lib.hid ha3
  replace hL3 := Lib.hid hL3
  replace v3 := Lib.hid v3
  replace hnc := Lib.hid hnc
  replace hla := Lib.hid hla
  clear hM1 hb1 hb2 hbw2 hal ha hLa hga hna
  go_wp2_with fail
  obtain ⟨W3, hW3⟩ : ∃ W3, w2.alloc (.cells #[.int .i64 (V : Int), .slice Ac nc cc] 27) = W3 := ⟨_, rfl⟩
  obtain ⟨B8, hB8⟩ : ∃ B8, w2.heap.size = B8 := ⟨_, rfl⟩
  rw [hW3] at ha3 hL3 v3 hbw3 ⊢
  rw [hB8] at v3 ⊢
  clear hW3 hB8
  have hS : ∀ W : World, Below W3.heap.size W3 W → W.cell? ⟨B8, 0, none⟩ = some (.int .i64 (V : Int)) ∧ W.cell? ⟨B8, 1, none⟩ = some (.slice Ac nc cc) := fun W hb => by
    constructor
    · rw [Lib.cell_of_heap ((hb.block B8 (lt_of_get v3.out)).trans v3.out)]; rfl
    · rw [Lib.cell_of_heap ((hb.block B8 (lt_of_get v3.out)).trans v3.out)]; rfl
  have hIs := fun (W : World) (hb : Below W3.heap.size W3 W) => Is_t (ha3.out.over hb) Ac cc vs (hL3.out.keep (Keep.of_below hb))
  have hHo := fun (W : World) (hb : Below W3.heap.size W3 W) => Holds_t (ha3.out.over hb) m Am cm (hRm.out.over (hbw3.trans (hb.mono hbw3.size)))
  have hRh := fun (W : World) (hb : Below W3.heap.size W3 W) => rHolds_t (FP p vl ve) V cs Ac cc vs m Am cm W (by have := hla.out; omega) (fun c hc => ⟨ha3.out.hd c hc, ha3.out.hc c hc⟩) (hL3.out.keep (Keep.of_below hb)) (hRm.out.over (hbw3.trans (hb.mono hbw3.size)))
  obtain ⟨hv, hve⟩ : ∃ b, holB m cs = b := ⟨_, rfl⟩
  simp only [hnc.out] at hIs hRh
  simp only [hnme.out, hve] at hHo hRh
  have hbx0 : Below W3.heap.size W3 W3.drew := (Below.refl _ W3).drew
  have hS0 := hS _ hbx0
  replace hIs := Lib.hid hIs
  replace hHo := Lib.hid hHo
  replace hRh := Lib.hid hRh
  replace hS := Lib.hid hS
  clear hve
  refine region_anyT (n := 16) (S := fun w' => w'.cell? ⟨B8, 0, none⟩ = some (.int .i64 (V : Int)) ∧ w'.cell? ⟨B8, 1, none⟩ = some (.slice Ac nc cc)) (by kernel_rfl) ?_
  refine anyT_take (i := 0) (v := .bool true) rfl (by kernel_rfl) (by kernel_rfl) (fun _ _ _ h => h) (Or.inl ⟨by rfl, ?_⟩) hS0 ?_
  · intro w' hw'
    obtain ⟨k1, k2⟩ := hw'
    go_simp
    try with_reducible rfl
  try simp only [Act.put, List.getElem_toArray, List.getElem_cons_zero, List.getElem_cons_succ, List.setIfInBounds_toArray, List.set_cons_zero, List.set_cons_succ]
  refine anyT_take (i := 1) (v := .bool false) rfl (by kernel_rfl) (by kernel_rfl) (fun _ _ _ h => h) (Or.inl ⟨by rfl, ?_⟩) hS0 ?_
  · intro w' hw'
    obtain ⟨k1, k2⟩ := hw'
    go_simp
    try with_reducible rfl
  try simp only [Act.put, List.getElem_toArray, List.getElem_cons_zero, List.getElem_cons_succ, List.setIfInBounds_toArray, List.set_cons_zero, List.set_cons_succ]
  refine anyT_take (i := 2) (v := .bool false) rfl (by kernel_rfl) (by kernel_rfl) (fun _ _ _ h => h) (Or.inl ⟨by rfl, ?_⟩) hS0 ?_
  · intro w' hw'
    obtain ⟨k1, k2⟩ := hw'
    go_simp
    try with_reducible rfl
  try simp only [Act.put, List.getElem_toArray, List.getElem_cons_zero, List.getElem_cons_succ, List.setIfInBounds_toArray, List.set_cons_zero, List.set_cons_succ]
  refine anyT_take (i := 3) (v := pv p) rfl (by kernel_rfl) (by kernel_rfl) (fun _ _ _ h => h) (Or.inl ⟨by rfl, ?_⟩) hS0 ?_
  · intro w' hw'
    obtain ⟨k1, k2⟩ := hw'
    go_simp
    try with_reducible rfl
  try simp only [Act.put, List.getElem_toArray, List.getElem_cons_zero, List.getElem_cons_succ, List.setIfInBounds_toArray, List.set_cons_zero, List.set_cons_succ]
  refine anyT_take (i := 4) (v := .agg #[.int .i64 (V : Int), .slice Ac nc cc]) rfl (by kernel_rfl) (by kernel_rfl) (fun _ _ _ h => h) (Or.inl ⟨by rfl, ?_⟩) hS0 ?_
  · intro w' hw'
    obtain ⟨k1, k2⟩ := hw'
    go_simp
    try with_reducible rfl
  try simp only [Act.put, List.getElem_toArray, List.getElem_cons_zero, List.getElem_cons_succ, List.setIfInBounds_toArray, List.set_cons_zero, List.set_cons_succ]
  refine anyT_one (i := 5) (by kernel_rfl) ?_
  refine wpOp_step rfl (fun K hK => ?_)
  replace hK := Lib.hid hK
  go_simp
  (with_reducible refine (hIs.out _ hbx0).mono ?_)
  rintro e x1 ⟨rfl, hx1⟩
  have hbx1 := below_call hx1 hbx0 hbx0.size
  have hS1 := hS.out _ hbx1
  clear hx1
  refine hK.out _ _ ⟨fun _ => hS1, ?_⟩
  clear hK K
  try simp only [Act.put]
  refine anyT_one (i := 6) (by kernel_rfl) ?_
  refine wpOp_step rfl (fun K hK => ?_)
  replace hK := Lib.hid hK
  go_simp
  refine hK.out _ _ ⟨fun _ => hS1, ?_⟩
  clear hK K
  try simp only [Act.put]
  refine anyT_one (i := 7) (by kernel_rfl) ?_
  refine wpOp_step rfl (fun K hK => ?_)
  replace hK := Lib.hid hK
  go_simp
  refine hK.out _ _ ⟨fun _ => hS1, ?_⟩
  clear hK K
  try simp only [Act.put]
  refine anyT_one (i := 8) (by kernel_rfl) ?_
  refine wpOp_step rfl (fun K hK => ?_)
  replace hK := Lib.hid hK
  go_simp
  refine hK.out _ _ ⟨fun _ => hS1, ?_⟩
  clear hK K
  try simp only [Act.put]
  refine anyT_take (i := 9) (v := pv p) rfl (by kernel_rfl) (by kernel_rfl) (fun _ _ _ h => h) (Or.inl ⟨by rfl, ?_⟩) hS1 ?_
  · intro w' hw'
    obtain ⟨k1, k2⟩ := hw'
    go_simp
    try with_reducible rfl
  try simp only [Act.put, List.getElem_toArray, List.getElem_cons_zero, List.getElem_cons_succ, List.setIfInBounds_toArray, List.set_cons_zero, List.set_cons_succ]
  refine anyT_take (i := 10) (v := .slice Am nm cm) rfl (by kernel_rfl) (by kernel_rfl) (fun _ _ _ h => h) (Or.inl ⟨by rfl, ?_⟩) hS1 ?_
  · intro w' hw'
    obtain ⟨k1, k2⟩ := hw'
    go_simp
    try with_reducible rfl
  try simp only [Act.put, List.getElem_toArray, List.getElem_cons_zero, List.getElem_cons_succ, List.setIfInBounds_toArray, List.set_cons_zero, List.set_cons_succ]
  refine anyT_take (i := 12) (v := .agg #[.int .i64 (V : Int), .slice Ac nc cc]) rfl (by kernel_rfl) (by kernel_rfl) (fun _ _ _ h => h) (Or.inl ⟨by rfl, ?_⟩) hS1 ?_
  · intro w' hw'
    obtain ⟨k1, k2⟩ := hw'
    go_simp
    try with_reducible rfl
  try simp only [Act.put, List.getElem_toArray, List.getElem_cons_zero, List.getElem_cons_succ, List.setIfInBounds_toArray, List.set_cons_zero, List.set_cons_succ]
  refine anyT_take (i := 13) (v := .slice Am nm cm) rfl (by kernel_rfl) (by kernel_rfl) (fun _ _ _ h => h) (Or.inl ⟨by rfl, ?_⟩) hS1 ?_
  · intro w' hw'
    obtain ⟨k1, k2⟩ := hw'
    go_simp
    try with_reducible rfl
  try simp only [Act.put, List.getElem_toArray, List.getElem_cons_zero, List.getElem_cons_succ, List.setIfInBounds_toArray, List.set_cons_zero, List.set_cons_succ]
  refine anyT_one (i := 11) (by kernel_rfl) ?_
  refine wpOp_step rfl (fun K hK => ?_)
  replace hK := Lib.hid hK
  go_simp
  (with_reducible refine (hHo.out _ hbx1).mono ?_)
  rintro e x2 ⟨rfl, hx2⟩
  have hbx2 := below_call hx2 hbx1 hbx1.size
  have hS2 := hS.out _ hbx2
  clear hx2
  refine hK.out _ _ ⟨fun _ => hS2, ?_⟩
  clear hK K
  try simp only [Act.put]
  refine anyT_one (i := 14) (by kernel_rfl) ?_
  refine wpOp_step rfl (fun K hK => ?_)
  replace hK := Lib.hid hK
  go_simp
  (with_reducible refine (hRh.out _ hbx2).mono ?_)
  rintro e x3 ⟨rfl, hx3⟩
  have hbx3 := below_call hx3 hbx2 hbx2.size
  have hS3 := hS.out _ hbx3
  clear hx3
  refine hK.out _ _ ⟨fun _ => hS3, ?_⟩
  clear hK K
  try simp only [Act.put]
  refine anyT_one (i := 15) (by kernel_rfl) ?_
  refine wpOp_step rfl (fun K hK => ?_)
  replace hK := Lib.hid hK
  go_simp
  refine hK.out _ _ ⟨fun _ => hS3, ?_⟩
  clear hK K
  try simp only [Act.put]
  refine anyT_one (i := 16) (by kernel_rfl) ?_
  refine wpOp_step rfl (fun K hK => ?_)
  replace hK := Lib.hid hK
  go_simp
  refine hK.out _ _ ⟨fun h => absurd h (by decide), ?_⟩
  clear hK K
  refine anyT_done (by kernel_rfl) ?_ _
  have hCl := Lib.hid (Clone_t (ha3.out.over hbx3))
  clear hS0 hS1 hS2 hS3 hHo hRh hbx0 hbx1 hbx2
  go_wp2_with fail
  (with_reducible refine hCl.out.mono ?_)
  rintro e w6 ⟨q, vlq, veq, rfl, hq, hb6⟩
  have ha5 := ha3.out.over hbx3
  have haF := fun b hb => (ha5.fp b hb).2
  have haL := fun (W : World) (hbl : Below x3.heap.size x3 W) => ha5.low haF (Nat.le_refl _) hbl
  have h3B := fun (W : World) (hbl : Below x3.heap.size x3 W) => hbx3.trans (hbl.mono hbx3.size)
  obtain ⟨U, hU⟩ : ∃ U, V + 1 = U := ⟨_, rfl⟩
  have hU1 : 1 ≤ U := by omega
  have hU2 : U ≤ 60000 := by have := hV60.out; omega
  have hi : (V : Int) + 1 = (U : Int) := by omega
  have hVf := Var_t hq (by have := hV60.out; omega)
  rw [hU] at hVf
  replace hVf := Lib.hid hVf
  replace hq := Lib.hid hq
  replace haL := Lib.hid haL
  replace h3B := Lib.hid h3B
  replace hU := Lib.hid hU
  replace hU1 := Lib.hid hU1
  replace hU2 := Lib.hid hU2
  replace hi := Lib.hid hi
  clear hCl ha5 haF
  go_wp2_with fail
  (with_reducible refine hVf.out.mono ?_)
  rintro e w7 ⟨rfl, vl7, ve7, h7, k7, f7⟩
  have hb7 : Below x3.heap.size x3 w7 := hb6.trans (hq.out.below k7)
  have hz7 := hb7.size
  have s7 := hS.out w7 (h3B.out w7 hb7)
  have hq7 := h7.over ((Below.refl _ w7).alloc (Nat.le_refl _) (.cells #[.int .i64 (U : Int)] 3))
  have hA7 := Add_t hq7 (some ⟨w7.heap.size, 0, none⟩) 1 [(U : Int)] (RL_new w7 [(U : Int)] _ rfl) (by rw [List.length_singleton]; decide)
  rw [pos_add hU1.out hU2.out cs (by have := hla.out; omega)] at hA7
  change Calls _ _ #[pv q, .slice (some ⟨w7.heap.size, 0, none⟩) 1 1] _ _ at hA7
  have hbq7 : Below x3.heap.size x3 (w7.alloc (.cells #[.int .i64 (U : Int)] 3)) := hb7.alloc hz7 _
  obtain ⟨s70, s71⟩ := s7
  replace hi := hi.out
  replace hA7 := Lib.hid hA7
  replace hq7 := Lib.hid hq7
  have hwV : IntKind.i64.wrap ((V : Int) + 1) = (U : Int) := by rw [hi]; exact IntWalk.i64_in (n := (U : Int)) (by have := hU2.out; omega)
  replace hi := Lib.hid hi
  clear hVf hq hb6 k7 f7 h7
  go_wp2_with fail
  (with_reducible refine hA7.out.mono ?_)
  rintro e w8 ⟨rfl, vl8, ve8, h8, k8, f8⟩
  have hb8 : Below x3.heap.size x3 w8 := hbq7.trans (hq7.out.below k8)
  have hL8 := Len_t h8
  have hlen8 : (cs ++ [[(U : Int)]]).length = nc + 1 := by rw [List.length_append, hnc.out]; rfl
  rw [hlen8] at hL8
  have hLc := Len_t (haL.out w8 hb8)
  rw [hnc.out] at hLc
  obtain ⟨l0, hl0, hC0⟩ := Clause0_t (haL.out w8 hb8)
  have hncs : nc ≤ 9000000000000000000 := by rw [← hnc.out]; have := hla.out; omega
  replace hL8 := Lib.hid hL8
  replace hLc := Lib.hid hLc
  replace hC0 := Lib.hid hC0
  replace h8 := Lib.hid h8
  replace hl0 := Lib.hid hl0
  clear hA7 hq7 k8 f8 hbq7 hb7 s70 s71 hz7 hlen8
  go_wp2_with fail
  (with_reducible refine hL8.out.mono ?_)
  rintro e w9 ⟨rfl, rfl⟩
  go_wp2_with fail
  (with_reducible refine hLc.out.mono ?_)
  rintro e w9 ⟨rfl, rfl⟩
  go_wp2_with fail
  (with_reducible refine hC0.out.mono ?_)
  rintro e w10 ⟨v10, rfl, ho10, hb10⟩
  obtain ⟨A10, c10, rfl⟩ := own_len ho10
  obtain ⟨n0, hn0⟩ : ∃ n0, l0.length = n0 := ⟨_, rfl⟩
  rw [hn0] at ho10 ⊢
  have hn0b : n0 ≤ 1000 := by rw [← hn0]; exact hl0.out
  have hz8 : x3.heap.size ≤ w8.heap.size := hb8.size
  replace h8 := Lib.hid h8.out
  replace ho10 := Lib.hid ho10
  clear hL8 hLc hC0 hl0 hn0
  go_wp2_with fail
  go_loopw [76] (fun i wr => ∃ (k : Nat) (xs : List Value), k ≤ n0 ∧ i = .int .i64 (k : Int) ∧ wr.ownsRow w8.heap.size 3 1 (.slice A10 n0 c10) n0 xs ∧ Below w8.heap.size w8 wr) (fun i _ => n0 - (intOf i).toNat)
  case atStart => exact ⟨0, _, Nat.zero_le _, rfl, ho10.out, hb10⟩
  case round =>
    obtain ⟨k, xs, hk, rfl, hown, hbw⟩ := hrel
    clear ho10 hb10
    by_cases hlt : k < n0
    · obtain ⟨g, rfl⟩ : ∃ g, A10 = some ⟨g, 0, none⟩ := by
        rcases hown.2 with ⟨e, h0⟩ | ⟨g, cap, cur, e, _⟩
        · omega
        · cases e; exact ⟨g, rfl⟩
      have fz := hown.frozenAt
      have hxl : k < xs.length := by have := hown.1; omega
      have cz : wr.cell? ⟨g, k, none⟩ = some xs[k] := by rw [hown.cellAt k (by omega), List.getElem?_eq_getElem hxl]
      have hst := (hown.stored k (.int .i64 99)).1
      have hgb := (hown.lt g rfl).1
      obtain ⟨u, hu⟩ : ∃ u, xs[k] = u := ⟨_, rfl⟩
      rw [hu] at cz
      replace hst := Lib.hid hst
      clear hown hu hxl
      go_wp2_with fail
      go_roundw
      case rel => exact ⟨k + 1, _, by omega, by go_num, hst.out, hbw.setCell (p := ⟨g, k, none⟩) hgb _⟩
      case measure => simp [intOf]; omega
    · obtain rfl : k = n0 := by omega
      have hb9 : Below x3.heap.size x3 wr := hb8.trans (hbw.mono hz8)
      have h39 := h3B.out wr hb9
      have s9 := hS.out wr h39
      obtain ⟨s90, s91⟩ := s9
      have hI9 := Lib.hid (hIs.out wr h39)
      have h89 := h8.out.over hbw
      have hbw9 : Below w.heap.size w wr := hbw3.trans (h39.mono hbw3.size)
      have hV9 := Lib.hid (fun (W : World) (hb : Below wr.heap.size wr W) => Vars_t (h89.over hb))
      clear hown hbw hb9 h39 h89
      go_wp2_with fail
      (with_reducible refine hI9.out.mono ?_)
      rintro e w11 ⟨rfl, hb11⟩
      have hV11 := Lib.hid (hV9.out w11 hb11)
      go_wp2_with fail
      (with_reducible refine hV11.out.mono ?_)
      rintro e w12 ⟨rfl, rfl⟩
      go_wp2_with fail
      go_ret
      exact ⟨rfl, below_call hb11 hbw9 hbw9.size⟩
theorem adds_all (A1 Am : Option Addr) (L1 : List (List Int)) (c1 cm : Nat) (m : List Bool) (x : Int) (w : World) (hT : LT w) (hR1 : RLL w A1 L1) (hRm : RBo w Am m) (hn1 : L1.length ≤ 9223372036854775807) :
    Calls Tryd.prog 3 #[.int .i64 x, .slice A1 L1.length c1, .slice Am m.length cm] w (RV w (.bool true)) :=
  adds_t x (max 0 (min x 60)).toNat (by omega) A1 Am L1 c1 cm m w hT hR1 hRm hn1
end Go.Proofs.YtgnmehkklmklnaaDoor
