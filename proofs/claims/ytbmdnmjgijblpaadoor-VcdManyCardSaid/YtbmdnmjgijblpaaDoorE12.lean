/-
  variable: the walk.
-/
import Derived.Test.YtbmdnmjgijblpaaDoorE9
namespace Go.Proofs.YtbmdnmjgijblpaaDoor
open Go Go.RowKit Go.Lib Go.Maps
/-- The words of a variable's line, with the blanks ahead of them. -/
def vline (c1 c2 c3 c4 c5 : UInt8) (dw id nm : List UInt8) : List (UInt8 × List UInt8) := [(c1, [119, 105, 114, 101]), (c2, dw), (c3, id), (c4, nm), (c5, [36, 101, 110, 100])]
structure SV (B q : Nat) (ids : List (List UInt8)) (vs : List NV) (v : Value) (m n : Nat) (D : DU) (w W : World) : Prop where
  x : DX W B ids vs v m n D
  k : VW B q w W
section
variable {B q m n : Nat} {ids : List (List UInt8)} {vs : List NV} {v : Value} {D : DU} {w W W' : World}
theorem SV.over (h : SV B q ids vs v m n D w W) (k : Below W.heap.size W W') : SV B q ids vs v m n D w W' := ⟨h.x.over k, h.k.trans (VW.below k)⟩
theorem SV.kv (h : SV B q ids vs v m n D w W) {T top : List UInt8} {p : Nat} {l : List (UInt8 × List UInt8)} (hr : RX W q (mkD T top v m) T p l) (hB : B ≤ q) (k : KV q W W') : SV B q ids vs v m n D w W' := by
  obtain ⟨cs, hc, _⟩ := hr.cv
  exact ⟨h.x.kv hc k, h.k.trans (VW.kv k hB)⟩
end
set_option maxRecDepth 100000 in
set_option maxHeartbeats 6400000 in
theorem variable_p {B q : Nat} {T top : List UInt8} {ids : List (List UInt8)} {vs : List NV} {p : Nat} {c1 c2 c3 c4 c5 : UInt8} {dw id nm : List UInt8} {u : Nat} {l : List (UInt8 × List UInt8)} (hT : T.length ≤ 1048576) (w : World) (h : DR w B q T top ids vs p (vline c1 c2 c3 c4 c5 dw id nm ++ l))
    (hdw : dw.length ≤ 3) (hu : Lib.parseUintB 32 dw = .ok u) (h1 : 1 ≤ u) (h2 : u ≤ 128) (hid : idB id = true) (hidl : id.length ≤ 1000) (hni : id ∉ ids) (hnm : wordB nm = true) (hnl : nm.length ≤ 1000) (hnn : ∀ x ∈ vs, x.1 ≠ nm) (hsm : vs.length < 300) :
    Calls Tryd.prog 40 #[pp q] w fun e w' => e = .returned (.tuple #[]) ∧ (∃ p', DR w' B q T top (ids ++ [id]) (vs ++ [(nm, u)]) p' l) ∧ VW B q w w' := by
  obtain ⟨i0, hi, hz0, hz1, hz2⟩ := info_parts info_var
  obtain ⟨hB, v, m, n, D, hx, hr⟩ := h
  have mk := mkD_MK T top v m
  have S0 : SV B q ids vs v m n D w w := ⟨hx, VW.refl _ _ _⟩
  -- wire
  have hbw := vnew w (.cells #[.string (bt [119, 105, 114, 101])] 9)
  have hgw : CV (w.alloc (.cells #[.string (bt [119, 105, 114, 101])] 9)) w.heap.size #[.string (bt [119, 105, 114, 101])] 9 := by unfold CV; exact Array.getElem?_push_size ..
  have hr1 := hr.over hbw
  have hE1 := expect_p mk hT _ hr1 w.heap.size hgw
  have S1 := S0.over hbw
  have hS2 : ∀ W P l', RX W q (mkD T top v m) T P l' → KV q (w.alloc (.cells #[.string (bt [119, 105, 114, 101])] 9)) W → SV B q ids vs v m n D w W := fun W P l' _ hk => S1.kv hr1 hB hk
  obtain ⟨P1, hP1⟩ : ∃ P, p + 1 + ([119, 105, 114, 101] : List UInt8).length = P := ⟨_, rfl⟩
  rw [hP1] at hE1
  have hWd := fun W (hr : RX W q (mkD T top v m) T P1 ((c2, dw) :: (c3, id) :: (c4, nm) :: (c5, [36, 101, 110, 100]) :: l)) => width_p mk hT W hr u hdw hu h1 h2
  obtain ⟨P2, hP2⟩ : ∃ P, P1 + 1 + dw.length = P := ⟨_, rfl⟩
  rw [hP2] at hWd
  have hTk := fun W (hr : RX W q (mkD T top v m) T P2 ((c3, id) :: (c4, nm) :: (c5, [36, 101, 110, 100]) :: l)) => take_p mk hT W hr
  obtain ⟨P3, hP3⟩ : ∃ P, P2 + 1 + id.length = P := ⟨_, rfl⟩
  rw [hP3] at hTk
  have hNm := fun W (hr : RX W q (mkD T top v m) T P3 ((c4, nm) :: (c5, [36, 101, 110, 100]) :: l)) => name_p mk hT W hr hnl hnm
  obtain ⟨P4, hP4⟩ : ∃ P, P3 + 1 + nm.length = P := ⟨_, rfl⟩
  rw [hP4] at hNm
  have hEn := fun W g hg (hr : RX W q (mkD T top v m) T P4 ((c5, [36, 101, 110, 100]) :: l)) => expect_p mk hT W hr g hg
  obtain ⟨P5, hP5⟩ : ∃ P, P4 + 1 + ([36, 101, 110, 100] : List UInt8).length = P := ⟨_, rfl⟩
  rw [hP5] at hEn
  have hId := isId_t id (by omega)
  rw [hid] at hId
  -- the map's look-up
  have hlook : ∀ W, SV B q ids vs v m n D w W → ∃ c : Int, ∀ k, (Instr.lookup 62 (.map (some m)) (.string (bt id)) true).run Tryd.prog (W.drewN k) = .ok (.tuple #[.int .i64 c, .bool false]) (W.drewN k) := fun W hW => by
    obtain ⟨c, e1, _⟩ := look_id hW.x.mp hW.x.ag id hidl
    refine ⟨c, fun k => ?_⟩
    have := e1 k
    rw [idn_none hni] at this
    exact this
  -- no such name
  have hany : vs.any (fun x => x.1 == nm) = false := by
    rw [List.any_eq_false]
    intro x hx2
    simpa using hnn x hx2
  have hct : ∀ W g (ln : Int), SV B q ids vs v m n D w W → CV W g #[.string (bt nm), iz ln] 76 → Calls Tryd.prog 27 #[v, .func (.func 55) #[] #[pp g]] W fun e W' => e = .returned (.bool false) ∧ Below W.heap.size W W' := fun W g ln hW hg => by
    obtain ⟨A, c, e, hrv⟩ := hW.x.rv
    rw [e, ← hany]
    exact contV_t 55 #[pp g] (enters_of Tryd.func55 (by kernel_rfl) rfl) (fun x => x.1 == nm) vs c A W (by omega) hrv fun x _ W2 hb => same_t x nm ln g W2 (hg.over hb)
  -- the end
  have hstore := fun W (hW : SV B q ids vs v m n D w W) (hr : RX W q (mkD T top v m) T P5 l) => hW.x.store hr hB id hidl hsm
  have hvs : ∃ A c, v = .slice A vs.length c := by obtain ⟨A, c, e, _⟩ := hx.rv; exact ⟨A, c, e⟩
  have hag := hx.ag
  have hnlm := hx.nl
  have hle := hx.le
  have hBm := hx.bm
  have hBw : B ≤ w.heap.size := by have := hr.lt; omega
  obtain ⟨A, cc, hvs⟩ := hvs
  have hadd := fun (w1 w2 w3 : World) (g cap N : Nat) (hN : N = vs.length) (hr : RX w1 q (mkD T top v m) T P5 l) (hrow : w1.ownsRow B 30 2 v vs.length (vcells vs)) (hm : MapIs w1 m (n + 1) (D.put (.string id) (.lit (.int .i64 (vs.length : Int))))) (hb : Below w1.heap.size w1 w2) (ho : w3.ownsRow B 30 2 (.slice (some ⟨g, 0, none⟩) (N + 1) cap) (N + 1) (vcells vs ++ [.string (bt nm), iz (u : Int)])) (hg : w2.grownBy w3 v.ownBlock) (hgb : v.ownBlock = some g ∨ w1.heap.size ≤ g) =>
    DR.add hN hr hrow hm hB hBm hag (by omega) hle hni hsm hb ho hg hgb
  obtain ⟨N, hN⟩ : ∃ N, vs.length = N := ⟨_, rfl⟩
  have d300 : ((N : Int) == 300) = false := by simp; omega
  have hN1 : N + 1 ≤ maxLen := by unfold maxLen; omega
  have hN2 : (N + 1) * 24 ≤ 140737488355328 := by omega
  obtain ⟨fc, hfc⟩ : ∃ l, vcells vs = l := ⟨_, rfl⟩
  simp only [hN, hfc] at hstore hvs hadd
  obtain ⟨Si, hSi⟩ : ∃ S, bt id = S := ⟨_, rfl⟩
  obtain ⟨Sn, hSn⟩ : ∃ S, bt nm = S := ⟨_, rfl⟩
  simp only [hSi, hSn] at hId hlook hct hstore hadd
  unfold RN at hTk hNm
  simp only [hSi] at hTk
  simp only [hSn] at hNm
  obtain ⟨U, hU⟩ : ∃ U : Int, (u : Int) = U := ⟨_, rfl⟩
  simp only [hU] at hWd hadd
  replace hE1 := Lib.hid hE1
  replace hS2 := Lib.hid hS2
  replace hWd := Lib.hid hWd
  replace hTk := Lib.hid hTk
  replace hNm := Lib.hid hNm
  replace hEn := Lib.hid hEn
  replace hId := Lib.hid hId
  replace hlook := Lib.hid hlook
  replace hct := Lib.hid hct
  replace hstore := Lib.hid hstore
  replace hadd := Lib.hid hadd
  replace hN1 := Lib.hid hN1
  replace hN2 := Lib.hid hN2
  replace hBw := Lib.hid hBw
  replace hvs := Lib.hid hvs
  replace hB := Lib.hid hB
  have hqq : ∀ W P l', RX W q (mkD T top v m) T P l' → W.cell? ⟨q, 4, none⟩ = some v ∧ W.cell? ⟨q, 6, none⟩ = some (.map (some m)) ∧ q < W.heap.size ∧ W.frozen? ⟨q, 4, none⟩ = false ∧ ∀ g cs, CV W g cs 76 → g ≠ q := fun W P l' hr => by
    obtain ⟨cs, hc, e4, _, e6⟩ := hr.cv
    refine ⟨e4, e6, hc.lt, hc.fz 4, fun g cs2 hg e => ?_⟩
    subst e
    have : some (Obj.cells cs 64 (0, 0)) = some (.cells cs2 76 (0, 0)) := hc.symm.trans hg
    cases this
  replace hqq := Lib.hid hqq
  clear hx hr mk S0 hbw hgw hr1 S1 hP1 hP2 hP3 hP4 hP5 hid hidl hni hnm hnl hnn hsm hany hag hnlm hle hBm hN hfc hSi hSn hdw hu h1 h2 hU
  go_enter Tryd.func40, Tryd.ntmps40
  go_wp2_with fail
  (with_reducible refine hE1.out.mono ?_)
  rintro e w2 ⟨rfl, hr2, hk2⟩
  have S2 := hS2.out w2 _ _ hr2 hk2
  have hW2 := Lib.hid (hWd.out w2 hr2)
  have hS3 : ∀ W, KV q w2 W → SV B q ids vs v m n D w W := fun W hk => S2.kv hr2 hB.out hk
  replace hS3 := Lib.hid hS3
  clear hE1 hS2 hWd hr2 hk2 S2
  go_wp2_with fail
  (with_reducible refine hW2.out.mono ?_)
  rintro e w3 ⟨rfl, hr3, hk3⟩
  have S3 := hS3.out w3 hk3
  have hT3 := Lib.hid (hTk.out w3 hr3)
  have hS4 : ∀ W, KV q w3 W → SV B q ids vs v m n D w W := fun W hk => S3.kv hr3 hB.out hk
  replace hS4 := Lib.hid hS4
  clear hW2 hS3 hTk hr3 hk3 S3
  go_wp2_with fail
  (with_reducible refine hT3.out.mono ?_)
  rintro e w4 ⟨ln, rfl, hr4, hk4⟩
  have S4 := hS4.out w4 hk4
  have hb5 := vnew w4 (.cells #[.string Si, iz (ln : Int)] 76)
  have hg5 : CV (w4.alloc (.cells #[.string Si, iz (ln : Int)] 76)) w4.heap.size #[.string Si, iz (ln : Int)] 76 := by unfold CV; exact Array.getElem?_push_size ..
  obtain ⟨w5, hw5⟩ : ∃ W, w4.alloc (.cells #[.string Si, iz (ln : Int)] 76) = W := ⟨_, rfl⟩
  obtain ⟨g3, hg3⟩ : ∃ g, w4.heap.size = g := ⟨_, rfl⟩
  have S5 := S4.over hb5
  have hr5 := hr4.over hb5
  rw [hw5] at hb5 hg5 S5 hr5
  rw [hg3] at hg5
  replace hw5 := Lib.hid hw5
  replace hg3 := Lib.hid hg3
  obtain ⟨q4, q6, ql, qf, qn⟩ := hqq.out w5 _ _ hr5
  have hgq := qn _ _ hg5
  have a0 : w5.cell? ⟨g3, 0, none⟩ = some (.string Si) := hg5.c 0
  have a1 : w5.cell? ⟨g3, 1, none⟩ = some (iz (ln : Int)) := hg5.c 1
  have al := hg5.lt
  have hI5 := Lib.hid (hId.out w5)
  obtain ⟨c, hlk⟩ := hlook.out w5 S5
  have hlk1 := hlk 0
  have hN5 : ∀ k, Calls Tryd.prog 39 #[pp q] (w5.drewN k) _ := fun k => hNm.out (w5.drewN k) (hr5.over (vbdn w5 k))
  have hC5 : ∀ k W, KV q (w5.drewN k) W → SV B q ids vs v m n D w W ∧ CV W g3 #[.string Si, iz (ln : Int)] 76 := fun k W hk => ⟨(S5.over (vbdn w5 k)).kv (hr5.over (vbdn w5 k)) hB.out hk, hk.keep (hg5.over (vbdn w5 k)) hgq⟩
  replace hN5 := Lib.hid hN5
  replace hC5 := Lib.hid hC5
  replace hgq := Lib.hid hgq
  clear hT3 hS4 hr4 hk4 S4 S5 hr5 hb5 hg5 qf qn q4 hId hlook hNm
  go_wp2_with fail
  rw [hw5.out, hg3.out]
  (with_reducible refine hI5.out.mono ?_)
  rintro e w6 ⟨rfl, hw6⟩
  subst hw6
  clear hI5 hw5 hg3
  go_wp2_with fail
  go_quiet (fail)
  go_wp2_with fail
  (with_reducible refine (hN5.out _).mono ?_)
  rintro e w7 ⟨ln2, rfl, hr7, hk7⟩
  obtain ⟨S7, hg7⟩ := hC5.out _ w7 hk7
  have hb8 := vnew w7 (.cells #[.string Sn, iz (ln2 : Int)] 76)
  have hg8 : CV (w7.alloc (.cells #[.string Sn, iz (ln2 : Int)] 76)) w7.heap.size #[.string Sn, iz (ln2 : Int)] 76 := by unfold CV; exact Array.getElem?_push_size ..
  have hg38 := hg7.over hb8
  have S8 := S7.over hb8
  have hr8 := hr7.over hb8
  obtain ⟨w8, hw8⟩ : ∃ W, w7.alloc (.cells #[.string Sn, iz (ln2 : Int)] 76) = W := ⟨_, rfl⟩
  obtain ⟨g6, hg6⟩ : ∃ g, w7.heap.size = g := ⟨_, rfl⟩
  rw [hw8] at hg8 hg38 S8 hr8
  rw [hg6] at hg8
  replace hw8 := Lib.hid hw8
  replace hg6 := Lib.hid hg6
  obtain ⟨_, _, _, _, qn⟩ := hqq.out w8 _ _ hr8
  obtain ⟨q47, _, ql7, _, _⟩ := hqq.out w7 _ _ hr7
  have hC8 := Lib.hid (hct.out w8 g6 (ln2 : Int) S8 hg8)
  have hn68 := qn _ _ hg8
  have hE9 : ∀ w9, Below w8.heap.size w8 w9 → SV B q ids vs v m n D w w9 ∧ RX w9 q (mkD T top v m) T P4 ((c5, [36, 101, 110, 100]) :: l) ∧ CV w9 g3 #[.string Si, iz (ln : Int)] 76 ∧ CV w9 g6 #[.string Sn, iz (ln2 : Int)] 76 := fun w9 hb => ⟨S8.over hb, hr8.over hb, hg38.over hb, hg8.over hb⟩
  replace hE9 := Lib.hid hE9
  replace hn68 := Lib.hid hn68
  clear hN5 hC5 hr7 hk7 S7 hg7 hb8 hg8 hg38 S8 hr8 qn a0 a1 al q6 ql hlk hlk1 hct
  go_wp2_with fail
  rw [hw8.out, hg6.out]
  (with_reducible refine hC8.out.mono ?_)
  rintro e w9 ⟨rfl, hb9⟩
  obtain ⟨S9, hr9, hg39, hg69⟩ := hE9.out w9 hb9
  obtain ⟨q49, _, ql9, _, _⟩ := hqq.out w9 _ _ hr9
  have hvs9 := hvs.out
  clear hC8 hE9 hb9 q47 ql7 hw8 hg6
  go_wp2_with fail
  have hb10 := vnew w9 (.cells #[.string (bt [36, 101, 110, 100])] 9)
  have hg10 : CV (w9.alloc (.cells #[.string (bt [36, 101, 110, 100])] 9)) w9.heap.size #[.string (bt [36, 101, 110, 100])] 9 := by unfold CV; exact Array.getElem?_push_size ..
  have hr10 := hr9.over hb10
  have hE10 := hEn.out (w9.alloc (.cells #[.string (bt [36, 101, 110, 100])] 9)) w9.heap.size hg10 hr10
  have hF10 : ∀ W, KV q (w9.alloc (.cells #[.string (bt [36, 101, 110, 100])] 9)) W → SV B q ids vs v m n D w W ∧ CV W g3 #[.string Si, iz (ln : Int)] 76 ∧ CV W g6 #[.string Sn, iz (ln2 : Int)] 76 := fun W hk => ⟨(S9.over hb10).kv hr10 hB.out hk, hk.keep (hg39.over hb10) hgq.out, hk.keep (hg69.over hb10) hn68.out⟩
  replace hE10 := Lib.hid hE10
  replace hF10 := Lib.hid hF10
  clear hb10 hg10 hr10 S9 hr9 hg39 hg69 q49 ql9 hEn
  (with_reducible refine hE10.out.mono ?_)
  rintro e w11 ⟨rfl, hr11, hk11⟩
  obtain ⟨S11, hg311, hg611⟩ := hF10.out w11 hk11
  obtain ⟨q411, q611, ql11, _, _⟩ := hqq.out w11 _ _ hr11
  obtain ⟨w12, hrun, hr12, hrow12, hm12, hv12⟩ := hstore.out w11 S11 hr11
  have a0 : w11.cell? ⟨g3, 0, none⟩ = some (.string Si) := hg311.c 0
  have al := hg311.lt
  have hg612 := hv12.cv hg611 hn68.out (by decide) (by decide) (by decide)
  have hv11 := S11.k.trans hv12
  replace hr12 := Lib.hid hr12
  replace hrow12 := Lib.hid hrow12
  replace hm12 := Lib.hid hm12
  replace hg612 := Lib.hid hg612
  replace hv11 := Lib.hid hv11
  clear hE10 hF10 hk11 S11 hg311 hg611 hstore hv12 hr11
  go_wp2_with fail
  go_region
  obtain ⟨q412, _, ql12, qf12, qn12⟩ := hqq.out w12 _ _ hr12.out
  have hcv12 := hr12.out.cv
  have b0 : w12.cell? ⟨g6, 0, none⟩ = some (.string Sn) := hg612.out.c 0
  have bl := hg612.out.lt
  have hbW : Below w12.heap.size w12 (w12.drew.alloc (.cells #[.string Sn, iz U] 30)) := (Below.refl _ _).drew.alloc (Nat.le_refl _) _
  have hr2 : (w12.drew.alloc (.cells #[.string Sn, iz U] 30)).ownsRow B 30 2 v N fc := by
    have := hrow12.out
    exact own_keepT this fun b hb => hbW.block b (own_ltT this b hb).2
  have hnw : ∀ j x, [Value.string Sn, iz U][j]? = some x → (w12.drew.alloc (.cells #[.string Sn, iz U] 30)).cell? ((⟨w12.heap.size, 0, none⟩ : Addr).add j) = some x := World.news_of_block (heap_alloc_new w12.drew (.cells #[.string Sn, iz U] 30))
  have hone : ∀ x ∈ [Value.string Sn, iz U], x.oneCell' = true := by simp [Value.oneCell']
  have hsz2 : (w12.drew.alloc (.cells #[.string Sn, iz U] 30)).heap.size = w12.heap.size + 1 := by simp
  have hB2 : B ≤ (w12.drew.alloc (.cells #[.string Sn, iz U] 30)).heap.size := by have := hB.out; rw [hsz2]; omega
  have hq6 : ∀ w6, (w12.drew.alloc (.cells #[.string Sn, iz U] 30)).grownBy w6 v.ownBlock → w6.cell? ⟨q, 4, none⟩ = some v ∧ q < w6.heap.size ∧ w6.frozen? ⟨q, 4, none⟩ = false := fun w6 hg => by
    obtain ⟨cs, hc, e4, _⟩ := hcv12
    have h2 := hc.over hbW
    have h3 : CV w6 q cs 64 := (hg.block q h2.lt fun e => by
      obtain ⟨cur, hc2⟩ := own_blk hr2 q e.symm
      have : some (Obj.cells cs 64 (0, 0)) = some (.cells cur 30 (0, 0)) := h2.symm.trans hc2
      cases this).trans h2
    refine ⟨?_, h3.lt, h3.fz 4⟩
    rw [h3.c 4, ← hc.c 4]
    exact e4
  replace hbW := Lib.hid hbW
  replace hr2 := Lib.hid hr2
  replace hnw := Lib.hid hnw
  replace hone := Lib.hid hone
  replace hsz2 := Lib.hid hsz2
  replace hB2 := Lib.hid hB2
  replace hq6 := Lib.hid hq6
  clear hvs9 qn12 hcv12 a0 al q411 q611 ql11 hrun qf12
  go_wp2_with fail
  go_region_law (refine step_append_lies _ rfl (.tmp 79) (.tmp 84) 23 rfl B 30 i0 (.agg #[.string ⟨#[]⟩, .int .i64 0]) 2 24 Tryd.underlying23 hi hz0 hz1 hz2 rfl (by decide) _ N fc (by simp [Act.eval]) hr2.out ⟨w12.heap.size, 0, none⟩ 1 1 [.string Sn, iz U] (by simp [Act.eval]) rfl hnw.out hone.out (by decide) hN1.out hN2.out hB2.out (w12.heap.size + 1) hsz2.out ?_; intro g2 cap w6 ho6 hg6 hgb hlt6; obtain ⟨r0, rl, rf⟩ := hq6.out w6 hg6)
  all_goals (
    have hd := hadd.out w12 _ w6 g2 cap N rfl hr12.out hrow12.out hm12.out hbW.out ho6 hg6 (hgb.imp (fun e => e) fun e => by omega)
    have hfin := hd.imp (fun e => e) fun e => hv11.out.trans e
    clear hd ho6 hg6 hgb r0 rl rf
    replace hfin := Lib.hid hfin
    go_wp2_with fail
    exact bodyPost_end (v := .tuple #[]) (by simp [results, Tryd.results40, go_sem]) rfl ⟨rfl, ⟨_, hfin.out.1⟩, hfin.out.2⟩)
end Go.Proofs.YtbmdnmjgijblpaaDoor
