/-
  AigCones walked.
-/
import Derived.Test.YtinfkjflomdhbaaHf
namespace Go.Proofs.Ytinfkjflomdhbaa
open Go.RowKit Go.Lib Go.Maps
set_option maxRecDepth 100000 in
set_option maxHeartbeats 12800000 in
theorem cones_t (A Ap Ai : Option Addr) (c0 cp ci : Nat) (l : List AC) (pk : List Int) (ins : List Bool) (w : World) (hA : AL w A l) (hP0 : RL w Ap pk) (hB : BL w Ai ins) (hci : ins.length ≤ ci) (hnil : Ai = none → ci = 0) (hbig : ins.length ≤ 140737488355328) :
    Calls Try.prog 5 #[.slice A l.length c0, .slice Ap pk.length cp, .slice Ai ins.length ci] w (RV w (.bool true)) := by
  obtain ⟨i0, hi, hz0, hz1, hz2⟩ := info_parts info_bool
  obtain ⟨j0, hj, hy0, hy1, hy2⟩ := info_parts info_in1
  have hAw := awake_t w
  have hP := fun W (h : Below w.heap.size w W) => plain_al A c0 l W (hA.over h)
  have hpl := plainA_len l
  obtain ⟨n0, hn0⟩ : ∃ n, l.length = n := ⟨_, rfl⟩
  rw [hn0] at hP ⊢
  obtain ⟨m, hm⟩ : ∃ m, plainA l = m := ⟨_, rfl⟩
  have hmk := plain_k l
  rw [hm] at hP hpl hmk
  have hBd := fun (A : Option Addr) (c : Nat) W (h : AL W A m) => build_rd A c m W h hmk (by omega)
  have hok := bdA_ok m
  obtain ⟨F, hF⟩ : ∃ F, (bdA m).F = F := ⟨_, rfl⟩
  obtain ⟨L, hL⟩ : ∃ L, (bdA m).L = L := ⟨_, rfl⟩
  have hwf := hok.wf
  have hfl := hok.fl
  have hll := hok.ln
  have hlt := hok.lt
  rw [hF] at hwf hfl hBd hlt
  rw [hL] at hBd hll hlt
  have hpos := hwf.pos
  have hLn := fun (B p : Nat) (W : World) (h : GI W B p F) => Len_t W h
  have hCo := fun (B p : Nat) (W : World) (A : Option Addr) (c : Nat) (r : List Int) (h : GI W B p F) (hr : RL W A r) (h1 : r.length ≤ 1000) (h2 : ∀ x ∈ r, x < 4611686018427387904) => Cone_t A c r W h hr h1 h2 (by omega)
  have hEv := fun (B p : Nat) (W : World) (A : Option Addr) (c : Nat) (r : List Bool) (h : GI W B p F) (h2 : BL W A r) (h3 : r.length ≤ c) => Eval_t A c r W h h2 h3
  have hvl := fun (r : List Bool) => evT_len F r hpos
  have hcz : cnt (F.take 1) = 0 := by unfold cnt; cases F <;> rfl
  have hcs : ∀ k, 0 < k → ∀ q : PN, F[k]? = some q → cnt (F.take (k + 1)) = cnt (F.take k) + if q.1 = 0 then 1 else 0 := fun k hk q hq => by
    have hkl := (List.getElem?_eq_some_iff.1 hq).1
    rw [List.take_add_one, hq]
    exact cnt_snoc _ _ (by rw [List.length_take]; omega)
  have hcle : ∀ k, cnt (F.take k) ≤ k := fun k => by
    have h1 : cnt (F.take k) ≤ (F.take k).tail.length := List.countP_le_length
    rw [List.length_tail, List.length_take] at h1
    omega
  replace hcz := Lib.hid hcz
  replace hcs := Lib.hid hcs
  obtain ⟨N, hN⟩ : ∃ N, F.length = N := ⟨_, rfl⟩
  replace hcle := Lib.hid hcle
  rw [hN] at hfl hLn hlt hpos hCo hEv hvl
  obtain ⟨mn, hmn⟩ : ∃ n, L.length = n := ⟨_, rfl⟩
  rw [hmn] at hBd hll
  obtain ⟨np, hnp⟩ : ∃ n, pk.length = n := ⟨_, rfl⟩
  obtain ⟨ni, hni⟩ : ∃ n, ins.length = n := ⟨_, rfl⟩
  rw [hnp, hni]
  have hNb : N ≤ 200 := by omega
  have hmb : mn ≤ 60 := by omega
  unfold RV at hAw
  unfold RW at hLn
  replace hAw := Lib.hid hAw
  replace hP := Lib.hid hP
  replace hBd := Lib.hid hBd
  replace hLn := Lib.hid hLn
  replace hCo := Lib.hid hCo
  replace hEv := Lib.hid hEv
  replace hvl := Lib.hid hvl
  replace hN := Lib.hid hN
  replace hwf := Lib.hid hwf
  replace hlt := Lib.hid hlt
  replace hmn := Lib.hid hmn
  replace hnp := Lib.hid hnp
  replace hni := Lib.hid hni
  replace hP0 := Lib.hid hP0
  replace hB := Lib.hid hB
  replace hci := Lib.hid hci
  replace hnil := Lib.hid hnil
  replace hbig := Lib.hid hbig
  clear hA hn0 hm hmk hok hF hL hfl hpl hll
  go_enter Try.func5, Try.ntmps5
  go_wp2_with fail
  (with_reducible refine hAw.out.mono ?_)
  rintro e w1 ⟨rfl, hb1⟩
  replace hb1 := Lib.hid hb1
  go_wp2_with fail
  (with_reducible refine (hP.out _ hb1.out).mono ?_)
  rintro e w2 ⟨A2, c2, rfl, hA2, hb2⟩
  replace hb2 := Lib.hid (hb1.out.trans (hb2.mono hb1.out.size))
  replace hA2 := Lib.hid hA2
  clear hb1
  go_wp2_with fail
  (with_reducible refine (hBd.out _ _ _ hA2.out).mono ?_)
  rintro e w3 ⟨p, A3, c3, rfl, hg3, hl3, hb3⟩
  have hb3' := hb2.out.trans (hb3.mono hb2.out.size)
  obtain ⟨B, hBe⟩ : ∃ B, w2.heap.size = B := ⟨_, rfl⟩
  rw [hBe] at hg3
  obtain ⟨s3, hs3⟩ : ∃ s, w3.heap.size = s := ⟨_, rfl⟩
  have hw3 : w.heap.size ≤ s3 := by have := hb3'.size; omega
  replace hg3 := Lib.hid hg3
  replace hl3 := Lib.hid hl3
  replace hb3' := Lib.hid hb3'
  replace hs3 := Lib.hid hs3
  replace hw3 := Lib.hid hw3
  clear hb2 hA2 hb3 hBd hP hAw hBe
  go_upto_block 0 with fail
  go_cut [10] from 36 (fun ov wz => ∃ (R : List Nat) (Ar : Option Addr) (cr m : Nat), ov = .slice Ar m cr ∧ m = R.length ∧ m ≤ 6 ∧ (∀ a ∈ R, a / 2 < N) ∧ wz.ownsRow s3 3 1 (.slice Ar m cr) m (iv R) ∧ Below s3 w3 wz)
  case first =>
    as_aux_lemma =>
      -- FIRST 1
      go_wp2_with fail
      go_loopw [10, 11] (fun ov iw wr => ∃ (R : List Nat) (k : Nat) (Ar : Option Addr) (cr m : Nat), k ≤ 6 ∧ k ≤ np ∧ iw = .int .i64 (k : Int) ∧ ov = .slice Ar m cr ∧ m = R.length ∧ m ≤ k ∧ (∀ a ∈ R, a / 2 < N) ∧ wr.ownsRow s3 3 1 (.slice Ar m cr) m (iv R) ∧ Below s3 w3 wr) (fun _ iw _ => 6 - (intOf iw).toNat)
      case atStart => exact ⟨[], 0, none, 0, 0, by omega, by omega, rfl, rfl, rfl, by omega, (fun a ha => by simp at ha), World.ownsRow_nil _ _ _ _, hs3.out ▸ Below.refl _ _⟩
      case round =>
        obtain ⟨R, k, Ar, cr, mr, hk6, hkn, rfl, rfl, hmr, hmk, hRl, hown, hbr⟩ := hrel
        by_cases hc6 : k < np ∧ k < 6
        · obtain ⟨h1, h2⟩ := hc6
          have hbwr : Below w.heap.size w wr := hb3'.out.trans (hbr.mono hw3.out)
          obtain ⟨bp, op, rfl, hbp, hcp⟩ := hP0.out.over hbwr (by rw [hnp.out]; omega)
          have c0 := hcp k (by rw [hnp.out]; exact h1)
          obtain ⟨x, hx⟩ : ∃ x, pk.getD k 0 = x := ⟨_, rfl⟩
          rw [hx] at c0
          have hOp := fun W => Operand_t mn x W (by omega)
          unfold RW at hOp
          unfold plI at hOp
          have hs3' := hs3.out
          have hrs : s3 ≤ wr.heap.size := by have := hbr.size; omega
          have hl3r : LR wr A3 L := hl3.out.over (hs3' ▸ hbr)
          by_cases hm0 : mn = 0
          · simp only [if_pos hm0] at hOp
            replace hOp := Lib.hid hOp
            replace hown := Lib.hid hown
            replace hbr := Lib.hid hbr
            replace hm0 := Lib.hid hm0
            replace hRl := Lib.hid hRl
            replace hmr := Lib.hid hmr
            clear hcp hbwr hx hl3r hs3' hrs
            go_wp2_with fail
            (with_reducible refine (hOp.out _).mono ?_)
            rintro e w9 ⟨rfl, hw9⟩
            subst hw9
            go_wp2_with fail
            go_roundw
            case rel => exact ⟨R, k + 1, Ar, cr, mr, by omega, by omega, by go_num, rfl, hmr.out, by omega, hRl.out, hown.out, hbr.out⟩
            case measure => simp [intOf]; omega
          · simp only [if_neg hm0] at hOp
            have hal := atI_lt (n := mn) (by omega) x
            obtain ⟨j, hj'⟩ : ∃ j : Nat, atI mn x = (j : Int) := ⟨(atI mn x).toNat, by omega⟩
            rw [hj'] at hOp hal
            have hjm : j < mn := by omega
            obtain ⟨gl, rfl, hgl, hcl⟩ := hl3r (by rw [hmn.out]; omega)
            have d0 := hcl j (by rw [hmn.out]; exact hjm)
            have hjL : j < L.length := by rw [hmn.out]; exact hjm
            have hLk : L.getD j 0 = L[j] := by rw [List.getD_eq_getElem?_getD, List.getElem?_eq_getElem hjL]; rfl
            have hla := hlt.out _ (List.getElem_mem hjL)
            rw [hLk] at d0
            obtain ⟨a, ha⟩ : ∃ a, L[j] = a := ⟨_, rfl⟩
            rw [ha] at d0 hla
            have hlow := own_ltT hown
            have hbx := (Below.refl wr.heap.size wr).alloc (Nat.le_refl _) (.cells #[.int .i64 (a : Int)] 3)
            have hR := heap_alloc_new wr (.cells #[.int .i64 (a : Int)] 3)
            have hown4 := hown.alloc (.cells #[.int .i64 (a : Int)] 3)
            have hb4 := hbr.alloc (by omega) (.cells #[.int .i64 (a : Int)] 3)
            have s4 : (wr.alloc (.cells #[.int .i64 (a : Int)] 3)).heap.size = wr.heap.size + 1 := by simp
            have hx1 : mr + 1 ≤ maxLen := by unfold maxLen; omega
            have hRl2 : ∀ b ∈ R ++ [a], b / 2 < N := fun b hb => by
              rcases List.mem_append.1 hb with e | e
              · exact hRl b e
              · rw [List.mem_singleton.1 e]; exact hla
            have haft : ∀ w6, (wr.alloc (.cells #[.int .i64 (a : Int)] 3)).grownBy w6 (Value.slice Ar mr cr).ownBlock → Below s3 w3 w6 := fun w6 hg6 => hb4.grown hg6 (by omega) fun q hq => (hlow q hq).1
            replace hOp := Lib.hid hOp
            replace hR := Lib.hid hR
            replace hown4 := Lib.hid hown4
            replace s4 := Lib.hid s4
            replace haft := Lib.hid haft
            replace hx1 := Lib.hid hx1
            replace hRl2 := Lib.hid hRl2
            replace hmr := Lib.hid hmr
            replace hm0 := Lib.hid hm0
            replace hla := Lib.hid hla
            replace hrs := Lib.hid hrs
            clear hcp hbwr hx hl3r hs3' hbx hb4 hown hbr hlow hcl hLk ha hj' hal hRl hjL
            go_wp2_with fail
            (with_reducible refine (hOp.out _).mono ?_)
            rintro e w9 ⟨rfl, hw9⟩
            subst hw9
            go_wp2_with (first
              | (at_builtin; refine wpList_append_lies _ rfl _ _ 27 rfl s3 3 j0 (.int .i64 0) 1 8 Try.underlying27 hj hy0 hy1 hy2 rfl (by decide) _ mr (iv R) rfl hown4.out ⟨wr.heap.size, 0, none⟩ 1 1 [.int .i64 (a : Int)] (by simp [Act.eval]) rfl (World.news_of_block hR.out) (by simp [Value.oneCell']) (by decide) hx1.out (by omega) (by rw [s4.out]; have := hrs.out; omega) _ rfl ?_; intro g6 cap6 w6 ho6 hg6 hgb6 hlt6; have hb6 := haft.out w6 hg6; replace ho6 := Lib.hid ho6; replace hb6 := Lib.hid hb6; clear hg6 hgb6)
              | fail)
            go_roundw
            case rel => exact ⟨R ++ [a], k + 1, _, cap6, mr + 1, by omega, by omega, by go_num, rfl, by rw [List.length_append, ← hmr.out]; rfl, by omega, hRl2.out, by rw [iv_append]; exact ho6.out, hb6.out⟩
            case measure => simp [intOf]; omega
        · replace hown := Lib.hid hown
          replace hbr := Lib.hid hbr
          replace hRl := Lib.hid hRl
          replace hmr := Lib.hid hmr
          by_cases h1 : k < np
          · have h2 : ¬ k < 6 := by omega
            have h6 : k = 6 := by omega
            replace h6 := Lib.hid h6
            clear hc6
            go_wp2_with fail
            go_meet
            case rel => exact ⟨R, Ar, cr, mr, rfl, hmr.out, by omega, hRl.out, hown.out, hbr.out⟩
          · clear hc6
            go_wp2_with fail
            go_meet
            case rel => exact ⟨R, Ar, cr, mr, rfl, hmr.out, by omega, hRl.out, hown.out, hbr.out⟩
      -- END 1
  case rest =>
    as_aux_lemma =>
      obtain ⟨R, Ar, cr, mr, rfl, hmr, hm6, hRl, hown, hbr⟩ := hcut
      obtain ⟨A9, c9, e9, hLR, hrn⟩ := LR.of_own hown hmr
      rw [← hmr] at e9
      cases e9
      have hs3' := hs3.out
      have hbw : Below w.heap.size w wc := hb3'.out.trans (hbr.mono hw3.out)
      have hg : GI wc B p F := hg3.out.over (hs3' ▸ hbr)
      have hx1 := (Below.refl wc.heap.size wc).alloc (Nat.le_refl _) (.cells #[] 3)
      have ho1 := World.ownsRow_made wc (e := 3) (size := 1) (base := wc.heap.size) #[] 0 (Nat.le_refl _) (by decide) rfl
      have hL1 := hLR.over hx1
      replace hs3' := Lib.hid hs3'
      replace hbw := Lib.hid hbw
      replace hg := Lib.hid hg
      replace hx1 := Lib.hid hx1
      replace ho1 := Lib.hid ho1
      replace hL1 := Lib.hid hL1
      replace hLR := Lib.hid hLR
      replace hrn := Lib.hid hrn
      replace hRl := Lib.hid hRl
      replace hmr := Lib.hid hmr
      clear hown hbr hg3 hl3 hb3' hlt
      go_wp2_with (first
        | (at_builtin; refine wpList_append_IL rfl _ _ rfl wc.heap.size _ 0 [] rfl ho1.out Ar mr cr R hmr.out.symm rfl hrn.out hL1.out (by omega) hx1.out.size ?_; intro v4 w4 ho4 hg4; replace ho4 := Lib.hid ho4; replace hg4 := Lib.hid hg4)
        | fail)
      have hb4 : Below wc.heap.size wc w4 := hx1.out.grown hg4.out hx1.out.size (fun q hq => by cases hq; exact Nat.le_refl _)
      have ho4' : w4.ownsRow wc.heap.size 3 1 v4 mr (iv R) := by
        have := ho4.out
        rw [Nat.zero_add, List.nil_append] at this
        exact this
      have hg4' := hg.out.over hb4
      have hLR4 := hLR.out.over hb4
      have hlow4 := own_ltT ho4'
      have h4z := hb4.size
      have hR4 := heap_alloc_new w4 (.cells #[.int .i64 (-5), .int .i64 (2 * (N : Int))] 3)
      have ho5 := ho4'.alloc (.cells #[.int .i64 (-5), .int .i64 (2 * (N : Int))] 3)
      have hb5 := hb4.alloc h4z (.cells #[.int .i64 (-5), .int .i64 (2 * (N : Int))] 3)
      have s5 : (w4.alloc (.cells #[.int .i64 (-5), .int .i64 (2 * (N : Int))] 3)).heap.size = w4.heap.size + 1 := by simp
      have hone : ∀ u ∈ [Value.int .i64 (-5), .int .i64 (2 * (N : Int))], u.oneCell' = true := by simp [Value.oneCell']
      have hxl : mr + 2 ≤ maxLen := by unfold maxLen; omega
      have hcone : ∀ g6 cap6 w6, w6.ownsRow wc.heap.size 3 1 (.slice (some ⟨g6, 0, none⟩) (mr + 2) cap6) (mr + 2) (iv R ++ [.int .i64 (-5), .int .i64 (2 * (N : Int))]) → (w4.alloc (.cells #[.int .i64 (-5), .int .i64 (2 * (N : Int))] 3)).grownBy w6 v4.ownBlock →
          Below wc.heap.size wc w6 ∧ Calls Try.prog 21 #[pg p, .slice (some ⟨g6, 0, none⟩) (mr + 2) cap6] w6 fun e w' => ∃ v, e = .returned v ∧ w'.ownsRow w6.heap.size 3 1 v (upC (cdn F (N - 1) (mks (List.replicate N false) (R.map (· / 2)))) 0 N).length (iv (upC (cdn F (N - 1) (mks (List.replicate N false) (R.map (· / 2)))) 0 N)) ∧ Below w6.heap.size w6 w' := fun g6 cap6 w6 ho6 hg6 => by
        have hb6 : Below wc.heap.size wc w6 := hb5.grown hg6 (by rw [s5]; omega) fun q hq => (hlow4 q hq).1
        refine ⟨hb6, ?_⟩
        have hll : (R.map (fun a : Nat => (a : Int)) ++ [-5, 2 * (N : Int)]).length = mr + 2 := by rw [List.length_append, List.length_map, ← hmr.out]; rfl
        have hcs : iv R ++ [Value.int .i64 (-5), .int .i64 (2 * (N : Int))] = (R.map (fun a : Nat => (a : Int)) ++ [-5, 2 * (N : Int)]).map (Value.int .i64) := by simp
        have hrl : RL w6 (some ⟨g6, 0, none⟩) (R.map (fun a : Nat => (a : Int)) ++ [-5, 2 * (N : Int)]) := fun _ => by
          refine ⟨g6, 0, rfl, (own_ltT ho6 g6 rfl).2, fun j hj => ?_⟩
          rw [hcs] at ho6
          have h1 := ho6.cells (g := g6) rfl j (.int .i64 ((R.map (fun a : Nat => (a : Int)) ++ [-5, 2 * (N : Int)]).getD j 0)) (by rw [List.getElem?_map, List.getElem?_eq_getElem hj, List.getD_eq_getElem?_getD, List.getElem?_eq_getElem hj]; rfl)
          rw [addr_add] at h1
          rw [Nat.zero_add]
          exact h1
        have h2 := hCo.out B p w6 (some ⟨g6, 0, none⟩) cap6 (R.map (fun a : Nat => (a : Int)) ++ [-5, 2 * (N : Int)]) (hg.out.over hb6) hrl (by omega) (fun x hx => by
          rcases List.mem_append.1 hx with e | e
          · obtain ⟨a, ha, rfl⟩ := List.mem_map.1 e
            have := hRl.out a ha
            omega
          · simp at e
            omega)
        rw [nds_roots N R hRl.out, hll] at h2
        exact h2
      have hLn4 := hLn.out B p w4 hg4'
      obtain ⟨C, hC⟩ : ∃ C, cdn F (N - 1) (mks (List.replicate N false) (R.map (· / 2))) = C := ⟨_, rfl⟩
      rw [hC] at hcone
      have hKm := upC_mem C N
      have hKa := upC_asc C N
      obtain ⟨K, hK⟩ : ∃ K, upC C 0 N = K := ⟨_, rfl⟩
      rw [hK] at hcone hKm hKa
      obtain ⟨kn, hkn⟩ : ∃ kn, K.length = kn := ⟨_, rfl⟩
      have hkN : kn ≤ N := by
        rw [← hkn, ← hK]
        unfold upC
        have h1 := List.length_filter_le (fun n => C.getD n false) (List.range' (0 + 1) (N - (0 + 1)))
        rw [List.length_range'] at h1
        omega
      clear hK
      replace hC := Lib.hid hC
      replace hKm := Lib.hid hKm
      replace hKa := Lib.hid hKa
      replace hkn := Lib.hid hkn
      replace hcone := Lib.hid hcone
      replace hLn4 := Lib.hid hLn4
      replace ho5 := Lib.hid ho5
      replace hR4 := Lib.hid hR4
      replace hone := Lib.hid hone
      replace hxl := Lib.hid hxl
      replace s5 := Lib.hid s5
      clear ho4 hg4 hb4 ho4' hg4' hLR4 hlow4 hb5 ho1 hx1 hL1 hCo
      (with_reducible refine hLn4.out.mono ?_)
      rintro e w9 ⟨rfl, hw9⟩
      subst hw9
      go_wp2_with (first
        | (at_builtin; refine wpList_append_lies _ rfl _ _ 27 rfl wc.heap.size 3 j0 (.int .i64 0) 1 8 Try.underlying27 hj hy0 hy1 hy2 rfl (by decide) _ mr (iv R) rfl ho5.out ⟨w4.heap.size, 0, none⟩ 2 2 [.int .i64 (-5), .int .i64 (2 * (N : Int))] (by simp [Act.eval]) rfl (World.news_of_block hR4.out) hone.out (by decide) hxl.out (by omega) (by rw [s5.out]; omega) _ rfl ?_; intro g6 cap6 w6 ho6 hg6 hgb6 hlt6; obtain ⟨hb6, hcn⟩ := hcone.out g6 cap6 w6 ho6 hg6; replace hb6 := Lib.hid hb6; replace hcn := Lib.hid hcn; clear ho6 hg6 hgb6)
        | fail)
      (with_reducible refine hcn.out.mono ?_)
      rintro e w7 ⟨v7, rfl, ho7, hb7⟩
      obtain ⟨A7, c7, rfl, hL7, hn7⟩ := LR.of_own ho7 rfl
      have hb7' := hb6.out.trans (hb7.mono hb6.out.size)
      have hg7 := hg.out.over hb7'
      have hM1 : j0.bytes * N ≤ 281474976710656 := by rw [hy2]; omega
      have hM2 : N ≤ maxLen := by unfold maxLen; omega
      rw [hkn.out]
      replace hb7' := Lib.hid hb7'
      replace hg7 := Lib.hid hg7
      replace hL7 := Lib.hid hL7
      replace hM1 := Lib.hid hM1
      replace hM2 := Lib.hid hM2
      clear hcn hcone hb6 ho7 hb7 hn7 hxl hone s5 hR4 ho5 hLn4
      go_wp2_with fail
      (with_reducible refine (hLn.out B p _ hg7.out).mono ?_)
      rintro e w9 ⟨rfl, hw9⟩
      subst hw9
      go_upto_block 2 with (first
        | (at_make; refine wpList_make_full _ rfl _ _ 27 rfl w7.heap.size 3 j0 (.int .i64 0) 1 Try.underlying27 hj hy0 hy1 .i64 .i64 (N : Int) (N : Int) N rfl rfl rfl rfl hM1.out hM2.out (Nat.le_refl _) ?_; intro w8 ho8 hg8; replace ho8 := Lib.hid ho8; replace hg8 := Lib.hid hg8)
        | fail)
      obtain ⟨gi, hgi⟩ : ∃ g, w7.heap.size = g := ⟨_, rfl⟩
      have hki := made_block (hgi ▸ ho8.out) (by omega)
      have hb8 : Below w7.heap.size w7 w8 := ⟨hg8.out.os, hg8.out.tape, hg8.out.output, hg8.out.size, fun k hk => hg8.out.block k hk (by simp)⟩
      have h7z := hb7'.out.size
      have hwgi : wc.heap.size ≤ gi := by omega
      rw [hgi] at hb8
      rw [hgi]
      replace hki := Lib.hid hki
      replace hb8 := Lib.hid hb8
      replace hwgi := Lib.hid hwgi
      replace hgi := Lib.hid hgi
      clear ho8 hg8 h7z
      go_cut [] from 36 (fun wz => ∃ D : List Bool, D.length = N ∧ (∀ n, 1 ≤ n → n < N → D.getD n false = C.getD n false) ∧ wz.heap[gi]? = some (.cells (icl D).toArray 3 (0, 0)) ∧ Below gi w7 wz)
      case first =>
        as_aux_lemma =>
          -- FIRST 2
          go_wp2_with fail
          go_loopw [88] (fun iw wr => ∃ k : Nat, k ≤ kn ∧ iw = .int .i64 (k : Int) ∧ wr.heap[gi]? = some (.cells (icl (mks (List.replicate N false) (K.take k))).toArray 3 (0, 0)) ∧ Below gi w7 wr) (fun iw _ => kn - (intOf iw).toNat)
          case atStart => exact ⟨0, by omega, rfl, by rw [List.take_zero]; exact hki.out, hb8.out⟩
          case round =>
            obtain ⟨k, hk, rfl, hbk, hbr⟩ := hrel
            clear hki hb8
            have hgi' := hgi.out
            have hml := mks_len (K.take k) (List.replicate N false)
            rw [List.length_replicate] at hml
            by_cases hlt : k < kn
            · have hbr' := hgi' ▸ hbr
              obtain ⟨gl, rfl, hgl, hcl⟩ := (hL7.out.over hbr') (by rw [hkn.out]; omega)
              have d0 := hcl k (by rw [hkn.out]; exact hlt)
              have hkK : k < K.length := by rw [hkn.out]; exact hlt
              have hKk : K.getD k 0 = K[k] := by rw [List.getD_eq_getElem?_getD, List.getElem?_eq_getElem hkK]; rfl
              have hmem := (hKm.out K[k]).1 (List.getElem_mem hkK)
              have htk : mks (List.replicate N false) (K.take (k + 1)) = (mks (List.replicate N false) (K.take k)).set K[k] true := by rw [List.take_succ_eq_append_getElem hkK, mks_snoc]
              have hprev : ∀ j, j + 1 = k → K.getD j 0 < K[k] := fun j hj => by
                have hjK : j < K.length := by omega
                rw [List.getD_eq_getElem?_getD, List.getElem?_eq_getElem hjK]
                exact List.pairwise_iff_getElem.1 hKa.out j k hjK hkK (by omega)
              rw [hKk] at d0
              obtain ⟨x, hx⟩ : ∃ x, K[k] = x := ⟨_, rfl⟩
              rw [hx] at d0 hmem htk hprev
              obtain ⟨hx1, hxN, _⟩ := hmem
              obtain ⟨P, hP⟩ : ∃ P, mks (List.replicate N false) (K.take k) = P := ⟨_, rfl⟩
              rw [hP] at hml htk hbk
              have gz : wr.frozen? ⟨gi, x, none⟩ = false := Lib.frozen_of_heap hbk x
              have gc := icl_cell hbk x (by omega)
              have hset := heap_set wr gi x _ _ (.int .i64 1) hbk
              rw [icl_set, ← htk] at hset
              have hb4 : Below gi w7 (wr.setCell ⟨gi, x, none⟩ (.int .i64 1)) := Below.setCell (p := ⟨gi, x, none⟩) hbr (Nat.le_refl _) _
              have hLw := hLn.out B p wr (hg7.out.over hbr')
              replace hset := Lib.hid hset
              replace hb4 := Lib.hid hb4
              replace hLw := Lib.hid hLw
              by_cases hk0 : k = 0
              · subst hk0
                clear hcl hprev hx hP hKk htk hbr hbr' hbk hml hgi' hkK
                go_wp2_with fail
                (with_reducible refine hLw.out.mono ?_)
                rintro e w9 ⟨rfl, hw9⟩
                subst hw9
                go_wp2_with fail
                go_roundw
                case rel => exact ⟨0 + 1, by omega, by go_num, hset.out, hb4.out⟩
                case measure => simp [intOf]; omega
              · obtain ⟨j, hj⟩ : ∃ j, j + 1 = k := ⟨k - 1, by omega⟩
                have hpv := hprev j hj
                have d1 := hcl j (by omega)
                obtain ⟨y, hy⟩ : ∃ y, K.getD j 0 = y := ⟨_, rfl⟩
                rw [hy] at d1 hpv
                have hjk : ((k : Int) - 1).toNat = j := by omega
                clear hcl hprev hx hP hKk htk hbr hbr' hbk hml hgi' hkK hy
                go_wp2_with fail
                (with_reducible refine hLw.out.mono ?_)
                rintro e w9 ⟨rfl, hw9⟩
                subst hw9
                go_wp2_with fail
                go_roundw
                case rel => exact ⟨k + 1, by omega, by go_num, hset.out, hb4.out⟩
                case measure => simp [intOf]; omega
            · have hkk : k = kn := by omega
              have htk : K.take k = K := by rw [hkk, ← hkn.out, List.take_length]
              rw [htk] at hbk hml
              have hD : ∀ n, 1 ≤ n → n < N → (mks (List.replicate N false) K).getD n false = C.getD n false := fun n h1 h2 => by
                rw [mks_get n K _ (fun x hx => by rw [List.length_replicate]; exact ((hKm.out x).1 hx).2.1)]
                have h3 := hKm.out n
                cases hc : C.getD n false with
                | true => rw [decide_eq_true (h3.2 ⟨h1, h2, hc⟩), Bool.or_true]
                | false =>
                  have h4 : ¬ n ∈ K := fun h5 => by have := (h3.1 h5).2.2; rw [hc] at this; cases this
                  rw [decide_eq_false h4, Bool.or_false, List.getD_eq_getElem?_getD, List.getElem?_replicate, if_pos h2]
                  rfl
              obtain ⟨P, hP⟩ : ∃ P, mks (List.replicate N false) K = P := ⟨_, rfl⟩
              rw [hP] at hbk hml hD
              replace hbk := Lib.hid hbk
              replace hbr := Lib.hid hbr
              replace hD := Lib.hid hD
              replace hml := Lib.hid hml
              clear hP htk hgi'
              go_wp2_with fail
              go_meet
              case rel => exact ⟨P, hml.out, hD.out, hbk.out, hbr.out⟩
          -- END 2
      case rest =>
        as_aux_lemma =>
          obtain ⟨D, hDl, hD, hkD, hbD⟩ := hcut
          have hgi' := hgi.out
          have hbD' := hgi' ▸ hbD
          have h7 := hb7'.out
          have hg1 := hg7.out.over hbD'
          have hLR1 := (hLR.out.over h7).over hbD'
          have hbw1 : Below w.heap.size w wc := hbw.out.trans ((h7.trans (hbD'.mono h7.size)).mono hbw.out.size)
          have hRm : ∀ x ∈ R.map (· / 2), x < (List.replicate N false).length := fun x hx => by
            obtain ⟨a, ha, rfl⟩ := List.mem_map.1 hx
            rw [List.length_replicate]
            exact hRl.out a ha
          have hRC : ∀ a ∈ R, C.getD (a / 2) false = true := fun a ha => by
            rw [← hC.out]
            exact cdn_mono F (a / 2) _ _ (by rw [mks_get _ _ _ hRm, decide_eq_true (List.mem_map.2 ⟨a, ha, rfl⟩), Bool.or_true])
          replace hRC := Lib.hid hRC
          replace hRm := Lib.hid hRm
          replace hg1 := Lib.hid hg1
          replace hLR1 := Lib.hid hLR1
          replace hbw1 := Lib.hid hbw1
          replace hkD := Lib.hid hkD
          replace hDl := Lib.hid hDl
          replace hD := Lib.hid hD
          clear hbD hbD' h7 hgi' hLR hg hg7 hL7 hb7' hb8 hKm hKa hkn hgi hwgi hbw hki hkN
          go_upto_block 4 with fail
          go_cut [] from 36 (fun wz => wz = wc)
          case first =>
            as_aux_lemma =>
              -- FIRST 3
              go_wp2_with fail
              go_loopw [120] (fun iw wr => ∃ k : Nat, k ≤ mr ∧ iw = .int .i64 (k : Int) ∧ wr = wc) (fun iw _ => mr - (intOf iw).toNat)
              case atStart => exact ⟨0, by omega, rfl, rfl⟩
              case round =>
                obtain ⟨k, hk, rfl, rfl⟩ := hrel
                by_cases hlt : k < mr
                · obtain ⟨gl, rfl, hgl, hcl⟩ := hLR1.out (by rw [← hmr.out]; omega)
                  have d0 := hcl k (by rw [← hmr.out]; exact hlt)
                  have hkK : k < R.length := by rw [← hmr.out]; exact hlt
                  have hKk : R.getD k 0 = R[k] := by rw [List.getD_eq_getElem?_getD, List.getElem?_eq_getElem hkK]; rfl
                  have hmem := hRl.out R[k] (List.getElem_mem hkK)
                  have hm2 := hRC.out R[k] (List.getElem_mem hkK)
                  rw [hKk] at d0
                  obtain ⟨a, ha⟩ : ∃ a, R[k] = a := ⟨_, rfl⟩
                  rw [ha] at d0 hmem hm2
                  have d1 := icl_cell hkD.out (a / 2) (by rw [hDl.out]; exact hmem)
                  clear ha hcl hKk hkK
                  by_cases ha1 : 1 < a
                  · rw [hD.out (a / 2) (by omega) hmem, hm2] at d1
                    unfold bI at d1
                    rw [if_pos rfl] at d1
                    clear hm2
                    go_wp2_with fail
                    go_roundw
                    case rel => exact ⟨k + 1, by omega, by go_num, trivial⟩
                    case measure => simp [intOf]; omega
                  · clear hm2 d1
                    go_wp2_with fail
                    go_roundw
                    case rel => exact ⟨k + 1, by omega, by go_num, trivial⟩
                    case measure => simp [intOf]; omega
                · go_wp2_with fail
                  go_meet
                  case rel => rfl
              -- END 3
          case rest =>
            as_aux_lemma =>
              subst hcut
              obtain ⟨W1, hW1⟩ : ∃ W, wc = W := ⟨_, rfl⟩
              subst wc
              have hM1 : j0.bytes * N ≤ 281474976710656 := by rw [hy2]; omega
              have hM2 : N ≤ maxLen := by unfold maxLen; omega
              replace hM1 := Lib.hid hM1
              replace hM2 := Lib.hid hM2
              go_wp2_with fail
              (with_reducible refine (hLn.out B p _ hg1.out).mono ?_)
              rintro e w9 ⟨rfl, hw9⟩
              subst hw9
              go_upto_block 6 with (first
                | (at_make; refine wpList_make_full _ rfl _ _ 27 rfl W1.heap.size 3 j0 (.int .i64 0) 1 Try.underlying27 hj hy0 hy1 .i64 .i64 (N : Int) (N : Int) N rfl rfl rfl rfl hM1.out hM2.out (Nat.le_refl _) ?_; intro w8 ho8 hg8; replace ho8 := Lib.hid ho8; replace hg8 := Lib.hid hg8)
                | fail)
              obtain ⟨gu, hgu⟩ : ∃ g, W1.heap.size = g := ⟨_, rfl⟩
              have hki := made_block (hgu ▸ ho8.out) (by omega)
              have hb8 : Below W1.heap.size W1 w8 := ⟨hg8.out.os, hg8.out.tape, hg8.out.output, hg8.out.size, fun k hk => hg8.out.block k hk (by simp)⟩
              rw [hgu] at hb8
              rw [hgu]
              replace hki := Lib.hid hki
              replace hb8 := Lib.hid hb8
              replace hgu := Lib.hid hgu
              clear ho8 hg8 hM1 hM2
              go_cut [] from 36 (fun wz => wz.heap[gu]? = some (.cells (icl (mks (List.replicate N false) (R.map (· / 2)))).toArray 3 (0, 0)) ∧ Below gu W1 wz)
              case first =>
                as_aux_lemma =>
                  -- FIRST 4
                  go_wp2_with fail
                  go_loopw [140] (fun iw wr => ∃ k : Nat, k ≤ mr ∧ iw = .int .i64 (k : Int) ∧ wr.heap[gu]? = some (.cells (icl (mks (List.replicate N false) ((R.take k).map (· / 2)))).toArray 3 (0, 0)) ∧ Below gu W1 wr) (fun iw _ => mr - (intOf iw).toNat)
                  case atStart => exact ⟨0, by omega, rfl, by rw [List.take_zero]; exact hki.out, hb8.out⟩
                  case round =>
                    obtain ⟨k, hk, rfl, hbk, hbr⟩ := hrel
                    clear hki hb8
                    have hgi' := hgu.out
                    by_cases hlt : k < mr
                    · have hml := mks_len ((R.take k).map (· / 2)) (List.replicate N false)
                      rw [List.length_replicate] at hml
                      have hbr' := hgi' ▸ hbr
                      obtain ⟨gl, rfl, hgl, hcl⟩ := (hLR1.out.over hbr') (by rw [← hmr.out]; omega)
                      have d0 := hcl k (by rw [← hmr.out]; exact hlt)
                      have hkK : k < R.length := by rw [← hmr.out]; exact hlt
                      have hKk : R.getD k 0 = R[k] := by rw [List.getD_eq_getElem?_getD, List.getElem?_eq_getElem hkK]; rfl
                      have hmem := hRl.out R[k] (List.getElem_mem hkK)
                      have htk : mks (List.replicate N false) ((R.take (k + 1)).map (· / 2)) = (mks (List.replicate N false) ((R.take k).map (· / 2))).set (R[k] / 2) true := by rw [List.take_succ_eq_append_getElem hkK, List.map_append, ← mks_snoc]; rfl
                      rw [hKk] at d0
                      obtain ⟨x, hx⟩ : ∃ x, R[k] = x := ⟨_, rfl⟩
                      rw [hx] at d0 hmem htk
                      obtain ⟨P, hP⟩ : ∃ P, mks (List.replicate N false) ((R.take k).map (· / 2)) = P := ⟨_, rfl⟩
                      rw [hP] at hml htk hbk
                      have gz : wr.frozen? ⟨gu, x / 2, none⟩ = false := Lib.frozen_of_heap hbk (x / 2)
                      have gc := icl_cell hbk (x / 2) (by omega)
                      have hset := heap_set wr gu (x / 2) _ _ (.int .i64 1) hbk
                      rw [icl_set, ← htk] at hset
                      have hb4 : Below gu W1 (wr.setCell ⟨gu, x / 2, none⟩ (.int .i64 1)) := Below.setCell (p := ⟨gu, x / 2, none⟩) hbr (Nat.le_refl _) _
                      replace hset := Lib.hid hset
                      replace hb4 := Lib.hid hb4
                      clear hcl hx hP hKk htk hbr hbr' hbk hml hgi' hkK
                      go_wp2_with fail
                      go_roundw
                      case rel => exact ⟨k + 1, by omega, by go_num, hset.out, hb4.out⟩
                      case measure => simp [intOf]; omega
                    · have htk : R.take k = R := by rw [show k = R.length by rw [← hmr.out]; omega, List.take_length]
                      rw [htk] at hbk
                      replace hbk := Lib.hid hbk
                      replace hbr := Lib.hid hbr
                      clear htk hgi'
                      go_wp2_with fail
                      go_meet
                      case rel => exact ⟨hbk.out, hbr.out⟩
                  -- END 4
              case rest =>
                as_aux_lemma =>
                  obtain ⟨hkP, hbP⟩ := hcut
                  have hgil := lt_of_get hkD.out
                  obtain ⟨P0, hP0e⟩ : ∃ P, mks (List.replicate N false) (R.map (· / 2)) = P := ⟨_, rfl⟩
                  have hP0l : P0.length = N := by rw [← hP0e, mks_len, List.length_replicate]
                  have hC' := hC.out
                  rw [hP0e] at hC' hkP
                  rw [hgu.out] at hgil
                  replace hC' := Lib.hid hC'
                  replace hkP := Lib.hid hkP
                  replace hbP := Lib.hid hbP
                  replace hP0l := Lib.hid hP0l
                  replace hgil := Lib.hid hgil
                  clear hP0e hC hRm hki hb8
                  go_wp2_with fail
                  have hbP' := hgu.out ▸ hbP.out
                  (with_reducible refine (hLn.out B p _ (hg1.out.over hbP')).mono ?_)
                  rintro e w9 ⟨rfl, hw9⟩
                  subst hw9
                  clear hbP'
                  go_upto_block 8 with fail
                  go_cut [] from 36 (fun wz => Below gu W1 wz)
                  case first =>
                    as_aux_lemma =>
                      -- FIRST 5
                      go_wp2_with fail
                      go_loopw [22] (fun iw wr => ∃ (k : Nat) (Q : List Bool), k < N ∧ iw = .int .i64 (k : Int) ∧ cdn F k Q = C ∧ Q.length = N ∧ wr.heap[gu]? = some (.cells (icl Q).toArray 3 (0, 0)) ∧ Below gu W1 wr) (fun iw _ => (intOf iw).toNat)
                      case atStart => exact ⟨N - 1, P0, by omega, by go_num, hC'.out, hP0l.out, hkP.out, hbP.out⟩
                      case round =>
                        obtain ⟨k, Q, hk, rfl, hQc, hQl, hbk, hbr⟩ := hrel
                        clear hkP hbP hP0l hC'
                        by_cases h0 : 0 < k
                        · have hbr' := hgu.out ▸ hbr
                          have hgr := hg1.out.over hbr'
                          have hDr := (hbr.block gi hgil.out).trans hkD.out
                          have hNN := hN.out
                          obtain ⟨⟨a, b⟩, hq⟩ : ∃ q, F[k]? = some q := ⟨_, List.getElem?_eq_getElem (by omega)⟩
                          have hFd : F.getD k (0, 0) = (a, b) := by rw [List.getD_eq_getElem?_getD, hq]; rfl
                          have hFan := Fan_t k (a, b) wr hgr hq
                          have hqc : Q.getD k false = C.getD k false := by rw [← hQc, cdn_ge hwf.out k k Q (Nat.le_refl _)]
                          have hdc := hD.out k (by omega) hk
                          have hor := hwf.out.ok k _ hq
                          obtain ⟨j, hjk⟩ : ∃ j, j + 1 = k := ⟨k - 1, by omega⟩
                          have hst : cdn F j (cst F Q k) = C := by subst hjk; exact hQc
                          have hcl := fun ha hc => cdn_closed hwf.out hq ha k Q (Nat.le_refl _) (hQl.trans hNN.symm) hc
                          rw [hQc] at hcl
                          have hcs : cst F Q k = if C.getD k false = true ∧ a ≠ 0 then (Q.set (a / 2) true).set (b / 2) true else Q := by unfold cst; rw [hFd, hqc]
                          simp only at hFan hor
                          clear hNN hQc
                          replace hFan := Lib.hid hFan
                          go_wp2_with fail
                          (with_reducible refine hFan.out.mono ?_)
                          rintro e w5 ⟨rfl, q, hw5⟩
                          subst hw5
                          have hb5 : Below gu W1 (wr.drewN q) := ⟨hbr.1, hbr.2, hbr.3, hbr.4, hbr.5⟩
                          have hk5 : (wr.drewN q).heap[gu]? = some (.cells (icl Q).toArray 3 (0, 0)) := hbk
                          have hD5 : (wr.drewN q).heap[gi]? = some (.cells (icl D).toArray 3 (0, 0)) := hDr
                          obtain ⟨w5, hw5⟩ : ∃ W, wr.drewN q = W := ⟨_, rfl⟩
                          rw [hw5] at hb5 hk5 hD5 ⊢
                          have d0 := icl_cell hD5 k (by rw [hDl.out]; exact hk)
                          have e0 := icl_cell hk5 k (by omega)
                          rw [hdc] at d0
                          rw [hqc] at e0
                          replace hqc := Lib.hid hqc
                          clear hw5 hFan hbk hDr hgr hbr hbr' hq hFd hdc
                          have hb6 : ∀ q, Below gu W1 (w5.drewN q) := fun q => ⟨hb5.1, hb5.2, hb5.3, hb5.4, hb5.5⟩
                          have hk1 : (k : Int) - 1 = (j : Int) := by omega
                          by_cases ha : a = 0
                          · rw [show decide (a ≠ 0) = false by simp [ha]]
                            have hQ2 : cdn F j Q = C := by rw [← hst, hcs, if_neg (fun h => h.2 ha)]
                            replace hQ2 := Lib.hid hQ2
                            replace hb6 := Lib.hid hb6
                            replace hk5 := Lib.hid hk5
                            clear hcl hst hcs hor hD5 hb5 ha
                            cases hc : C.getD k false with
                            | true =>
                              rw [hc, show bI true = 1 from rfl] at d0 e0
                              clear hc
                              as_aux_lemma =>
                                go_wp2_with fail
                                go_quiet (fail)
                                go_wp2_with fail
                                go_roundw
                                case rel => exact ⟨j, Q, by omega, by go_num, hQ2.out, hQl, hk5.out, hb6.out _⟩
                                case measure => simp [intOf]; omega
                            | false =>
                              rw [hc, show bI false = 0 from rfl] at d0 e0
                              clear hc
                              as_aux_lemma =>
                                go_wp2_with fail
                                go_quiet (fail)
                                go_wp2_with fail
                                go_roundw
                                case rel => exact ⟨j, Q, by omega, by go_num, hQ2.out, hQl, hk5.out, hb6.out _⟩
                                case measure => simp [intOf]; omega
                          · rw [show decide (a ≠ 0) = true by simp [ha]]
                            have hab : 2 ≤ a ∧ a < b ∧ b / 2 < k ∧ b ≠ nt a := by
                              rcases hor with e | e
                              · exact absurd (Prod.mk.inj e).1 ha
                              · exact e
                            have hxy : a / 2 < b / 2 := by
                              obtain ⟨h1, h2, _, h4⟩ := hab
                              unfold nt at h4
                              split at h4 <;> omega
                            have hyk := hab.2.2.1
                            have ha2 := hab.1
                            clear hor hab
                            cases hc : C.getD k false with
                            | false =>
                              have hQ2 : cdn F j Q = C := by rw [← hst, hcs, if_neg (fun h => by rw [hc] at h; exact Bool.noConfusion h.1)]
                              rw [hc, show bI false = 0 from rfl] at d0 e0
                              replace hQ2 := Lib.hid hQ2
                              replace hb6 := Lib.hid hb6
                              replace hk5 := Lib.hid hk5
                              rw [hc] at hqc
                              clear hcl hst hcs hD5 hb5 hc ha
                              as_aux_lemma =>
                                go_wp2_with fail
                                go_quiet (fail)
                                have hk6 : (w5.drewN nq).heap[gu]? = some (.cells (icl Q).toArray 3 (0, 0)) := hk5.out
                                have hb7 := hb6.out nq
                                obtain ⟨w6, hw6⟩ : ∃ W, w5.drewN nq = W := ⟨_, rfl⟩
                                rw [hw6] at hk6 hb7 ⊢
                                have e6 := icl_cell hk6 k (by omega)
                                rw [hqc.out, show bI false = 0 from rfl] at e6
                                replace hb7 := Lib.hid hb7
                                replace hk6 := Lib.hid hk6
                                clear hw6 d0 e0 hb6 hk5
                                go_wp2_with fail
                                go_roundw
                                case rel => exact ⟨j, Q, by omega, by go_num, hQ2.out, hQl, hk6.out, hb7.out⟩
                                case measure => simp [intOf]; omega
                            | true =>
                              obtain ⟨k1, k2⟩ := hcl ha hc
                              have hQ2 : cdn F j ((Q.set (a / 2) true).set (b / 2) true) = C := by rw [← hst, hcs, if_pos ⟨hc, ha⟩]
                              have d1 := icl_cell hD5 (a / 2) (by rw [hDl.out]; omega)
                              have d2 := icl_cell hD5 (b / 2) (by rw [hDl.out]; omega)
                              rw [hD.out (a / 2) (by omega) (by omega), k1, show bI true = 1 from rfl] at d1
                              rw [hD.out (b / 2) (by omega) (by omega), k2, show bI true = 1 from rfl] at d2
                              rw [hc, show bI true = 1 from rfl] at d0 e0
                              replace hQ2 := Lib.hid hQ2
                              replace hb6 := Lib.hid hb6
                              replace hk5 := Lib.hid hk5
                              rw [hc] at hqc
                              clear hcl hst hcs hD5 hb5 hc ha k1 k2
                              as_aux_lemma =>
                                go_wp2_with fail
                                go_quiet (fail)
                                have hk6 : (w5.drewN nq).heap[gu]? = some (.cells (icl Q).toArray 3 (0, 0)) := hk5.out
                                have hb7 := hb6.out nq
                                obtain ⟨w6, hw6⟩ : ∃ W, w5.drewN nq = W := ⟨_, rfl⟩
                                rw [hw6] at hk6 hb7 ⊢
                                have e6 := icl_cell hk6 k (by omega)
                                rw [hqc.out, show bI true = 1 from rfl] at e6
                                have z0 : ∀ i, w6.frozen? ⟨gu, i, none⟩ = false := fun i => Lib.frozen_of_heap hk6 i
                                have zx := z0 (a / 2)
                                have zy := z0 (b / 2)
                                have dx := icl_cell hk6 (a / 2) (by omega)
                                have dy := icl_cell hk6 (b / 2) (by omega)
                                have h8 := heap_set w6 gu (a / 2) _ _ (.int .i64 1) hk6
                                rw [icl_set] at h8
                                have h9 := heap_set _ gu (b / 2) _ _ (.int .i64 1) h8
                                rw [icl_set] at h9
                                have hb9 : Below gu W1 ((w6.setCell ⟨gu, a / 2, none⟩ (.int .i64 1)).setCell ⟨gu, b / 2, none⟩ (.int .i64 1)) := Below.setCell (p := ⟨gu, b / 2, none⟩) (Below.setCell (p := ⟨gu, a / 2, none⟩) hb7 (Nat.le_refl _) _) (Nat.le_refl _) _
                                have hQl2 : ((Q.set (a / 2) true).set (b / 2) true).length = N := by rw [List.length_set, List.length_set]; exact hQl
                                have hne : a / 2 ≠ b / 2 := by omega
                                replace h9 := Lib.hid h9
                                replace hb9 := Lib.hid hb9
                                replace hQl2 := Lib.hid hQl2
                                clear hw6 d0 e0 d1 d2 hb6 hk5 hb7 hk6 h8 z0 hqc
                                go_wp2_with fail
                                go_roundw
                                case rel => exact ⟨j, _, by omega, by go_num, hQ2.out, hQl2.out, h9.out, hb9.out⟩
                                case measure => simp [intOf]; omega
                        · have hb := Lib.hid hbr
                          clear hbr hbk hQc
                          go_wp2_with fail
                          go_meet
                          case rel => exact hb.out
                      -- END 5
                  case rest =>
                    as_aux_lemma =>
                      have hbE' := hgu.out ▸ hcut
                      have hgE := hg1.out.over hbE'
                      have hLRE := hLR1.out.over hbE'
                      have hDE := (hcut.block gi hgil.out).trans hkD.out
                      have hbwE := hbw1.out.trans (hbE'.mono hbw1.out.size)
                      have hBE := hB.out.over hbwE
                      have hclo : ∀ i a b, F[i]? = some (a, b) → a ≠ 0 → C.getD i false = true → C.getD (a / 2) false = true ∧ C.getD (b / 2) false = true := fun i a b hq ha hc => by
                        have hi' : i < F.length := (List.getElem?_eq_some_iff.1 hq).1
                        have hNN := hN.out
                        have h1 := cdn_closed hwf.out hq ha (N - 1) P0 (by omega) (hP0l.out.trans hNN.symm)
                        rw [hC'.out] at h1
                        exact h1 hc
                      have hbg := hbig.out
                      have hcc := hci.out
                      have hE1 := hEv.out B p wc Ai ci ins hgE hBE hcc
                      rw [hni.out] at hE1 hbg hcc
                      have hvl1 := hvl.out ins
                      obtain ⟨V, hV⟩ : ∃ V, (evT F ins).1 = V := ⟨_, rfl⟩
                      rw [hV] at hE1 hvl1
                      replace hE1 := Lib.hid hE1
                      replace hclo := Lib.hid hclo
                      replace hgE := Lib.hid hgE
                      replace hLRE := Lib.hid hLRE
                      replace hDE := Lib.hid hDE
                      replace hbwE := Lib.hid hbwE
                      replace hBE := Lib.hid hBE
                      replace hV := Lib.hid hV
                      replace hvl1 := Lib.hid hvl1
                      clear hcut hbE' hg1 hLR1 hkD hkP hbP hP0l hgil hC' hgu hbw1 hB hi hz0 hz1 hz2 hj hy0 hy1 hy2
                      go_wp2_with fail
                      (with_reducible refine hE1.out.mono ?_)
                      rintro e w1 ⟨ga, ca, rfl, hVa, hb1⟩
                      have hbA := hb1
                      have hg1 := hgE.out.over hb1
                      have hLR1 := hLRE.out.over hb1
                      have hD1 := (hb1.block gi (lt_of_get hDE.out)).trans hDE.out
                      have hB1 := hBE.out.over hb1
                      have hbw1 := hbwE.out.trans (hb1.mono hbwE.out.size)
                      have hx1 := (Below.refl w1.heap.size w1).alloc (Nat.le_refl _) (.cells #[] 4)
                      have ho1 := World.ownsRow_made w1 (e := 4) (size := 1) (base := w1.heap.size) #[] 0 (Nat.le_refl _) (by decide) rfl
                      have hB2 := hB1.over hx1
                      replace hx1 := Lib.hid hx1
                      replace ho1 := Lib.hid ho1
                      replace hB2 := Lib.hid hB2
                      replace hg1 := Lib.hid hg1
                      replace hLR1 := Lib.hid hLR1
                      replace hD1 := Lib.hid hD1
                      replace hbw1 := Lib.hid hbw1
                      replace hVa := Lib.hid hVa
                      clear hb1 hbA hB1 hgE hLRE hDE hbwE hBE hE1
                      go_upto_block 10 with (first
                        | (at_builtin; refine wpList_append_BL rfl _ _ rfl w1.heap.size _ 0 [] rfl ho1.out Ai ni ci ins hni.out rfl hnil.out hB2.out (by omega) hx1.out.size ?_; intro v4 w4 ho4 hg4; replace ho4 := Lib.hid ho4; replace hg4 := Lib.hid hg4)
                        | fail)
                      have hb4 : Below w1.heap.size w1 w4 := hx1.out.grown hg4.out hx1.out.size (fun q hq => by cases hq; exact Nat.le_refl _)
                      have ho4' : w4.ownsRow w1.heap.size 4 1 v4 ni (bcl ins) := by
                        have := ho4.out
                        rw [Nat.zero_add, List.nil_append] at this
                        exact this
                      obtain ⟨A4, c4, rfl, hn4, hOS4⟩ := OS.of_own ho4' hni.out.symm
                      obtain ⟨s1, hs1⟩ : ∃ s, w1.heap.size = s := ⟨_, rfl⟩
                      rw [hs1] at hb4 hOS4
                      have hgs : gi < s1 := hs1 ▸ lt_of_get hD1.out
                      replace hgs := Lib.hid hgs
                      replace hs1 := Lib.hid hs1
                      replace hb4 := Lib.hid hb4
                      replace hOS4 := Lib.hid hOS4
                      clear ho4 hg4 ho4' ho1 hx1 hB2
                      go_cut [] from 36 (fun wz => ∃ o : List Bool, o.length = ni ∧ OS wz s1 A4 o ∧ (∀ m, 0 < m → m < N → (F.getD m (0, 0)).1 = 0 → C.getD m false = true → o.getD (cnt (F.take m)) false = ins.getD (cnt (F.take m)) false) ∧ Below s1 w1 wz)
                      case first =>
                        as_aux_lemma =>
                          -- FIRST 6
                          go_wp2_with fail
                          go_loopw [28, 29] (fun kv nv wr => ∃ (n : Nat) (o : List Bool), 1 ≤ n ∧ n ≤ N ∧ nv = .int .i64 (n : Int) ∧ kv = .int .i64 ((cnt (F.take n) : Nat) : Int) ∧ o.length = ni ∧ OS wr s1 A4 o ∧ (∀ m, 0 < m → m < N → (F.getD m (0, 0)).1 = 0 → C.getD m false = true → o.getD (cnt (F.take m)) false = ins.getD (cnt (F.take m)) false) ∧ Below s1 w1 wr) (fun _ nv _ => N - (intOf nv).toNat)
                          case atStart => exact ⟨1, ins, by omega, by omega, rfl, by rw [hcz.out]; rfl, hni.out, hOS4.out, fun _ _ _ _ _ => rfl, hb4.out⟩
                          case round =>
                            obtain ⟨n, o, hn1, hnN, rfl, rfl, hol, hos, hoi, hbr⟩ := hrel
                            clear hb4 hOS4
                            have hbr' := hs1.out ▸ hbr
                            have hgr := hg1.out.over hbr'
                            have hLw := hLn.out B p wr hgr
                            replace hLw := Lib.hid hLw
                            have hcb := hcle.out n
                            by_cases hlt : n < N
                            · have hNN := hN.out
                              obtain ⟨⟨a, b⟩, hq⟩ : ∃ q, F[n]? = some q := ⟨_, List.getElem?_eq_getElem (by omega)⟩
                              have hFd : F.getD n (0, 0) = (a, b) := by rw [List.getD_eq_getElem?_getD, hq]; rfl
                              have hFan := Fan_t n (a, b) wr hgr hq
                              have hcn := hcs.out n hn1 _ hq
                              have hDr := (hbr.block gi hgs.out).trans hD1.out
                              have hdn := hD.out n hn1 hlt
                              simp only at hFan hcn
                              have hdist : a = 0 → C.getD n false = false → ∀ m, 0 < m → m < N → (F.getD m (0, 0)).1 = 0 → C.getD m false = true → cnt (F.take m) ≠ cnt (F.take n) := fun ha hc m h0 h1 h2 h3 e => by
                                have hmn : m ≠ n := fun e2 => by rw [e2, hc] at h3; cases h3
                                rcases Nat.lt_or_gt_of_ne hmn with h | h
                                · have := cnt_lt h0 h (by omega) h2
                                  omega
                                · have := cnt_lt (F := F) hn1 h (by omega) (by rw [hFd]; exact ha)
                                  omega
                              replace hFan := Lib.hid hFan
                              replace hcn := Lib.hid hcn
                              replace hoi := Lib.hid hoi
                              replace hdist := Lib.hid hdist
                              clear hNN hq hFd hgr hbr'
                              obtain ⟨K6, hK6⟩ : ∃ K, cnt (F.take n) = K := ⟨_, rfl⟩
                              rw [hK6] at hcn hcb hdist ⊢
                              clear hK6
                              go_wp2_with fail
                              (with_reducible refine hLw.out.mono ?_)
                              rintro e w9 ⟨rfl, hw9⟩
                              subst hw9
                              go_wp2_with fail
                              (with_reducible refine hFan.out.mono ?_)
                              rintro e w5 ⟨rfl, q, hw5⟩
                              subst hw5
                              have hb5 : Below s1 w1 (wr.drewN q) := ⟨hbr.1, hbr.2, hbr.3, hbr.4, hbr.5⟩
                              have hD5 : (wr.drewN q).heap[gi]? = some (.cells (icl D).toArray 3 (0, 0)) := hDr
                              have hos5 : OS (wr.drewN q) s1 A4 o := hos.keep rfl
                              obtain ⟨w5, hw5⟩ : ∃ W, wr.drewN q = W := ⟨_, rfl⟩
                              rw [hw5] at hb5 hD5 hos5 ⊢
                              clear hw5 hbr hos hDr hLw hFan
                              by_cases ha : a = 0
                              · rw [show decide (a ≠ 0) = false by simp [ha]]
                                have hcn' := hcn.out
                                rw [if_pos ha] at hcn'
                                have d0 := icl_cell hD5 n (by rw [hDl.out]; exact hlt)
                                rw [hdn] at d0
                                cases hc : C.getD n false with
                                | true =>
                                  rw [hc, show bI true = 1 from rfl] at d0
                                  replace hcn' := Lib.hid hcn'
                                  replace hb5 := Lib.hid hb5
                                  replace hos5 := Lib.hid hos5
                                  clear hcn hdist hdn hc ha hD5
                                  as_aux_lemma =>
                                    go_wp2_with fail
                                    go_roundw
                                    case rel => exact ⟨n + 1, o, by omega, by omega, by go_num, by rw [hcn'.out]; go_num, hol, hos5.out, hoi.out, hb5.out⟩
                                    case measure => simp [intOf]; omega
                                | false =>
                                  rw [hc, show bI false = 0 from rfl] at d0
                                  by_cases hkn6 : K6 < ni
                                  · obtain ⟨x, hx⟩ : ∃ x, o.getD K6 false = x := ⟨_, rfl⟩
                                    obtain ⟨g4, hA4, hBg, gz, gc, hset⟩ := hos5.set (k := K6) (by omega) (!x)
                                    rw [hx] at gc
                                    have hoi' : ∀ m, 0 < m → m < N → (F.getD m (0, 0)).1 = 0 → C.getD m false = true → (o.set K6 (!x)).getD (cnt (F.take m)) false = ins.getD (cnt (F.take m)) false := fun m h0 h1 h2 h3 => by
                                      rw [getD_set, if_neg (fun e => hdist.out ha hc m h0 h1 h2 h3 e.1.symm)]
                                      exact hoi.out m h0 h1 h2 h3
                                    have hb7 : Below s1 w1 (w5.setCell ⟨g4, K6, none⟩ (.bool (!x))) := Below.setCell (p := ⟨g4, K6, none⟩) hb5 hBg _
                                    have hol' : (o.set K6 (!x)).length = ni := by rw [List.length_set]; exact hol
                                    subst hA4
                                    replace hcn' := Lib.hid hcn'
                                    replace hset := Lib.hid hset
                                    replace hoi' := Lib.hid hoi'
                                    replace hb7 := Lib.hid hb7
                                    replace hol' := Lib.hid hol'
                                    clear hcn hdist hdn hc ha hD5 hx hos5 hb5 hol hBg
                                    as_aux_lemma =>
                                      go_wp2_with fail
                                      go_roundw
                                      case rel => exact ⟨n + 1, _, by omega, by omega, by go_num, by rw [hcn'.out]; go_num, hol'.out, hset.out, hoi'.out, hb7.out⟩
                                      case measure => simp [intOf]; omega
                                  · replace hcn' := Lib.hid hcn'
                                    replace hb5 := Lib.hid hb5
                                    replace hos5 := Lib.hid hos5
                                    clear hcn hdist hdn hc ha hD5
                                    as_aux_lemma =>
                                      go_wp2_with fail
                                      go_roundw
                                      case rel => exact ⟨n + 1, o, by omega, by omega, by go_num, by rw [hcn'.out]; go_num, hol, hos5.out, hoi.out, hb5.out⟩
                                      case measure => simp [intOf]; omega
                              · rw [show decide (a ≠ 0) = true by simp [ha]]
                                have hcn' := hcn.out
                                rw [if_neg ha, Nat.add_zero] at hcn'
                                replace hcn' := Lib.hid hcn'
                                replace hb5 := Lib.hid hb5
                                replace hos5 := Lib.hid hos5
                                clear hcn hdist hdn ha hD5
                                as_aux_lemma =>
                                  go_wp2_with fail
                                  go_roundw
                                  case rel => exact ⟨n + 1, o, by omega, by omega, by go_num, congrArg (fun c : Nat => Value.int .i64 (c : Int)) hcn'.out.symm, hol, hos5.out, hoi.out, hb5.out⟩
                                  case measure => simp [intOf]; omega
                            · have hnN' : n = N := by omega
                              replace hos := Lib.hid hos
                              replace hoi := Lib.hid hoi
                              replace hbr := Lib.hid hbr
                              clear hbr' hgr
                              go_wp2_with fail
                              (with_reducible refine hLw.out.mono ?_)
                              rintro e w9 ⟨rfl, hw9⟩
                              subst hw9
                              go_wp2_with fail
                              go_meet
                              case rel => exact ⟨o, hol, hos.out, hoi.out, hbr.out⟩
                          -- END 6
                      case rest =>
                        as_aux_lemma =>
                          obtain ⟨o, hol, hOS, hoi, hb5⟩ := hcut
                          have hb5' := hs1.out ▸ hb5
                          have hNN := hN.out
                          have hg5 := hg1.out.over hb5'
                          have hLR5 := hLR1.out.over hb5'
                          have hVa5 := hVa.out.over hb5'
                          have hbw5 := hbw1.out.trans (hb5'.mono hbw1.out.size)
                          have hE2 := hEv.out B p wc A4 c4 o hg5 hOS.bl (by omega)
                          rw [hol] at hE2
                          have hvl2 := hvl.out o
                          have hfin : ∀ a ∈ R, isV (evT F o).1 a = isV (evT F ins).1 a := fun a ha => by
                            have hlt := hRl.out a ha
                            have h1 := cone_val hwf.out (o := o) (ins := ins) hclo.out (fun n h0 h1 h2 h3 => hoi n h0 (by omega) h2 h3) (a / 2) (by omega) (.inr (hRC.out a ha))
                            have h2 : VL F o a = VL F ins a := by rw [VL_lit F o a (by omega), VL_lit F ins a (by omega), h1]
                            exact h2
                          obtain ⟨V2, hV2⟩ : ∃ V, (evT F o).1 = V := ⟨_, rfl⟩
                          rw [hV2] at hE2 hvl2 hfin
                          rw [hV.out] at hfin
                          replace hE2 := Lib.hid hE2
                          replace hvl2 := Lib.hid hvl2
                          replace hfin := Lib.hid hfin
                          replace hLR5 := Lib.hid hLR5
                          replace hVa5 := Lib.hid hVa5
                          replace hbw5 := Lib.hid hbw5
                          clear hV2 hV hg5 hb5' hb5 hOS hoi hb4 hOS4 hs1 hgs hVa hg1 hLR1 hD1 hbw1 hclo hNN hRC hD hEv hvl hLn hcz hcs hcle
                          go_wp2_with fail
                          (with_reducible refine hE2.out.mono ?_)
                          rintro e w8 ⟨gb, cb, rfl, hVb, hb8⟩
                          have hLR8 := hLR5.out.over hb8
                          have hVa8 := hVa5.out.over hb8
                          have hbw8 := hbw5.out.trans (hb8.mono hbw5.out.size)
                          have hw8 := hbw8.size
                          replace hLR8 := Lib.hid hLR8
                          replace hVa8 := Lib.hid hVa8
                          replace hbw8 := Lib.hid hbw8
                          replace hVb := Lib.hid hVb
                          clear hLR5 hVa5 hbw5 hb8 hE2
                          go_wp2_with fail
                          go_loopw [261] (fun iw wr => ∃ k : Nat, k ≤ mr ∧ iw = .int .i64 (k : Int) ∧ Below w8.heap.size w8 wr) (fun iw _ => mr - (intOf iw).toNat)
                          case atStart => exact ⟨0, by omega, rfl, Below.refl _ _⟩
                          case round =>
                            obtain ⟨k, hk, rfl, hbr⟩ := hrel
                            by_cases hlt : k < mr
                            · obtain ⟨gl, rfl, hgl, hcl⟩ := (hLR8.out.over hbr) (by rw [← hmr.out]; omega)
                              have d0 := hcl k (by rw [← hmr.out]; exact hlt)
                              have hkK : k < R.length := by rw [← hmr.out]; exact hlt
                              have hKk : R.getD k 0 = R[k] := by rw [List.getD_eq_getElem?_getD, List.getElem?_eq_getElem hkK]; rfl
                              have hmem := hRl.out R[k] (List.getElem_mem hkK)
                              have hf := hfin.out R[k] (List.getElem_mem hkK)
                              rw [hKk] at d0
                              obtain ⟨a, ha⟩ : ∃ a, R[k] = a := ⟨_, rfl⟩
                              rw [ha] at d0 hmem hf
                              have hIa := Is_t (some ⟨ga, 0, none⟩) ca V a wr (hVa8.out.over hbr) (by rw [hvl1.out]; omega) (by omega)
                              have hIb := fun q => Is_t (some ⟨gb, 0, none⟩) cb V2 a (wr.drewN q) ((hVb.out.over hbr).over (bdn wr q)) (by rw [hvl2.out]; omega) (by omega)
                              rw [hvl1.out] at hIa
                              rw [hvl2.out, hf] at hIb
                              unfold dnq at hIa hIb
                              have hb9 : ∀ q, Below w8.heap.size w8 (wr.drewN q) := fun q => ⟨hbr.1, hbr.2, hbr.3, hbr.4, hbr.5⟩
                              obtain ⟨x, hx⟩ : ∃ x, isV V a = x := ⟨_, rfl⟩
                              rw [hx] at hIa hIb
                              replace hIa := Lib.hid hIa
                              replace hIb := Lib.hid hIb
                              replace hb9 := Lib.hid hb9
                              clear hx hf ha hKk hkK hcl hbr
                              go_wp2_with fail
                              (with_reducible refine hIa.out.mono ?_)
                              rintro e w9 ⟨rfl, q1, hw9⟩
                              subst hw9
                              go_wp2_with fail
                              (with_reducible refine (hIb.out q1).mono ?_)
                              rintro e w9 ⟨rfl, q2, hw9⟩
                              subst hw9
                              go_wp2_with fail
                              go_roundw
                              case rel => exact ⟨k + 1, by omega, by go_num, hb9.out _⟩
                              case measure => simp [intOf]; omega
                            · have hbf := hbw8.out.trans (hbr.mono hw8)
                              replace hbf := Lib.hid hbf
                              clear hbr
                              go_wp2_with fail
                              go_ret
                              exact ⟨rfl, hbf.out⟩
end Go.Proofs.Ytinfkjflomdhbaa
