/-
  VcdMany: the walk.
-/
import Derived.Test.YtbmdnmjgijblpaaDoorE44
namespace Go.Proofs.YtbmdnmjgijblpaaDoor
open Go Go.RowKit Go.Lib Go.Maps
theorem info_row' : (Tryd.prog.info? 27).map (fun i => (i.zero, i.size, i.bytes)) = some (some (.slice none 0 0), 1, 24) := by kernel_rfl
theorem mod3 (k : Nat) (_h : k ≤ 303) : ((1 + k % 3 : Nat) : Int) = 1 + (k : Int) % 3 ∧ 1 ≤ 1 + k % 3 ∧ 1 + k % 3 ≤ 3 := by omega
set_option maxRecDepth 100000 in
set_option maxHeartbeats 12800000 in
theorem VcdMany_t (vars times : Int) (N M : Nat) (hN : max 0 (min vars 303) = (N : Int)) (hM : max 0 (min times 203) = (M : Int)) (w : World) (hT : LT w) : Calls Tryd.prog 3 #[.int .i64 vars, .int .i64 times] w fun e w' => e = .returned (.bool true) ∧ Below w.heap.size w w' := by
  obtain ⟨iv, hiv, hv0, hv1, hv2⟩ := info_parts info_var
  obtain ⟨ic, hic, hc0, hc1, hc2⟩ := info_parts info_vec
  obtain ⟨ir, hir, hr0, hr1, hr2⟩ := info_parts info_row'
  have hN3 : N ≤ 303 := by omega
  have hM3 : M ≤ 203 := by omega
  have hA := Lib.hid (awake25_t w hT)
  replace hT := Lib.hid hT
  go_enter Tryd.func3, Tryd.ntmps3
  go_wp2_with fail
  (with_reducible refine hA.out.mono ?_)
  rintro e w1 ⟨rfl, hb1⟩
  clear hA
  go_upto_region 4 with fail
  have hM0 : MS w w1.heap.size 0 0 0 (.slice none 0 0) (.slice none 0 0) (.slice none 0 0) (w1.alloc (.cells #[.string ⟨#[116]⟩, .slice none 0 0, .slice none 0 0] 26)) :=
    ⟨hb1.size, cv_new .., World.ownsRow_nil _ _ _ _, World.ownsRow_nil _ _ _ _, World.ownsRow_nil _ _ _ _, below_step hb1 (vnew _ _)⟩
  obtain ⟨w2, hw2⟩ : ∃ W, w1.alloc (.cells #[.string ⟨#[116]⟩, .slice none 0 0, .slice none 0 0] 26) = W := ⟨_, rfl⟩
  obtain ⟨b5, hb5⟩ : ∃ g, w1.heap.size = g := ⟨_, rfl⟩
  rw [hw2, hb5] at hM0
  replace hM0 := Lib.hid hM0
  replace hw2 := Lib.hid hw2
  replace hb5 := Lib.hid hb5
  clear hb1
  go_wp2_with fail
  rw [hw2.out, hb5.out]
  clear hw2 hb5
  go_loopw [6, 26] (fun lv i wr => ∃ (k : Nat) (Av : Option Addr) (cv : Nat) (Al : Option Addr) (cl : Nat), k ≤ N ∧ i = .int .i64 (k : Int) ∧ lv = .slice Al k cl ∧ Hid (MS w b5 k k 0 (.slice Av k cv) (.slice Al k cl) (.slice none 0 0) wr)) (fun _ i _ => N - (RowKit.intOf i).toNat)
  case atStart => exact ⟨0, none, 0, none, 0, Nat.zero_le _, rfl, rfl, hM0⟩
  case round =>
    obtain ⟨k, Av, cv, Al, cl, hk, rfl, rfl, hS⟩ := hrel
    clear hM0
    by_cases hlt : k < N
    · obtain ⟨hm3, hm1, hm2⟩ := mod3 k (by omega)
      obtain ⟨u, hu⟩ : ∃ u, 1 + k % 3 = u := ⟨_, rfl⟩
      have hId := rId_t k (by omega)
      have hcat := bt_cons 118 (idL k)
      have hz : (bt (idL k)).size ≤ 100 := by show (idL k).length ≤ _; have := idL_len k; omega
      obtain ⟨S, hSe⟩ : ∃ S, bt (idL k) = S := ⟨_, rfl⟩
      obtain ⟨S2, hSe2⟩ : ∃ S, bt (118 :: idL k) = S := ⟨_, rfl⟩
      rw [hSe] at hz
      rw [hSe, hSe2] at hcat
      simp only [hSe] at hId
      have t1 : ¬ 9223372036854775807 < 1 + S.size := by omega
      have hstep : ∀ W, Below wr.heap.size wr W → (W.cell? ⟨b5, 1, none⟩ = some (.slice Av k cv) ∧ b5 < W.heap.size) ∧ Hid ((W.alloc (.cells #[.string S2, iz (u : Int)] 30)).ownsRow w.heap.size 30 2 (.slice Av k cv) k (vcells (mvs k)) ∧ w.heap.size ≤ (W.alloc (.cells #[.string S2, iz (u : Int)] 30)).heap.size ∧ ∀ w6 g cap, w6.ownsRow w.heap.size 30 2 (.slice (some ⟨g, 0, none⟩) (k + 1) cap) (k + 1) (vcells (mvs k) ++ [.string S2, iz (u : Int)]) → (W.alloc (.cells #[.string S2, iz (u : Int)] 30)).grownBy w6 (Value.slice Av k cv).ownBlock → (w6.cell? ⟨b5, 1, none⟩ = some (.slice Av k cv) ∧ b5 < w6.heap.size ∧ w6.frozen? ⟨b5, 1, none⟩ = false) ∧ MS w b5 (k + 1) k 0 (.slice (some ⟨g, 0, none⟩) (k + 1) cap) (.slice Al k cl) (.slice none 0 0) (w6.setCell ⟨b5, 1, none⟩ (.slice (some ⟨g, 0, none⟩) (k + 1) cap))) := fun W hb => by
        have h1 := hS.out.over hb
        have h2 := h1.over (vnew W (.cells #[.string S2, iz (u : Int)] 30))
        refine ⟨⟨h1.c.c 1, h1.c.lt⟩, Lib.hid ⟨h2.rv, h2.sz, fun w6 g cap ho hg => ⟨?_, ?_⟩⟩⟩
        · have c1 : CV w6 b5 _ 26 := (hg.block b5 h2.c.lt (cv_no h2.c h2.rv (by decide))).trans h2.c
          exact ⟨c1.c 1, c1.lt, c1.fz 1⟩
        · rw [← hSe2, ← hu] at ho
          exact h2.var ho hg
      have hs1 : (1 : Int) + (k : Int) % 3 = (u : Int) := by rw [← hm3, hu]
      obtain ⟨r3, hr3⟩ : ∃ r, k % 3 = r := ⟨_, rfl⟩
      have hs2 : (k : Int).tmod 3 = (r3 : Int) := by rw [Int.tmod_eq_emod_of_nonneg (by omega)]; omega
      have hs3 : IntKind.i64.wrap (1 + (r3 : Int)) = (u : Int) := by
        rw [show (1 : Int) + (r3 : Int) = (u : Int) from by omega]
        exact IntWalk.i64_in _ (by omega)
      clear hr3
      have hx1 : k + 1 ≤ maxLen := by unfold maxLen; omega
      have hx2 : (k + 1) * 24 ≤ 140737488355328 := by omega
      have hone : ∀ x ∈ [Value.string S2, iz (u : Int)], x.oneCell' = true := by simp [Value.oneCell']
      obtain ⟨⟨k1, kl⟩, _⟩ := hstep wr (Below.refl _ _)
      have hbd : Below wr.heap.size wr wr.drew := (Below.refl _ wr).drew
      replace hId := Lib.hid hId
      replace hstep := Lib.hid hstep
      replace hx1 := Lib.hid hx1
      replace hx2 := Lib.hid hx2
      replace hone := Lib.hid hone
      replace hbd := Lib.hid hbd
      clear hS hSe hSe2 hm3
      go_upto_region 9 with fail
      go_region_law
        (first
          | (go_simp; go_at_call 5; (with_reducible refine (hId.out _).mono ?_); rintro e w7 ⟨rfl, hb7⟩; obtain ⟨⟨kk1, kkl⟩, hA7⟩ := hstep.out w7 (below_step hbd.out hb7); have hsz7 : (w7.alloc (Obj.cells #[.string S2, iz (u : Int)] 30)).heap.size = w7.heap.size + 1 := (by simp); have hnw7 := World.news_of_block (heap_alloc_new w7 (Obj.cells #[.string S2, iz (u : Int)] 30)); replace hsz7 := Lib.hid hsz7; replace hnw7 := Lib.hid hnw7; clear hb7; go_wp2_with fail)
          | (refine step_append_lies _ rfl (.tmp 30) (.tmp 38) 23 rfl w.heap.size 30 iv (.agg #[.string ⟨#[]⟩, .int .i64 0]) 2 24 Tryd.underlying23 hiv hv0 hv1 hv2 rfl (by decide) (.slice Av k cv) k (vcells (mvs k)) rfl hA7.out.1 ⟨w7.heap.size, 0, none⟩ 1 1 [.string S2, iz (u : Int)] rfl rfl hnw7.out hone.out (by decide) hx1.out hx2.out hA7.out.2.1 (w7.heap.size + 1) hsz7.out ?_; intro g2 cap w6 ho6 hg6 hgb hlt6; obtain ⟨⟨kk6, ql6, qf6⟩, hE6⟩ := hA7.out.2.2 w6 g2 cap ho6 hg6; replace hE6 := Lib.hid hE6; clear ho6 hg6 hgb))
      all_goals (
        obtain ⟨w9, hw9⟩ : ∃ W, w6.setCell ⟨b5, 1, none⟩ (.slice (some ⟨g2, 0, none⟩) (k + 1) cap) = W := ⟨_, rfl⟩
        rw [hw9] at hE6 ⊢
        clear hw9 kk6 ql6 qf6 hlt6 kk1 kkl hnw7 hsz7 hA7 k1 kl hstep hone hbd
        have hE9 := hE6.out
        obtain ⟨X, hX⟩ : ∃ X, k % 2 ^ u = X := ⟨_, rfl⟩
        have hN : ∀ (W : World) (g : Nat), g = W.heap.size → Calls Tryd.prog 6 #[.int .i64 (u : Int), .slice (some ⟨g, 0, none⟩) 1 1] (W.alloc (.cells #[.int .u64 (k : Int)] 31)) (RV (W.alloc (.cells #[.int .u64 (k : Int)] 31)) (.tuple #[.agg #[iz (u : Int), .int .u64 ((lo X : Nat) : Int), .int .u64 ((hi X : Nat) : Int)], .int .i64 0])) := fun W g hg => by
          rw [← hX]
          exact New_one u k W g hg (by omega) (by omega) (by omega)
        unfold RV at hN
        obtain ⟨P, hP⟩ : ∃ P, (lo X : Nat) = P := ⟨_, rfl⟩
        obtain ⟨Q, hQ⟩ : ∃ P, (hi X : Nat) = P := ⟨_, rfl⟩
        rw [hP, hQ] at hN
        have hrs : rcells (mrow k) ++ [iz (u : Int), .int .u64 (P : Int), .int .u64 (Q : Int)] = rcells (mrow k) ++ [iz ((1 + k % 3 : Nat) : Int), .int .u64 ((lo (k % 2 ^ (1 + k % 3)) : Nat) : Int), .int .u64 ((hi (k % 2 ^ (1 + k % 3)) : Nat) : Int)] := by rw [hu, hX, hP, hQ]
        have hfin : ∀ w10, Below (w9.alloc (.cells #[.int .u64 (k : Int)] 31)).heap.size (w9.alloc (.cells #[.int .u64 (k : Int)] 31)) w10 → (((w10.alloc (.cells #[iz (u : Int), .int .u64 (P : Int), .int .u64 (Q : Int)] 34)).alloc (.cells #[iz (u : Int), .int .u64 (P : Int), .int .u64 (Q : Int)] 34)).ownsRow w.heap.size 34 3 (.slice Al k cl) k (rcells (mrow k)) ∧ w.heap.size ≤ ((w10.alloc (.cells #[iz (u : Int), .int .u64 (P : Int), .int .u64 (Q : Int)] 34)).alloc (.cells #[iz (u : Int), .int .u64 (P : Int), .int .u64 (Q : Int)] 34)).heap.size) ∧ ∀ w6 g cap2, w6.ownsRow w.heap.size 34 3 (.slice (some ⟨g, 0, none⟩) (k + 1) cap2) (k + 1) (rcells (mrow k) ++ [iz (u : Int), .int .u64 (P : Int), .int .u64 (Q : Int)]) → ((w10.alloc (.cells #[iz (u : Int), .int .u64 (P : Int), .int .u64 (Q : Int)] 34)).alloc (.cells #[iz (u : Int), .int .u64 (P : Int), .int .u64 (Q : Int)] 34)).grownBy w6 (Value.slice Al k cl).ownBlock → MS w b5 (k + 1) (k + 1) 0 (.slice (some ⟨g2, 0, none⟩) (k + 1) cap) (.slice (some ⟨g, 0, none⟩) (k + 1) cap2) (.slice none 0 0) w6 := fun w10 hb => by
          have h2 := hE9.over (below_step (below_step (below_step (vnew w9 (.cells #[.int .u64 (k : Int)] 31)) hb) (vnew w10 (.cells #[iz (u : Int), .int .u64 (P : Int), .int .u64 (Q : Int)] 34))) (vnew _ (.cells #[iz (u : Int), .int .u64 (P : Int), .int .u64 (Q : Int)] 34)))
          refine ⟨⟨h2.rl, h2.sz⟩, fun w6 g cap2 ho hg => ?_⟩
          rw [hrs] at ho
          exact h2.vec ho hg
        have hone : ∀ v ∈ ([iz (u : Int), .int .u64 (P : Int), .int .u64 (Q : Int)] : List Value), v.oneCell' = true := by simp [Value.oneCell']
        replace hN := Lib.hid hN
        replace hfin := Lib.hid hfin
        replace hone := Lib.hid hone
        clear hE6 hE9 hX hP hQ hrs
        go_wp2_with fail
        (with_reducible refine (hN.out _ _ rfl).mono ?_)
        rintro e w10 ⟨rfl, hb10⟩
        obtain ⟨⟨hown, hbs⟩, hfi⟩ := hfin.out w10 hb10
        have hR := heap_alloc_new (w10.alloc (.cells #[iz (u : Int), .int .u64 (P : Int), .int .u64 (Q : Int)] 34)) (.cells #[iz (u : Int), .int .u64 (P : Int), .int .u64 (Q : Int)] 34)
        have s1 : (w10.alloc (.cells #[iz (u : Int), .int .u64 (P : Int), .int .u64 (Q : Int)] 34)).heap.size = w10.heap.size + 1 := by simp
        rw [s1] at hR
        replace hown := Lib.hid hown
        replace hbs := Lib.hid hbs
        replace hfi := Lib.hid hfi
        replace hR := Lib.hid hR
        clear hN hfin hb10 s1
        go_upto_region 11 with fail
        go_wp2_with (first
          | (at_builtin; refine wpList_append_lies _ rfl _ _ 27 rfl w.heap.size 34 ic (.agg #[.int .i64 0, .int .u64 0, .int .u64 0]) 3 24 Tryd.underlying27 hic hc0 hc1 hc2 rfl (by decide) (.slice Al k cl) k (rcells (mrow k)) rfl hown.out ⟨w10.heap.size + 1, 0, none⟩ 1 1 [iz (u : Int), .int .u64 (P : Int), .int .u64 (Q : Int)] rfl rfl (World.news_of_block hR.out) hone.out (by decide) hx1.out hx2.out hbs.out _ rfl ?_; intro g6 cap6 w11 ho6 hg6 hgb6 hlt6; have hE11 := Lib.hid (hfi.out w11 g6 cap6 ho6 hg6); clear ho6 hg6 hgb6 hlt6)
          | fail)
        clear hown hbs hfi hR hone
        go_roundw
        case rel => exact ⟨k + 1, _, cap, _, cap6, by omega, by go_num, rfl, hE11⟩
        case measure => simp [RowKit.intOf]; omega)
    · obtain rfl : k = N := by omega
      have hS0 := hS
      clear hS
      go_wp2_with fail
      go_loopw [57] (fun i wr2 => ∃ (m : Nat) (As : Option Addr) (cs : Nat), m ≤ M ∧ i = .int .i64 (m : Int) ∧ Hid (MS w b5 k k m (.slice Av k cv) (.slice Al k cl) (.slice As m cs) wr2)) (fun i _ => M - (RowKit.intOf i).toNat)
      case atStart => exact ⟨0, none, 0, Nat.zero_le _, rfl, hS0⟩
      case round =>
        obtain ⟨m, As, cs, hm, rfl, hS⟩ := hrel
        clear hS0
        by_cases hlt2 : m < M
        · have hb1 := vnew wr (.cells #[.slice Al k cl] 27)
          have h1 := hS.out.over hb1
          have k2 : wr.cell? ⟨b5, 2, none⟩ = some (.slice As m cs) := hS.out.c.c 2
          have kl := hS.out.c.lt
          have hR := World.news_of_block (heap_alloc_new wr (.cells #[.slice Al k cl] 27))
          have hown := h1.rs
          have hbs := h1.sz
          have hfi : ∀ w6 g cap, w6.ownsRow w.heap.size 27 1 (.slice (some ⟨g, 0, none⟩) (m + 1) cap) (m + 1) (List.replicate m (.slice Al k cl) ++ [.slice Al k cl]) → (wr.alloc (.cells #[.slice Al k cl] 27)).grownBy w6 (Value.slice As m cs).ownBlock → (w6.cell? ⟨b5, 2, none⟩ = some (.slice As m cs) ∧ b5 < w6.heap.size ∧ w6.frozen? ⟨b5, 2, none⟩ = false) ∧ Hid (MS w b5 k k (m + 1) (.slice Av k cv) (.slice Al k cl) (.slice (some ⟨g, 0, none⟩) (m + 1) cap) (w6.setCell ⟨b5, 2, none⟩ (.slice (some ⟨g, 0, none⟩) (m + 1) cap))) := fun w6 g cap ho hg => by
            have c1 : CV w6 b5 _ 26 := (hg.block b5 h1.c.lt (cv_no h1.c h1.rs (by decide))).trans h1.c
            exact ⟨⟨c1.c 2, c1.lt, c1.fz 2⟩, Lib.hid (h1.time ho hg)⟩
          have hx1 : m + 1 ≤ maxLen := by unfold maxLen; omega
          have hx2 : (m + 1) * 24 ≤ 140737488355328 := by omega
          have hone : ∀ v ∈ [Value.slice Al k cl], v.oneCell' = true := by simp [Value.oneCell']
          replace hown := Lib.hid hown
          replace hbs := Lib.hid hbs
          replace hfi := Lib.hid hfi
          replace hR := Lib.hid hR
          replace hx1 := Lib.hid hx1
          replace hx2 := Lib.hid hx2
          replace hone := Lib.hid hone
          clear hS h1 hb1
          go_wp2_with (first
            | (at_builtin; refine wpList_append_lies _ rfl _ _ 24 rfl w.heap.size 27 ir (.slice none 0 0) 1 24 Tryd.underlying24 hir hr0 hr1 hr2 rfl (by decide) (.slice As m cs) m (List.replicate m (.slice Al k cl)) rfl hown.out ⟨wr.heap.size, 0, none⟩ 1 1 [.slice Al k cl] rfl rfl hR.out hone.out (by decide) hx1.out hx2.out hbs.out _ rfl ?_; intro g6 cap6 w11 ho6 hg6 hgb6 hlt6; obtain ⟨⟨kk2, kkl, kkf⟩, hE11⟩ := hfi.out w11 g6 cap6 ho6 hg6; clear ho6 hg6 hgb6 hlt6)
            | fail)
          clear hown hbs hfi hR hone
          go_roundw
          case rel => exact ⟨m + 1, _, cap6, by omega, by go_num, hE11⟩
          case measure => simp [RowKit.intOf]; omega
        · obtain rfl : m = M := by omega
          obtain ⟨_, _, e1, hV⟩ := hS.out.rvs
          cases e1
          obtain ⟨_, _, e2, hR⟩ := hS.out.rm
          cases e2
          have hlow := hS.out.low
          have hck := mchk k m (by omega)
          have hrl : (mrows k m).length = m := List.length_replicate ..
          have hW := Write_t [116] (mvs k) (mrows k m) _ _ cv cs wr (hT.out.on hlow) hV hR (by decide) (fun x hx => by
            obtain ⟨i, hi, rfl⟩ := List.mem_map.1 hx
            have := idL_len i
            have := List.mem_range.1 hi
            show (118 :: idL i).length ≤ _
            simp
            omega) (by rw [mvs_len]; omega) (by rw [hrl]; omega) (fun r hr => by rw [(List.mem_replicate.1 hr).2, mrow_len]; omega) (mrows_ok k m)
          unfold WRV at hW
          rw [hck, mvs_len, hrl] at hW
          have hg5 := hS.out.c
          have k0 : wr.cell? ⟨b5, 0, none⟩ = some (.string ⟨#[116]⟩) := hg5.c 0
          have k1 : wr.cell? ⟨b5, 1, none⟩ = some (.slice Av k cv) := hg5.c 1
          have k2 : wr.cell? ⟨b5, 2, none⟩ = some (.slice As m cs) := hg5.c 2
          have kl := hg5.lt
          by_cases hlim : 300 < k ∨ 200 < m
          · rw [if_pos hlim, if_neg (by decide)] at hW
            replace hW : Calls Tryd.prog 7 #[.agg #[.string ⟨#[116]⟩, .slice Av k cv, .slice As m cs]] wr fun e w' => e = .returned (.tuple #[.string ⟨#[]⟩, .int .i64 19]) ∧ Below wr.heap.size wr w' := hW
            replace hW := Lib.hid hW
            replace hlow := Lib.hid hlow
            clear hS hV hR hck hrl hg5 hT
            by_cases h1 : 300 < k
            · clear hlim
              go_wp2_with fail
              (with_reducible refine hW.out.mono ?_)
              rintro e w20 ⟨rfl, hb20⟩
              have hL := Lib.hid (below_step hlow.out hb20)
              clear hW hb20 k0 k1 k2 kl
              go_wp2_with fail
              go_ret
              exact ⟨rfl, hL.out⟩
            · have h2 : 200 < m := by omega
              clear hlim
              go_wp2_with fail
              (with_reducible refine hW.out.mono ?_)
              rintro e w20 ⟨rfl, hb20⟩
              have hL := Lib.hid (below_step hlow.out hb20)
              clear hW hb20 k0 k1 k2 kl
              go_wp2_with fail
              go_ret
              exact ⟨rfl, hL.out⟩
          · rw [if_neg hlim, if_pos rfl] at hW
            have hk3 : k ≤ 300 := by omega
            have hm2' : m ≤ 200 := by omega
            have hck0 : chkF [116] (mvs k) (mrows k m) = 0 := by rw [hck, if_neg hlim]
            have hRd := fun W => Read_dump hck0 (mrows_ok k m) (mlen k m hck0 hk3 hm2') W
            unfold RDP at hRd
            obtain ⟨D, hD⟩ : ∃ D, bt (dumpT [116] (mvs k) (mrows k m)) = D := ⟨_, rfl⟩
            simp only [hD] at hRd hW
            have hW' : Calls Tryd.prog 7 #[.agg #[.string ⟨#[116]⟩, .slice Av k cv, .slice As m cs]] wr fun e w' => e = .returned (.tuple #[.string D, .int .i64 0]) ∧ Below wr.heap.size wr w' := hW
            replace hW' := Lib.hid hW'
            replace hRd := Lib.hid hRd
            replace hlow := Lib.hid hlow
            have n1 : ¬ 300 < k := by omega
            have n2 : ¬ 200 < m := by omega
            replace hrl := Lib.hid hrl
            clear hR hV hck hg5 hT hW hD hck0 hlim
            go_wp2_with fail
            (with_reducible refine hW'.out.mono ?_)
            rintro e w20 ⟨rfl, hb20⟩
            have hS20 := hS.out.over hb20
            have hC := Lib.hid (hRd.out w20)
            replace hS20 := Lib.hid hS20
            clear hW' hRd hb20 k0 k1 k2 kl hS hlow
            go_wp2_with fail
            (with_reducible refine hC.out.mono ?_)
            rintro e w21 ⟨v9, vals9, mm, nn, DD, rv, rfl, hdx, htx, hb21⟩
            obtain ⟨A7, c7, e7, hV7⟩ := hdx.rv
            obtain ⟨A8, c8, e8, hR8⟩ := htx.rm
            rw [mvs_len] at e7
            rw [hrl.out] at e8
            subst e7 e8
            have hS21 := hS20.out.over hb21
            have hb22 := vnew w21 (.cells #[.string (bt [116]), .slice A7 k c7, .slice A8 m c8] 26)
            have hg22 := cv_new w21 #[.string (bt [116]), .slice A7 k c7, .slice A8 m c8] 26
            have hS22 := hS21.over hb22
            have hV22 := hV7.over hb22
            have hR22 := hR8.low hb22
            obtain ⟨w22, hw22⟩ : ∃ W, w21.alloc (.cells #[.string (bt [116]), .slice A7 k c7, .slice A8 m c8] 26) = W := ⟨_, rfl⟩
            obtain ⟨b12, hb12⟩ : ∃ g, w21.heap.size = g := ⟨_, rfl⟩
            rw [hw22] at hg22 hS22 hV22 hR22
            rw [hb12] at hg22
            have q1 : w22.cell? ⟨b12, 1, none⟩ = some (.slice A7 k c7) := hg22.c 1
            have q2 : w22.cell? ⟨b12, 2, none⟩ = some (.slice A8 m c8) := hg22.c 2
            have ql := hg22.lt
            replace hw22 := Lib.hid hw22
            replace hb12 := Lib.hid hb12
            replace hg22 := Lib.hid hg22
            replace hS22 := Lib.hid hS22
            replace hV22 := Lib.hid hV22
            replace hR22 := Lib.hid hR22
            clear hC hdx htx hb21 hb22 hS21 hV7 hR8 hS20
            go_upto_region 21 with fail
            rw [hw22.out, hb12.out]
            clear hw22 hb12
            go_wp2_with fail
            clear q1 q2 ql
            go_loopw [110] (fun i wr3 => ∃ j : Nat, j ≤ k ∧ i = .int .i64 (j : Int) ∧ Hid (Below w22.heap.size w22 wr3)) (fun i _ => k - (RowKit.intOf i).toNat)
            case atStart => exact ⟨0, Nat.zero_le _, rfl, Lib.hid (Below.refl _ _)⟩
            case round =>
              obtain ⟨j, hj, rfl, hbw⟩ := hrel
              by_cases hlt3 : j < k
              · have hSw := hS22.out.over hbw.out
                obtain ⟨_, _, e1, hVo⟩ := hSw.rvs
                cases e1
                obtain ⟨_, _, e2, hLo⟩ := own_rd3 hSw.rl (mrow_len k).symm
                cases e2
                have hVb := hV22.out.over hbw.out
                have hRb := hR22.out.low hbw.out
                have hgb := hg22.out.over hbw.out
                have hjv : j < (mvs k).length := by rw [mvs_len]; exact hlt3
                obtain ⟨b7, rfl, hb7, hc7⟩ := hVb (by omega)
                obtain ⟨bv, rfl, hbv, hcv⟩ := hVo (by omega)
                obtain ⟨bl, rfl, hbl, hcl⟩ := hLo (by rw [mrow_len]; omega)
                have hx := mvs_get hlt3
                have hy := mrow_get hlt3
                obtain ⟨x0, x1⟩ := hc7 j _ hx
                obtain ⟨y0, y1⟩ := hcv j _ hx
                obtain ⟨l0, l1, l2⟩ := hcl j _ hy
                obtain ⟨S, hSe⟩ : ∃ S, bt (mvr j).1 = S := ⟨_, rfl⟩
                obtain ⟨u, hue⟩ : ∃ u, (mvr j).2 = u := ⟨_, rfl⟩
                obtain ⟨n1, hn1⟩ : ∃ u, (mvc j).1 = u := ⟨_, rfl⟩
                obtain ⟨P, hP⟩ : ∃ P, (lo (mvc j).2 : Nat) = P := ⟨_, rfl⟩
                obtain ⟨Q, hQ⟩ : ∃ P, (hi (mvc j).2 : Nat) = P := ⟨_, rfl⟩
                have hne := neq_var S (u : Int)
                have hgd := guard_var
                have hEq : ∀ W, Calls Tryd.prog 9 #[.agg #[iz (n1 : Int), .int .u64 (P : Int), .int .u64 (Q : Int)], .agg #[iz (n1 : Int), .int .u64 (P : Int), .int .u64 (Q : Int)]] W fun e w' => e = .returned (.bool true) ∧ Below W.heap.size W w' := fun W => by
                  have h := Equal_v (mvc j).1 (mvc j).2 (mvc j).1 (mvc j).2 W
                  have e : eqB (mvc j).1 (mvc j).2 (mvc j).1 (mvc j).2 = true := by simp [eqB]
                  rw [e] at h
                  rw [← hn1, ← hP, ← hQ]
                  exact h
                rw [hSe] at x0 y0
                rw [hue] at x1 y1
                rw [hn1] at l0
                rw [hP] at l1
                rw [hQ] at l2
                have hS1 : ∀ W, Below wr.heap.size wr W → W.cell? ⟨b12, 1, none⟩ = some (.slice (some ⟨b7, 0, none⟩) k c7) ∧ b12 < W.heap.size ∧ W.cell? ⟨b7, j * 2, none⟩ = some (.string S) ∧ W.cell? ⟨b7, j * 2 + 1, none⟩ = some (iz (u : Int)) ∧ b7 < W.heap.size ∧ W.cell? ⟨b5, 1, none⟩ = some (.slice (some ⟨bv, 0, none⟩) k cv) ∧ b5 < W.heap.size ∧ W.cell? ⟨bv, j * 2, none⟩ = some (.string S) ∧ W.cell? ⟨bv, j * 2 + 1, none⟩ = some (iz (u : Int)) ∧ bv < W.heap.size := fun W hb => ⟨(hb.cell (p := ⟨b12, _, none⟩) hgb.lt).trans (hgb.c 1), Nat.lt_of_lt_of_le hgb.lt hb.size, (hb.cell (p := ⟨b7, _, none⟩) hb7).trans x0, (hb.cell (p := ⟨b7, _, none⟩) hb7).trans x1, Nat.lt_of_lt_of_le hb7 hb.size, (hb.cell (p := ⟨b5, _, none⟩) hSw.c.lt).trans (hSw.c.c 1), Nat.lt_of_lt_of_le hSw.c.lt hb.size, (hb.cell (p := ⟨bv, _, none⟩) hbv).trans y0, (hb.cell (p := ⟨bv, _, none⟩) hbv).trans y1, Nat.lt_of_lt_of_le hbv hb.size⟩
                have hI2 : ∀ W, Below wr.heap.size wr W → Hid (Below w22.heap.size w22 W) := fun W hb => Lib.hid (below_step hbw.out hb)
                rcases Nat.eq_zero_or_pos m with hm0 | hm0
                · obtain ⟨a1, a2, a3, a4, a5, a6, a7, a8, a9, a10⟩ := hS1 wr (Below.refl _ _)
                  have d1 : ¬ 0 < m := by omega
                  have d2 : decide (0 < m) = false := by simp; omega
                  have d3 : decide ((0 : Int) < (m : Int)) = false := by simp; omega
                  have hI3 := fun n => hI2 (wr.drewN n) (vbdn wr n)
                  replace hI3 := Lib.hid hI3
                  replace hm0 := Lib.hid hm0
                  clear hbw hSw hVo hLo hVb hRb hgb hc7 hcv hcl hx hy x0 x1 y0 y1 l0 l1 l2 hEq hS1 hI2 hb7 hbv hbl hSe hue hn1 hP hQ hjv d2 d3
                  go_wp2_with fail
                  go_quiet (fail)
                  clear a1 a2 a3 a4 a5 a6 a7 a8 a9 a10 hne hgd d1
                  go_wp2_with fail
                  go_roundw
                  case rel => exact ⟨j + 1, by omega, by go_num, hI3.out _⟩
                  case measure => simp [RowKit.intOf]; omega
                · have hrl' : (mrows k m).length = m := List.length_replicate ..
                  obtain ⟨b8, rfl, hb8, hc8⟩ := hRb (by rw [hrl']; omega)
                  obtain ⟨p, hp⟩ : ∃ p, m - 1 = p := ⟨_, rfl⟩
                  obtain ⟨A9, c9, r0, hRD9⟩ := hc8 p (mrow k) (by unfold mrows; rw [List.getElem?_replicate, if_pos (by omega)])
                  rw [mrow_len] at r0
                  obtain ⟨b9, rfl, hb9, hc9⟩ := hRD9 (by rw [mrow_len]; omega)
                  obtain ⟨z0, z1, z2⟩ := hc9 j _ hy
                  rw [hn1] at z0
                  rw [hP] at z1
                  rw [hQ] at z2
                  have hS2 : ∀ W, Below wr.heap.size wr W → W.cell? ⟨b12, 2, none⟩ = some (.slice (some ⟨b8, 0, none⟩) m c8) ∧ W.cell? ⟨b8, p, none⟩ = some (.slice (some ⟨b9, 0, none⟩) k c9) ∧ b8 < W.heap.size ∧ W.cell? ⟨b9, j * 3, none⟩ = some (iz (n1 : Int)) ∧ W.cell? ⟨b9, j * 3 + 1, none⟩ = some (.int .u64 (P : Int)) ∧ W.cell? ⟨b9, j * 3 + 2, none⟩ = some (.int .u64 (Q : Int)) ∧ b9 < W.heap.size ∧ W.cell? ⟨bl, j * 3, none⟩ = some (iz (n1 : Int)) ∧ W.cell? ⟨bl, j * 3 + 1, none⟩ = some (.int .u64 (P : Int)) ∧ W.cell? ⟨bl, j * 3 + 2, none⟩ = some (.int .u64 (Q : Int)) ∧ bl < W.heap.size := fun W hb => ⟨(hb.cell (p := ⟨b12, _, none⟩) hgb.lt).trans (hgb.c 2), (hb.cell (p := ⟨b8, _, none⟩) hb8).trans r0, Nat.lt_of_lt_of_le hb8 hb.size, (hb.cell (p := ⟨b9, _, none⟩) hb9).trans z0, (hb.cell (p := ⟨b9, _, none⟩) hb9).trans z1, (hb.cell (p := ⟨b9, _, none⟩) hb9).trans z2, Nat.lt_of_lt_of_le hb9 hb.size, (hb.cell (p := ⟨bl, _, none⟩) hbl).trans l0, (hb.cell (p := ⟨bl, _, none⟩) hbl).trans l1, (hb.cell (p := ⟨bl, _, none⟩) hbl).trans l2, Nat.lt_of_lt_of_le hbl hb.size⟩
                  have hS3 : ∀ W, Below wr.heap.size wr W → W.cell? ⟨b12, 1, none⟩ = some (.slice (some ⟨b7, 0, none⟩) k c7) ∧ b12 < W.heap.size ∧ W.cell? ⟨b7, j * 2, none⟩ = some (.string S) ∧ W.cell? ⟨b7, j * 2 + 1, none⟩ = some (iz (u : Int)) ∧ b7 < W.heap.size ∧ W.cell? ⟨b5, 1, none⟩ = some (.slice (some ⟨bv, 0, none⟩) k cv) ∧ b5 < W.heap.size ∧ W.cell? ⟨bv, j * 2, none⟩ = some (.string S) ∧ W.cell? ⟨bv, j * 2 + 1, none⟩ = some (iz (u : Int)) ∧ bv < W.heap.size ∧ W.cell? ⟨b12, 2, none⟩ = some (.slice (some ⟨b8, 0, none⟩) m c8) ∧ W.cell? ⟨b8, p, none⟩ = some (.slice (some ⟨b9, 0, none⟩) k c9) ∧ b8 < W.heap.size ∧ W.cell? ⟨b9, j * 3, none⟩ = some (iz (n1 : Int)) ∧ W.cell? ⟨b9, j * 3 + 1, none⟩ = some (.int .u64 (P : Int)) ∧ W.cell? ⟨b9, j * 3 + 2, none⟩ = some (.int .u64 (Q : Int)) ∧ b9 < W.heap.size ∧ W.cell? ⟨bl, j * 3, none⟩ = some (iz (n1 : Int)) ∧ W.cell? ⟨bl, j * 3 + 1, none⟩ = some (.int .u64 (P : Int)) ∧ W.cell? ⟨bl, j * 3 + 2, none⟩ = some (.int .u64 (Q : Int)) ∧ bl < W.heap.size := fun W hb => by
                    obtain ⟨a1, a2, a3, a4, a5, a6, a7, a8, a9, a10⟩ := hS1 W hb
                    exact ⟨a1, a2, a3, a4, a5, a6, a7, a8, a9, a10, hS2 W hb⟩
                  have kk0 := hS3 wr.drew ((Below.refl _ wr).drew)
                  have hbd : Below wr.heap.size wr wr.drew := (Below.refl _ wr).drew
                  have d1 : 0 < m := hm0
                  have hs1 : (m : Int) - 1 = (p : Int) := by omega
                  have hs2 : IntKind.i64.wrap (p : Int) = (p : Int) := IntWalk.i64_in _ (by omega)
                  have hs3 : IntKind.i64.wrap ((m : Int) - 1) = (p : Int) := by rw [hs1]; exact hs2
                  have hs5 : (p : Int) < (m : Int) := by omega
                  replace hS3 := Lib.hid hS3
                  replace hEq := Lib.hid hEq
                  replace hI2 := Lib.hid hI2
                  replace hbd := Lib.hid hbd
                  replace hp := Lib.hid hp
                  clear hbw hSw hVo hLo hVb hRb hgb hc7 hcv hcl hx hy x0 x1 y0 y1 l0 l1 l2 hS1 hS2 hb7 hbv hbl hSe hue hn1 hP hQ hjv hc8 hc9 r0 hRD9 z0 z1 z2 hb8 hb9 hrl' hm0
                  go_upto_region 26 with fail
                  go_region_held3 (fun W => W.cell? ⟨b12, 1, none⟩ = some (.slice (some ⟨b7, 0, none⟩) k c7) ∧ b12 < W.heap.size ∧ W.cell? ⟨b7, j * 2, none⟩ = some (.string S) ∧ W.cell? ⟨b7, j * 2 + 1, none⟩ = some (iz (u : Int)) ∧ b7 < W.heap.size ∧ W.cell? ⟨b5, 1, none⟩ = some (.slice (some ⟨bv, 0, none⟩) k cv) ∧ b5 < W.heap.size ∧ W.cell? ⟨bv, j * 2, none⟩ = some (.string S) ∧ W.cell? ⟨bv, j * 2 + 1, none⟩ = some (iz (u : Int)) ∧ bv < W.heap.size ∧ W.cell? ⟨b12, 2, none⟩ = some (.slice (some ⟨b8, 0, none⟩) m c8) ∧ W.cell? ⟨b8, p, none⟩ = some (.slice (some ⟨b9, 0, none⟩) k c9) ∧ b8 < W.heap.size ∧ W.cell? ⟨b9, j * 3, none⟩ = some (iz (n1 : Int)) ∧ W.cell? ⟨b9, j * 3 + 1, none⟩ = some (.int .u64 (P : Int)) ∧ W.cell? ⟨b9, j * 3 + 2, none⟩ = some (.int .u64 (Q : Int)) ∧ b9 < W.heap.size ∧ W.cell? ⟨bl, j * 3, none⟩ = some (iz (n1 : Int)) ∧ W.cell? ⟨bl, j * 3 + 1, none⟩ = some (.int .u64 (P : Int)) ∧ W.cell? ⟨bl, j * 3 + 2, none⟩ = some (.int .u64 (Q : Int)) ∧ bl < W.heap.size) (first | exact kk | exact kk0)
                    (first | (go_at_call 9; (with_reducible refine (hEq.out _).mono ?_); rintro e w30 ⟨rfl, hb30⟩; have hbp := below_step hbd.out hb30; have kk := hS3.out w30 hbp; replace hbp := Lib.hid hbp; clear hb30))
                  all_goals (
                    have hI3 := hI2.out _ hbp.out
                    clear kk kk0 hne hgd d1 hs1 hs2 hs3 hs5
                    go_wp2_with fail
                    go_roundw
                    case rel => exact ⟨j + 1, by omega, by go_num, hI3⟩
                    case measure => simp [RowKit.intOf]; omega)
              · obtain rfl : j = k := by omega
                have hL := Lib.hid (below_step hS22.out.low hbw.out)
                clear hbw
                go_wp2_with fail
                go_ret
                exact ⟨rfl, hL.out⟩
end Go.Proofs.YtbmdnmjgijblpaaDoor
