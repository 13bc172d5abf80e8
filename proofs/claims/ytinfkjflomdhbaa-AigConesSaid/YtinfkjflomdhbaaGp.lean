/-
  build: the graph that acts make, and the literal of each.
-/
import Derived.Test.YtinfkjflomdhbaaGn
namespace Go.Proofs.Ytinfkjflomdhbaa
open Go.RowKit Go.Lib Go.Maps
/-- The graph at p and the literals in the variable at bl. -/
structure LS (w : World) (B p bl : Nat) (F : List PN) (L : List Nat) : Prop where
  g : GI w B p F
  bB : B ≤ bl
  ex : ∃ v, BI w bl 27 v ∧ w.ownsRow B 3 1 v L.length (iv L)
section
variable {w w' : World} {B p bl : Nat} {F F' : List PN} {L : List Nat}
theorem LS.wp (h : LS w B p bl F L) (g : GI w' B p F') (k : WP p w w') : LS w' B p bl F' L := by
  obtain ⟨v, hb, ho⟩ := h.ex
  obtain ⟨v2, m, n, D, hx⟩ := h.g
  refine ⟨g, h.bB, v, hb.wp h.g k (by decide) (by decide), own_keepT ho fun b hbb => ?_⟩
  obtain ⟨cur, hc⟩ := own_blk ho b hbb
  exact k.k.block b (lt_of_get hc) (hx.other hc (by decide) (by decide))
theorem LS.over (h : LS w B p bl F L) (k : Below w.heap.size w w') : LS w' B p bl F L := by
  obtain ⟨v, hb, ho⟩ := h.ex
  exact ⟨h.g.over k, h.bB, v, hb.over k, own_keepT ho fun b hbb => k.block b (own_ltT ho b hbb).2⟩
/-- Behind the append of a literal and its store. -/
theorem LS.put {w4 w6 : World} {v : Value} {g cap x : Nat} (h : LS w B p bl F L) (hb : BI w bl 27 v) (ho : w.ownsRow B 3 1 v L.length (iv L)) (h4 : Below w.heap.size w w4) (hg : w4.grownBy w6 v.ownBlock) (hat : v.ownBlock = some g ∨ g = w4.heap.size)
    (ho6 : w6.ownsRow B 3 1 (.slice (some ⟨g, 0, none⟩) (L.length + 1) cap) (L.length + 1) (iv L ++ [.int .i64 (x : Int)])) :
    LS (w6.setCell ⟨bl, 0, none⟩ (.slice (some ⟨g, 0, none⟩) (L.length + 1) cap)) B p bl F (L ++ [x]) ∧ Below B w (w6.setCell ⟨bl, 0, none⟩ (.slice (some ⟨g, 0, none⟩) (L.length + 1) cap)) ∧ BI w6 bl 27 v := by
  have hvb : v.ownBlock ≠ some bl := fun e => by
    obtain ⟨cur, hc⟩ := own_blk ho bl e
    rw [show w.heap[bl]? = _ from hb] at hc
    cases hc
  have hb4 : BI w4 bl 27 v := hb.over h4
  have hb6 : BI w6 bl 27 v := (hg.block bl hb4.lt (fun e => hvb e.symm)).trans hb4
  have hb7 := heap_set w6 bl 0 _ _ (.slice (some ⟨g, 0, none⟩) (L.length + 1) cap) hb6
  have hgb : g ≠ bl := by
    rcases hat with e | e
    · exact fun e2 => hvb (by rw [e, e2])
    · have := hb4.lt; omega
  have hBw := h.g.bl
  obtain ⟨v2, m, n, D, hx⟩ := h.g
  have hfn : ∀ q, FT w p q → w6.heap[q]? = w.heap[q]? ∧ q ≠ bl := fun q hq => by
    have hqb : q ≠ bl := fun e => hx.other (show w.heap[bl]? = _ from hb) (by decide) (by decide) (e ▸ hq)
    refine ⟨(hg.block q (Nat.lt_of_lt_of_le (hx.lo q hq).2 h4.size) fun e => ?_).trans (h4.block q (hx.lo q hq).2), hqb⟩
    obtain ⟨cur, hc⟩ := own_blk ho q e.symm
    exact hx.other hc (by decide) (by decide) hq
  refine ⟨⟨⟨v2, m, n, D, hx.kp fun q hq => (Below.heap_setCell _ _ _ _ (hfn q hq).2).trans (hfn q hq).1⟩, h.bB, _, hb7, ?_⟩, ?_, hb6⟩
  · rw [List.length_append, iv_append]
    exact own_keepT ho6 fun b hbb => by cases hbb; exact Below.heap_setCell _ _ _ _ hgb
  · refine Below.setCell (p := ⟨bl, 0, none⟩) ?_ h.bB _
    exact (h4.mono hBw).grown hg (Nat.le_trans hBw h4.size) fun q hq => (own_ltT ho q hq).1
end
theorem info_int : (Try.prog.info? 3).map (fun i => (i.zero, i.size, i.bytes)) = some (some (.int .i64 0), 1, 8) := by kernel_rfl
/-- What build leaves. -/
def BD (w : World) (l : List AC) (e : Ending) (w' : World) : Prop := ∃ p v, e = .returned (.tuple #[pg p, v, .bool true]) ∧ GI w' w.heap.size p (bdA l).F ∧ w'.ownsRow w.heap.size 3 1 v (bdA l).L.length (iv (bdA l).L) ∧ Below w.heap.size w w'
/-- What holds ahead of an act's gate. -/
structure PRE (w W : World) (p bl k : Nat) (l : List AC) (F : List PN) (L : List Nat) : Prop where
  ls : LS W w.heap.size p bl F L
  bw : Below w.heap.size w W
  F : F = (bdA (l.take k)).F
  L : L = (bdA (l.take k)).L
set_option maxRecDepth 100000 in
set_option maxHeartbeats 6400000 in
theorem build_st (A : Option Addr) (c0 : Nat) (l : List AC) (w : World) (hA : AL w A l) (hK : ∀ x ∈ l, 0 ≤ x.k ∧ x.k < 6) (hn : l.length ≤ 120) : Calls Try.prog 9 #[.slice A l.length c0] w (BD w l) := by
  obtain ⟨i0, hi, hz0, hz1, hz2⟩ := info_parts info_int
  obtain ⟨n, hnn⟩ : ∃ n, l.length = n := ⟨_, rfl⟩
  rw [hnn] at hn ⊢
  have hNew := New_t w.heap.size w (Nat.le_refl _)
  replace hA := Lib.hid hA
  replace hK := Lib.hid hK
  replace hnn := Lib.hid hnn
  replace hNew := Lib.hid hNew
  go_enter Try.func9, Try.ntmps9
  go_wp2_with fail
  (with_reducible refine hNew.out.mono ?_)
  rintro e w1 ⟨p, rfl, hg1, hp1, hf1, hb1⟩
  have hbx := (Below.refl w1.heap.size w1).alloc (Nat.le_refl _) (.cells #[.slice none 0 0] 27)
  have hl2 : LS (w1.alloc (.cells #[.slice none 0 0] 27)) w.heap.size p w1.heap.size [(0, 0)] [] := ⟨hg1.over hbx, hb1.size, .slice none 0 0, BI.new w1 _ _, World.ownsRow_nil _ _ _ _⟩
  have hb2 : Below w.heap.size w (w1.alloc (.cells #[.slice none 0 0] 27)) := hb1.alloc hb1.size _
  obtain ⟨bl, hbl⟩ : ∃ b, w1.heap.size = b := ⟨_, rfl⟩
  rw [hbl] at hl2
  replace hl2 := Lib.hid hl2
  replace hb2 := Lib.hid hb2
  clear hg1 hp1 hf1 hb1 hbx hNew
  go_wp2_with fail
  go_loopw [20] (fun iw wr => ∃ k : Nat, k ≤ n ∧ iw = .int .i64 (k : Int) ∧ LS wr w.heap.size p bl (bdA (l.take k)).F (bdA (l.take k)).L ∧ Below w.heap.size w wr) (fun iw _ => n - (intOf iw).toNat)
  case atStart => exact ⟨0, Nat.zero_le _, rfl, by rw [List.take_zero]; exact hl2.out, hb2.out⟩
  case round =>
    obtain ⟨k, hk, rfl, hls, hbw⟩ := hrel
    clear hl2 hb2
    by_cases hlt : k < n
    · have hkl : k < l.length := by rw [hnn.out]; exact hlt
      obtain ⟨b, off, rfl, hb, hcell⟩ := hA.out.over hbw (by omega)
      obtain ⟨x0, x1, x2, x3⟩ := hcell k hkl
      have htk := take_snocA l k hkl
      have hxk := hK.out _ (List.getElem_mem hkl)
      have hso := bdA_ok (l.take k)
      have hlk : (l.take k).length = k := by rw [List.length_take]; omega
      rw [hlk] at hso
      have hst : bdA (l.take (k + 1)) = stA (bdA (l.take k)) l[k] := by rw [htk, bdA_snoc]
      obtain ⟨x, hx⟩ : ∃ x, l[k] = x := ⟨_, rfl⟩
      rw [hx] at x0 x1 x2 x3 hst hxk
      obtain ⟨s, hs⟩ : ∃ s, bdA (l.take k) = s := ⟨_, rfl⟩
      rw [hs] at hls hso hst
      obtain ⟨F, L⟩ := s
      obtain ⟨xk, xa, xb, xc⟩ := x
      simp only at x0 x1 x2 x3 hls hxk
      have hfl : F.length ≤ 361 := by have := hso.fl; simp only at this; omega
      have hll : L.length ≤ 120 := by have := hso.ln; simp only at this; omega
      have oa := hso.op xa
      have ob := hso.op xb
      have oc := hso.op xc
      have hga := hso.ga ⟨xk, xa, xb, xc⟩
      simp only at oa ob oc hga
      have hst2 : bdA (l.take (k + 1)) = ⟨(gateA F xk (opn L xa) (opn L xb) (opn L xc)).1, L ++ [(gateA F xk (opn L xa) (opn L xb) (opn L xc)).2]⟩ := hst
      have hba := (Below.refl wr.heap.size wr).alloc (Nat.le_refl _) (.cells #[.int .i64 xk, .int .i64 xa, .int .i64 xb, .int .i64 xc] 52)
      have hlu := hls.over hba
      have hbu : Below w.heap.size w (wr.alloc (.cells #[.int .i64 xk, .int .i64 xa, .int .i64 xb, .int .i64 xc] 52)) := hbw.alloc hbw.size _
      have hC1 := heap_alloc_new wr (.cells #[.int .i64 xk, .int .i64 xa, .int .i64 xb, .int .i64 xc] 52)
      have hOf : ∀ (i : Int) (q : Nat), Calls Try.prog 24 #[.int .i64 i, pt bl] ((wr.alloc (.cells #[.int .i64 xk, .int .i64 xa, .int .i64 xb, .int .i64 xc] 52)).drewN q) (RW ((wr.alloc (.cells #[.int .i64 xk, .int .i64 xa, .int .i64 xb, .int .i64 xc] 52)).drewN q) (.int .i64 ((opn L i : Nat) : Int))) := fun i q => by
        obtain ⟨v, h1, h2⟩ := hlu.ex
        exact of_t i ((wr.alloc (.cells #[.int .i64 xk, .int .i64 xa, .int .i64 xb, .int .i64 xc] 52)).drewN q) (h1.over (bdn _ q)) (own_keepT h2 fun _ _ => rfl) (by omega)
      have hOa := hOf xa
      have hOb := hOf xb
      have hOc := hOf xc
      obtain ⟨a, ha⟩ : ∃ a, opn L xa = a := ⟨_, rfl⟩
      obtain ⟨bb, hbb⟩ : ∃ a, opn L xb = a := ⟨_, rfl⟩
      obtain ⟨c, hc⟩ : ∃ a, opn L xc = a := ⟨_, rfl⟩
      rw [ha] at hOa oa hga hst2
      rw [hbb] at hOb ob hga hst2
      rw [hc] at hOc oc hga hst2
      unfold RW at hOa hOb hOc
      obtain ⟨u, hu⟩ : ∃ u, wr.alloc (.cells #[.int .i64 xk, .int .i64 xa, .int .i64 xb, .int .i64 xc] 52) = u := ⟨_, rfl⟩
      obtain ⟨ga, hga1⟩ : ∃ g, wr.heap.size = g := ⟨_, rfl⟩
      rw [hu, hga1] at hC1
      rw [hu] at hlu hbu hOa hOb hOc
      have y0 : u.cell? ⟨ga, 0, none⟩ = some (.int .i64 xk) := by rw [Lib.cell_of_heap hC1]; rfl
      have y1 : u.cell? ⟨ga, 1, none⟩ = some (.int .i64 xa) := by rw [Lib.cell_of_heap hC1]; rfl
      have y2 : u.cell? ⟨ga, 2, none⟩ = some (.int .i64 xb) := by rw [Lib.cell_of_heap hC1]; rfl
      have y3 : u.cell? ⟨ga, 3, none⟩ = some (.int .i64 xc) := by rw [Lib.cell_of_heap hC1]; rfl
      have yl := lt_of_get hC1
      obtain ⟨N, hN⟩ : ∃ N, F.length = N := ⟨_, rfl⟩
      rw [hN] at hfl oa ob oc
      replace hOa := Lib.hid hOa
      replace hOb := Lib.hid hOb
      replace hOc := Lib.hid hOc
      replace hlu := Lib.hid hlu
      replace hbu := Lib.hid hbu
      replace hga := Lib.hid hga
      replace hst2 := Lib.hid hst2
      replace hN := Lib.hid hN
      replace hso := Lib.hid hso
      replace oa := Lib.hid oa
      replace ob := Lib.hid ob
      replace oc := Lib.hid oc
      clear hcell htk hlk hst hs hba hls hbw hC1 hOf ha hbb hc hx hkl
      have hL := fun (W : World) (h : GI W w.heap.size p F) => Len_t W h
      rw [hN.out] at hL
      unfold RW at hL
      replace hL := Lib.hid hL
      go_upto_region 7 with fail
      clear hu x0 x1 x2 x3
      clear hga1
      go_quiet ((go_at_call 24; first | ((with_reducible refine (hOa.out _).mono ?_); exact (fun e w1 ⟨he, hw1⟩ => ⟨he, _, hw1.symm⟩)) | ((with_reducible refine (hOb.out _).mono ?_); exact (fun e w1 ⟨he, hw1⟩ => ⟨he, _, hw1.symm⟩)) | ((with_reducible refine (hOc.out _).mono ?_); exact (fun e w1 ⟨he, hw1⟩ => ⟨he, _, hw1.symm⟩))))
      obtain ⟨W, hW⟩ : ∃ W, u.drewN nq = W := ⟨_, rfl⟩
      have hlW : LS W w.heap.size p bl F L := by rw [← hW]; exact hlu.out.over (bdn u nq)
      have hbW : Below w.heap.size w W := by rw [← hW]; exact hbu.out.trans ((bdn u nq).mono hbu.out.size)
      have z0 : W.cell? ⟨ga, 0, none⟩ = some (.int .i64 xk) := by rw [← hW]; exact y0
      have zl : ga < W.heap.size := by rw [← hW]; exact yl
      rw [hW]
      clear hW y0 y1 y2 y3 yl hOa hOb hOc hlu hbu
      replace hlW := Lib.hid hlW
      replace hbW := Lib.hid hbW
      have hk6 : xk = 0 ∨ xk = 1 ∨ xk = 2 ∨ xk = 3 ∨ xk = 4 ∨ xk = 5 := by omega
      clear hxk
      have hl1 : F.length < 49990 := by rw [hN.out]; omega
      have hl0 : F.length < 50000 := by rw [hN.out]; omega
      have qa : a / 2 < F.length := by rw [hN.out]; exact oa.out
      have qb : bb / 2 < F.length := by rw [hN.out]; exact ob.out
      have qc : c / 2 < F.length := by rw [hN.out]; exact oc.out
      have hNA := fun W => Not_t a W (by omega)
      have hNB := fun W => Not_t bb W (by omega)
      unfold RW at hNA hNB
      have cI := Input_t W hlW.out.g hl0
      have cA := And_t a bb W hlW.out.g hl0 qa qb
      have cO := Or_t a bb W hlW.out.g hl1 qa qb
      have cX := Xor_t a bb W hlW.out.g hl1 qa qb
      have cM := Mux_t c a bb W hlW.out.g hl1 qc qa qb
      unfold GV at cI cA cO cX cM
      have hgI : gateA F 0 a bb c = (F ++ [(0, 0)], 2 * F.length) := rfl
      have hgA : gateA F 1 a bb c = andF F a bb := rfl
      have hgO : gateA F 2 a bb c = orF F a bb := rfl
      have hgX : gateA F 3 a bb c = xorF F a bb := rfl
      have hgM : gateA F 4 a bb c = muxF F c a bb := rfl
      have hgN : gateA F 5 a bb c = (F, nt a) := rfl
      have hAn : (a = 0 ∨ bb = 0 ∨ a = 1 ∨ bb = 1 ∨ a = bb ∨ a = nt bb) → (andF F a bb).1.length = F.length := fun h => by
        have : (andF F a bb).1 = F := by
          unfold andF
          by_cases d1 : min a bb = 0 ∨ max a bb = nt (min a bb)
          · rw [if_pos d1]
          · rw [if_neg d1, if_pos]
            rcases h with h | h | h | h | h | h
            · exact absurd (.inl (by omega)) d1
            · exact absurd (.inl (by omega)) d1
            · omega
            · omega
            · omega
            · exfalso
              apply d1
              rcases Nat.le_total a bb with e | e
              · rw [Nat.min_eq_left e, Nat.max_eq_right e, h, nt_nt]; exact .inr rfl
              · rw [Nat.min_eq_right e, Nat.max_eq_left e]; exact .inr h
        rw [this]
      replace hNA := Lib.hid hNA
      replace hNB := Lib.hid hNB
      replace hAn := Lib.hid hAn
      obtain ⟨r, hr⟩ : ∃ r, gateA F xk a bb c = r := ⟨_, rfl⟩
      rw [hr] at hga hst2
      obtain ⟨F', lit⟩ := r
      simp only at hga hst2
      have hlit := hga.out.lit
      have hlen := hga.out.len
      obtain ⟨M, hM⟩ : ∃ M, F'.length = M := ⟨_, rfl⟩
      simp only at hlit hlen
      rw [hM] at hlit hlen
      rw [hN.out] at hlen
      have hlb : lit < 1000000 := by omega
      have g1 : decide ((M : Int) ≤ (lit : Int) / 2) = false := by simp; omega
      have g2 : decide ((N : Int) + 3 < (M : Int)) = false := by simp; omega
      have hL2 := fun (W : World) (h : GI W w.heap.size p F') => Len_t W h
      rw [hM] at hL2
      unfold RW at hL2
      obtain ⟨m, hm⟩ : ∃ m, L.length = m := ⟨_, rfl⟩
      rw [hm] at hll
      have hx1 : m + 1 ≤ maxLen := by unfold maxLen; omega
      replace hx1 := Lib.hid hx1
      replace hm := Lib.hid hm
      replace hM := Lib.hid hM
      replace hlit := Lib.hid hlit
      replace hlen := Lib.hid hlen
      replace hL2 := Lib.hid hL2
      replace hr := Lib.hid hr
      clear qa qb qc hl0 hl1
      replace cI := Lib.hid cI
      replace cA := Lib.hid cA
      replace cO := Lib.hid cO
      replace cX := Lib.hid cX
      replace cM := Lib.hid cM
      replace hgI := Lib.hid hgI
      replace hgA := Lib.hid hgA
      replace hgO := Lib.hid hgO
      replace hgX := Lib.hid hgX
      replace hgM := Lib.hid hgM
      replace hgN := Lib.hid hgN
      rcases hk6 with rfl | rfl | rfl | rfl | rfl | rfl
      · have hrr := hgI.out.symm.trans hr.out
        replace cI := cI.out
        have e1 : F ++ [(0, 0)] = F' := (Prod.mk.inj hrr).1
        have e2 : 2 * F.length = lit := (Prod.mk.inj hrr).2
        rw [e1, e2] at cI
        clear e1 e2
        (try simp only at cI)
        replace cI := Lib.hid cI
        clear hrr
        go_wp2_with fail
        (with_reducible refine (hL.out _ hlW.out.g).mono ?_)
        rintro e w9 ⟨rfl, hw9⟩
        subst hw9
        go_wp2_with fail
        (with_reducible refine cI.out.mono ?_)
        rintro e w3 ⟨rfl, hg3, hk3⟩
        have hls := hlW.out.wp hg3 hk3
        have hb3 : Below w.heap.size w w3 := hbW.out.trans (hlW.out.g.below hk3)
        obtain ⟨v, hbv, hov⟩ := hls.ex
        have hov2 := hov
        rw [hm.out] at hov
        obtain ⟨Av, cv, rfl⟩ := own_shape hov
        have b0 := hbv.c
        have blt := hbv.lt
        have h4 := (Below.refl w3.heap.size w3).alloc (Nat.le_refl _) (.cells #[.int .i64 (lit : Int)] 3)
        have hR := heap_alloc_new w3 (.cells #[.int .i64 (lit : Int)] 3)
        have ho4 := hov.alloc (.cells #[.int .i64 (lit : Int)] 3)
        have s4 : (w3.alloc (.cells #[.int .i64 (lit : Int)] 3)).heap.size = w3.heap.size + 1 := by simp
        have hBs := hb3.size
        have hput := fun (w6 : World) (g cap : Nat) => hls.put (w4 := w3.alloc (.cells #[.int .i64 (lit : Int)] 3)) (w6 := w6) (g := g) (cap := cap) (x := lit) hbv hov2 h4
        rw [hm.out] at hput
        replace hput := Lib.hid hput
        replace hg3 := Lib.hid hg3
        replace hb3 := Lib.hid hb3
        replace hR := Lib.hid hR
        replace ho4 := Lib.hid ho4
        replace s4 := Lib.hid s4
        clear hls hbv hov hov2 h4 hk3
        go_wp2_with fail
        (with_reducible refine (hL2.out _ hg3.out).mono ?_)
        rintro e w9 ⟨rfl, hw9⟩
        subst hw9
        go_wp2_with fail
        (with_reducible refine (hL2.out _ hg3.out).mono ?_)
        rintro e w9 ⟨rfl, hw9⟩
        subst hw9
        go_wp2_with (first
          | (at_builtin; refine wpList_append_lies _ rfl _ _ 27 rfl w.heap.size 3 i0 (.int .i64 0) 1 8 Try.underlying27 hi hz0 hz1 hz2 rfl (by decide) _ m (iv L) rfl ho4.out ⟨w3.heap.size, 0, none⟩ 1 1 [.int .i64 (lit : Int)] (by simp [Act.eval]) rfl (World.news_of_block hR.out) (by simp [Value.oneCell']) (by decide) hx1.out (by omega) (by rw [s4.out]; omega) _ rfl ?_; intro g6 cap6 w6 ho6 hg6 hgb6 hlt6; obtain ⟨hl6, hb6, hi6⟩ := hput.out w6 g6 cap6 hg6 hgb6 ho6; have q0 := hi6.c; have qf := hi6.fz 0; have ql := hi6.lt; replace hl6 := Lib.hid hl6; replace hb6 := Lib.hid hb6; clear ho6 hg6 hgb6 hi6)
          | fail)
        have hfin := hb3.out.trans hb6.out
        replace hfin := Lib.hid hfin
        go_roundw
        case rel =>
          refine ⟨k + 1, by omega, by go_num, ?_, hfin.out⟩
          rw [hst2.out]
          exact hl6.out
        case measure => simp [intOf]; omega
      · obtain ⟨z, hz⟩ : ∃ z, nt bb = z := ⟨_, rfl⟩
        rw [hz] at hNB hAn
        have hrr := hgA.out.symm.trans hr.out
        replace cA := cA.out
        rw [hrr] at cA
        (try simp only at cA)
        replace cA := Lib.hid cA
        clear hrr
        go_wp2_with fail
        (with_reducible refine (hL.out _ hlW.out.g).mono ?_)
        rintro e w9 ⟨rfl, hw9⟩
        subst hw9
        go_wp2_with fail
        (with_reducible refine cA.out.mono ?_)
        rintro e w3 ⟨rfl, hg3, hk3⟩
        have hls := hlW.out.wp hg3 hk3
        have hb3 : Below w.heap.size w w3 := hbW.out.trans (hlW.out.g.below hk3)
        obtain ⟨v, hbv, hov⟩ := hls.ex
        have hov2 := hov
        rw [hm.out] at hov
        obtain ⟨Av, cv, rfl⟩ := own_shape hov
        have b0 := hbv.c
        have blt := hbv.lt
        have h4 := (Below.refl w3.heap.size w3).alloc (Nat.le_refl _) (.cells #[.int .i64 (lit : Int)] 3)
        have hR := heap_alloc_new w3 (.cells #[.int .i64 (lit : Int)] 3)
        have ho4 := hov.alloc (.cells #[.int .i64 (lit : Int)] 3)
        have s4 : (w3.alloc (.cells #[.int .i64 (lit : Int)] 3)).heap.size = w3.heap.size + 1 := by simp
        have hBs := hb3.size
        have hput := fun (w6 : World) (g cap : Nat) => hls.put (w4 := w3.alloc (.cells #[.int .i64 (lit : Int)] 3)) (w6 := w6) (g := g) (cap := cap) (x := lit) hbv hov2 h4
        rw [hm.out] at hput
        replace hput := Lib.hid hput
        replace hg3 := Lib.hid hg3
        replace hb3 := Lib.hid hb3
        replace hR := Lib.hid hR
        replace ho4 := Lib.hid ho4
        replace s4 := Lib.hid s4
        clear hls hbv hov hov2 h4 hk3
        have hAn2 : (a = 0 ∨ bb = 0 ∨ a = 1 ∨ bb = 1 ∨ a = bb ∨ a = z) → M = N := fun h => by
          have h1 := hAn.out h
          have h2 := hgA.out.symm.trans hr.out
          rw [h2] at h1
          rw [← hM.out, ← hN.out]
          exact h1
        by_cases n0 : a = 0
        · have f0 : ((a : Int) == 0) = true := by simp; omega
          have hMN : M = N := hAn2 (by omega)
          have f9 : ((M : Int) != (N : Int)) = false := by simp; omega
          replace n0 := Lib.hid n0
          replace hAn2 := Lib.hid hAn2
          replace hMN := Lib.hid hMN
          go_wp2_with fail
          (with_reducible refine (hL2.out _ hg3.out).mono ?_)
          rintro e w9 ⟨rfl, hw9⟩
          subst hw9
          go_wp2_with fail
          (with_reducible refine (hL2.out _ hg3.out).mono ?_)
          rintro e w9 ⟨rfl, hw9⟩
          subst hw9
          go_wp2_with fail
          (with_reducible refine (hL2.out _ hg3.out).mono ?_)
          rintro e w9 ⟨rfl, hw9⟩
          subst hw9
          go_wp2_with (first
            | (at_builtin; refine wpList_append_lies _ rfl _ _ 27 rfl w.heap.size 3 i0 (.int .i64 0) 1 8 Try.underlying27 hi hz0 hz1 hz2 rfl (by decide) _ m (iv L) rfl ho4.out ⟨w3.heap.size, 0, none⟩ 1 1 [.int .i64 (lit : Int)] (by simp [Act.eval]) rfl (World.news_of_block hR.out) (by simp [Value.oneCell']) (by decide) hx1.out (by omega) (by rw [s4.out]; omega) _ rfl ?_; intro g6 cap6 w6 ho6 hg6 hgb6 hlt6; obtain ⟨hl6, hb6, hi6⟩ := hput.out w6 g6 cap6 hg6 hgb6 ho6; have q0 := hi6.c; have qf := hi6.fz 0; have ql := hi6.lt; replace hl6 := Lib.hid hl6; replace hb6 := Lib.hid hb6; clear ho6 hg6 hgb6 hi6)
            | fail)
          have hfin := hb3.out.trans hb6.out
          replace hfin := Lib.hid hfin
          go_roundw
          case rel =>
            refine ⟨k + 1, by omega, by go_num, ?_, hfin.out⟩
            rw [hst2.out]
            exact hl6.out
          case measure => simp [intOf]; omega
        · by_cases n1 : bb = 0
          · have f0 : ((a : Int) == 0) = false := by simp; omega
            have f1 : ((bb : Int) == 0) = true := by simp; omega
            have hMN : M = N := hAn2 (by omega)
            have f9 : ((M : Int) != (N : Int)) = false := by simp; omega
            replace n0 := Lib.hid n0
            replace n1 := Lib.hid n1
            replace hAn2 := Lib.hid hAn2
            replace hMN := Lib.hid hMN
            go_wp2_with fail
            (with_reducible refine (hL2.out _ hg3.out).mono ?_)
            rintro e w9 ⟨rfl, hw9⟩
            subst hw9
            go_wp2_with fail
            (with_reducible refine (hL2.out _ hg3.out).mono ?_)
            rintro e w9 ⟨rfl, hw9⟩
            subst hw9
            go_wp2_with fail
            (with_reducible refine (hL2.out _ hg3.out).mono ?_)
            rintro e w9 ⟨rfl, hw9⟩
            subst hw9
            go_wp2_with (first
              | (at_builtin; refine wpList_append_lies _ rfl _ _ 27 rfl w.heap.size 3 i0 (.int .i64 0) 1 8 Try.underlying27 hi hz0 hz1 hz2 rfl (by decide) _ m (iv L) rfl ho4.out ⟨w3.heap.size, 0, none⟩ 1 1 [.int .i64 (lit : Int)] (by simp [Act.eval]) rfl (World.news_of_block hR.out) (by simp [Value.oneCell']) (by decide) hx1.out (by omega) (by rw [s4.out]; omega) _ rfl ?_; intro g6 cap6 w6 ho6 hg6 hgb6 hlt6; obtain ⟨hl6, hb6, hi6⟩ := hput.out w6 g6 cap6 hg6 hgb6 ho6; have q0 := hi6.c; have qf := hi6.fz 0; have ql := hi6.lt; replace hl6 := Lib.hid hl6; replace hb6 := Lib.hid hb6; clear ho6 hg6 hgb6 hi6)
              | fail)
            have hfin := hb3.out.trans hb6.out
            replace hfin := Lib.hid hfin
            go_roundw
            case rel =>
              refine ⟨k + 1, by omega, by go_num, ?_, hfin.out⟩
              rw [hst2.out]
              exact hl6.out
            case measure => simp [intOf]; omega
          · by_cases n2 : a = 1
            · have f0 : ((a : Int) == 0) = false := by simp; omega
              have f1 : ((bb : Int) == 0) = false := by simp; omega
              have f2 : ((a : Int) == 1) = true := by simp; omega
              have hMN : M = N := hAn2 (by omega)
              have f9 : ((M : Int) != (N : Int)) = false := by simp; omega
              replace n0 := Lib.hid n0
              replace n1 := Lib.hid n1
              replace n2 := Lib.hid n2
              replace hAn2 := Lib.hid hAn2
              replace hMN := Lib.hid hMN
              go_wp2_with fail
              (with_reducible refine (hL2.out _ hg3.out).mono ?_)
              rintro e w9 ⟨rfl, hw9⟩
              subst hw9
              go_wp2_with fail
              (with_reducible refine (hL2.out _ hg3.out).mono ?_)
              rintro e w9 ⟨rfl, hw9⟩
              subst hw9
              go_wp2_with fail
              (with_reducible refine (hL2.out _ hg3.out).mono ?_)
              rintro e w9 ⟨rfl, hw9⟩
              subst hw9
              go_wp2_with (first
                | (at_builtin; refine wpList_append_lies _ rfl _ _ 27 rfl w.heap.size 3 i0 (.int .i64 0) 1 8 Try.underlying27 hi hz0 hz1 hz2 rfl (by decide) _ m (iv L) rfl ho4.out ⟨w3.heap.size, 0, none⟩ 1 1 [.int .i64 (lit : Int)] (by simp [Act.eval]) rfl (World.news_of_block hR.out) (by simp [Value.oneCell']) (by decide) hx1.out (by omega) (by rw [s4.out]; omega) _ rfl ?_; intro g6 cap6 w6 ho6 hg6 hgb6 hlt6; obtain ⟨hl6, hb6, hi6⟩ := hput.out w6 g6 cap6 hg6 hgb6 ho6; have q0 := hi6.c; have qf := hi6.fz 0; have ql := hi6.lt; replace hl6 := Lib.hid hl6; replace hb6 := Lib.hid hb6; clear ho6 hg6 hgb6 hi6)
                | fail)
              have hfin := hb3.out.trans hb6.out
              replace hfin := Lib.hid hfin
              go_roundw
              case rel =>
                refine ⟨k + 1, by omega, by go_num, ?_, hfin.out⟩
                rw [hst2.out]
                exact hl6.out
              case measure => simp [intOf]; omega
            · by_cases n3 : bb = 1
              · have f0 : ((a : Int) == 0) = false := by simp; omega
                have f1 : ((bb : Int) == 0) = false := by simp; omega
                have f2 : ((a : Int) == 1) = false := by simp; omega
                have f3 : ((bb : Int) == 1) = true := by simp; omega
                have hMN : M = N := hAn2 (by omega)
                have f9 : ((M : Int) != (N : Int)) = false := by simp; omega
                replace n0 := Lib.hid n0
                replace n1 := Lib.hid n1
                replace n2 := Lib.hid n2
                replace n3 := Lib.hid n3
                replace hAn2 := Lib.hid hAn2
                replace hMN := Lib.hid hMN
                go_wp2_with fail
                (with_reducible refine (hL2.out _ hg3.out).mono ?_)
                rintro e w9 ⟨rfl, hw9⟩
                subst hw9
                go_wp2_with fail
                (with_reducible refine (hL2.out _ hg3.out).mono ?_)
                rintro e w9 ⟨rfl, hw9⟩
                subst hw9
                go_wp2_with fail
                (with_reducible refine (hL2.out _ hg3.out).mono ?_)
                rintro e w9 ⟨rfl, hw9⟩
                subst hw9
                go_wp2_with (first
                  | (at_builtin; refine wpList_append_lies _ rfl _ _ 27 rfl w.heap.size 3 i0 (.int .i64 0) 1 8 Try.underlying27 hi hz0 hz1 hz2 rfl (by decide) _ m (iv L) rfl ho4.out ⟨w3.heap.size, 0, none⟩ 1 1 [.int .i64 (lit : Int)] (by simp [Act.eval]) rfl (World.news_of_block hR.out) (by simp [Value.oneCell']) (by decide) hx1.out (by omega) (by rw [s4.out]; omega) _ rfl ?_; intro g6 cap6 w6 ho6 hg6 hgb6 hlt6; obtain ⟨hl6, hb6, hi6⟩ := hput.out w6 g6 cap6 hg6 hgb6 ho6; have q0 := hi6.c; have qf := hi6.fz 0; have ql := hi6.lt; replace hl6 := Lib.hid hl6; replace hb6 := Lib.hid hb6; clear ho6 hg6 hgb6 hi6)
                  | fail)
                have hfin := hb3.out.trans hb6.out
                replace hfin := Lib.hid hfin
                go_roundw
                case rel =>
                  refine ⟨k + 1, by omega, by go_num, ?_, hfin.out⟩
                  rw [hst2.out]
                  exact hl6.out
                case measure => simp [intOf]; omega
              · by_cases n4 : a = bb
                · have f0 : ((a : Int) == 0) = false := by simp; omega
                  have f1 : ((bb : Int) == 0) = false := by simp; omega
                  have f2 : ((a : Int) == 1) = false := by simp; omega
                  have f3 : ((bb : Int) == 1) = false := by simp; omega
                  have f4 : ((a : Int) == (bb : Int)) = true := by simp; omega
                  have hMN : M = N := hAn2 (by omega)
                  have f9 : ((M : Int) != (N : Int)) = false := by simp; omega
                  replace n0 := Lib.hid n0
                  replace n1 := Lib.hid n1
                  replace n2 := Lib.hid n2
                  replace n3 := Lib.hid n3
                  replace n4 := Lib.hid n4
                  replace hAn2 := Lib.hid hAn2
                  replace hMN := Lib.hid hMN
                  go_wp2_with fail
                  (with_reducible refine (hL2.out _ hg3.out).mono ?_)
                  rintro e w9 ⟨rfl, hw9⟩
                  subst hw9
                  go_wp2_with fail
                  (with_reducible refine (hL2.out _ hg3.out).mono ?_)
                  rintro e w9 ⟨rfl, hw9⟩
                  subst hw9
                  go_wp2_with fail
                  (with_reducible refine (hL2.out _ hg3.out).mono ?_)
                  rintro e w9 ⟨rfl, hw9⟩
                  subst hw9
                  go_wp2_with (first
                    | (at_builtin; refine wpList_append_lies _ rfl _ _ 27 rfl w.heap.size 3 i0 (.int .i64 0) 1 8 Try.underlying27 hi hz0 hz1 hz2 rfl (by decide) _ m (iv L) rfl ho4.out ⟨w3.heap.size, 0, none⟩ 1 1 [.int .i64 (lit : Int)] (by simp [Act.eval]) rfl (World.news_of_block hR.out) (by simp [Value.oneCell']) (by decide) hx1.out (by omega) (by rw [s4.out]; omega) _ rfl ?_; intro g6 cap6 w6 ho6 hg6 hgb6 hlt6; obtain ⟨hl6, hb6, hi6⟩ := hput.out w6 g6 cap6 hg6 hgb6 ho6; have q0 := hi6.c; have qf := hi6.fz 0; have ql := hi6.lt; replace hl6 := Lib.hid hl6; replace hb6 := Lib.hid hb6; clear ho6 hg6 hgb6 hi6)
                    | fail)
                  have hfin := hb3.out.trans hb6.out
                  replace hfin := Lib.hid hfin
                  go_roundw
                  case rel =>
                    refine ⟨k + 1, by omega, by go_num, ?_, hfin.out⟩
                    rw [hst2.out]
                    exact hl6.out
                  case measure => simp [intOf]; omega
                · by_cases n5 : a = z
                  · have f0 : ((a : Int) == 0) = false := by simp; omega
                    have f1 : ((bb : Int) == 0) = false := by simp; omega
                    have f2 : ((a : Int) == 1) = false := by simp; omega
                    have f3 : ((bb : Int) == 1) = false := by simp; omega
                    have f4 : ((a : Int) == (bb : Int)) = false := by simp; omega
                    have f5 : ((a : Int) == (z : Int)) = true := by simp; omega
                    have hMN : M = N := hAn2 (by omega)
                    have f9 : ((M : Int) != (N : Int)) = false := by simp; omega
                    replace n0 := Lib.hid n0
                    replace n1 := Lib.hid n1
                    replace n2 := Lib.hid n2
                    replace n3 := Lib.hid n3
                    replace n4 := Lib.hid n4
                    replace n5 := Lib.hid n5
                    replace hAn2 := Lib.hid hAn2
                    replace hMN := Lib.hid hMN
                    go_wp2_with fail
                    (with_reducible refine (hNB.out _).mono ?_)
                    rintro e w9 ⟨rfl, hw9⟩
                    subst hw9
                    go_wp2_with fail
                    (with_reducible refine (hL2.out _ hg3.out).mono ?_)
                    rintro e w9 ⟨rfl, hw9⟩
                    subst hw9
                    go_wp2_with fail
                    (with_reducible refine (hL2.out _ hg3.out).mono ?_)
                    rintro e w9 ⟨rfl, hw9⟩
                    subst hw9
                    go_wp2_with fail
                    (with_reducible refine (hL2.out _ hg3.out).mono ?_)
                    rintro e w9 ⟨rfl, hw9⟩
                    subst hw9
                    go_wp2_with (first
                      | (at_builtin; refine wpList_append_lies _ rfl _ _ 27 rfl w.heap.size 3 i0 (.int .i64 0) 1 8 Try.underlying27 hi hz0 hz1 hz2 rfl (by decide) _ m (iv L) rfl ho4.out ⟨w3.heap.size, 0, none⟩ 1 1 [.int .i64 (lit : Int)] (by simp [Act.eval]) rfl (World.news_of_block hR.out) (by simp [Value.oneCell']) (by decide) hx1.out (by omega) (by rw [s4.out]; omega) _ rfl ?_; intro g6 cap6 w6 ho6 hg6 hgb6 hlt6; obtain ⟨hl6, hb6, hi6⟩ := hput.out w6 g6 cap6 hg6 hgb6 ho6; have q0 := hi6.c; have qf := hi6.fz 0; have ql := hi6.lt; replace hl6 := Lib.hid hl6; replace hb6 := Lib.hid hb6; clear ho6 hg6 hgb6 hi6)
                      | fail)
                    have hfin := hb3.out.trans hb6.out
                    replace hfin := Lib.hid hfin
                    go_roundw
                    case rel =>
                      refine ⟨k + 1, by omega, by go_num, ?_, hfin.out⟩
                      rw [hst2.out]
                      exact hl6.out
                    case measure => simp [intOf]; omega
                  · have f0 : ((a : Int) == 0) = false := by simp; omega
                    have f1 : ((bb : Int) == 0) = false := by simp; omega
                    have f2 : ((a : Int) == 1) = false := by simp; omega
                    have f3 : ((bb : Int) == 1) = false := by simp; omega
                    have f4 : ((a : Int) == (bb : Int)) = false := by simp; omega
                    have f5 : ((a : Int) == (z : Int)) = false := by simp; omega
                    replace n0 := Lib.hid n0
                    replace n1 := Lib.hid n1
                    replace n2 := Lib.hid n2
                    replace n3 := Lib.hid n3
                    replace n4 := Lib.hid n4
                    replace n5 := Lib.hid n5
                    replace hAn2 := Lib.hid hAn2
                    go_wp2_with fail
                    (with_reducible refine (hNB.out _).mono ?_)
                    rintro e w9 ⟨rfl, hw9⟩
                    subst hw9
                    go_wp2_with fail
                    (with_reducible refine (hL2.out _ hg3.out).mono ?_)
                    rintro e w9 ⟨rfl, hw9⟩
                    subst hw9
                    go_wp2_with fail
                    (with_reducible refine (hL2.out _ hg3.out).mono ?_)
                    rintro e w9 ⟨rfl, hw9⟩
                    subst hw9
                    go_wp2_with (first
                      | (at_builtin; refine wpList_append_lies _ rfl _ _ 27 rfl w.heap.size 3 i0 (.int .i64 0) 1 8 Try.underlying27 hi hz0 hz1 hz2 rfl (by decide) _ m (iv L) rfl ho4.out ⟨w3.heap.size, 0, none⟩ 1 1 [.int .i64 (lit : Int)] (by simp [Act.eval]) rfl (World.news_of_block hR.out) (by simp [Value.oneCell']) (by decide) hx1.out (by omega) (by rw [s4.out]; omega) _ rfl ?_; intro g6 cap6 w6 ho6 hg6 hgb6 hlt6; obtain ⟨hl6, hb6, hi6⟩ := hput.out w6 g6 cap6 hg6 hgb6 ho6; have q0 := hi6.c; have qf := hi6.fz 0; have ql := hi6.lt; replace hl6 := Lib.hid hl6; replace hb6 := Lib.hid hb6; clear ho6 hg6 hgb6 hi6)
                      | fail)
                    have hfin := hb3.out.trans hb6.out
                    replace hfin := Lib.hid hfin
                    go_roundw
                    case rel =>
                      refine ⟨k + 1, by omega, by go_num, ?_, hfin.out⟩
                      rw [hst2.out]
                      exact hl6.out
                    case measure => simp [intOf]; omega
      · have hrr := hgO.out.symm.trans hr.out
        replace cO := cO.out
        rw [hrr] at cO
        (try simp only at cO)
        replace cO := Lib.hid cO
        clear hrr
        go_wp2_with fail
        (with_reducible refine (hL.out _ hlW.out.g).mono ?_)
        rintro e w9 ⟨rfl, hw9⟩
        subst hw9
        go_wp2_with fail
        (with_reducible refine cO.out.mono ?_)
        rintro e w3 ⟨rfl, hg3, hk3⟩
        have hls := hlW.out.wp hg3 hk3
        have hb3 : Below w.heap.size w w3 := hbW.out.trans (hlW.out.g.below hk3)
        obtain ⟨v, hbv, hov⟩ := hls.ex
        have hov2 := hov
        rw [hm.out] at hov
        obtain ⟨Av, cv, rfl⟩ := own_shape hov
        have b0 := hbv.c
        have blt := hbv.lt
        have h4 := (Below.refl w3.heap.size w3).alloc (Nat.le_refl _) (.cells #[.int .i64 (lit : Int)] 3)
        have hR := heap_alloc_new w3 (.cells #[.int .i64 (lit : Int)] 3)
        have ho4 := hov.alloc (.cells #[.int .i64 (lit : Int)] 3)
        have s4 : (w3.alloc (.cells #[.int .i64 (lit : Int)] 3)).heap.size = w3.heap.size + 1 := by simp
        have hBs := hb3.size
        have hput := fun (w6 : World) (g cap : Nat) => hls.put (w4 := w3.alloc (.cells #[.int .i64 (lit : Int)] 3)) (w6 := w6) (g := g) (cap := cap) (x := lit) hbv hov2 h4
        rw [hm.out] at hput
        replace hput := Lib.hid hput
        replace hg3 := Lib.hid hg3
        replace hb3 := Lib.hid hb3
        replace hR := Lib.hid hR
        replace ho4 := Lib.hid ho4
        replace s4 := Lib.hid s4
        clear hls hbv hov hov2 h4 hk3
        go_wp2_with fail
        (with_reducible refine (hL2.out _ hg3.out).mono ?_)
        rintro e w9 ⟨rfl, hw9⟩
        subst hw9
        go_wp2_with fail
        (with_reducible refine (hL2.out _ hg3.out).mono ?_)
        rintro e w9 ⟨rfl, hw9⟩
        subst hw9
        go_wp2_with (first
          | (at_builtin; refine wpList_append_lies _ rfl _ _ 27 rfl w.heap.size 3 i0 (.int .i64 0) 1 8 Try.underlying27 hi hz0 hz1 hz2 rfl (by decide) _ m (iv L) rfl ho4.out ⟨w3.heap.size, 0, none⟩ 1 1 [.int .i64 (lit : Int)] (by simp [Act.eval]) rfl (World.news_of_block hR.out) (by simp [Value.oneCell']) (by decide) hx1.out (by omega) (by rw [s4.out]; omega) _ rfl ?_; intro g6 cap6 w6 ho6 hg6 hgb6 hlt6; obtain ⟨hl6, hb6, hi6⟩ := hput.out w6 g6 cap6 hg6 hgb6 ho6; have q0 := hi6.c; have qf := hi6.fz 0; have ql := hi6.lt; replace hl6 := Lib.hid hl6; replace hb6 := Lib.hid hb6; clear ho6 hg6 hgb6 hi6)
          | fail)
        have hfin := hb3.out.trans hb6.out
        replace hfin := Lib.hid hfin
        go_roundw
        case rel =>
          refine ⟨k + 1, by omega, by go_num, ?_, hfin.out⟩
          rw [hst2.out]
          exact hl6.out
        case measure => simp [intOf]; omega
      · have hrr := hgX.out.symm.trans hr.out
        replace cX := cX.out
        rw [hrr] at cX
        (try simp only at cX)
        replace cX := Lib.hid cX
        clear hrr
        go_wp2_with fail
        (with_reducible refine (hL.out _ hlW.out.g).mono ?_)
        rintro e w9 ⟨rfl, hw9⟩
        subst hw9
        go_wp2_with fail
        (with_reducible refine cX.out.mono ?_)
        rintro e w3 ⟨rfl, hg3, hk3⟩
        have hls := hlW.out.wp hg3 hk3
        have hb3 : Below w.heap.size w w3 := hbW.out.trans (hlW.out.g.below hk3)
        obtain ⟨v, hbv, hov⟩ := hls.ex
        have hov2 := hov
        rw [hm.out] at hov
        obtain ⟨Av, cv, rfl⟩ := own_shape hov
        have b0 := hbv.c
        have blt := hbv.lt
        have h4 := (Below.refl w3.heap.size w3).alloc (Nat.le_refl _) (.cells #[.int .i64 (lit : Int)] 3)
        have hR := heap_alloc_new w3 (.cells #[.int .i64 (lit : Int)] 3)
        have ho4 := hov.alloc (.cells #[.int .i64 (lit : Int)] 3)
        have s4 : (w3.alloc (.cells #[.int .i64 (lit : Int)] 3)).heap.size = w3.heap.size + 1 := by simp
        have hBs := hb3.size
        have hput := fun (w6 : World) (g cap : Nat) => hls.put (w4 := w3.alloc (.cells #[.int .i64 (lit : Int)] 3)) (w6 := w6) (g := g) (cap := cap) (x := lit) hbv hov2 h4
        rw [hm.out] at hput
        replace hput := Lib.hid hput
        replace hg3 := Lib.hid hg3
        replace hb3 := Lib.hid hb3
        replace hR := Lib.hid hR
        replace ho4 := Lib.hid ho4
        replace s4 := Lib.hid s4
        clear hls hbv hov hov2 h4 hk3
        go_wp2_with fail
        (with_reducible refine (hL2.out _ hg3.out).mono ?_)
        rintro e w9 ⟨rfl, hw9⟩
        subst hw9
        go_wp2_with fail
        (with_reducible refine (hL2.out _ hg3.out).mono ?_)
        rintro e w9 ⟨rfl, hw9⟩
        subst hw9
        go_wp2_with (first
          | (at_builtin; refine wpList_append_lies _ rfl _ _ 27 rfl w.heap.size 3 i0 (.int .i64 0) 1 8 Try.underlying27 hi hz0 hz1 hz2 rfl (by decide) _ m (iv L) rfl ho4.out ⟨w3.heap.size, 0, none⟩ 1 1 [.int .i64 (lit : Int)] (by simp [Act.eval]) rfl (World.news_of_block hR.out) (by simp [Value.oneCell']) (by decide) hx1.out (by omega) (by rw [s4.out]; omega) _ rfl ?_; intro g6 cap6 w6 ho6 hg6 hgb6 hlt6; obtain ⟨hl6, hb6, hi6⟩ := hput.out w6 g6 cap6 hg6 hgb6 ho6; have q0 := hi6.c; have qf := hi6.fz 0; have ql := hi6.lt; replace hl6 := Lib.hid hl6; replace hb6 := Lib.hid hb6; clear ho6 hg6 hgb6 hi6)
          | fail)
        have hfin := hb3.out.trans hb6.out
        replace hfin := Lib.hid hfin
        go_roundw
        case rel =>
          refine ⟨k + 1, by omega, by go_num, ?_, hfin.out⟩
          rw [hst2.out]
          exact hl6.out
        case measure => simp [intOf]; omega
      · have hrr := hgM.out.symm.trans hr.out
        replace cM := cM.out
        rw [hrr] at cM
        (try simp only at cM)
        replace cM := Lib.hid cM
        clear hrr
        go_wp2_with fail
        (with_reducible refine (hL.out _ hlW.out.g).mono ?_)
        rintro e w9 ⟨rfl, hw9⟩
        subst hw9
        go_wp2_with fail
        (with_reducible refine cM.out.mono ?_)
        rintro e w3 ⟨rfl, hg3, hk3⟩
        have hls := hlW.out.wp hg3 hk3
        have hb3 : Below w.heap.size w w3 := hbW.out.trans (hlW.out.g.below hk3)
        obtain ⟨v, hbv, hov⟩ := hls.ex
        have hov2 := hov
        rw [hm.out] at hov
        obtain ⟨Av, cv, rfl⟩ := own_shape hov
        have b0 := hbv.c
        have blt := hbv.lt
        have h4 := (Below.refl w3.heap.size w3).alloc (Nat.le_refl _) (.cells #[.int .i64 (lit : Int)] 3)
        have hR := heap_alloc_new w3 (.cells #[.int .i64 (lit : Int)] 3)
        have ho4 := hov.alloc (.cells #[.int .i64 (lit : Int)] 3)
        have s4 : (w3.alloc (.cells #[.int .i64 (lit : Int)] 3)).heap.size = w3.heap.size + 1 := by simp
        have hBs := hb3.size
        have hput := fun (w6 : World) (g cap : Nat) => hls.put (w4 := w3.alloc (.cells #[.int .i64 (lit : Int)] 3)) (w6 := w6) (g := g) (cap := cap) (x := lit) hbv hov2 h4
        rw [hm.out] at hput
        replace hput := Lib.hid hput
        replace hg3 := Lib.hid hg3
        replace hb3 := Lib.hid hb3
        replace hR := Lib.hid hR
        replace ho4 := Lib.hid ho4
        replace s4 := Lib.hid s4
        clear hls hbv hov hov2 h4 hk3
        go_wp2_with fail
        (with_reducible refine (hL2.out _ hg3.out).mono ?_)
        rintro e w9 ⟨rfl, hw9⟩
        subst hw9
        go_wp2_with fail
        (with_reducible refine (hL2.out _ hg3.out).mono ?_)
        rintro e w9 ⟨rfl, hw9⟩
        subst hw9
        go_wp2_with (first
          | (at_builtin; refine wpList_append_lies _ rfl _ _ 27 rfl w.heap.size 3 i0 (.int .i64 0) 1 8 Try.underlying27 hi hz0 hz1 hz2 rfl (by decide) _ m (iv L) rfl ho4.out ⟨w3.heap.size, 0, none⟩ 1 1 [.int .i64 (lit : Int)] (by simp [Act.eval]) rfl (World.news_of_block hR.out) (by simp [Value.oneCell']) (by decide) hx1.out (by omega) (by rw [s4.out]; omega) _ rfl ?_; intro g6 cap6 w6 ho6 hg6 hgb6 hlt6; obtain ⟨hl6, hb6, hi6⟩ := hput.out w6 g6 cap6 hg6 hgb6 ho6; have q0 := hi6.c; have qf := hi6.fz 0; have ql := hi6.lt; replace hl6 := Lib.hid hl6; replace hb6 := Lib.hid hb6; clear ho6 hg6 hgb6 hi6)
          | fail)
        have hfin := hb3.out.trans hb6.out
        replace hfin := Lib.hid hfin
        go_roundw
        case rel =>
          refine ⟨k + 1, by omega, by go_num, ?_, hfin.out⟩
          rw [hst2.out]
          exact hl6.out
        case measure => simp [intOf]; omega
      · have hrr := hgN.out.symm.trans hr.out
        have e1 : F = F' := (Prod.mk.inj hrr).1
        have e2 : nt a = lit := (Prod.mk.inj hrr).2
        rw [e2] at hNA
        go_wp2_with fail
        (with_reducible refine (hL.out _ hlW.out.g).mono ?_)
        rintro e w9 ⟨rfl, hw9⟩
        subst hw9
        go_wp2_with fail
        (with_reducible refine (hNA.out _).mono ?_)
        rintro e w9 ⟨rfl, hw9⟩
        subst hw9
        have hg3 : GI W w.heap.size p F' := by rw [← e1]; exact hlW.out.g
        have hk3 : WP p W W := WP.refl p W
        clear e1 e2 hrr
        obtain ⟨w3, hw3⟩ : ∃ w3, W = w3 := ⟨_, rfl⟩
        rw [hw3] at hg3 ⊢
        have hk3 : WP p W w3 := by rw [← hw3]; exact WP.refl p W
        clear hw3
        have hls := hlW.out.wp hg3 hk3
        have hb3 : Below w.heap.size w w3 := hbW.out.trans (hlW.out.g.below hk3)
        obtain ⟨v, hbv, hov⟩ := hls.ex
        have hov2 := hov
        rw [hm.out] at hov
        obtain ⟨Av, cv, rfl⟩ := own_shape hov
        have b0 := hbv.c
        have blt := hbv.lt
        have h4 := (Below.refl w3.heap.size w3).alloc (Nat.le_refl _) (.cells #[.int .i64 (lit : Int)] 3)
        have hR := heap_alloc_new w3 (.cells #[.int .i64 (lit : Int)] 3)
        have ho4 := hov.alloc (.cells #[.int .i64 (lit : Int)] 3)
        have s4 : (w3.alloc (.cells #[.int .i64 (lit : Int)] 3)).heap.size = w3.heap.size + 1 := by simp
        have hBs := hb3.size
        have hput := fun (w6 : World) (g cap : Nat) => hls.put (w4 := w3.alloc (.cells #[.int .i64 (lit : Int)] 3)) (w6 := w6) (g := g) (cap := cap) (x := lit) hbv hov2 h4
        rw [hm.out] at hput
        replace hput := Lib.hid hput
        replace hg3 := Lib.hid hg3
        replace hb3 := Lib.hid hb3
        replace hR := Lib.hid hR
        replace ho4 := Lib.hid ho4
        replace s4 := Lib.hid s4
        clear hls hbv hov hov2 h4 hk3
        go_wp2_with fail
        (with_reducible refine (hL2.out _ hg3.out).mono ?_)
        rintro e w9 ⟨rfl, hw9⟩
        subst hw9
        go_wp2_with fail
        (with_reducible refine (hL2.out _ hg3.out).mono ?_)
        rintro e w9 ⟨rfl, hw9⟩
        subst hw9
        go_wp2_with (first
          | (at_builtin; refine wpList_append_lies _ rfl _ _ 27 rfl w.heap.size 3 i0 (.int .i64 0) 1 8 Try.underlying27 hi hz0 hz1 hz2 rfl (by decide) _ m (iv L) rfl ho4.out ⟨w3.heap.size, 0, none⟩ 1 1 [.int .i64 (lit : Int)] (by simp [Act.eval]) rfl (World.news_of_block hR.out) (by simp [Value.oneCell']) (by decide) hx1.out (by omega) (by rw [s4.out]; omega) _ rfl ?_; intro g6 cap6 w6 ho6 hg6 hgb6 hlt6; obtain ⟨hl6, hb6, hi6⟩ := hput.out w6 g6 cap6 hg6 hgb6 ho6; have q0 := hi6.c; have qf := hi6.fz 0; have ql := hi6.lt; replace hl6 := Lib.hid hl6; replace hb6 := Lib.hid hb6; clear ho6 hg6 hgb6 hi6)
          | fail)
        have hfin := hb3.out.trans hb6.out
        replace hfin := Lib.hid hfin
        go_roundw
        case rel =>
          refine ⟨k + 1, by omega, by go_num, ?_, hfin.out⟩
          rw [hst2.out]
          exact hl6.out
        case measure => simp [intOf]; omega
    · obtain rfl : k = n := by omega
      have htk : l.take k = l := by rw [← hnn.out, List.take_length]
      rw [htk] at hls
      obtain ⟨v, hbv, hov⟩ := hls.ex
      have hg := hls.g
      obtain ⟨Av, cv, rfl⟩ := own_shape hov
      have b0 := hbv.c
      have blt := hbv.lt
      obtain ⟨m, hm⟩ : ∃ m, (bdA l).L.length = m := ⟨_, rfl⟩
      rw [hm] at b0
      replace hg := Lib.hid hg
      replace hov := Lib.hid hov
      replace hbw := Lib.hid hbw
      replace hm := Lib.hid hm
      clear hls hbv htk hA hK
      go_wp2_with fail
      go_quiet (fail)
      go_wp2_with fail
      go_ret3
      exact ⟨p, .slice Av m cv, rfl, hg.out.over (bdn _ _), by rw [← hm.out]; exact own_keepT hov.out fun _ _ => rfl, hbw.out.trans ((bdn _ _).mono hbw.out.size)⟩
end Go.Proofs.Ytinfkjflomdhbaa
