/-
  Graph.has; Graph.add: a node more.
-/
import Derived.Test.YtinfkjflomdhbaaGd
namespace Go.Proofs.Ytinfkjflomdhbaa
open Go.RowKit Go.Lib Go.Maps
set_option maxRecDepth 100000 in
theorem has_t {B p : Nat} {F : List PN} (l : List Int) (A : Option Addr) (c : Nat) (w : World) (h : GI w B p F) (hA : RL w A l) (hl : l.length ≤ 1000) (hb : ∀ x ∈ l, x < 4611686018427387904) :
    Calls Try.prog 29 #[pg p, .slice A l.length c] w (RV w (.bool (!l.any (foreign F.length)))) := by
  have hba := (Below.refl w.heap.size w).alloc (Nat.le_refl _) (.cells #[pg p] 26)
  have hq := BI.new w 26 (pg p)
  have hg1 := h.over hba
  have hC := cont_t 37 #[.pointer (some ⟨w.heap.size, 0, none⟩)] (enters_of Try.func37 (by kernel_rfl) rfl) (foreign F.length) l c A (w.alloc (.cells #[pg p] 26)) (by omega) (hA.over hba)
    (fun x hx W hW => (has1_t x W (hg1.over (hW.mono (by simp))) (hq.over (hW.mono (by simp))) (hb x hx)).mono fun e w' hw => hw)
  obtain ⟨R, hR⟩ : ∃ R, l.any (foreign F.length) = R := ⟨_, rfl⟩
  obtain ⟨n, hn⟩ : ∃ n, l.length = n := ⟨_, rfl⟩
  rw [hR, hn] at hC
  rw [hR, hn]
  have bc := hq.c
  have bl := hq.lt
  replace hC := Lib.hid hC
  replace hba := Lib.hid hba
  clear hA hb hR hn hl hq hg1 h
  go_enter Try.func29, Try.ntmps29
  go_wp2_with fail
  (with_reducible refine hC.out.mono ?_)
  rintro e w2 ⟨rfl, hb2⟩
  have hb3 := below_call hb2 hba.out hba.out.size
  go_wp2_with fail
  go_ret
  exact ⟨rfl, hb3⟩
theorem info_fan : (Try.prog.info? 58).map (fun i => (i.zero, i.size, i.bytes)) = some (some (.agg #[.int .i64 0, .int .i64 0]), 2, 16) := by kernel_rfl
/-- What add leaves: the row has a node more, map and count are as they were. -/
def AD (w : World) (B p : Nat) (F : List PN) (q : PN) (m n : Nat) (D : DU) (w' : World) : Prop :=
  ∃ v', w'.heap[p]? = some (.cells #[v', .map (some m), .int .i64 (cnt F : Int)] 56 (0, 0)) ∧ w'.ownsRow B 58 2 v' (F.length + 1) (fcells (F ++ [q])) ∧ MapIs w' m n D ∧ WP p w w'
set_option maxRecDepth 100000 in
set_option maxHeartbeats 1600000 in
theorem add_t {B p m n : Nat} {F : List PN} {v : Value} {D : DU} (q : PN) (w : World) (h : GIx w B p F v m n D) (hl : F.length < 50000) :
    Calls Try.prog 30 #[pg p, .agg #[.int .i64 (q.1 : Int), .int .i64 (q.2 : Int)]] w fun e w' => e = .returned (.tuple #[.int .i64 ((2 * F.length : Nat) : Int), .int .i64 0]) ∧ AD w B p F q m n D w' := by
  obtain ⟨i0, hi, hz0, hz1, hz2⟩ := info_parts info_fan
  obtain ⟨a, b⟩ := q
  simp only
  have hba := (Below.refl w.heap.size w).alloc (Nat.le_refl _) (.cells #[.int .i64 (a : Int), .int .i64 (b : Int)] 58)
  have h1 := h.over hba
  have hB1 := heap_alloc_new w (.cells #[.int .i64 (a : Int), .int .i64 (b : Int)] 58)
  have hL := Len_t _ ⟨v, m, n, D, h1⟩
  have hbw : Below (w.heap.size + 1) (w.alloc (.cells #[.int .i64 (a : Int), .int .i64 (b : Int)] 58)) ((w.alloc (.cells #[.int .i64 (a : Int), .int .i64 (b : Int)] 58)).drew.alloc (.cells #[.int .i64 (a : Int), .int .i64 (b : Int)] 58)) :=
    (Below.refl _ _).drew.alloc (by simp) _
  obtain ⟨w1, hw1⟩ : ∃ W, w.alloc (.cells #[.int .i64 (a : Int), .int .i64 (b : Int)] 58) = W := ⟨_, rfl⟩
  have hs1 : w1.heap.size = w.heap.size + 1 := by rw [← hw1]; simp
  rw [hw1] at hba h1 hB1 hL hbw
  have h2 := h1.over (hbw.mono (by omega))
  have hr2 := h2.row
  have hx2 := h2.blk
  have hm2 := h2.mp
  have hnw : ∀ j u, [Value.int .i64 (a : Int), .int .i64 (b : Int)][j]? = some u → (w1.drew.alloc (.cells #[.int .i64 (a : Int), .int .i64 (b : Int)] 58)).cell? ((⟨w1.heap.size, 0, none⟩ : Addr).add j) = some u := World.news_of_block (heap_alloc_new w1.drew (.cells #[.int .i64 (a : Int), .int .i64 (b : Int)] 58))
  obtain ⟨g, cp, rfl, hBg⟩ := h1.shape
  have c0 := h1.c0
  have cl := lt_of_get h1.blk
  have cb0 : w1.cell? ⟨w.heap.size, 0, none⟩ = some (.int .i64 (a : Int)) := by rw [Lib.cell_of_heap hB1]; rfl
  have cb1 : w1.cell? ⟨w.heap.size, 1, none⟩ = some (.int .i64 (b : Int)) := by rw [Lib.cell_of_heap hB1]; rfl
  have bl := lt_of_get hB1
  have hvp := h2.vp
  have hvm := h2.vm
  have hmp := h2.mp'
  have hft := h1.ft
  have hWP1 : WP p w w1 := WP.of hba (lt_of_get h.blk)
  have hsz2 : (w1.drew.alloc (.cells #[.int .i64 (a : Int), .int .i64 (b : Int)] 58)).heap.size = w1.heap.size + 1 := by simp
  have hB2 : B ≤ (w1.drew.alloc (.cells #[.int .i64 (a : Int), .int .i64 (b : Int)] 58)).heap.size := by have := h.b; have := lt_of_get h.blk; rw [hsz2]; omega
  have hone : ∀ u ∈ [Value.int .i64 (a : Int), .int .i64 (b : Int)], u.oneCell' = true := by simp [Value.oneCell']
  have hpos := h.wf.pos
  obtain ⟨N, hN⟩ : ∃ N, F.length = N := ⟨_, rfl⟩
  have hlen : (fcells F).length = N * 2 := by rw [fcells_len, hN]
  rw [hN] at hL hl c0 hr2 hx2 hvp hvm hft hpos ⊢
  obtain ⟨fc, hfc⟩ : ∃ l, fcells F = l := ⟨_, rfl⟩
  rw [hfc] at hr2
  have d1 : ((N : Int) == 0) = false := by simp; omega
  have d2 : decide ((60000 : Int) ≤ (N : Int)) = false := by simp; omega
  have hx1 : N + 1 ≤ maxLen := by unfold maxLen; omega
  have hx2' : (N + 1) * 16 ≤ 140737488355328 := by omega
  have hpw : p < w.heap.size := lt_of_get h.blk
  unfold RW at hL
  replace hfc := Lib.hid hfc
  replace hN := Lib.hid hN
  replace hL := Lib.hid hL
  replace hr2 := Lib.hid hr2
  replace hx2 := Lib.hid hx2
  replace hm2 := Lib.hid hm2
  replace hnw := Lib.hid hnw
  replace hvp := Lib.hid hvp
  replace hvm := Lib.hid hvm
  replace hmp := Lib.hid hmp
  replace hft := Lib.hid hft
  replace hsz2 := Lib.hid hsz2
  replace hB2 := Lib.hid hB2
  replace hone := Lib.hid hone
  replace hx1 := Lib.hid hx1
  replace hx2' := Lib.hid hx2'
  replace hWP1 := Lib.hid hWP1
  replace hpw := Lib.hid hpw
  replace hs1 := Lib.hid hs1
  replace hbw := Lib.hid hbw
  replace hlen := Lib.hid hlen
  replace hpos := Lib.hid hpos
  clear h h1 h2 hba hB1
  go_enter Try.func30, Try.ntmps30
  go_wp2_with fail
  (with_reducible refine hL.out.mono ?_)
  rintro e w2 ⟨rfl, hw2⟩
  subst hw2
  go_wp2_with fail
  go_region_law (refine step_append_lies _ rfl (.tmp 19) (.tmp 21) 53 rfl B 58 i0 (.agg #[.int .i64 0, .int .i64 0]) 2 16 Try.underlying53 hi hz0 hz1 hz2 rfl (by decide) _ N fc (by simp [Act.eval]) hr2.out ⟨w1.heap.size, 0, none⟩ 1 1 [.int .i64 (a : Int), .int .i64 (b : Int)] (by simp [Act.eval]) rfl hnw.out hone.out (by decide) hx1.out hx2'.out hB2.out (w1.heap.size + 1) hsz2.out ?_; intro g2 cap w6 ho6 hg6 hgb hlt6; have hp6 : w6.heap[p]? = some (.cells #[.slice (some ⟨g, 0, none⟩) N cp, .map (some m), .int .i64 (cnt F : Int)] 56 (0, 0)) := (hg6.block p (lt_of_get hx2.out) (fun e => hvp.out e.symm)).trans hx2.out; have q0 : w6.cell? ⟨p, 0, none⟩ = some (.slice (some ⟨g, 0, none⟩) N cp) := (by rw [Lib.cell_of_heap hp6]; rfl); have qf : w6.frozen? ⟨p, 0, none⟩ = false := Lib.frozen_of_heap hp6 0; have ql := lt_of_get hp6)
  all_goals (
    have hp7 := heap_set w6 p 0 _ _ (.slice (some ⟨g2, 0, none⟩) (N + 1) cap) hp6
    have hgp : g2 ≠ p := by
      rcases hgb with e | e
      · intro e2; rw [e2] at e; exact hvp.out e
      · have := hpw.out; have := hs1.out; omega
    have ho7 := own_keepT (w' := w6.setCell ⟨p, 0, none⟩ (.slice (some ⟨g2, 0, none⟩) (N + 1) cap)) ho6 fun b hb => by cases hb; exact Below.heap_setCell _ _ _ _ hgp
    have hm7 : MapIs (w6.setCell ⟨p, 0, none⟩ (.slice (some ⟨g2, 0, none⟩) (N + 1) cap)) m n D := (hm2.out.kept hg6 (fun e => hvm.out e.symm)).setCell hmp.out _
    have hk6 : Keep (FT w1 p) w1 w6 := (Keep.of_below (F := FT w1 p) (hbw.out.mono (by have := hs1.out; omega))).trans (keep_grown (F := FT w1 p) hg6 fun b hb => (hft.out b).2 (.inr (.inl hb))) fun x hx => .inl hx
    have hW7 : WP p w (w6.setCell ⟨p, 0, none⟩ (.slice (some ⟨g2, 0, none⟩) (N + 1) cap)) := hWP1.out.trans ⟨hk6.set ⟨p, 0, none⟩ (.inl rfl) _, fun x hx => by
      rcases hx with e | ⟨v', m', i', T', f', h1, h2⟩
      · exact .inl (.inl e)
      · rw [hp7] at h1
        cases h1
        rcases h2 with e | e
        · cases e
          rcases hgb with e | e
          · exact .inl ((hft.out _).2 (.inr (.inl e)))
          · exact .inr (by show w1.heap.size ≤ g2; omega)
        · exact .inl ((hft.out x).2 (.inr (.inr e)))⟩
    have hAD : AD w B p F (a, b) m n D (w6.setCell ⟨p, 0, none⟩ (.slice (some ⟨g2, 0, none⟩) (N + 1) cap)) := ⟨_, hp7, by
      rw [fcells_app, hfc.out, hN.out]
      exact ho7, hm7, hW7⟩
    have e0 : (w6.setCell ⟨p, 0, none⟩ (.slice (some ⟨g2, 0, none⟩) (N + 1) cap)).cell? ⟨p, 0, none⟩ = some (.slice (some ⟨g2, 0, none⟩) (N + 1) cap) := by rw [Lib.cell_of_heap hp7]; rfl
    have e1 := lt_of_get hp7
    obtain ⟨w7, hw7⟩ : ∃ W, w6.setCell ⟨p, 0, none⟩ (.slice (some ⟨g2, 0, none⟩) (N + 1) cap) = W := ⟨_, rfl⟩
    rw [hw7] at hAD e0 e1 ⊢
    replace hAD := Lib.hid hAD
    clear hp7 ho7 hm7 hk6 hW7 hw7 q0 qf ql hp6 ho6 hg6 hgb hlt6 hgp cb0 cb1 bl c0 cl hw1
    go_wp2_with fail
    go_ret2
    exact ⟨by simp, hAD.out⟩)
end Go.Proofs.Ytinfkjflomdhbaa
