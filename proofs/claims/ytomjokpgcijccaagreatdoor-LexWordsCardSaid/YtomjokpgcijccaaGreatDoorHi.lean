/-
  The walk of Lex.
-/
import Derived.Test.YtomjokpgcijccaaGreatDoorHh
import Derived.Deep.AppendLies
namespace Go.Proofs.YtomjokpgcijccaaGreatDoor
open Go.RowKit Go.Lib
/-- The cells of words, one behind the other. -/
def tcs (l : List TK) : List Value := l.flatMap fun x => [.int .i64 (x.k : Int), .string (tx x.t), .int .i64 x.p.f, .int .i64 x.p.l, .int .i64 x.p.c]
theorem tcs_len (l : List TK) : (tcs l).length = l.length * 5 := by
  induction l with
  | nil => rfl
  | cons x l ih =>
    have : tcs (x :: l) = [.int .i64 (x.k : Int), .string (tx x.t), .int .i64 x.p.f, .int .i64 x.p.l, .int .i64 x.p.c] ++ tcs l := rfl
    rw [this, List.length_append, ih, List.length_cons]
    simp; omega
theorem tcs_app (a b : List TK) : tcs (a ++ b) = tcs a ++ tcs b := by simp [tcs]
/-- Pieces lie in a slice. -/
def PCL (w : World) (A : Option Addr) (qs : List PC) : Prop := 0 < qs.length → ∃ b off : Nat, A = some ⟨b, off, none⟩ ∧ b < w.heap.size ∧ ∀ j (hj : j < qs.length),
  w.cell? ⟨b, off + j * 5, none⟩ = some (.string (tx qs[j].t)) ∧ w.cell? ⟨b, off + j * 5 + 1, none⟩ = some (.int .i64 qs[j].p.f) ∧ w.cell? ⟨b, off + j * 5 + 2, none⟩ = some (.int .i64 qs[j].p.l) ∧ w.cell? ⟨b, off + j * 5 + 3, none⟩ = some (.int .i64 qs[j].p.c) ∧ w.cell? ⟨b, off + j * 5 + 4, none⟩ = some (.bool qs[j].fx)
theorem PCL.over {w w' : World} {A : Option Addr} {qs : List PC} (h : PCL w A qs) (k : Below w.heap.size w w') : PCL w' A qs := fun h0 => by
  obtain ⟨b, off, e, hb, hc⟩ := h h0
  refine ⟨b, off, e, Nat.lt_of_lt_of_le hb k.size, fun j hj => ?_⟩
  obtain ⟨c0, c1, c2, c3, c4⟩ := hc j hj
  exact ⟨(k.cell (p := ⟨b, _, none⟩) hb).trans c0, (k.cell (p := ⟨b, _, none⟩) hb).trans c1, (k.cell (p := ⟨b, _, none⟩) hb).trans c2, (k.cell (p := ⟨b, _, none⟩) hb).trans c3, (k.cell (p := ⟨b, _, none⟩) hb).trans c4⟩
theorem LS.over {w w' : World} (h : LS w) (hb : Below w.heap.size w w') : LS w' := by
  obtain ⟨cs, t, fr, hg, h1, h2⟩ := h
  exact ⟨cs, t, fr, (hb.block _ (Array.getElem?_eq_some_iff.1 hg).1).trans hg, h1, h2⟩
/-- A slice's own row stays where its block stays. -/
theorem own_blk {w w' : World} {B n s : Nat} {e : TypeId} {v : Value} {xs : List Value} (h : w.ownsRow B e s v n xs) (k : ∀ g, v.ownBlock = some g → w'.heap[g]? = w.heap[g]?) : w'.ownsRow B e s v n xs := by
  refine ⟨h.1, ?_⟩
  rcases h.2 with h2 | ⟨g, cap, cur, rfl, hb, hg, h3⟩
  · exact Or.inl h2
  · exact Or.inr ⟨g, cap, cur, rfl, hb, (k g rfl).trans hg, h3⟩
theorem own_lt {w : World} {B n s : Nat} {e : TypeId} {v : Value} {xs : List Value} (h : w.ownsRow B e s v n xs) : ∀ g, v.ownBlock = some g → B ≤ g ∧ g < w.heap.size := by
  rcases h.2 with ⟨rfl, _⟩ | ⟨g, cap, cur, rfl, hb, hg, h3⟩
  · intro g hg; cases hg
  · intro g' hg'
    cases hg'
    exact ⟨hb, (Array.getElem?_eq_some_iff.1 hg).1⟩
theorem own_len {w : World} {B n s : Nat} {e : TypeId} {v : Value} {xs : List Value} (h : w.ownsRow B e s v n xs) : v = .slice none 0 0 ∧ n = 0 ∨ ∃ A cap, v = .slice (some A) n cap := by
  rcases h.2 with ⟨rfl, h0⟩ | ⟨g, cap, cur, rfl, _⟩
  · exact Or.inl ⟨rfl, h0⟩
  · exact Or.inr ⟨_, _, rfl⟩
theorem own_form {w : World} {B n s : Nat} {e : TypeId} {v : Value} {xs : List Value} (h : w.ownsRow B e s v n xs) : ∃ A cap, v = .slice A n cap := by
  rcases h.2 with ⟨rfl, rfl⟩ | ⟨g, cap, cur, rfl, _⟩
  · exact ⟨none, 0, rfl⟩
  · exact ⟨_, _, rfl⟩
theorem info_token : (Tryz.prog.info? 37).map (fun i => (i.zero, i.size, i.bytes)) = some (some (.agg #[.int .i64 0, .string ⟨#[]⟩, .int .i64 0, .int .i64 0, .int .i64 0]), 5, 48) := by kernel_rfl
/-- What Lex leaves. -/
def LR (w : World) (R : Except (PS × Int) (List TK)) (e : Ending) (w' : World) : Prop :=
  Below w.heap.size w w' ∧ match R with
  | .error x => e = .returned (.tuple #[.slice none 0 0, .agg #[.int .i64 x.1.f, .int .i64 x.1.l, .int .i64 x.1.c], .int .i64 x.2])
  | .ok a => ∃ v, e = .returned (.tuple #[v, .agg #[.int .i64 0, .int .i64 0, .int .i64 0], .int .i64 0]) ∧ w'.ownsRow (w.heap.size + 1) 37 5 v a.length (tcs a)
/-- Block b is a variable of three cells. -/
def C3 (w : World) (b : Nat) (ty : TypeId) (x0 x1 x2 : Value) : Prop := w.heap[b]? = some (.cells #[x0, x1, x2] ty (0, 0))
theorem C3.lt {w : World} {b : Nat} {ty : TypeId} {x0 x1 x2 : Value} (h : C3 w b ty x0 x1 x2) : b < w.heap.size := (Array.getElem?_eq_some_iff.1 h).1
theorem C3.all {w : World} {b : Nat} {ty : TypeId} {x0 x1 x2 : Value} (h : C3 w b ty x0 x1 x2) : w.cell? ⟨b, 0, none⟩ = some x0 ∧ w.cell? ⟨b, 1, none⟩ = some x1 ∧ w.cell? ⟨b, 2, none⟩ = some x2 ∧ (∀ i, w.frozen? ⟨b, i, none⟩ = false) := by
  unfold C3 at h
  exact ⟨by simp [World.cell?, h], by simp [World.cell?, h], by simp [World.cell?, h], fun i => by simp [World.frozen?, h]⟩
theorem C3.over {w w' : World} {b : Nat} {ty : TypeId} {x0 x1 x2 : Value} (h : C3 w b ty x0 x1 x2) (k : Below w.heap.size w w') : C3 w' b ty x0 x1 x2 := (k.block b h.lt).trans h
theorem C3.keep {w w' : World} {b c : Nat} {ty : TypeId} {x0 x1 x2 : Value} (h : C3 w b ty x0 x1 x2) (k : KB c w w') (hc : b ≠ c) : C3 w' b ty x0 x1 x2 := (k.blk b hc h.lt).trans h
theorem C3.drew {w : World} {b : Nat} {ty : TypeId} {x0 x1 x2 : Value} (h : C3 w b ty x0 x1 x2) : C3 w.drew b ty x0 x1 x2 := h
theorem C3.set3 {w : World} {b : Nat} {ty : TypeId} {x0 x1 x2 : Value} (h : C3 w b ty x0 x1 x2) (y0 y1 y2 : Value) : C3 (((w.setCell ⟨b, 0, none⟩ y0).setCell ⟨b, 1, none⟩ y1).setCell ⟨b, 2, none⟩ y2) b ty y0 y1 y2 := by
  unfold C3 at *
  simp [World.setCell, Array.getElem?_modify, h]
theorem C5.far3 {w : World} {b : Nat} {ty : TypeId} {x0 x1 x2 x3 x4 : Value} (h : C5 w b ty x0 x1 x2 x3 x4) {d : Nat} (hd : b ≠ d) {y0 y1 y2 : Value} :
    C5 (((w.setCell ⟨d, 0, none⟩ y0).setCell ⟨d, 1, none⟩ y1).setCell ⟨d, 2, none⟩ y2) b ty x0 x1 x2 x3 x4 :=
  ((h.far (p := ⟨d, 0, none⟩) hd _).far (p := ⟨d, 1, none⟩) hd _).far (p := ⟨d, 2, none⟩) hd _
theorem C5.news {w : World} {b : Nat} {ty : TypeId} {x0 x1 x2 x3 x4 : Value} (h : C5 w b ty x0 x1 x2 x3 x4) : ∀ j u, [x0, x1, x2, x3, x4][j]? = some u → w.cell? ((⟨b, 0, none⟩ : Addr).add j) = some u := by
  obtain ⟨h0, h1, h2, h3, h4⟩ := h.vals
  have hadd : ∀ j, (⟨b, 0, none⟩ : Addr).add j = ⟨b, j, none⟩ := fun j => by unfold Addr.add; split <;> simp_all
  intro j u hj
  rw [hadd]
  match j, hj with
  | 0, hj => cases hj; exact h0
  | 1, hj => cases hj; exact h1
  | 2, hj => cases hj; exact h2
  | 3, hj => cases hj; exact h3
  | 4, hj => cases hj; exact h4
  | j + 5, hj => simp at hj
def lenOf (b : Nat) (w : World) : Nat := match w.cell? ⟨b, 0, none⟩ with
  | some (.string s) => s.size
  | _ => 0
def goOn (qs : List PC) : Except (PS × Int) (List TK) → Except (PS × Int) (List TK)
  | .error x => .error x
  | .ok a => lexL nbP qs a
theorem lexL_step (qs : List PC) (k : Nat) (h : k < qs.length) (acc : List TK) : lexL nbP (qs.drop k) acc = goOn (qs.drop (k + 1)) (lexP nbP qs[k].fx qs[k].t qs[k].p acc) := by
  rw [List.drop_eq_getElem_cons h]
  unfold lexL
  cases lexP nbP qs[k].fx qs[k].t qs[k].p acc <;> rfl
set_option maxRecDepth 100000 in
set_option maxHeartbeats 6400000 in
theorem Lex_t (A : Option Addr) (c : Nat) (qs : List PC) (w : World) (hA : PCL w A qs) (hN : qs.length ≤ 1000000000) (hL : LS w) (hq : ∀ q, q ∈ qs → q.p.ok ∧ q.t.length < 4611686018427387900) :
    Calls Tryz.prog 6 #[.slice A qs.length c] w (LR w (lexL nbP qs [])) := by
  obtain ⟨R, hR⟩ : ∃ R, lexL nbP qs [] = R := ⟨_, rfl⟩
  obtain ⟨N, hNe⟩ : ∃ N, qs.length = N := ⟨_, rfl⟩
  have h00 : lexL nbP (qs.drop 0) [] = R := hR
  rw [hR, hNe]
  rw [hNe] at hN
  obtain ⟨i0, hi, hz0, hz1, hz2⟩ := info_parts info_token
  replace h00 := Lib.hid h00
  replace hA := Lib.hid hA
  replace hL := Lib.hid hL
  replace hq := Lib.hid hq
  replace hNe := Lib.hid hNe
  clear hR
  have Z0 : C3 _ w.heap.size _ _ _ _ := Go.Deep.blk_alloc_new w (.cells #[.int .i64 0, .int .i64 0, .int .i64 0] 29)
  have hb0 : Below w.heap.size w (w.alloc (.cells #[.int .i64 0, .int .i64 0, .int .i64 0] 29)) := (Below.refl _ w).alloc (Nat.le_refl _) _
  replace Z0 := Lib.hid Z0
  replace hb0 := Lib.hid hb0
  go_enter Tryz.func6, Tryz.ntmps6
  go_wp2_with fail
  go_loopw [5, 13] (fun v iv wr => ∃ k : Nat, k ≤ N ∧ iv = .int .i64 (k : Int) ∧ ∃ acc, acc.length ≤ 12000 ∧ lexL nbP (qs.drop k) acc = R ∧ wr.ownsRow (w.heap.size + 1) 37 5 v acc.length (tcs acc) ∧ C3 wr w.heap.size 29 (.int .i64 0) (.int .i64 0) (.int .i64 0) ∧ Below w.heap.size w wr) (fun _ iv _ => N - (RowKit.intOf iv).toNat)
  case atStart => exact ⟨0, Nat.zero_le _, rfl, [], by simp, h00.out, ⟨rfl, Or.inl ⟨rfl, rfl⟩⟩, Z0.out, hb0.out⟩
  case round =>
    obtain ⟨k, hk, rfl, acc, hacc, hr, hown, Z, hbw⟩ := hrel
    clear Z0 hb0 h00
    by_cases hlt : k < N
    · have hkl : k < qs.length := by rw [hNe.out]; exact hlt
      obtain ⟨bA, oA, rfl, hbA, hc⟩ := hA.out (by omega)
      obtain ⟨c0, c1, c2, c3, c4⟩ := hc k hkl
      have hbc := fun o => hbw.cell (p := ⟨bA, o, none⟩) hbA
      rw [← hbc] at c0 c1 c2 c3 c4
      rw [lexL_step qs k hkl acc] at hr
      obtain ⟨hqo, hql⟩ := hq.out qs[k] (List.getElem_mem hkl)
      generalize qs[k].t = l0 at *
      generalize qs[k].fx = fx at *
      generalize qs[k].p = p0 at *
      obtain ⟨S0, hS0⟩ : ∃ S, tx l0 = S := ⟨_, rfl⟩
      rw [hS0] at c0
      have hRD : RD ((wr.alloc (.cells #[.string S0, .int .i64 p0.f, .int .i64 p0.l, .int .i64 p0.c, .bool fx] 41)).alloc (.cells #[.string S0, .int .i64 p0.f, .int .i64 p0.l, .int .i64 p0.c, .bool fx] 45)) (wr.heap.size + 1) (tx l0) p0 fx := by
        rw [hS0, RD_is]
        exact World.size_alloc wr (.cells #[.string S0, .int .i64 p0.f, .int .i64 p0.l, .int .i64 p0.c, .bool fx] 41) ▸ C5.new (wr.alloc (.cells #[.string S0, .int .i64 p0.f, .int .i64 p0.l, .int .i64 p0.c, .bool fx] 41)) 45 (.string S0) (.int .i64 p0.f) (.int .i64 p0.l) (.int .i64 p0.c) (.bool fx)
      have hskb := skipBlanks_t (wr.heap.size + 1) l0 p0 fx _ hRD hqo (by omega)
      have hbwA : Below wr.heap.size wr ((wr.alloc (.cells #[.string S0, .int .i64 p0.f, .int .i64 p0.l, .int .i64 p0.c, .bool fx] 41)).alloc (.cells #[.string S0, .int .i64 p0.f, .int .i64 p0.l, .int .i64 p0.c, .bool fx] 45)) := by go_grown
      have szA : ((wr.alloc (.cells #[.string S0, .int .i64 p0.f, .int .i64 p0.l, .int .i64 p0.c, .bool fx] 41)).alloc (.cells #[.string S0, .int .i64 p0.f, .int .i64 p0.l, .int .i64 p0.c, .bool fx] 45)).heap.size = wr.heap.size + 1 + 1 := by simp
      have zr := hbw.size
      have hadv := adv_ok fx (l0.take (ah blkB l0)) hqo
      clear hS0 hc hbc hRD hqo hA hq
      replace hskb := Lib.hid hskb
      replace hbwA := Lib.hid hbwA
      replace szA := Lib.hid szA
      replace hr := Lib.hid hr
      replace hown := Lib.hid hown
      replace Z := Lib.hid Z
      replace hbw := Lib.hid hbw
      replace hadv := Lib.hid hadv
      go_wp2_with fail
      (with_reducible refine hskb.out.mono ?_)
      rintro e w2 ⟨rfl, hR2, hK2⟩
      have Z2 : C3 w2 w.heap.size 29 (.int .i64 0) (.int .i64 0) (.int .i64 0) := (Z.out.over hbwA.out).keep hK2 (by omega)
      have hbr : ∀ g, u5.ownBlock = some g → g ≠ wr.heap.size + 1 := fun g hg => by have := (own_lt hown.out g hg).2; omega
      have hown2 : w2.ownsRow (w.heap.size + 1) 37 5 u5 acc.length (tcs acc) := own_blk hown.out fun g hg => (hK2.blk g (hbr g hg) (by have := (own_lt hown.out g hg).2; have := szA.out; omega)).trans (hbwA.out.block g (own_lt hown.out g hg).2)
      have hbw2 : Below w.heap.size w w2 := (hbw.out.trans (hbwA.out.mono zr)).trans (hK2.below (by omega) (by have := szA.out; omega))
      have hr2 := hr.out
      unfold lexP at hr2
      have hl1 : (l0.drop (ah blkB l0)).length ≤ l0.length := by rw [List.length_drop]; omega
      have ha2 := hadv.out
      generalize l0.drop (ah blkB l0) = l1 at *
      generalize adv fx p0 (l0.take (ah blkB l0)) = p1 at *
      clear hown Z hbw hr hskb hK2 hbwA szA hadv c0 c1 c2 c3 c4
      replace Z2 := Lib.hid Z2
      replace hown2 := Lib.hid hown2
      replace hbw2 := Lib.hid hbw2
      replace hr2 := Lib.hid hr2
      replace hR2 := Lib.hid hR2
      replace hl1 := Lib.hid hl1
      replace ha2 := Lib.hid ha2
      replace hbr := Lib.hid hbr
      replace hql := Lib.hid hql
      generalize hBR : wr.heap.size + 1 = bR at *
      have hbR : w.heap.size < bR := by omega
      replace hBR := Lib.hid hBR
      go_wp2_with fail
      go_loopw [5] (fun v wq => ∃ l p a f, List.length l < f ∧ l.length < 4611686018427387900 ∧ PS.ok p ∧ a.length ≤ 12000 ∧ goOn (qs.drop (k + 1)) (lexF nbP fx f l p a) = R ∧ RD wq bR (tx l) p fx ∧ wq.ownsRow (w.heap.size + 1) 37 5 v a.length (tcs a) ∧ (∀ g, v.ownBlock = some g → g ≠ bR) ∧ C3 wq w.heap.size 29 (.int .i64 0) (.int .i64 0) (.int .i64 0) ∧ Below w.heap.size w wq) (fun _ wq => lenOf bR wq)
      case atStart => exact ⟨l1, p1, acc, l0.length + 1, by have := hl1.out; omega, by have := hl1.out; have := hql.out; omega, ha2.out, hacc, hr2.out, hR2.out, hown2.out, hbr.out, Z2.out, hbw2.out⟩
      case round =>
        obtain ⟨l, p, a, f, hf, hl, hp, ha, hr, hRD, hown, hbo, Z, hbw⟩ := hrel
        clear Z2 hown2 hbw2 hr2 hR2 hl1 ha2 hbr hql hacc
        obtain ⟨S, hS⟩ : ∃ S, tx l = S := ⟨_, rfl⟩
        have hmea : lenOf bR wr = l.length := by unfold lenOf; rw [hRD.cells.2.1]; rfl
        obtain ⟨Av, cv, rfl⟩ := own_form hown
        have cS : wr.cell? ⟨bR, 0, none⟩ = some (.string S) := hS ▸ hRD.cells.2.1
        have bRlt := hRD.cells.1
        by_cases h0 : l = []
        · have hne : S.toList = [] := by rw [← hS, tx_toList]; exact h0
          have hne2 : S.toList.isEmpty = true := by rw [hne]; rfl
          have hfin : lexL nbP (qs.drop (k + 1)) a = R := by
            rw [← hr]
            obtain ⟨g, rfl⟩ : ∃ g, f = g + 1 := ⟨f - 1, by omega⟩
            unfold lexF
            rw [if_pos h0]; rfl
          replace hfin := Lib.hid hfin
          replace hne := Lib.hid hne
          replace hown := Lib.hid hown
          replace Z := Lib.hid Z
          replace hbw := Lib.hid hbw
          replace hRD := Lib.hid hRD
          clear hr hf hp hS h0 hbo hmea
          go_wp2_with fail
          go_roundw
          case rel => exact ⟨k + 1, by omega, by go_num, a, ha, hfin.out, hown.out, Z.out, hbw.out⟩
          case measure => simp [RowKit.intOf]; omega
        · obtain ⟨hne, hne2⟩ := ne_toList hS h0
          have hNx := next_t bR l p fx wr hRD hp (by omega) h0 (hL.out.over hbw)
          have hf' : ∃ g, f = g + 1 := ⟨f - 1, by omega⟩
          obtain ⟨g, rfl⟩ := hf'
          unfold lexF at hr
          rw [if_neg h0] at hr
          unfold tkV at hNx
          simp only at hNx
          replace hNx := Lib.hid hNx
          replace hown := Lib.hid hown
          replace Z := Lib.hid Z
          replace hbw := Lib.hid hbw
          replace hRD := Lib.hid hRD
          replace hr := Lib.hid hr
          replace hbo := Lib.hid hbo
          replace hmea := Lib.hid hmea
          have hme := me_le l
          go_wp2_with fail
          (with_reducible refine hNx.out.mono ?_)
          rintro e w3 ⟨rfl, hR3, hK3⟩
          have Z3 := Z.out.keep hK3 (by omega)
          have hown3 : w3.ownsRow (w.heap.size + 1) 37 5 (.slice Av a.length cv) a.length (tcs a) := own_blk hown.out fun g hg => hK3.blk g (hbo.out g hg) (own_lt hown.out g hg).2
          have hlt3 := fun g hg => (own_lt hown3 g hg).2
          have hbw3 : Below w.heap.size w w3 := hbw.out.trans (hK3.below (by omega) hbw.out.size)
          have hr3 := hr.out
          have b3 := hR3.cells.1
          have hlen : (l.drop (me l).2).length = l.length - (me l).2 := List.length_drop
          have hpos : ck nbP (me l).1 (l.take (me l).2) = 0 → 0 < (me l).2 := me_pos nbP
          have hadv : (adv fx p (l.take (me l).2)).ok := adv_ok fx _ hp
          obtain ⟨T, hT⟩ : ∃ T, tx (l.take (me l).2) = T := ⟨_, rfl⟩
          rw [hT]
          have hmeas := hmea.out
          obtain ⟨e0, he0⟩ : ∃ e0, ck nbP (me l).1 (l.take (me l).2) = e0 := ⟨_, rfl⟩
          rw [he0] at hr3 hpos ⊢
          have KK := C5.new w3 37 (.int .i64 ((me l).1 : Int)) (.string T) (.int .i64 p.f) (.int .i64 p.l) (.int .i64 p.c)
          have K0 := KK.all
          have ZZ := Z3.over ((Below.refl _ w3).alloc (Nat.le_refl _) (.cells #[.int .i64 ((me l).1 : Int), .string T, .int .i64 p.f, .int .i64 p.l, .int .i64 p.c] 37))
          have z3 := hbw3.size
          have hbA3 : bA < w3.heap.size := by omega
          clear hK3 hNx hown Z hbw hRD hr hmea cS bRlt
          have ZA := (Z3.over ((Below.refl _ w3).alloc (Nat.le_refl _) (.cells #[.int .i64 ((me l).1 : Int), .string T, .int .i64 p.f, .int .i64 p.l, .int .i64 p.c] 37))).all
          have hbwA : Below w.heap.size w (w3.alloc (.cells #[.int .i64 ((me l).1 : Int), .string T, .int .i64 p.f, .int .i64 p.l, .int .i64 p.c] 37)) := hbw3.alloc z3 _
          have hRA : RD (w3.alloc (.cells #[.int .i64 ((me l).1 : Int), .string T, .int .i64 p.f, .int .i64 p.l, .int .i64 p.c] 37)) bR (tx (l.drop (me l).2)) (adv fx p (l.take (me l).2)) fx := (RD_is ▸ hR3 : C5 w3 bR _ _ _ _ _ _).alloc _
          have hoA : (w3.alloc (.cells #[.int .i64 ((me l).1 : Int), .string T, .int .i64 p.f, .int .i64 p.l, .int .i64 p.c] 37)).ownsRow (w.heap.size + 1) 37 5 (.slice Av a.length cv) a.length (tcs a) := own_blk hown3 fun g hg => Go.Deep.blk_alloc_lt _ _ _ (hlt3 g hg)
          have szA : (w3.alloc (.cells #[.int .i64 ((me l).1 : Int), .string T, .int .i64 p.f, .int .i64 p.l, .int .i64 p.c] 37)).heap.size = w3.heap.size + 1 := by simp
          replace Z3 := Lib.hid Z3
          replace hown3 := Lib.hid hown3
          replace hbw3 := Lib.hid hbw3
          replace hr3 := Lib.hid hr3
          replace hR3 := Lib.hid hR3
          replace hlen := Lib.hid hlen
          replace hpos := Lib.hid hpos
          replace hadv := Lib.hid hadv
          replace hmeas := Lib.hid hmeas
          replace hbwA := Lib.hid hbwA
          replace hRA := Lib.hid hRA
          replace hoA := Lib.hid hoA
          replace szA := Lib.hid szA
          replace KK := Lib.hid KK
          replace ZZ := Lib.hid ZZ
          replace hlt3 := Lib.hid hlt3
          by_cases hz : e0 = 0
          · by_cases hm : a.length = 12000
            · have q1 : (e0 == 0) = true := by simpa using hz
              have q3 : ((a.length : Int) == 12000) = true := by simp; omega
              have hRe : R = .error (p, 19) := by
                have := hr3.out
                rw [if_neg (by simpa using hz), if_pos hm] at this
                exact this.symm
              replace hz := Lib.hid hz
              replace hm := Lib.hid hm
              replace hRe := Lib.hid hRe
              clear hne hne2
              go_wp2_with fail
              have K1 := KK.out.drew.vals
              go_region_held3 (fun w' => w'.cell? ⟨w3.heap.size, 0, none⟩ = some (.int .i64 ((me l).1 : Int)) ∧ w'.cell? ⟨w3.heap.size, 1, none⟩ = some (.string T) ∧ w'.cell? ⟨w3.heap.size, 2, none⟩ = some (.int .i64 p.f) ∧ w'.cell? ⟨w3.heap.size, 3, none⟩ = some (.int .i64 p.l) ∧ w'.cell? ⟨w3.heap.size, 4, none⟩ = some (.int .i64 p.c))
                (first | (with_reducible exact K1) | (exact (KK.out.drew.far3 (by show w3.heap.size ≠ w.heap.size; omega)).vals)) (fail)
              have hb9 : Below w.heap.size w ((((w3.alloc (.cells #[.int .i64 ((me l).1 : Int), .string T, .int .i64 p.f, .int .i64 p.l, .int .i64 p.c] 37)).drew.setCell ⟨w.heap.size, 0, none⟩ (.int .i64 p.f)).setCell ⟨w.heap.size, 1, none⟩ (.int .i64 p.l)).setCell ⟨w.heap.size, 2, none⟩ (.int .i64 p.c)) := ((hbwA.out.drew.setCell (by exact Nat.le_refl _) _).setCell (by exact Nat.le_refl _) _).setCell (by exact Nat.le_refl _) _
              replace hb9 := Lib.hid hb9
              clear K0 K1
              go_wp2_with fail
              refine bodyPost_ret (v := .tuple #[.slice none 0 0, .agg #[.int .i64 p.f, .int .i64 p.l, .int .i64 p.c], .int .i64 19]) (by simp [results, Tryz.results6, go_sem, ZA]) rfl ⟨hb9.out, ?_⟩
              rw [hRe.out]
            · have q1 : (e0 == 0) = true := by simpa using hz
              have q2 : (e0 != 0) = false := by simpa using hz
              have q3 : ((a.length : Int) == 12000) = false := by simp; omega
              have hRe : goOn (qs.drop (k + 1)) (lexF nbP fx g ((l.drop (me l).2).drop (ah blkB (l.drop (me l).2))) (adv fx (adv fx p (l.take (me l).2)) ((l.drop (me l).2).take (ah blkB (l.drop (me l).2)))) (a ++ [⟨(me l).1, l.take (me l).2, p⟩])) = R := by
                have := hr3.out
                rw [if_neg (by simpa using hz), if_neg hm] at this
                exact this
              have hnpos := hpos.out hz
              have ham : a.length + 1 ≤ 12000 := by omega
              have hsB : ((w3.alloc (.cells #[.int .i64 ((me l).1 : Int), .string T, .int .i64 p.f, .int .i64 p.l, .int .i64 p.c] 37)).alloc (.cells #[.int .i64 ((me l).1 : Int), .string T, .int .i64 p.f, .int .i64 p.l, .int .i64 p.c] 37)).heap.size = w3.heap.size + 1 + 1 := by simp
              have hoB : ((w3.alloc (.cells #[.int .i64 ((me l).1 : Int), .string T, .int .i64 p.f, .int .i64 p.l, .int .i64 p.c] 37)).alloc (.cells #[.int .i64 ((me l).1 : Int), .string T, .int .i64 p.f, .int .i64 p.l, .int .i64 p.c] 37)).ownsRow (w.heap.size + 1) 37 5 (.slice Av a.length cv) a.length (tcs a) := own_blk hoA.out fun g hg => Go.Deep.blk_alloc_lt _ _ _ (by have := hlt3.out g hg; have := szA.out; omega)
              have hbB : Below w.heap.size w ((w3.alloc (.cells #[.int .i64 ((me l).1 : Int), .string T, .int .i64 p.f, .int .i64 p.l, .int .i64 p.c] 37)).alloc (.cells #[.int .i64 ((me l).1 : Int), .string T, .int .i64 p.f, .int .i64 p.l, .int .i64 p.c] 37)) := hbwA.out.alloc (by have := szA.out; omega) _
              have hRB := (RD_is ▸ hRA.out : C5 _ bR _ _ _ _ _ _).alloc (.cells #[.int .i64 ((me l).1 : Int), .string T, .int .i64 p.f, .int .i64 p.l, .int .i64 p.c] 37)
              have hZB : C3 ((w3.alloc (.cells #[.int .i64 ((me l).1 : Int), .string T, .int .i64 p.f, .int .i64 p.l, .int .i64 p.c] 37)).alloc (.cells #[.int .i64 ((me l).1 : Int), .string T, .int .i64 p.f, .int .i64 p.l, .int .i64 p.c] 37)) w.heap.size 29 (.int .i64 0) (.int .i64 0) (.int .i64 0) := ZZ.out.over ((Below.refl _ _).alloc (Nat.le_refl _) _)
              have hNB : C5 ((w3.alloc (.cells #[.int .i64 ((me l).1 : Int), .string T, .int .i64 p.f, .int .i64 p.l, .int .i64 p.c] 37)).alloc (.cells #[.int .i64 ((me l).1 : Int), .string T, .int .i64 p.f, .int .i64 p.l, .int .i64 p.c] 37)) (w3.heap.size + 1) 37 (.int .i64 ((me l).1 : Int)) (.string T) (.int .i64 p.f) (.int .i64 p.l) (.int .i64 p.c) := szA.out ▸ C5.new (w3.alloc (.cells #[.int .i64 ((me l).1 : Int), .string T, .int .i64 p.f, .int .i64 p.l, .int .i64 p.c] 37)) _ _ _ _ _ _
              have hl2 : (l.drop (me l).2).length < l.length := by rw [hlen.out]; omega
              have hbo3 : ∀ g, (Value.slice Av a.length cv).ownBlock = some g → g < w3.heap.size := hlt3.out
              replace hz := Lib.hid hz
              replace hm := Lib.hid hm
              replace hRe := Lib.hid hRe
              replace hsB := Lib.hid hsB
              replace hoB := Lib.hid hoB
              replace hbB := Lib.hid hbB
              replace hRB := Lib.hid hRB
              replace hZB := Lib.hid hZB
              replace hNB := Lib.hid hNB
              replace hl2 := Lib.hid hl2
              replace hbo3 := Lib.hid hbo3
              clear hne hne2 hr3 hoA hRA ZZ KK ZA hlt3
              go_wp2_with (at_builtin; refine wpList_append_lies _ rfl _ _ 27 rfl (w.heap.size + 1) 37 i0 (.agg #[.int .i64 0, .string ⟨#[]⟩, .int .i64 0, .int .i64 0, .int .i64 0]) 5 48 Tryz.underlying27 hi hz0 hz1 hz2 rfl (by decide) _ a.length (tcs a) rfl hoB.out ⟨w3.heap.size + 1, 0, none⟩ 1 1 [.int .i64 ((me l).1 : Int), .string T, .int .i64 p.f, .int .i64 p.l, .int .i64 p.c] rfl ?a0 ?a1 ?a2 ?a3 ?a4 ?a5 ?a6 (w3.heap.size + 1 + 1) ?a7 ?a8)
              case a0 => rfl
              case a1 => exact hNB.out.news
              case a2 => simp [Value.oneCell']
              case a3 => decide
              case a4 => unfold maxLen; omega
              case a5 => omega
              case a6 => have := hsB.out; omega
              case a7 => exact hsB.out
              case a8 =>
                intro g2 cap w6 ho6 hg6 hgb hlt6
                have hbo9 := hbo.out
                have hnR : some bR ≠ (Value.slice Av a.length cv).ownBlock := fun h => hbo9 bR h.symm rfl
                have hlow := fun g hg => (own_lt hoB.out g hg).1
                have hnZ : some w.heap.size ≠ (Value.slice Av a.length cv).ownBlock := fun h => by have := hlow _ h.symm; omega
                have R6 : RD w6 bR (tx (l.drop (me l).2)) (adv fx p (l.take (me l).2)) fx := (hg6.block bR (by have := hsB.out; omega) hnR).trans hRB.out
                have Z6 : C3 w6 w.heap.size 29 (.int .i64 0) (.int .i64 0) (.int .i64 0) := (hg6.block w.heap.size (by have := hsB.out; omega) hnZ).trans hZB.out
                have hbw6 : Below w.heap.size w w6 := hbB.out.grown hg6 (by have := hsB.out; omega) (fun k hk => by have := hlow _ hk; omega)
                have ho6' : w6.ownsRow (w.heap.size + 1) 37 5 (.slice (some ⟨g2, 0, none⟩) (a.length + 1) cap) (a.length + 1) (tcs (a ++ [⟨(me l).1, l.take (me l).2, p⟩])) := by
                  rw [tcs_app]
                  have e : tcs [⟨(me l).1, l.take (me l).2, p⟩] = [.int .i64 ((me l).1 : Int), .string T, .int .i64 p.f, .int .i64 p.l, .int .i64 p.c] := by rw [← hT]; rfl
                  rw [e]; exact ho6
                have hg2R : g2 ≠ bR := by
                  rcases hgb with h | h
                  · exact hbo9 g2 h
                  · omega
                have hS6 := skipBlanks_t bR (l.drop (me l).2) (adv fx p (l.take (me l).2)) fx w6 R6 hadv.out (by have := hl2.out; omega)
                have hadv2 := adv_ok fx ((l.drop (me l).2).take (ah blkB (l.drop (me l).2))) hadv.out
                have hlend : ((l.drop (me l).2).drop (ah blkB (l.drop (me l).2))).length ≤ (l.drop (me l).2).length := by rw [List.length_drop]; omega
                have hRe9 := hRe.out
                generalize (l.drop (me l).2).drop (ah blkB (l.drop (me l).2)) = l9 at *
                generalize adv fx (adv fx p (l.take (me l).2)) ((l.drop (me l).2).take (ah blkB (l.drop (me l).2))) = p9 at *
                have hal : (a ++ [TK.mk (me l).1 (l.take (me l).2) p]).length = a.length + 1 := by simp
                generalize (a ++ [TK.mk (me l).1 (l.take (me l).2) p]) = a9 at *
                have hl9 : l9.length < l.length := by have := hl2.out; omega
                have zb6 := hbw6.size
                have hR6lt := (show RD w6 bR _ _ _ from R6).cells.1
                replace hRe9 := Lib.hid hRe9
                replace hS6 := Lib.hid hS6
                replace Z6 := Lib.hid Z6
                replace hbw6 := Lib.hid hbw6
                replace ho6' := Lib.hid ho6'
                replace hadv2 := Lib.hid hadv2
                replace hal := Lib.hid hal
                clear hRe hbo9 hnR hlow hnZ R6 ho6 hg6 hgb hoB hbB hRB hZB hNB hlend hl2 hsB hadv
                go_wp2_with fail
                (with_reducible refine hS6.out.mono ?_)
                rintro e w7 ⟨rfl, hR7, hK7⟩
                have Z7 := Z6.out.keep hK7 (by omega)
                have ho7 : w7.ownsRow (w.heap.size + 1) 37 5 (.slice (some ⟨g2, 0, none⟩) (a.length + 1) cap) (a.length + 1) (tcs a9) := own_blk ho6'.out fun g hg => by
                  cases hg
                  exact hK7.blk _ hg2R hlt6
                have hbw7 : Below w.heap.size w w7 := hbw6.out.trans (hK7.below (by omega) zb6)
                have hm7 : lenOf bR w7 = l9.length := by unfold lenOf; rw [hR7.cells.2.1]; rfl
                replace Z7 := Lib.hid Z7
                replace ho7 := Lib.hid ho7
                replace hbw7 := Lib.hid hbw7
                replace hR7 := Lib.hid hR7
                replace hm7 := Lib.hid hm7
                clear hK7 hS6 Z6 ho6' hbw6
                go_wp2_with fail
                go_roundw
                case rel => exact ⟨l9, p9, a9, g, by omega, by omega, hadv2.out, by rw [hal.out]; exact ham, hRe9.out, hR7.out, by rw [hal.out]; exact ho7.out, fun g' hg' => by cases hg'; exact hg2R, Z7.out, hbw7.out⟩
                case measure => rw [hm7.out, hmeas.out]; omega
          · have q1 : (e0 == 0) = false := by simpa using hz
            have q2 : (e0 != 0) = true := by simpa using hz
            have hRe : R = .error (p, e0) := by
              have := hr3.out
              rw [if_pos hz] at this
              exact this.symm
            replace hz := Lib.hid hz
            replace hRe := Lib.hid hRe
            clear hne hne2
            go_wp2_with fail
            have K1 := KK.out.drew.vals
            go_region_held3 (fun w' => w'.cell? ⟨w3.heap.size, 0, none⟩ = some (.int .i64 ((me l).1 : Int)) ∧ w'.cell? ⟨w3.heap.size, 1, none⟩ = some (.string T) ∧ w'.cell? ⟨w3.heap.size, 2, none⟩ = some (.int .i64 p.f) ∧ w'.cell? ⟨w3.heap.size, 3, none⟩ = some (.int .i64 p.l) ∧ w'.cell? ⟨w3.heap.size, 4, none⟩ = some (.int .i64 p.c))
              (first | (with_reducible exact K1) | (exact (KK.out.drew.far3 (by show w3.heap.size ≠ w.heap.size; omega)).vals)) (fail)
            have hb9 : Below w.heap.size w ((((w3.alloc (.cells #[.int .i64 ((me l).1 : Int), .string T, .int .i64 p.f, .int .i64 p.l, .int .i64 p.c] 37)).drew.setCell ⟨w.heap.size, 0, none⟩ (.int .i64 p.f)).setCell ⟨w.heap.size, 1, none⟩ (.int .i64 p.l)).setCell ⟨w.heap.size, 2, none⟩ (.int .i64 p.c)) := ((hbwA.out.drew.setCell (by exact Nat.le_refl _) _).setCell (by exact Nat.le_refl _) _).setCell (by exact Nat.le_refl _) _
            replace hb9 := Lib.hid hb9
            clear K0 K1
            go_wp2_with fail
            refine bodyPost_ret (v := .tuple #[.slice none 0 0, .agg #[.int .i64 p.f, .int .i64 p.l, .int .i64 p.c], .int .i64 e0]) (by simp [results, Tryz.results6, go_sem, ZA]) rfl ⟨hb9.out, ?_⟩
            rw [hRe.out]
    · obtain rfl : k = N := by omega
      have hfin : R = .ok acc := by
        rw [List.drop_eq_nil_of_le (by rw [hNe.out]; omega)] at hr
        exact hr.symm
      have zA := Z.all
      replace hfin := Lib.hid hfin
      replace hown := Lib.hid hown
      replace hbw := Lib.hid hbw
      replace Z := Lib.hid Z
      clear hr
      go_wp2_with fail
      refine bodyPost_ret (v := .tuple #[u5, .agg #[.int .i64 0, .int .i64 0, .int .i64 0], .int .i64 0]) (by simp [results, Tryz.results6, go_sem, zA]) rfl ⟨((hbw.out.setCell (by exact Nat.le_refl _) _).setCell (by exact Nat.le_refl _) _).setCell (by exact Nat.le_refl _) _, ?_⟩
      rw [hfin.out]
      refine ⟨u5, rfl, own_blk hown.out fun g hg => ?_⟩
      have := (own_lt hown.out g hg).1
      rw [Below.heap_setCell _ _ _ _ (by show g ≠ w.heap.size; omega), Below.heap_setCell _ _ _ _ (by show g ≠ w.heap.size; omega), Below.heap_setCell _ _ _ _ (by show g ≠ w.heap.size; omega)]
end Go.Proofs.YtomjokpgcijccaaGreatDoor
