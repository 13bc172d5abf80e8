/-
  The walk of the statements' few.
  The walk of LexJoins.
-/
import Derived.Test.YtomjokpgcijccaaGreatDoorHk
import Derived.Laws.AppendOwnNone
namespace Go.Proofs.YtomjokpgcijccaaGreatDoor
open Go.RowKit Go.Lib
/-- The cells of pieces, one behind the other. -/
def pcs (l : List PC) : List Value := l.flatMap fun q => [.string (tx q.t), .int .i64 q.p.f, .int .i64 q.p.l, .int .i64 q.p.c, .bool q.fx]
theorem pcs_len (l : List PC) : (pcs l).length = l.length * 5 := by
  induction l with
  | nil => rfl
  | cons x l ih =>
    have : pcs (x :: l) = [.string (tx x.t), .int .i64 x.p.f, .int .i64 x.p.l, .int .i64 x.p.c, .bool x.fx] ++ pcs l := rfl
    rw [this, List.length_append, ih, List.length_cons]
    simp; omega
theorem pcs_app (a b : List PC) : pcs (a ++ b) = pcs a ++ pcs b := by simp [pcs]
theorem pcs_get : ∀ (l : List PC) (j : Nat) (hj : j < l.length), (pcs l)[j * 5]? = some (.string (tx l[j].t)) ∧ (pcs l)[j * 5 + 1]? = some (.int .i64 l[j].p.f) ∧ (pcs l)[j * 5 + 2]? = some (.int .i64 l[j].p.l) ∧ (pcs l)[j * 5 + 3]? = some (.int .i64 l[j].p.c) ∧ (pcs l)[j * 5 + 4]? = some (.bool l[j].fx)
  | [], j, hj => by simp at hj
  | x :: l, 0, hj => by
    have e : pcs (x :: l) = .string (tx x.t) :: .int .i64 x.p.f :: .int .i64 x.p.l :: .int .i64 x.p.c :: .bool x.fx :: pcs l := rfl
    rw [e]
    exact ⟨rfl, rfl, rfl, rfl, rfl⟩
  | x :: l, j + 1, hj => by
    have e : pcs (x :: l) = .string (tx x.t) :: .int .i64 x.p.f :: .int .i64 x.p.l :: .int .i64 x.p.c :: .bool x.fx :: pcs l := rfl
    have ih := pcs_get l j (by simpa using hj)
    rw [e, show (j + 1) * 5 = j * 5 + 5 by omega]
    simpa only [List.getElem?_cons_succ, List.getElem_cons_succ] using ih
theorem own_PL {w : World} {B n c : Nat} {A : Option Addr} {t : TypeId} {l : List PC} (h : w.ownsRow B t 5 (.slice A n c) l.length (pcs l)) : PCL w A l ∧ n = l.length := by
  rcases h.2 with ⟨e, h0⟩ | ⟨g, cap, cur, e, hb, hg, h1, h2, h3, h4⟩
  · cases e
    exact ⟨fun hp => by omega, h0.symm⟩
  · cases e
    have hgl := (Array.getElem?_eq_some_iff.1 hg).1
    refine ⟨fun hp => ⟨g, 0, rfl, hgl, fun j hj => ?_⟩, rfl⟩
    have hcell : ∀ (o : Nat) (v : Value), (pcs l)[o]? = some v → w.cell? ⟨g, 0 + o, none⟩ = some v := fun o v hv => by
      rw [← h4] at hv
      rw [List.getElem?_take] at hv
      split at hv
      · simpa [World.cell?, hg] using hv
      · cases hv
    obtain ⟨t0, t1, t2, t3, t4⟩ := pcs_get l j hj
    exact ⟨hcell _ _ t0, hcell _ _ t1, hcell _ _ t2, hcell _ _ t3, hcell _ _ t4⟩
def cutP (q : PC) : PC := ⟨q.t.take 300, q.p, q.fx⟩
/-- At most six pieces of at most 300 bytes. -/
def fewL (qs : List PC) : List PC := (qs.take 6).map cutP
theorem info_piece : (Tryz.prog.info? 41).map (fun i => (i.zero, i.size, i.bytes)) = some (some (.agg #[.string ⟨#[]⟩, .int .i64 0, .int .i64 0, .int .i64 0, .bool false]), 5, 48) := by kernel_rfl
theorem info_piece7 : (Tryz.prog.info? 43).map (fun i => (i.zero, i.size, i.bytes)) = some (some (.agg #[.string ⟨#[]⟩, .int .i64 0, .int .i64 0, .int .i64 0, .bool false]), 5, 48) := by kernel_rfl
def FW (w : World) (L : List PC) (e : Ending) (w' : World) : Prop := ∃ v1 v2, e = .returned (.tuple #[v1, v2]) ∧ w'.ownsRow w.heap.size 43 5 v1 L.length (pcs L) ∧ w'.ownsRow w.heap.size 41 5 v2 L.length (pcs L) ∧ Below w.heap.size w w'
theorem take_cut (qs : List PC) (k : Nat) (h : k < qs.length) : (qs.take (k + 1)).map cutP = (qs.take k).map cutP ++ [cutP qs[k]] := by
  rw [List.take_succ_eq_append_getElem h, List.map_append]; rfl
theorem few_now {qs : List PC} {k : Nat} (hk : k = qs.length ∨ k = 6 ∧ 6 ≤ qs.length) (h6 : k ≤ 6) : (qs.take k).map cutP = fewL qs := by
  unfold fewL
  rcases hk with rfl | ⟨rfl, _⟩
  · rw [List.take_length, List.take_of_length_le h6]
  · rfl
set_option maxRecDepth 100000 in
set_option maxHeartbeats 6400000 in
theorem few_t (A : Option Addr) (c : Nat) (qs : List PC) (w : World) (hA : PCL w A qs) (hN : qs.length ≤ 9223372036854775807) : Calls Tryz.prog 5 #[.slice A qs.length c] w (FW w (fewL qs)) := by
  obtain ⟨N, hNe⟩ : ∃ N, qs.length = N := ⟨_, rfl⟩
  rw [hNe] at hN ⊢
  obtain ⟨i0, hi, hz0, hz1, hz2⟩ := info_parts info_piece
  obtain ⟨j0, hj, hy0, hy1, hy2⟩ := info_parts info_piece7
  unfold FW
  replace hA := Lib.hid hA
  replace hNe := Lib.hid hNe
  go_enter Tryz.func5, Tryz.ntmps5
  go_wp2_with fail
  go_loopw [4, 5, 6] (fun v u iv wr => ∃ k : Nat, k ≤ N ∧ k ≤ 6 ∧ iv = .int .i64 (k : Int) ∧ wr.ownsRow w.heap.size 43 5 v k (pcs ((qs.take k).map cutP)) ∧ wr.ownsRow w.heap.size 41 5 u k (pcs ((qs.take k).map cutP)) ∧ (∀ g, v.ownBlock = some g → u.ownBlock ≠ some g) ∧ Below w.heap.size w wr) (fun _ _ iv _ => 6 - (RowKit.intOf iv).toNat)
  case atStart => exact ⟨0, Nat.zero_le _, Nat.zero_le _, rfl, ⟨rfl, Or.inl ⟨rfl, rfl⟩⟩, ⟨rfl, Or.inl ⟨rfl, rfl⟩⟩, (fun g hg => by cases hg), Below.refl _ _⟩
  case round =>
    obtain ⟨k, hk, hk6, rfl, ho1, ho2, hap, hbw⟩ := hrel
    obtain ⟨A1, c1, rfl⟩ := own_form ho1
    obtain ⟨A2, c2, rfl⟩ := own_form ho2
    by_cases hlt : k < N
    · by_cases h6 : k < 6
      · have hkl : k < qs.length := by rw [hNe.out]; exact hlt
        obtain ⟨bA, oA, rfl, hbA, hc⟩ := hA.out (by omega)
        obtain ⟨d0, d1, d2, d3, d4⟩ := hc k hkl
        have hbc := fun o => hbw.cell (p := ⟨bA, o, none⟩) hbA
        rw [← hbc] at d0 d1 d2 d3 d4
        have hnx := take_cut qs k hkl
        have hcut : cutP qs[k] = ⟨qs[k].t.take 300, qs[k].p, qs[k].fx⟩ := rfl
        rw [hcut] at hnx
        generalize qs[k].t = l0 at *
        generalize qs[k].fx = fx at *
        generalize qs[k].p = p0 at *
        have hpc : pcs ((qs.take (k + 1)).map cutP) = pcs ((qs.take k).map cutP) ++ [.string (tx (l0.take 300)), .int .i64 p0.f, .int .i64 p0.l, .int .i64 p0.c, .bool fx] := by rw [hnx, pcs_app]; rfl
        have e3 := tx_take l0 300
        have hz : (tx l0).size = l0.length := rfl
        have hsh : l0.length ≤ 300 → tx (l0.take 300) = tx l0 := fun h => by rw [List.take_of_length_le h]
        obtain ⟨T, hT⟩ : ∃ T, tx (l0.take 300) = T := ⟨_, rfl⟩
        obtain ⟨S, hS⟩ : ∃ S, tx l0 = S := ⟨_, rfl⟩
        rw [hT] at hpc e3 hsh
        rw [hS] at d0 e3 hz hsh
        have z0 := hbw.size
        have hbA2 : bA < wr.heap.size := by omega
        have hw1 : IntKind.i64.wrap ((k : Int) + 1) = (k : Int) + 1 := IntWalk.i64_in _ (by omega)
        replace hpc := Lib.hid hpc
        generalize pcs ((qs.take k).map cutP) = xs at *
        clear hc hbc hnx hcut hT hS hkl
        obtain ⟨nl, hnl⟩ : ∃ nl, l0.length = nl := ⟨_, rfl⟩
        rw [hnl] at hz hsh
        clear hnl
        by_cases h3 : 300 < nl
        · have V := C5.new wr 43 (.string T) (.int .i64 p0.f) (.int .i64 p0.l) (.int .i64 p0.c) (.bool fx)
          have hbx : Below w.heap.size w (wr.alloc (.cells #[.string T, .int .i64 p0.f, .int .i64 p0.l, .int .i64 p0.c, .bool fx] 43)) := hbw.alloc z0 _
          have szx : (wr.alloc (.cells #[.string T, .int .i64 p0.f, .int .i64 p0.l, .int .i64 p0.c, .bool fx] 43)).heap.size = wr.heap.size + 1 := World.size_alloc _ _
          have h1x : (wr.alloc (.cells #[.string T, .int .i64 p0.f, .int .i64 p0.l, .int .i64 p0.c, .bool fx] 43)).ownsRow w.heap.size 43 5 (.slice A1 k c1) k xs := own_blk ho1 fun g hg => (Go.Deep.blk_alloc_lt _ _ _ (own_lt ho1 g hg).2)
          have h2x : (wr.alloc (.cells #[.string T, .int .i64 p0.f, .int .i64 p0.l, .int .i64 p0.c, .bool fx] 43)).ownsRow w.heap.size 41 5 (.slice A2 k c2) k xs := own_blk ho2 fun g hg => (Go.Deep.blk_alloc_lt _ _ _ (own_lt ho2 g hg).2)
          have hl1 := fun g hg => (own_lt ho1 g hg)
          have hl2 := fun g hg => (own_lt ho2 g hg)
          have V0 := V.all
          replace V := Lib.hid V
          replace hbx := Lib.hid hbx
          replace szx := Lib.hid szx
          replace h1x := Lib.hid h1x
          replace h2x := Lib.hid h2x
          replace hl1 := Lib.hid hl1
          replace hl2 := Lib.hid hl2
          replace hap := Lib.hid hap
          have sz2 : ((wr.alloc (.cells #[.string T, .int .i64 p0.f, .int .i64 p0.l, .int .i64 p0.c, .bool fx] 43)).alloc (.cells #[.string T, .int .i64 p0.f, .int .i64 p0.l, .int .i64 p0.c, .bool fx] 43)).heap.size = wr.heap.size + 1 + 1 := by rw [World.size_alloc, szx.out]
          have N1 : C5 ((wr.alloc (.cells #[.string T, .int .i64 p0.f, .int .i64 p0.l, .int .i64 p0.c, .bool fx] 43)).alloc (.cells #[.string T, .int .i64 p0.f, .int .i64 p0.l, .int .i64 p0.c, .bool fx] 43)) (wr.heap.size + 1) 43 (.string T) (.int .i64 p0.f) (.int .i64 p0.l) (.int .i64 p0.c) (.bool fx) := szx.out ▸ C5.new (wr.alloc (.cells #[.string T, .int .i64 p0.f, .int .i64 p0.l, .int .i64 p0.c, .bool fx] 43)) _ _ _ _ _ _
          have h1y : ((wr.alloc (.cells #[.string T, .int .i64 p0.f, .int .i64 p0.l, .int .i64 p0.c, .bool fx] 43)).alloc (.cells #[.string T, .int .i64 p0.f, .int .i64 p0.l, .int .i64 p0.c, .bool fx] 43)).ownsRow w.heap.size 43 5 (.slice A1 k c1) k xs := own_blk h1x.out fun g hg => Go.Deep.blk_alloc_lt _ _ _ (own_lt h1x.out g hg).2
          have h2y : ((wr.alloc (.cells #[.string T, .int .i64 p0.f, .int .i64 p0.l, .int .i64 p0.c, .bool fx] 43)).alloc (.cells #[.string T, .int .i64 p0.f, .int .i64 p0.l, .int .i64 p0.c, .bool fx] 43)).ownsRow w.heap.size 41 5 (.slice A2 k c2) k xs := own_blk h2x.out fun g hg => Go.Deep.blk_alloc_lt _ _ _ (own_lt h2x.out g hg).2
          have hby : Below w.heap.size w ((wr.alloc (.cells #[.string T, .int .i64 p0.f, .int .i64 p0.l, .int .i64 p0.c, .bool fx] 43)).alloc (.cells #[.string T, .int .i64 p0.f, .int .i64 p0.l, .int .i64 p0.c, .bool fx] 43)) := hbx.out.alloc (by have := szx.out; omega) _
          have Vy := V.out.alloc (.cells #[.string T, .int .i64 p0.f, .int .i64 p0.l, .int .i64 p0.c, .bool fx] 43)
          replace sz2 := Lib.hid sz2
          replace N1 := Lib.hid N1
          replace h1y := Lib.hid h1y
          replace h2y := Lib.hid h2y
          replace hby := Lib.hid hby
          replace Vy := Lib.hid Vy
          clear ho1 ho2 hbw
          go_wp2_with (at_builtin; refine wpList_append_lies _ rfl _ _ 22 rfl w.heap.size 43 j0 (.agg #[.string ⟨#[]⟩, .int .i64 0, .int .i64 0, .int .i64 0, .bool false]) 5 48 Tryz.underlying22 hj hy0 hy1 hy2 rfl (by decide) _ k xs rfl h1y.out ⟨wr.heap.size + 1, 0, none⟩ 1 1 [.string T, .int .i64 p0.f, .int .i64 p0.l, .int .i64 p0.c, .bool fx] rfl ?a0 ?a1 ?a2 ?a3 ?a4 ?a5 ?a6 (wr.heap.size + 1 + 1) ?a7 ?a8)
          try (case a0 => rfl)
          try (case a1 => exact N1.out.news)
          case a2 => simp [Value.oneCell']
          try (case a3 => decide)
          case a4 => unfold maxLen; omega
          case a5 => omega
          case a6 => have := sz2.out; omega
          try (case a7 => exact sz2.out)
          case a8 =>
            intro g1 cap1 w6 ho6 hg6 hgb hlt6
            have h2z : w6.ownsRow w.heap.size 41 5 (.slice A2 k c2) k xs := own_blk h2y.out fun g hg => hg6.block g (own_lt h2y.out g hg).2 fun e => hap.out g e.symm hg
            have Vz : C5 w6 wr.heap.size 43 (.string T) (.int .i64 p0.f) (.int .i64 p0.l) (.int .i64 p0.c) (.bool fx) := (hg6.block wr.heap.size Vy.out.lt (fun e => by have := (hl1.out _ e.symm).2; omega)).trans Vy.out
            have hbz : Below w.heap.size w w6 := hby.out.grown hg6 (by have := sz2.out; omega) (fun q hq => (hl1.out q hq).1)
            have z6 := hg6.size
            have hap6 : ∀ g, (Value.slice A2 k c2).ownBlock = some g → g ≠ g1 := fun g hg e => by
              rcases hgb with h | h
              · exact hap.out g1 h (e ▸ hg)
              · have := (hl2.out g hg).2; omega
            have z66 : w.heap.size ≤ w6.heap.size := hbz.size
            have V6 := Vz.all
            have h2u : (w6.alloc (.cells #[.string T, .int .i64 p0.f, .int .i64 p0.l, .int .i64 p0.c, .bool fx] 41)).ownsRow w.heap.size 41 5 (.slice A2 k c2) k xs := own_blk h2z fun g hg => Go.Deep.blk_alloc_lt _ _ _ (own_lt h2z g hg).2
            have h1u : (w6.alloc (.cells #[.string T, .int .i64 p0.f, .int .i64 p0.l, .int .i64 p0.c, .bool fx] 41)).ownsRow w.heap.size 43 5 (.slice (some ⟨g1, 0, none⟩) (k + 1) cap1) (k + 1) (xs ++ [.string T, .int .i64 p0.f, .int .i64 p0.l, .int .i64 p0.c, .bool fx]) := own_blk ho6 fun g hg => Go.Deep.blk_alloc_lt _ _ _ (own_lt ho6 g hg).2
            have N2 : C5 (w6.alloc (.cells #[.string T, .int .i64 p0.f, .int .i64 p0.l, .int .i64 p0.c, .bool fx] 41)) w6.heap.size 41 (.string T) (.int .i64 p0.f) (.int .i64 p0.l) (.int .i64 p0.c) (.bool fx) := C5.new w6 _ _ _ _ _ _
            have sz7 : (w6.alloc (.cells #[.string T, .int .i64 p0.f, .int .i64 p0.l, .int .i64 p0.c, .bool fx] 41)).heap.size = w6.heap.size + 1 := World.size_alloc _ _
            have hbu := hbz.alloc z66 (.cells #[.string T, .int .i64 p0.f, .int .i64 p0.l, .int .i64 p0.c, .bool fx] 41)
            have hlu := fun g hg => (own_lt h2u g hg).1
            replace h2u := Lib.hid h2u
            replace h1u := Lib.hid h1u
            replace N2 := Lib.hid N2
            replace sz7 := Lib.hid sz7
            replace hbu := Lib.hid hbu
            replace hlu := Lib.hid hlu
            replace hap6 := Lib.hid hap6
            clear h2z Vz hbz ho6 hg6 hgb hap Vy hby h2y h1y N1 sz2 V0 V hl1 hl2 h1x h2x szx hbx
            go_wp2_with (at_builtin; refine wpList_append_lies _ rfl _ _ 24 rfl w.heap.size 41 i0 (.agg #[.string ⟨#[]⟩, .int .i64 0, .int .i64 0, .int .i64 0, .bool false]) 5 48 Tryz.underlying24 hi hz0 hz1 hz2 rfl (by decide) _ k xs rfl h2u.out ⟨w6.heap.size, 0, none⟩ 1 1 [.string T, .int .i64 p0.f, .int .i64 p0.l, .int .i64 p0.c, .bool fx] rfl ?b0 ?b1 ?b2 ?b3 ?b4 ?b5 ?b6 (w6.heap.size + 1) ?b7 ?b8)
            try (case b0 => rfl)
            try (case b1 => exact N2.out.news)
            case b2 => simp [Value.oneCell']
            try (case b3 => decide)
            case b4 => unfold maxLen; omega
            case b5 => omega
            case b6 => have := sz7.out; omega
            try (case b7 => exact sz7.out)
            case b8 =>
              intro g2 cap2 w8 ho8 hg8 hgb8 hlt8
              have h1v : w8.ownsRow w.heap.size 43 5 (.slice (some ⟨g1, 0, none⟩) (k + 1) cap1) (k + 1) (xs ++ [.string T, .int .i64 p0.f, .int .i64 p0.l, .int .i64 p0.c, .bool fx]) := own_blk h1u.out fun g hg => hg8.block g (own_lt h1u.out g hg).2 fun e => by cases hg; exact hap6.out _ e.symm rfl
              have hbv : Below w.heap.size w w8 := hbu.out.grown hg8 (by have := sz7.out; omega) (fun q hq => hlu.out q hq)
              have hap8 : ∀ g, (Value.slice (some ⟨g1, 0, none⟩) (k + 1) cap1).ownBlock = some g → (Value.slice (some ⟨g2, 0, none⟩) (k + 1) cap2).ownBlock ≠ some g := fun g hg e => by
                cases hg
                cases e
                rcases hgb8 with h | h
                · exact hap6.out _ h rfl
                · omega
              replace ho8 := Lib.hid ho8
              replace h1v := Lib.hid h1v
              replace hbv := Lib.hid hbv
              replace hap8 := Lib.hid hap8
              clear hg8 hgb8 h2u h1u N2 sz7 hbu hlu hap6 V6
              go_wp2_with fail
              go_roundw
              case rel => exact ⟨k + 1, by omega, by omega, by go_num, by rw [hpc.out]; exact h1v.out, by rw [hpc.out]; exact ho8.out, hap8.out, hbv.out⟩
              case measure => simp [RowKit.intOf]; omega
        · have hST := hsh (by omega)
          subst hST
          have V := C5.new wr 43 (.string T) (.int .i64 p0.f) (.int .i64 p0.l) (.int .i64 p0.c) (.bool fx)
          have hbx : Below w.heap.size w (wr.alloc (.cells #[.string T, .int .i64 p0.f, .int .i64 p0.l, .int .i64 p0.c, .bool fx] 43)) := hbw.alloc z0 _
          have szx : (wr.alloc (.cells #[.string T, .int .i64 p0.f, .int .i64 p0.l, .int .i64 p0.c, .bool fx] 43)).heap.size = wr.heap.size + 1 := World.size_alloc _ _
          have h1x : (wr.alloc (.cells #[.string T, .int .i64 p0.f, .int .i64 p0.l, .int .i64 p0.c, .bool fx] 43)).ownsRow w.heap.size 43 5 (.slice A1 k c1) k xs := own_blk ho1 fun g hg => (Go.Deep.blk_alloc_lt _ _ _ (own_lt ho1 g hg).2)
          have h2x : (wr.alloc (.cells #[.string T, .int .i64 p0.f, .int .i64 p0.l, .int .i64 p0.c, .bool fx] 43)).ownsRow w.heap.size 41 5 (.slice A2 k c2) k xs := own_blk ho2 fun g hg => (Go.Deep.blk_alloc_lt _ _ _ (own_lt ho2 g hg).2)
          have hl1 := fun g hg => (own_lt ho1 g hg)
          have hl2 := fun g hg => (own_lt ho2 g hg)
          have V0 := V.all
          replace V := Lib.hid V
          replace hbx := Lib.hid hbx
          replace szx := Lib.hid szx
          replace h1x := Lib.hid h1x
          replace h2x := Lib.hid h2x
          replace hl1 := Lib.hid hl1
          replace hl2 := Lib.hid hl2
          replace hap := Lib.hid hap
          have sz2 : ((wr.alloc (.cells #[.string T, .int .i64 p0.f, .int .i64 p0.l, .int .i64 p0.c, .bool fx] 43)).alloc (.cells #[.string T, .int .i64 p0.f, .int .i64 p0.l, .int .i64 p0.c, .bool fx] 43)).heap.size = wr.heap.size + 1 + 1 := by rw [World.size_alloc, szx.out]
          have N1 : C5 ((wr.alloc (.cells #[.string T, .int .i64 p0.f, .int .i64 p0.l, .int .i64 p0.c, .bool fx] 43)).alloc (.cells #[.string T, .int .i64 p0.f, .int .i64 p0.l, .int .i64 p0.c, .bool fx] 43)) (wr.heap.size + 1) 43 (.string T) (.int .i64 p0.f) (.int .i64 p0.l) (.int .i64 p0.c) (.bool fx) := szx.out ▸ C5.new (wr.alloc (.cells #[.string T, .int .i64 p0.f, .int .i64 p0.l, .int .i64 p0.c, .bool fx] 43)) _ _ _ _ _ _
          have h1y : ((wr.alloc (.cells #[.string T, .int .i64 p0.f, .int .i64 p0.l, .int .i64 p0.c, .bool fx] 43)).alloc (.cells #[.string T, .int .i64 p0.f, .int .i64 p0.l, .int .i64 p0.c, .bool fx] 43)).ownsRow w.heap.size 43 5 (.slice A1 k c1) k xs := own_blk h1x.out fun g hg => Go.Deep.blk_alloc_lt _ _ _ (own_lt h1x.out g hg).2
          have h2y : ((wr.alloc (.cells #[.string T, .int .i64 p0.f, .int .i64 p0.l, .int .i64 p0.c, .bool fx] 43)).alloc (.cells #[.string T, .int .i64 p0.f, .int .i64 p0.l, .int .i64 p0.c, .bool fx] 43)).ownsRow w.heap.size 41 5 (.slice A2 k c2) k xs := own_blk h2x.out fun g hg => Go.Deep.blk_alloc_lt _ _ _ (own_lt h2x.out g hg).2
          have hby : Below w.heap.size w ((wr.alloc (.cells #[.string T, .int .i64 p0.f, .int .i64 p0.l, .int .i64 p0.c, .bool fx] 43)).alloc (.cells #[.string T, .int .i64 p0.f, .int .i64 p0.l, .int .i64 p0.c, .bool fx] 43)) := hbx.out.alloc (by have := szx.out; omega) _
          have Vy := V.out.alloc (.cells #[.string T, .int .i64 p0.f, .int .i64 p0.l, .int .i64 p0.c, .bool fx] 43)
          replace sz2 := Lib.hid sz2
          replace N1 := Lib.hid N1
          replace h1y := Lib.hid h1y
          replace h2y := Lib.hid h2y
          replace hby := Lib.hid hby
          replace Vy := Lib.hid Vy
          clear ho1 ho2 hbw
          go_wp2_with (at_builtin; refine wpList_append_lies _ rfl _ _ 22 rfl w.heap.size 43 j0 (.agg #[.string ⟨#[]⟩, .int .i64 0, .int .i64 0, .int .i64 0, .bool false]) 5 48 Tryz.underlying22 hj hy0 hy1 hy2 rfl (by decide) _ k xs rfl h1y.out ⟨wr.heap.size + 1, 0, none⟩ 1 1 [.string T, .int .i64 p0.f, .int .i64 p0.l, .int .i64 p0.c, .bool fx] rfl ?a0 ?a1 ?a2 ?a3 ?a4 ?a5 ?a6 (wr.heap.size + 1 + 1) ?a7 ?a8)
          try (case a0 => rfl)
          try (case a1 => exact N1.out.news)
          case a2 => simp [Value.oneCell']
          try (case a3 => decide)
          case a4 => unfold maxLen; omega
          case a5 => omega
          case a6 => have := sz2.out; omega
          try (case a7 => exact sz2.out)
          case a8 =>
            intro g1 cap1 w6 ho6 hg6 hgb hlt6
            have h2z : w6.ownsRow w.heap.size 41 5 (.slice A2 k c2) k xs := own_blk h2y.out fun g hg => hg6.block g (own_lt h2y.out g hg).2 fun e => hap.out g e.symm hg
            have Vz : C5 w6 wr.heap.size 43 (.string T) (.int .i64 p0.f) (.int .i64 p0.l) (.int .i64 p0.c) (.bool fx) := (hg6.block wr.heap.size Vy.out.lt (fun e => by have := (hl1.out _ e.symm).2; omega)).trans Vy.out
            have hbz : Below w.heap.size w w6 := hby.out.grown hg6 (by have := sz2.out; omega) (fun q hq => (hl1.out q hq).1)
            have z6 := hg6.size
            have hap6 : ∀ g, (Value.slice A2 k c2).ownBlock = some g → g ≠ g1 := fun g hg e => by
              rcases hgb with h | h
              · exact hap.out g1 h (e ▸ hg)
              · have := (hl2.out g hg).2; omega
            have z66 : w.heap.size ≤ w6.heap.size := hbz.size
            have V6 := Vz.all
            have h2u : (w6.alloc (.cells #[.string T, .int .i64 p0.f, .int .i64 p0.l, .int .i64 p0.c, .bool fx] 41)).ownsRow w.heap.size 41 5 (.slice A2 k c2) k xs := own_blk h2z fun g hg => Go.Deep.blk_alloc_lt _ _ _ (own_lt h2z g hg).2
            have h1u : (w6.alloc (.cells #[.string T, .int .i64 p0.f, .int .i64 p0.l, .int .i64 p0.c, .bool fx] 41)).ownsRow w.heap.size 43 5 (.slice (some ⟨g1, 0, none⟩) (k + 1) cap1) (k + 1) (xs ++ [.string T, .int .i64 p0.f, .int .i64 p0.l, .int .i64 p0.c, .bool fx]) := own_blk ho6 fun g hg => Go.Deep.blk_alloc_lt _ _ _ (own_lt ho6 g hg).2
            have N2 : C5 (w6.alloc (.cells #[.string T, .int .i64 p0.f, .int .i64 p0.l, .int .i64 p0.c, .bool fx] 41)) w6.heap.size 41 (.string T) (.int .i64 p0.f) (.int .i64 p0.l) (.int .i64 p0.c) (.bool fx) := C5.new w6 _ _ _ _ _ _
            have sz7 : (w6.alloc (.cells #[.string T, .int .i64 p0.f, .int .i64 p0.l, .int .i64 p0.c, .bool fx] 41)).heap.size = w6.heap.size + 1 := World.size_alloc _ _
            have hbu := hbz.alloc z66 (.cells #[.string T, .int .i64 p0.f, .int .i64 p0.l, .int .i64 p0.c, .bool fx] 41)
            have hlu := fun g hg => (own_lt h2u g hg).1
            replace h2u := Lib.hid h2u
            replace h1u := Lib.hid h1u
            replace N2 := Lib.hid N2
            replace sz7 := Lib.hid sz7
            replace hbu := Lib.hid hbu
            replace hlu := Lib.hid hlu
            replace hap6 := Lib.hid hap6
            clear h2z Vz hbz ho6 hg6 hgb hap Vy hby h2y h1y N1 sz2 V0 V hl1 hl2 h1x h2x szx hbx
            go_wp2_with (at_builtin; refine wpList_append_lies _ rfl _ _ 24 rfl w.heap.size 41 i0 (.agg #[.string ⟨#[]⟩, .int .i64 0, .int .i64 0, .int .i64 0, .bool false]) 5 48 Tryz.underlying24 hi hz0 hz1 hz2 rfl (by decide) _ k xs rfl h2u.out ⟨w6.heap.size, 0, none⟩ 1 1 [.string T, .int .i64 p0.f, .int .i64 p0.l, .int .i64 p0.c, .bool fx] rfl ?b0 ?b1 ?b2 ?b3 ?b4 ?b5 ?b6 (w6.heap.size + 1) ?b7 ?b8)
            try (case b0 => rfl)
            try (case b1 => exact N2.out.news)
            case b2 => simp [Value.oneCell']
            try (case b3 => decide)
            case b4 => unfold maxLen; omega
            case b5 => omega
            case b6 => have := sz7.out; omega
            try (case b7 => exact sz7.out)
            case b8 =>
              intro g2 cap2 w8 ho8 hg8 hgb8 hlt8
              have h1v : w8.ownsRow w.heap.size 43 5 (.slice (some ⟨g1, 0, none⟩) (k + 1) cap1) (k + 1) (xs ++ [.string T, .int .i64 p0.f, .int .i64 p0.l, .int .i64 p0.c, .bool fx]) := own_blk h1u.out fun g hg => hg8.block g (own_lt h1u.out g hg).2 fun e => by cases hg; exact hap6.out _ e.symm rfl
              have hbv : Below w.heap.size w w8 := hbu.out.grown hg8 (by have := sz7.out; omega) (fun q hq => hlu.out q hq)
              have hap8 : ∀ g, (Value.slice (some ⟨g1, 0, none⟩) (k + 1) cap1).ownBlock = some g → (Value.slice (some ⟨g2, 0, none⟩) (k + 1) cap2).ownBlock ≠ some g := fun g hg e => by
                cases hg
                cases e
                rcases hgb8 with h | h
                · exact hap6.out _ h rfl
                · omega
              replace ho8 := Lib.hid ho8
              replace h1v := Lib.hid h1v
              replace hbv := Lib.hid hbv
              replace hap8 := Lib.hid hap8
              clear hg8 hgb8 h2u h1u N2 sz7 hbu hlu hap6 V6
              go_wp2_with fail
              go_roundw
              case rel => exact ⟨k + 1, by omega, by omega, by go_num, by rw [hpc.out]; exact h1v.out, by rw [hpc.out]; exact ho8.out, hap8.out, hbv.out⟩
              case measure => simp [RowKit.intOf]; omega
      · have hfin := few_now (qs := qs) (k := k) (Or.inr ⟨by omega, by have := hNe.out; omega⟩) hk6
        have hkf : k = (fewL qs).length := by rw [← hfin, List.length_map, List.length_take]; have := hNe.out; omega
        rw [hfin] at ho1 ho2
        replace ho1 := Lib.hid ho1
        replace ho2 := Lib.hid ho2
        replace hkf := Lib.hid hkf
        clear hap hfin
        go_wp2_with fail
        go_ret2
        exact ⟨_, _, rfl, hkf.out ▸ ho1.out, hkf.out ▸ ho2.out, hbw⟩
    · have hfin := few_now (qs := qs) (k := k) (Or.inl (by have := hNe.out; omega)) hk6
      have hkf : k = (fewL qs).length := by rw [← hfin, List.length_map, List.length_take]; have := hNe.out; omega
      rw [hfin] at ho1 ho2
      replace ho1 := Lib.hid ho1
      replace ho2 := Lib.hid ho2
      replace hkf := Lib.hid hkf
      clear hap hfin
      go_wp2_with fail
      go_ret2
      exact ⟨_, _, rfl, hkf.out ▸ ho1.out, hkf.out ▸ ho2.out, hbw⟩
end Go.Proofs.YtomjokpgcijccaaGreatDoor
namespace Go.Proofs.YtomjokpgcijccaaGreatDoor
open Go.RowKit Go.Lib
theorem lexF_err (nb : List UInt8 → Bool) (fx : Bool) : ∀ (f : Nat) (l : List UInt8) (p : PS) (acc : List TK) (x : PS × Int), lexF nb fx f l p acc = .error x → x.2 ≠ 0
  | 0, l, p, acc, x, h => by cases h
  | f + 1, l, p, acc, x, h => by
    unfold lexF at h
    split at h
    · cases h
    · split at h
      · rename_i h2
        cases h
        exact h2
      · split at h
        · cases h
          show (19 : Int) ≠ 0; decide
        · exact lexF_err nb fx f _ _ _ x h
theorem lexL_err (nb : List UInt8 → Bool) : ∀ (q : List PC) (acc : List TK) (x : PS × Int), lexL nb q acc = .error x → x.2 ≠ 0
  | [], acc, x, h => by cases h
  | q :: r, acc, x, h => by
    unfold lexL at h
    split at h
    · rename_i e he
      cases h
      exact lexF_err nb q.fx _ _ _ _ _ he
    · exact lexL_err nb r _ x h
theorem lexL_one (nb : List UInt8 → Bool) (q : PC) (acc : List TK) : lexL nb [q] acc = lexP nb q.fx q.t q.p acc := by
  unfold lexL
  cases lexP nb q.fx q.t q.p acc <;> rfl
/-- One piece more behind words that are few. -/
theorem lexL_more (qs : List PC) (k : Nat) (h : k < qs.length) (acc : List TK) (hl : acc.length + qs[k].t.length ≤ 12000) :
    lexL nbP (qs.drop k) acc = goOn (qs.drop (k + 1)) (exMap acc (lexL nbP [qs[k]] [])) := by
  rw [lexL_step qs k h acc, lexL_one]
  congr 1
  have := lexP_acc nbP qs[k].fx acc [] qs[k].t qs[k].p (by simpa using hl)
  rwa [List.append_nil] at this
theorem few_len (qs : List PC) : (fewL qs).length ≤ 6 := by unfold fewL; rw [List.length_map, List.length_take]; omega
theorem few_ok {qs : List PC} (h : ∀ q, q ∈ qs → q.p.ok) : ∀ q, q ∈ fewL qs → q.p.ok ∧ q.t.length ≤ 300 := fun q hq => by
  obtain ⟨q0, h0, rfl⟩ := List.mem_map.1 hq
  exact ⟨h q0 (List.mem_of_mem_take h0), by show (q0.t.take 300).length ≤ 300; rw [List.length_take]; omega⟩
theorem tcs_one (l : List TK) : ∀ u, u ∈ tcs l → u.oneCell' = true := by
  intro u hu
  obtain ⟨x, _, hx⟩ := List.mem_flatMap.1 hu
  simp only [List.mem_cons, List.mem_nil_iff, or_false] at hx
  rcases hx with rfl | rfl | rfl | rfl | rfl <;> rfl
section
variable {w : World} {ops : Array Oper} {rest : List Oper} {o : Oper} {a : Act} {Q : Exit → Act → World → Prop}
/-- An append of whatever words behind words that the call owns. -/
theorem wpList_append_TL (hgd : o.guard = none) (s x : Operand) (ho : o.op = .call { callee := .builtin .append, args := #[s, x], argTypes := #[27, 27] })
    (base : Nat) (v : Value) (n : Nat) (xs : List Value) (hs : a.eval s = v) (hown : w.ownsRow base 37 5 v n xs)
    (A : Option Addr) (m c B : Nat) (l : List TK) (hl : l.length = m) (hx : a.eval x = .slice A m c) (hR : w.ownsRow B 37 5 (.slice A m c) m (tcs l)) (hm : n + m ≤ 1000000) (hbase : base ≤ w.heap.size)
    (h : ∀ v' w', w'.ownsRow base 37 5 v' (n + m) (xs ++ tcs l) → w.grownBy w' v.ownBlock → wpList Tryz.prog ops Q rest (a.put o.dst v') w') : wpList Tryz.prog ops Q (o :: rest) a w := by
  obtain ⟨i0, hi, hz0, hz1, hz2⟩ := info_parts info_token
  rcases hR.2 with ⟨e, h0⟩ | ⟨g, cap, cur, e, hb, hg, h1, h2, h3, h4⟩
  · cases e
    have hl0 : l = [] := List.eq_nil_of_length_eq_zero (by omega)
    subst hl0
    refine wpList_append_own_none hgd s x 27 ho base 37 i0 5 Tryz.underlying27 hi v n xs hs hown hx (h v w ?_ ⟨rfl, rfl, rfl, Nat.le_refl _, fun _ _ _ => rfl⟩)
    have e : xs ++ tcs [] = xs := List.append_nil _
    rw [e]; exact hown
  · cases e
    refine wpList_append_own w hgd s x 27 ho base 37 i0 (.agg #[.int .i64 0, .string ⟨#[]⟩, .int .i64 0, .int .i64 0, .int .i64 0]) 5 48 Tryz.underlying27 hi hz0 hz1 hz2 rfl (by decide) v n xs hs hown ⟨g, 0, none⟩ m c (tcs l) hx (by rw [tcs_len, hl]) (fun j u hj => ?_) (tcs_one l) (by unfold maxLen; omega) (by omega) hbase (fun v' w' h1 h2 _ => h v' w' h1 h2)
    have hadd : (⟨g, 0, none⟩ : Addr).add j = ⟨g, j, none⟩ := by unfold Addr.add; split <;> simp_all
    rw [hadd]
    rw [← h4, List.getElem?_take] at hj
    split at hj
    · simpa [World.cell?, hg] using hj
    · cases hj
end
end Go.Proofs.YtomjokpgcijccaaGreatDoor
