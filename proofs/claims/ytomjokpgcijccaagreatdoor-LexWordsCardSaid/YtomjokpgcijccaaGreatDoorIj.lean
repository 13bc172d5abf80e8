/-
  The walk of LexWords.
-/
import Derived.Test.YtomjokpgcijccaaGreatDoorIh
import Derived.Test.YtomjokpgcijccaaGreatDoorHo
import Derived.Laws.AppendOwnNone
namespace Go.Proofs.YtomjokpgcijccaaGreatDoor
open Go.RowKit Go.Lib
def TR (w : World) (A : Option Addr) (l : List TK) : Prop := 0 < l.length → ∃ b off : Nat, A = some ⟨b, off, none⟩ ∧ b < w.heap.size ∧ ∀ j (hj : j < l.length),
  w.cell? ⟨b, off + j * 5, none⟩ = some (.int .i64 (l[j].k : Int)) ∧ w.cell? ⟨b, off + j * 5 + 1, none⟩ = some (.string (tx l[j].t)) ∧ w.cell? ⟨b, off + j * 5 + 2, none⟩ = some (.int .i64 l[j].p.f) ∧ w.cell? ⟨b, off + j * 5 + 3, none⟩ = some (.int .i64 l[j].p.l) ∧ w.cell? ⟨b, off + j * 5 + 4, none⟩ = some (.int .i64 l[j].p.c)
theorem TR.over {w w' : World} {A : Option Addr} {l : List TK} (h : TR w A l) (k : Below w.heap.size w w') : TR w' A l := fun h0 => by
  obtain ⟨b, off, e, hb, hc⟩ := h h0
  refine ⟨b, off, e, Nat.lt_of_lt_of_le hb k.size, fun j hj => ?_⟩
  obtain ⟨c0, c1, c2, c3, c4⟩ := hc j hj
  exact ⟨(k.cell (p := ⟨b, _, none⟩) hb).trans c0, (k.cell (p := ⟨b, _, none⟩) hb).trans c1, (k.cell (p := ⟨b, _, none⟩) hb).trans c2, (k.cell (p := ⟨b, _, none⟩) hb).trans c3, (k.cell (p := ⟨b, _, none⟩) hb).trans c4⟩
theorem tcs_at : ∀ (l : List TK) (j : Nat) (hj : j < l.length), (tcs l)[j * 5]? = some (.int .i64 (l[j].k : Int)) ∧ (tcs l)[j * 5 + 1]? = some (.string (tx l[j].t)) ∧ (tcs l)[j * 5 + 2]? = some (.int .i64 l[j].p.f) ∧ (tcs l)[j * 5 + 3]? = some (.int .i64 l[j].p.l) ∧ (tcs l)[j * 5 + 4]? = some (.int .i64 l[j].p.c)
  | [], j, hj => by simp at hj
  | x :: l, 0, hj => by
    have e : tcs (x :: l) = .int .i64 (x.k : Int) :: .string (tx x.t) :: .int .i64 x.p.f :: .int .i64 x.p.l :: .int .i64 x.p.c :: tcs l := rfl
    rw [e]
    exact ⟨rfl, rfl, rfl, rfl, rfl⟩
  | x :: l, j + 1, hj => by
    have e : tcs (x :: l) = .int .i64 (x.k : Int) :: .string (tx x.t) :: .int .i64 x.p.f :: .int .i64 x.p.l :: .int .i64 x.p.c :: tcs l := rfl
    have ih := tcs_at l j (by simpa using hj)
    rw [e, show (j + 1) * 5 = j * 5 + 5 by omega]
    simpa only [List.getElem?_cons_succ, List.getElem_cons_succ] using ih
theorem own_TR {w : World} {B n c : Nat} {A : Option Addr} {l : List TK} {ty : TypeId} (h : w.ownsRow B ty 5 (.slice A n c) l.length (tcs l)) : TR w A l ∧ n = l.length ∧ l.length ≤ c ∧ (∀ ad, A = some ad → ad.off = 0 ∧ B ≤ ad.block ∧ ad.block < w.heap.size) := by
  rcases h.2 with ⟨e, h0⟩ | ⟨g, cap, cur, e, hb, hg, h1, h2, h3, h4⟩
  · cases e
    exact ⟨fun hp => by omega, h0.symm, by omega, fun ad h => by cases h⟩
  · cases e
    have hgl := (Array.getElem?_eq_some_iff.1 hg).1
    refine ⟨fun hp => ⟨g, 0, rfl, hgl, fun j hj => ?_⟩, rfl, h1, fun ad h => by cases h; exact ⟨rfl, hb, hgl⟩⟩
    have hcell : ∀ (o : Nat) (v : Value), (tcs l)[o]? = some v → w.cell? ⟨g, 0 + o, none⟩ = some v := fun o v hv => by
      rw [← h4] at hv
      rw [List.getElem?_take] at hv
      split at hv
      · simpa [World.cell?, hg] using hv
      · cases hv
    obtain ⟨t0, t1, t2, t3, t4⟩ := tcs_at l j hj
    exact ⟨hcell _ _ t0, hcell _ _ t1, hcell _ _ t2, hcell _ _ t3, hcell _ _ t4⟩
set_option maxRecDepth 100000 in
set_option maxHeartbeats 3200000 in
set_option maxRecDepth 100000 in
set_option maxHeartbeats 6400000 in
theorem LexWords_err (A : Option Addr) (c : Nat) (qs : List PC) (w : World) (hA : PCL w A qs) (hN : qs.length ≤ 9223372036854775807) (hq : ∀ q, q ∈ qs → q.p.ok) (hL : LS w)
    (x : PS × Int) (hR : lexL nbP (fewL qs) [] = .error x) : Calls Tryz.prog 3 #[.slice A qs.length c] w (RV w (.bool true)) := by
  have hAw := awake_t w hL
  have hFw := fun W (hb : Below w.heap.size w W) => few_t A c qs W (hA.over hb) hN
  obtain ⟨L, hLe⟩ : ∃ L, fewL qs = L := ⟨_, rfl⟩
  have hok := few_ok hq
  have h6 := few_len qs
  rw [hLe] at hFw hok hR h6
  obtain ⟨N, hNe⟩ : ∃ N, L.length = N := ⟨_, rfl⟩
  have hLx := fun W A c (hb : Below w.heap.size w W) (hP : PCL W A L) => (hNe ▸ hR ▸ Lex_t A c L W hP (by omega) (hL.over hb) (fun q h => ⟨(hok q h).1, by have := (hok q h).2; omega⟩) : Calls Tryz.prog 6 #[.slice A N c] W (LR W (.error x)))
  have hRx := fun W A c (hP : PCL W A L) => (hNe ▸ hR ▸ rLex_t A c L W hP (by omega) (fun q h => by have := (hok q h).2; omega) : Calls Tryz.prog 7 #[.slice A N c] W (RLR W (.error x)))
  unfold FW at hFw
  rw [hNe] at hFw h6
  unfold LR at hLx
  unfold RLR at hRx
  simp only at hLx hRx
  replace hAw := Lib.hid hAw
  replace hFw := Lib.hid hFw
  replace hLx := Lib.hid hLx
  replace hRx := Lib.hid hRx
  replace hok := Lib.hid hok
  replace hL := Lib.hid hL
  replace hNe := Lib.hid hNe
  replace hR := Lib.hid hR
  replace hLe := Lib.hid hLe
  go_enter Tryz.func3, Tryz.ntmps3
  go_wp2_with fail
  (with_reducible refine hAw.out.mono ?_)
  rintro e w1 ⟨rfl, hb1⟩
  replace hb1 := Lib.hid hb1
  go_wp2_with fail
  (with_reducible refine (hFw.out _ hb1.out).mono ?_)
  rintro e w2 ⟨v1, v2, rfl, ho1, ho2, hb2⟩
  obtain ⟨A1, c1, rfl⟩ := own_form ho1
  obtain ⟨A2, c2, rfl⟩ := own_form ho2
  rw [← hNe.out] at ho1 ho2
  obtain ⟨hP1, _⟩ := own_PL ho1
  obtain ⟨hP2, _⟩ := own_PL ho2
  have hbw2 := below_call hb2 hb1.out
  replace hP1 := Lib.hid hP1
  replace hP2 := Lib.hid hP2
  replace hbw2 := Lib.hid hbw2
  clear ho1 ho2 hb2
  go_wp2_with fail
  (with_reducible refine (hLx.out _ _ _ hbw2.out hP2.out).mono ?_)
  rintro e w4 ⟨hb4, rfl⟩
  have hbw3 := (below_call hb4 hbw2.out).alloc (below_call hb4 hbw2.out).size (.cells #[.int .i64 x.1.f, .int .i64 x.1.l, .int .i64 x.1.c] 29)
  have hP3 := (hP1.out.over hb4).over ((Below.refl _ w4).alloc (Nat.le_refl _) (.cells #[.int .i64 x.1.f, .int .i64 x.1.l, .int .i64 x.1.c] 29))
  have hT6 : C3 (w4.alloc (.cells #[.int .i64 x.1.f, .int .i64 x.1.l, .int .i64 x.1.c] 29)) w4.heap.size 29 (.int .i64 x.1.f) (.int .i64 x.1.l) (.int .i64 x.1.c) := Go.Deep.blk_alloc_new _ _
  clear hP1 hP2 hbw2 hb4
  generalize hw3 : w4.alloc (.cells #[.int .i64 x.1.f, .int .i64 x.1.l, .int .i64 x.1.c] 29) = w3 at *
  replace hw3 := Lib.hid hw3
  replace hP3 := Lib.hid hP3
  replace hbw3 := Lib.hid hbw3
  replace hT6 := Lib.hid hT6
  go_wp2_with fail
  rw [hw3.out]
  (with_reducible refine (hRx.out _ _ _ hP3.out).mono ?_)
  rintro e w5 ⟨hb5, rfl⟩
  have hbw6 := (below_call hb5 hbw3.out).alloc (below_call hb5 hbw3.out).size (.cells #[.int .i64 x.1.f, .int .i64 x.1.l, .int .i64 x.1.c] 29)
  have hT9 := ((hT6.out.over hb5).over ((Below.refl _ w5).alloc (Nat.le_refl _) (.cells #[.int .i64 x.1.f, .int .i64 x.1.l, .int .i64 x.1.c] 29))).all
  have N5 : C3 (w5.alloc (.cells #[.int .i64 x.1.f, .int .i64 x.1.l, .int .i64 x.1.c] 29)) w5.heap.size 29 (.int .i64 x.1.f) (.int .i64 x.1.l) (.int .i64 x.1.c) := Go.Deep.blk_alloc_new _ _
  have N6 := N5.all
  clear hb5 hP3 N5 hT6
  replace hbw6 := Lib.hid hbw6
  go_wp2_with fail
  go_loopw [48] (fun iv wq => iv = .int .i64 0 ∧ Below w.heap.size w wq) (fun _ _ => 0)
  case atStart => exact ⟨rfl, hbw6.out⟩
  case round =>
    obtain ⟨rfl, hbq⟩ := hrel
    clear hT9 N6
    go_wp2_with fail
    go_ret
    exact ⟨rfl, hbq⟩
set_option maxRecDepth 100000 in
set_option maxHeartbeats 6400000 in
theorem LexWords_ok (A : Option Addr) (c : Nat) (qs : List PC) (w : World) (hA : PCL w A qs) (hN : qs.length ≤ 9223372036854775807) (hq : ∀ q, q ∈ qs → q.p.ok) (hL : LS w)
    (a : List TK) (hR : lexL nbP (fewL qs) [] = .ok a) : Calls Tryz.prog 3 #[.slice A qs.length c] w (RV w (.bool true)) := by
  have hAw := awake_t w hL
  have hFw := fun W (hb : Below w.heap.size w W) => few_t A c qs W (hA.over hb) hN
  obtain ⟨L, hLe⟩ : ∃ L, fewL qs = L := ⟨_, rfl⟩
  have hok := few_ok hq
  have h6 := few_len qs
  rw [hLe] at hFw hok hR h6
  obtain ⟨N, hNe⟩ : ∃ N, L.length = N := ⟨_, rfl⟩
  have hLx := fun W A c (hb : Below w.heap.size w W) (hP : PCL W A L) => (hNe ▸ hR ▸ Lex_t A c L W hP (by omega) (hL.over hb) (fun q h => ⟨(hok q h).1, by have := (hok q h).2; omega⟩) : Calls Tryz.prog 6 #[.slice A N c] W (LR W (.ok a)))
  have hRx := fun W A c (hP : PCL W A L) => (hNe ▸ hR ▸ rLex_t A c L W hP (by omega) (fun q h => by have := (hok q h).2; omega) : Calls Tryz.prog 7 #[.slice A N c] W (RLR W (.ok a)))
  unfold FW at hFw
  rw [hNe] at hFw h6
  unfold LR at hLx
  unfold RLR at hRx
  simp only at hLx hRx
  replace hAw := Lib.hid hAw
  replace hFw := Lib.hid hFw
  replace hLx := Lib.hid hLx
  replace hRx := Lib.hid hRx
  replace hok := Lib.hid hok
  replace hL := Lib.hid hL
  replace hNe := Lib.hid hNe
  replace hR := Lib.hid hR
  replace hLe := Lib.hid hLe
  obtain ⟨na, hna⟩ : ∃ na, a.length = na := ⟨_, rfl⟩
  have hna3 : na ≤ 9223372036854775807 := by
    have := (lexL_ok nbP L [] a hR.out (fun x h => by cases h) (by simp)).2
    omega
  replace hna := Lib.hid hna
  go_enter Tryz.func3, Tryz.ntmps3
  go_wp2_with fail
  (with_reducible refine hAw.out.mono ?_)
  rintro e w1 ⟨rfl, hb1⟩
  replace hb1 := Lib.hid hb1
  go_wp2_with fail
  (with_reducible refine (hFw.out _ hb1.out).mono ?_)
  rintro e w2 ⟨v1, v2, rfl, ho1, ho2, hb2⟩
  obtain ⟨A1, c1, rfl⟩ := own_form ho1
  obtain ⟨A2, c2, rfl⟩ := own_form ho2
  rw [← hNe.out] at ho1 ho2
  obtain ⟨hP1, _⟩ := own_PL ho1
  obtain ⟨hP2, _⟩ := own_PL ho2
  have hbw2 := below_call hb2 hb1.out
  replace hP1 := Lib.hid hP1
  replace hP2 := Lib.hid hP2
  replace hbw2 := Lib.hid hbw2
  clear ho1 ho2 hb2
  go_wp2_with fail
  (with_reducible refine (hLx.out _ _ _ hbw2.out hP2.out).mono ?_)
  rintro e w4 ⟨hb4, u1, rfl, hu1⟩
  obtain ⟨B1, d1, rfl⟩ := own_form hu1
  obtain ⟨hTa, _, _, _⟩ := own_TR hu1
  have hbw3 := (below_call hb4 hbw2.out).alloc (below_call hb4 hbw2.out).size (.cells #[.int .i64 0, .int .i64 0, .int .i64 0] 29)
  have hP3 := (hP1.out.over hb4).over ((Below.refl _ w4).alloc (Nat.le_refl _) (.cells #[.int .i64 0, .int .i64 0, .int .i64 0] 29))
  have hT6 : C3 (w4.alloc (.cells #[.int .i64 0, .int .i64 0, .int .i64 0] 29)) w4.heap.size 29 (.int .i64 0) (.int .i64 0) (.int .i64 0) := Go.Deep.blk_alloc_new _ _
  have hTa3 := hTa.over ((Below.refl _ w4).alloc (Nat.le_refl _) (.cells #[.int .i64 0, .int .i64 0, .int .i64 0] 29))
  replace hTa3 := Lib.hid hTa3
  clear hTa hu1
  clear hP1 hP2 hbw2 hb4
  generalize hw3 : w4.alloc (.cells #[.int .i64 0, .int .i64 0, .int .i64 0] 29) = w3 at *
  replace hw3 := Lib.hid hw3
  replace hP3 := Lib.hid hP3
  replace hbw3 := Lib.hid hbw3
  replace hT6 := Lib.hid hT6
  go_wp2_with fail
  rw [hw3.out]
  (with_reducible refine (hRx.out _ _ _ hP3.out).mono ?_)
  rintro e w5 ⟨hb5, u2, rfl, hu2⟩
  obtain ⟨B2, d2, rfl⟩ := own_form hu2
  obtain ⟨hTb, _, _, _⟩ := own_TR hu2
  have hbw6 := (below_call hb5 hbw3.out).alloc (below_call hb5 hbw3.out).size (.cells #[.int .i64 0, .int .i64 0, .int .i64 0] 29)
  have hT9 := ((hT6.out.over hb5).over ((Below.refl _ w5).alloc (Nat.le_refl _) (.cells #[.int .i64 0, .int .i64 0, .int .i64 0] 29))).all
  have N5 : C3 (w5.alloc (.cells #[.int .i64 0, .int .i64 0, .int .i64 0] 29)) w5.heap.size 29 (.int .i64 0) (.int .i64 0) (.int .i64 0) := Go.Deep.blk_alloc_new _ _
  have N6 := N5.all
  have hTa6 := (hTa3.out.over hb5).over ((Below.refl _ w5).alloc (Nat.le_refl _) (.cells #[.int .i64 0, .int .i64 0, .int .i64 0] 29))
  have hTb6 := hTb.over ((Below.refl _ w5).alloc (Nat.le_refl _) (.cells #[.int .i64 0, .int .i64 0, .int .i64 0] 29))
  replace hTa6 := Lib.hid hTa6
  replace hTb6 := Lib.hid hTb6
  clear hTa3 hTb hu2
  clear hb5 hP3 N5 hT6
  replace hbw6 := Lib.hid hbw6
  go_wp2_with fail
  rw [hna.out]
  go_loopw [48] (fun iv wq => ∃ j : Nat, j ≤ na ∧ iv = .int .i64 (j : Int) ∧ Below (w5.alloc (.cells #[.int .i64 0, .int .i64 0, .int .i64 0] 29)).heap.size (w5.alloc (.cells #[.int .i64 0, .int .i64 0, .int .i64 0] 29)) wq) (fun iv _ => na - (RowKit.intOf iv).toNat)
  case atStart => exact ⟨0, Nat.zero_le _, rfl, Below.refl _ _⟩
  case round =>
    obtain ⟨j, hj, rfl, hbq⟩ := hrel
    clear hT9 N6
    by_cases hjn : j < na
    · have hja : j < a.length := by rw [hna.out]; exact hjn
      obtain ⟨bU, oU, rfl, hbU, hcU⟩ := (hTa6.out.over hbq) (by omega)
      obtain ⟨bV, oV, rfl, hbV, hcV⟩ := (hTb6.out.over hbq) (by omega)
      obtain ⟨m0, m1, m2, m3, m4⟩ := hcU j hja
      obtain ⟨n0, n1, n2, n3, n4⟩ := hcV j hja
      generalize a[j] = x at *
      obtain ⟨T, hT⟩ : ∃ T, tx x.t = T := ⟨_, rfl⟩
      rw [hT] at m1 n1
      clear hcU hcV hT
      replace hbq := Lib.hid hbq
      go_wp2_with fail
      go_region
      go_wp2_with fail
      go_roundw
      case rel => exact ⟨j + 1, by omega, by go_num, hbq.out.drew⟩
      case measure => simp [RowKit.intOf]; omega
    · obtain rfl : j = na := by omega
      have hbf := hbw6.out.trans (hbq.mono hbw6.out.size)
      go_wp2_with fail
      go_ret
      exact ⟨rfl, hbf⟩
theorem LexWords_t (A : Option Addr) (c : Nat) (qs : List PC) (w : World) (hA : PCL w A qs) (hN : qs.length ≤ 9223372036854775807) (hq : ∀ q, q ∈ qs → q.p.ok) (hL : LS w) : Calls Tryz.prog 3 #[.slice A qs.length c] w (RV w (.bool true)) := by
  cases hR : lexL nbP (fewL qs) [] with
  | error x => exact LexWords_err A c qs w hA hN hq hL x hR
  | ok a => exact LexWords_ok A c qs w hA hN hq hL a hR
end Go.Proofs.YtomjokpgcijccaaGreatDoor
