/-
  The walk of LexJoins.
-/
import Derived.Test.YtomjokpgcijccaaDoorHo
import Derived.Laws.AppendOwnNone
namespace Go.Proofs.YtomjokpgcijccaaDoor
open Go.RowKit Go.Lib
theorem lexF_err (nb : List UInt8 → Bool) (fx : Bool) : ∀ (f : Nat) (l : List UInt8) (p : PS) (acc : List TK) (x : PS × Int), lexF nb fx f l p acc = .error x → x.2 ≠ 0
  | 0, l, p, acc, x, h => by cases h
  | f + 1, l, p, acc, x, h => by
    unfold lexF at h
    split at h
    · cases h
    · split at h
      · rename_i h2
        cases h
        exact h2
      · split at h
        · cases h
          show (19 : Int) ≠ 0; decide
        · exact lexF_err nb fx f _ _ _ x h
theorem lexL_err (nb : List UInt8 → Bool) : ∀ (q : List PC) (acc : List TK) (x : PS × Int), lexL nb q acc = .error x → x.2 ≠ 0
  | [], acc, x, h => by cases h
  | q :: r, acc, x, h => by
    unfold lexL at h
    split at h
    · rename_i e he
      cases h
      exact lexF_err nb q.fx _ _ _ _ _ he
    · exact lexL_err nb r _ x h
theorem lexL_one (nb : List UInt8 → Bool) (q : PC) (acc : List TK) : lexL nb [q] acc = lexP nb q.fx q.t q.p acc := by
  unfold lexL
  cases lexP nb q.fx q.t q.p acc <;> rfl
/-- One piece more behind words that are few. -/
theorem lexL_more (qs : List PC) (k : Nat) (h : k < qs.length) (acc : List TK) (hl : acc.length + qs[k].t.length ≤ 12000) :
    lexL nbP (qs.drop k) acc = goOn (qs.drop (k + 1)) (exMap acc (lexL nbP [qs[k]] [])) := by
  rw [lexL_step qs k h acc, lexL_one]
  congr 1
  have := lexP_acc nbP qs[k].fx acc [] qs[k].t qs[k].p (by simpa using hl)
  rwa [List.append_nil] at this
theorem few_len (qs : List PC) : (fewL qs).length ≤ 6 := by unfold fewL; rw [List.length_map, List.length_take]; omega
theorem few_ok {qs : List PC} (h : ∀ q, q ∈ qs → q.p.ok) : ∀ q, q ∈ fewL qs → q.p.ok ∧ q.t.length ≤ 300 := fun q hq => by
  obtain ⟨q0, h0, rfl⟩ := List.mem_map.1 hq
  exact ⟨h q0 (List.mem_of_mem_take h0), by show (q0.t.take 300).length ≤ 300; rw [List.length_take]; omega⟩
theorem tcs_one (l : List TK) : ∀ u, u ∈ tcs l → u.oneCell' = true := by
  intro u hu
  obtain ⟨x, _, hx⟩ := List.mem_flatMap.1 hu
  simp only [List.mem_cons, List.mem_nil_iff, or_false] at hx
  rcases hx with rfl | rfl | rfl | rfl | rfl <;> rfl
section
variable {w : World} {ops : Array Oper} {rest : List Oper} {o : Oper} {a : Act} {Q : Exit → Act → World → Prop}
/-- An append of whatever words behind words that the call owns. -/
theorem wpList_append_TL (hgd : o.guard = none) (s x : Operand) (ho : o.op = .call { callee := .builtin .append, args := #[s, x], argTypes := #[27, 27] })
    (base : Nat) (v : Value) (n : Nat) (xs : List Value) (hs : a.eval s = v) (hown : w.ownsRow base 37 5 v n xs)
    (A : Option Addr) (m c B : Nat) (l : List TK) (hl : l.length = m) (hx : a.eval x = .slice A m c) (hR : w.ownsRow B 37 5 (.slice A m c) m (tcs l)) (hm : n + m ≤ 1000000) (hbase : base ≤ w.heap.size)
    (h : ∀ v' w', w'.ownsRow base 37 5 v' (n + m) (xs ++ tcs l) → w.grownBy w' v.ownBlock → wpList Tryd.prog ops Q rest (a.put o.dst v') w') : wpList Tryd.prog ops Q (o :: rest) a w := by
  obtain ⟨i0, hi, hz0, hz1, hz2⟩ := info_parts info_token
  rcases hR.2 with ⟨e, h0⟩ | ⟨g, cap, cur, e, hb, hg, h1, h2, h3, h4⟩
  · cases e
    have hl0 : l = [] := List.eq_nil_of_length_eq_zero (by omega)
    subst hl0
    refine wpList_append_own_none hgd s x 27 ho base 37 i0 5 Tryd.underlying27 hi v n xs hs hown hx (h v w ?_ ⟨rfl, rfl, rfl, Nat.le_refl _, fun _ _ _ => rfl⟩)
    have e : xs ++ tcs [] = xs := List.append_nil _
    rw [e]; exact hown
  · cases e
    refine wpList_append_own w hgd s x 27 ho base 37 i0 (.agg #[.int .i64 0, .string ⟨#[]⟩, .int .i64 0, .int .i64 0, .int .i64 0]) 5 48 Tryd.underlying27 hi hz0 hz1 hz2 rfl (by decide) v n xs hs hown ⟨g, 0, none⟩ m c (tcs l) hx (by rw [tcs_len, hl]) (fun j u hj => ?_) (tcs_one l) (by unfold maxLen; omega) (by omega) hbase (fun v' w' h1 h2 _ => h v' w' h1 h2)
    have hadd : (⟨g, 0, none⟩ : Addr).add j = ⟨g, j, none⟩ := by unfold Addr.add; split <;> simp_all
    rw [hadd]
    rw [← h4, List.getElem?_take] at hj
    split at hj
    · simpa [World.cell?, hg] using hj
    · cases hj
end
set_option maxRecDepth 100000 in
set_option maxHeartbeats 6400000 in
theorem LexJoins_ok (A : Option Addr) (c : Nat) (qs : List PC) (w : World) (hA : PL w A qs) (hN : qs.length ≤ 9223372036854775807) (hq : ∀ q, q ∈ qs → q.p.ok) (hL : LS w)
    (a : List TK) (hR : lexL nbP (fewL qs) [] = .ok a) : Calls Tryd.prog 7 #[.slice A qs.length c] w (RV w (.bool true)) := by
  have hAw := awake_t w hL
  have hFw := fun W (hb : Below w.heap.size w W) => few_t A c qs W (hA.over hb) hN
  obtain ⟨L, hLe⟩ : ∃ L, fewL qs = L := ⟨_, rfl⟩
  have hok := few_ok hq
  have h6 := few_len qs
  rw [hLe] at hFw hok hR h6
  obtain ⟨N, hNe⟩ : ∃ N, L.length = N := ⟨_, rfl⟩
  have hLx := fun W A c (hb : Below w.heap.size w W) (hP : PL W A L) => (hNe ▸ hR ▸ Lex_t A c L W hP (by omega) (hL.over hb) (fun q h => ⟨(hok q h).1, by have := (hok q h).2; omega⟩) : Calls Tryd.prog 10 #[.slice A N c] W (LR W (.ok a)))
  unfold FW at hFw
  rw [hNe] at hFw h6
  unfold LR at hLx
  simp only at hLx
  replace hAw := Lib.hid hAw
  replace hFw := Lib.hid hFw
  replace hLx := Lib.hid hLx
  replace hok := Lib.hid hok
  replace hL := Lib.hid hL
  replace hNe := Lib.hid hNe
  replace hR := Lib.hid hR
  replace hLe := Lib.hid hLe
  go_enter Tryd.func7, Tryd.ntmps7
  go_wp2_with fail
  (with_reducible refine hAw.out.mono ?_)
  rintro e w1 ⟨rfl, hb1⟩
  replace hb1 := Lib.hid hb1
  go_wp2_with fail
  (with_reducible refine (hFw.out _ hb1.out).mono ?_)
  rintro e w2 ⟨v1, v2, rfl, _, ho2, hb2⟩
  obtain ⟨A2, c2, rfl⟩ := own_form ho2
  rw [← hNe.out] at ho2
  obtain ⟨hPL, _⟩ := own_PL ho2
  have hbw2 := below_call hb2 hb1.out
  replace hPL := Lib.hid hPL
  replace hbw2 := Lib.hid hbw2
  clear ho2 hb2
  go_wp2_with fail
  (with_reducible refine (hLx.out _ _ _ hbw2.out hPL.out).mono ?_)
  rintro e w4 ⟨hb4, v, rfl, ho4⟩
  obtain ⟨Av, cv, rfl⟩ := own_form ho4
  have hbw4 := below_call hb4 hbw2.out
  have hP4 := (hPL.out.over hb4).over ((Below.refl _ w4).alloc (Nat.le_refl _) (.cells #[.int .i64 0, .int .i64 0, .int .i64 0] 29))
  have ho3 : (w4.alloc (.cells #[.int .i64 0, .int .i64 0, .int .i64 0] 29)).ownsRow _ 37 5 (.slice Av a.length cv) a.length (tcs a) := own_blk ho4 fun g hg => Go.Deep.blk_alloc_lt _ _ _ (own_lt ho4 g hg).2
  obtain ⟨hTa, _, _, _⟩ := own_TLr ho3
  have hbw3 := hbw4.alloc hbw4.size (.cells #[.int .i64 0, .int .i64 0, .int .i64 0] 29)
  have hLS := hL.out.over hbw3
  clear hPL hbw2 hb4 hbw4 ho4 ho3
  obtain ⟨na, hna⟩ : ∃ na, a.length = na := ⟨_, rfl⟩
  rw [hna]
  replace hna := Lib.hid hna
  generalize hw3 : w4.alloc (.cells #[.int .i64 0, .int .i64 0, .int .i64 0] 29) = w3 at *
  replace hw3 := Lib.hid hw3
  have hPL := hP4
  clear hP4
  replace hPL := Lib.hid hPL
  replace hTa := Lib.hid hTa
  replace hbw3 := Lib.hid hbw3
  replace hLS := Lib.hid hLS
  go_wp2_with fail
  rw [hw3.out]
  go_loopw [8, 30] (fun u iv wr => ∃ k : Nat, k ≤ N ∧ iv = .int .i64 (k : Int) ∧ ∃ acc, List.length acc ≤ 300 * k ∧ lexL nbP (L.drop k) acc = .ok a ∧ wr.ownsRow w3.heap.size 37 5 u acc.length (tcs acc) ∧ Below w3.heap.size w3 wr) (fun _ iv _ => N - (RowKit.intOf iv).toNat)
  case atStart => exact ⟨0, Nat.zero_le _, rfl, [], by simp, hR.out, ⟨rfl, Or.inl ⟨rfl, rfl⟩⟩, Below.refl _ _⟩
  case round =>
    obtain ⟨k, hk, rfl, acc, hal, hr, ho, hbk⟩ := hrel
    by_cases hlt : k < N
    · have hkl : k < L.length := by rw [hNe.out]; exact hlt
      obtain ⟨bA, oA, rfl, hbA, hc⟩ := (hPL.out.over hbk) (by omega)
      obtain ⟨d0, d1, d2, d3, d4⟩ := hc k hkl
      obtain ⟨hqo, hql⟩ := hok.out L[k] (List.getElem_mem hkl)
      have hmore := lexL_more L k hkl acc (by have := few_len qs; omega)
      rw [hr] at hmore
      have hlen1 : ∀ b, lexL nbP [L[k]] [] = .ok b → b.length ≤ 300 := fun b hb => by
        rw [lexL_one] at hb
        have := lexP_len nbP _ _ _ _ _ hb
        simp at this; omega
      have hpc : L[k] = ⟨L[k].t, L[k].p, L[k].fx⟩ := rfl
      generalize L[k] = q0 at *
      obtain ⟨l0, p0, fx⟩ := q0
      simp only at d0 d1 d2 d3 d4 hqo hql
      obtain ⟨S, hS⟩ : ∃ S, tx l0 = S := ⟨_, rfl⟩
      rw [hS] at d0
      have hNb : C5 ((wr.alloc (.cells #[.string S, .int .i64 p0.f, .int .i64 p0.l, .int .i64 p0.c, .bool fx] 35)).alloc (.cells #[.string S, .int .i64 p0.f, .int .i64 p0.l, .int .i64 p0.c, .bool fx] 35)) (wr.heap.size + 1) 35 (.string S) (.int .i64 p0.f) (.int .i64 p0.l) (.int .i64 p0.c) (.bool fx) := World.size_alloc wr (.cells #[.string S, .int .i64 p0.f, .int .i64 p0.l, .int .i64 p0.c, .bool fx] 35) ▸ C5.new (wr.alloc (.cells #[.string S, .int .i64 p0.f, .int .i64 p0.l, .int .i64 p0.c, .bool fx] 35)) _ _ _ _ _ _
      have hbB : Below wr.heap.size wr ((wr.alloc (.cells #[.string S, .int .i64 p0.f, .int .i64 p0.l, .int .i64 p0.c, .bool fx] 35)).alloc (.cells #[.string S, .int .i64 p0.f, .int .i64 p0.l, .int .i64 p0.c, .bool fx] 35)) := by go_grown
      have hNb2 : C5 ((wr.alloc (.cells #[.string S, .int .i64 p0.f, .int .i64 p0.l, .int .i64 p0.c, .bool fx] 35)).alloc (.cells #[.string S, .int .i64 p0.f, .int .i64 p0.l, .int .i64 p0.c, .bool fx] 35)) (wr.heap.size + 1) 35 (.string (tx l0)) (.int .i64 p0.f) (.int .i64 p0.l) (.int .i64 p0.c) (.bool fx) := by rw [hS]; exact hNb
      have hLq := (show Calls Tryd.prog 10 #[.slice (some ⟨wr.heap.size + 1, 0, none⟩) 1 1] ((wr.alloc (.cells #[.string S, .int .i64 p0.f, .int .i64 p0.l, .int .i64 p0.c, .bool fx] 35)).alloc (.cells #[.string S, .int .i64 p0.f, .int .i64 p0.l, .int .i64 p0.c, .bool fx] 35)) (LR ((wr.alloc (.cells #[.string S, .int .i64 p0.f, .int .i64 p0.l, .int .i64 p0.c, .bool fx] 35)).alloc (.cells #[.string S, .int .i64 p0.f, .int .i64 p0.l, .int .i64 p0.c, .bool fx] 35)) (lexL nbP [⟨l0, p0, fx⟩] [])) from Lex_t (some ⟨wr.heap.size + 1, 0, none⟩) 1 [⟨l0, p0, fx⟩] ((wr.alloc (.cells #[.string S, .int .i64 p0.f, .int .i64 p0.l, .int .i64 p0.c, .bool fx] 35)).alloc (.cells #[.string S, .int .i64 p0.f, .int .i64 p0.l, .int .i64 p0.c, .bool fx] 35)) (C5.PL (q := ⟨l0, p0, fx⟩) hNb2) (by show 1 ≤ 1000000000; omega) ((hLS.out.over hbk).over hbB) (fun q hq => by rw [List.mem_singleton.1 hq]; exact ⟨hqo, by show l0.length < _; omega⟩))
      have zk := hbk.size
      have hbkB : Below w3.heap.size w3 ((wr.alloc (.cells #[.string S, .int .i64 p0.f, .int .i64 p0.l, .int .i64 p0.c, .bool fx] 35)).alloc (.cells #[.string S, .int .i64 p0.f, .int .i64 p0.l, .int .i64 p0.c, .bool fx] 35)) := hbk.trans (hbB.mono zk)
      have hoB : ((wr.alloc (.cells #[.string S, .int .i64 p0.f, .int .i64 p0.l, .int .i64 p0.c, .bool fx] 35)).alloc (.cells #[.string S, .int .i64 p0.f, .int .i64 p0.l, .int .i64 p0.c, .bool fx] 35)).ownsRow w3.heap.size 37 5 u8 acc.length (tcs acc) := own_blk ho fun g hg => hbB.block g (own_lt ho g hg).2
      clear hc hS hpc hbB hNb hNb2
      cases hX : lexL nbP [⟨l0, p0, fx⟩] [] with
      | error y =>
        exfalso
        rw [hX] at hmore
        cases hmore
      | ok b =>
        rw [hX] at hLq
        unfold LR at hLq
        simp only at hLq
        have hnext : lexL nbP (L.drop (k + 1)) (acc ++ b) = .ok a := by rw [hX] at hmore; exact hmore.symm
        have hb300 := hlen1 b hX
        replace hLq := Lib.hid hLq
        replace hnext := Lib.hid hnext
        replace hoB := Lib.hid hoB
        replace hbkB := Lib.hid hbkB
        replace hbk := Lib.hid hbk
        clear hmore hX hlen1 ho hr hqo hql
        go_wp2_with fail
        (with_reducible refine hLq.out.mono ?_)
        rintro e w5 ⟨hb5, v, rfl, ho5⟩
        obtain ⟨Av, cv, rfl⟩ := own_form ho5
        have hbk5 := below_call hb5 hbkB.out
        have ho5' : w5.ownsRow w3.heap.size 37 5 u8 acc.length (tcs acc) := own_blk hoB.out fun g hg => hb5.block g (own_lt hoB.out g hg).2
        have z5 := hbk5.size
        have hbk6 := hbk5.alloc z5 (.cells #[.int .i64 0, .int .i64 0, .int .i64 0] 29)
        have ho6 : (w5.alloc (.cells #[.int .i64 0, .int .i64 0, .int .i64 0] 29)).ownsRow w3.heap.size 37 5 u8 acc.length (tcs acc) := own_blk ho5' fun g hg => Go.Deep.blk_alloc_lt _ _ _ (own_lt ho5' g hg).2
        have hx6 : (w5.alloc (.cells #[.int .i64 0, .int .i64 0, .int .i64 0] 29)).ownsRow _ 37 5 (.slice Av b.length cv) b.length (tcs b) := own_blk ho5 fun g hg => Go.Deep.blk_alloc_lt _ _ _ (own_lt ho5 g hg).2
        have z6 : w3.heap.size ≤ (w5.alloc (.cells #[.int .i64 0, .int .i64 0, .int .i64 0] 29)).heap.size := by rw [World.size_alloc]; omega
        have hlow := fun g hg => (own_lt ho6 g hg).1
        replace hbk6 := Lib.hid hbk6
        replace ho6 := Lib.hid ho6
        replace hx6 := Lib.hid hx6
        replace z6 := Lib.hid z6
        replace hlow := Lib.hid hlow
        clear hb5 ho5 ho5' hbk5 hoB hbkB
        go_wp2_with (at_builtin; refine wpList_append_TL rfl _ _ rfl w3.heap.size _ acc.length (tcs acc) rfl ho6.out Av b.length cv _ b rfl rfl hx6.out ?a0 z6.out ?a2)
        case a0 => omega
        case a2 =>
          intro v9 w9 ho9 hg9
          have hb9 : Below w3.heap.size w3 w9 := hbk6.out.grown hg9 z6.out (fun q hq => hlow.out q hq)
          have ho9' : w9.ownsRow w3.heap.size 37 5 v9 (acc ++ b).length (tcs (acc ++ b)) := by rw [tcs_app, List.length_append]; exact ho9
          have hal : (acc ++ b).length ≤ 300 * (k + 1) := by rw [List.length_append]; omega
          replace ho9' := Lib.hid ho9'
          replace hb9 := Lib.hid hb9
          replace hal := Lib.hid hal
          clear ho9 hg9 hbk6 ho6 hx6 z6 hlow
          go_wp2_with fail
          go_roundw
          case rel => exact ⟨k + 1, by omega, by go_num, acc ++ b, hal.out, hnext.out, ho9'.out, hb9.out⟩
          case measure => simp [RowKit.intOf]; omega
    · obtain rfl : k = N := by omega
      have hacc : acc = a := by
        rw [List.drop_eq_nil_of_le (by rw [hNe.out]; omega)] at hr
        exact Except.ok.inj hr
      subst hacc
      obtain ⟨Au, cu, rfl⟩ := own_form ho
      obtain ⟨hTb, _, _, _⟩ := own_TLr ho
      have hTc := hTa.out.over hbk
      rw [hna.out]
      have hbkw := hbw3.out.trans (hbk.mono hbw3.out.size)
      replace hTb := Lib.hid hTb
      replace hTc := Lib.hid hTc
      replace hbkw := Lib.hid hbkw
      clear hr ho hbk hTa
      go_wp2_with fail
      go_loopw [71] (fun iv wq => ∃ j : Nat, j ≤ na ∧ iv = .int .i64 (j : Int) ∧ Below wr.heap.size wr wq) (fun iv _ => na - (RowKit.intOf iv).toNat)
      case atStart => exact ⟨0, Nat.zero_le _, rfl, Below.refl _ _⟩
      case round =>
        obtain ⟨j, hj, rfl, hbq⟩ := hrel
        by_cases hjn : j < na
        · have hja : j < acc.length := by rw [hna.out]; exact hjn
          obtain ⟨bU, oU, rfl, hbU, hcU⟩ := (hTb.out.over hbq) (by omega)
          obtain ⟨bV, oV, rfl, hbV, hcV⟩ := (hTc.out.over hbq) (by omega)
          obtain ⟨m0, m1, m2, m3, m4⟩ := hcU j hja
          obtain ⟨n0, n1, n2, n3, n4⟩ := hcV j hja
          generalize acc[j] = x at *
          obtain ⟨T, hT⟩ : ∃ T, tx x.t = T := ⟨_, rfl⟩
          rw [hT] at m1 n1
          clear hcU hcV hT
          replace hbq := Lib.hid hbq
          go_wp2_with fail
          go_region
          go_wp2_with fail
          go_roundw
          case rel => exact ⟨j + 1, by omega, by go_num, hbq.out.drew⟩
          case measure => simp [RowKit.intOf]; omega
        · obtain rfl : j = na := by omega
          have hbf := hbkw.out.trans (hbq.mono hbkw.out.size)
          go_wp2_with fail
          go_ret
          exact ⟨rfl, hbf⟩
set_option maxRecDepth 100000 in
set_option maxHeartbeats 6400000 in
theorem LexJoins_err (A : Option Addr) (c : Nat) (qs : List PC) (w : World) (hA : PL w A qs) (hN : qs.length ≤ 9223372036854775807) (hq : ∀ q, q ∈ qs → q.p.ok) (hL : LS w)
    (x : PS × Int) (hR : lexL nbP (fewL qs) [] = .error x) : Calls Tryd.prog 7 #[.slice A qs.length c] w (RV w (.bool true)) := by
  have hAw := awake_t w hL
  have hFw := fun W (hb : Below w.heap.size w W) => few_t A c qs W (hA.over hb) hN
  obtain ⟨L, hLe⟩ : ∃ L, fewL qs = L := ⟨_, rfl⟩
  have hok := few_ok hq
  have h6 := few_len qs
  rw [hLe] at hFw hok hR h6
  obtain ⟨N, hNe⟩ : ∃ N, L.length = N := ⟨_, rfl⟩
  have hLx := fun W A c (hb : Below w.heap.size w W) (hP : PL W A L) => (hNe ▸ hR ▸ Lex_t A c L W hP (by omega) (hL.over hb) (fun q h => ⟨(hok q h).1, by have := (hok q h).2; omega⟩) : Calls Tryd.prog 10 #[.slice A N c] W (LR W (.error x)))
  unfold FW at hFw
  rw [hNe] at hFw h6
  unfold LR at hLx
  simp only at hLx
  replace hAw := Lib.hid hAw
  replace hFw := Lib.hid hFw
  replace hLx := Lib.hid hLx
  replace hok := Lib.hid hok
  replace hL := Lib.hid hL
  replace hNe := Lib.hid hNe
  replace hR := Lib.hid hR
  replace hLe := Lib.hid hLe
  go_enter Tryd.func7, Tryd.ntmps7
  go_wp2_with fail
  (with_reducible refine hAw.out.mono ?_)
  rintro e w1 ⟨rfl, hb1⟩
  replace hb1 := Lib.hid hb1
  go_wp2_with fail
  (with_reducible refine (hFw.out _ hb1.out).mono ?_)
  rintro e w2 ⟨v1, v2, rfl, _, ho2, hb2⟩
  obtain ⟨A2, c2, rfl⟩ := own_form ho2
  rw [← hNe.out] at ho2
  obtain ⟨hPL, _⟩ := own_PL ho2
  have hbw2 := below_call hb2 hb1.out
  replace hPL := Lib.hid hPL
  replace hbw2 := Lib.hid hbw2
  clear ho2 hb2
  go_wp2_with fail
  (with_reducible refine (hLx.out _ _ _ hbw2.out hPL.out).mono ?_)
  rintro e w4 ⟨hb4, rfl⟩
  have hx0 : x.2 ≠ 0 := lexL_err nbP _ _ x hR.out
  have hbw4 := below_call hb4 hbw2.out
  have hP4 := (hPL.out.over hb4).over ((Below.refl _ w4).alloc (Nat.le_refl _) (.cells #[.int .i64 x.1.f, .int .i64 x.1.l, .int .i64 x.1.c] 29))
  have hbw3 := hbw4.alloc hbw4.size (.cells #[.int .i64 x.1.f, .int .i64 x.1.l, .int .i64 x.1.c] 29)
  have hLS := hL.out.over hbw3
  have hT6 : C3 (w4.alloc (.cells #[.int .i64 x.1.f, .int .i64 x.1.l, .int .i64 x.1.c] 29)) w4.heap.size 29 (.int .i64 x.1.f) (.int .i64 x.1.l) (.int .i64 x.1.c) := Go.Deep.blk_alloc_new _ _
  clear hPL hbw2 hb4 hbw4
  generalize hw3 : w4.alloc (.cells #[.int .i64 x.1.f, .int .i64 x.1.l, .int .i64 x.1.c] 29) = w3 at *
  replace hw3 := Lib.hid hw3
  have hPL := hP4
  clear hP4
  replace hPL := Lib.hid hPL
  replace hbw3 := Lib.hid hbw3
  replace hLS := Lib.hid hLS
  replace hT6 := Lib.hid hT6
  go_wp2_with fail
  rw [hw3.out]
  go_loopw [8, 30] (fun u iv wr => ∃ k : Nat, k ≤ N ∧ iv = .int .i64 (k : Int) ∧ ∃ acc, List.length acc ≤ 300 * k ∧ lexL nbP (L.drop k) acc = .error x ∧ wr.ownsRow w3.heap.size 37 5 u acc.length (tcs acc) ∧ Below w3.heap.size w3 wr) (fun _ iv _ => N - (RowKit.intOf iv).toNat)
  case atStart => exact ⟨0, Nat.zero_le _, rfl, [], by simp, hR.out, ⟨rfl, Or.inl ⟨rfl, rfl⟩⟩, Below.refl _ _⟩
  case round =>
    obtain ⟨k, hk, rfl, acc, hal, hr, ho, hbk⟩ := hrel
    by_cases hlt : k < N
    · have hkl : k < L.length := by rw [hNe.out]; exact hlt
      obtain ⟨bA, oA, rfl, hbA, hc⟩ := (hPL.out.over hbk) (by omega)
      obtain ⟨d0, d1, d2, d3, d4⟩ := hc k hkl
      obtain ⟨hqo, hql⟩ := hok.out L[k] (List.getElem_mem hkl)
      have hmore := lexL_more L k hkl acc (by have := few_len qs; omega)
      rw [hr] at hmore
      have hlen1 : ∀ b, lexL nbP [L[k]] [] = .ok b → b.length ≤ 300 := fun b hb => by
        rw [lexL_one] at hb
        have := lexP_len nbP _ _ _ _ _ hb
        simp at this; omega
      have hpc : L[k] = ⟨L[k].t, L[k].p, L[k].fx⟩ := rfl
      generalize L[k] = q0 at *
      obtain ⟨l0, p0, fx⟩ := q0
      simp only at d0 d1 d2 d3 d4 hqo hql
      obtain ⟨S, hS⟩ : ∃ S, tx l0 = S := ⟨_, rfl⟩
      rw [hS] at d0
      have hNb : C5 ((wr.alloc (.cells #[.string S, .int .i64 p0.f, .int .i64 p0.l, .int .i64 p0.c, .bool fx] 35)).alloc (.cells #[.string S, .int .i64 p0.f, .int .i64 p0.l, .int .i64 p0.c, .bool fx] 35)) (wr.heap.size + 1) 35 (.string S) (.int .i64 p0.f) (.int .i64 p0.l) (.int .i64 p0.c) (.bool fx) := World.size_alloc wr (.cells #[.string S, .int .i64 p0.f, .int .i64 p0.l, .int .i64 p0.c, .bool fx] 35) ▸ C5.new (wr.alloc (.cells #[.string S, .int .i64 p0.f, .int .i64 p0.l, .int .i64 p0.c, .bool fx] 35)) _ _ _ _ _ _
      have hbB : Below wr.heap.size wr ((wr.alloc (.cells #[.string S, .int .i64 p0.f, .int .i64 p0.l, .int .i64 p0.c, .bool fx] 35)).alloc (.cells #[.string S, .int .i64 p0.f, .int .i64 p0.l, .int .i64 p0.c, .bool fx] 35)) := by go_grown
      have hNb2 : C5 ((wr.alloc (.cells #[.string S, .int .i64 p0.f, .int .i64 p0.l, .int .i64 p0.c, .bool fx] 35)).alloc (.cells #[.string S, .int .i64 p0.f, .int .i64 p0.l, .int .i64 p0.c, .bool fx] 35)) (wr.heap.size + 1) 35 (.string (tx l0)) (.int .i64 p0.f) (.int .i64 p0.l) (.int .i64 p0.c) (.bool fx) := by rw [hS]; exact hNb
      have hLq := (show Calls Tryd.prog 10 #[.slice (some ⟨wr.heap.size + 1, 0, none⟩) 1 1] ((wr.alloc (.cells #[.string S, .int .i64 p0.f, .int .i64 p0.l, .int .i64 p0.c, .bool fx] 35)).alloc (.cells #[.string S, .int .i64 p0.f, .int .i64 p0.l, .int .i64 p0.c, .bool fx] 35)) (LR ((wr.alloc (.cells #[.string S, .int .i64 p0.f, .int .i64 p0.l, .int .i64 p0.c, .bool fx] 35)).alloc (.cells #[.string S, .int .i64 p0.f, .int .i64 p0.l, .int .i64 p0.c, .bool fx] 35)) (lexL nbP [⟨l0, p0, fx⟩] [])) from Lex_t (some ⟨wr.heap.size + 1, 0, none⟩) 1 [⟨l0, p0, fx⟩] ((wr.alloc (.cells #[.string S, .int .i64 p0.f, .int .i64 p0.l, .int .i64 p0.c, .bool fx] 35)).alloc (.cells #[.string S, .int .i64 p0.f, .int .i64 p0.l, .int .i64 p0.c, .bool fx] 35)) (C5.PL (q := ⟨l0, p0, fx⟩) hNb2) (by show 1 ≤ 1000000000; omega) ((hLS.out.over hbk).over hbB) (fun q hq => by rw [List.mem_singleton.1 hq]; exact ⟨hqo, by show l0.length < _; omega⟩))
      have zk := hbk.size
      have hbkB : Below w3.heap.size w3 ((wr.alloc (.cells #[.string S, .int .i64 p0.f, .int .i64 p0.l, .int .i64 p0.c, .bool fx] 35)).alloc (.cells #[.string S, .int .i64 p0.f, .int .i64 p0.l, .int .i64 p0.c, .bool fx] 35)) := hbk.trans (hbB.mono zk)
      have hoB : ((wr.alloc (.cells #[.string S, .int .i64 p0.f, .int .i64 p0.l, .int .i64 p0.c, .bool fx] 35)).alloc (.cells #[.string S, .int .i64 p0.f, .int .i64 p0.l, .int .i64 p0.c, .bool fx] 35)).ownsRow w3.heap.size 37 5 u8 acc.length (tcs acc) := own_blk ho fun g hg => hbB.block g (own_lt ho g hg).2
      clear hc hS hpc hbB hNb hNb2
      cases hX : lexL nbP [⟨l0, p0, fx⟩] [] with
      | error y =>
        have hxy : x = y := by rw [hX] at hmore; exact Except.error.inj hmore
        subst hxy
        rw [hX] at hLq
        unfold LR at hLq
        simp only at hLq
        have q1 : (x.2 != 0) = true := by simpa using hx0
        have q2 : (x.2 == 0) = false := by simpa using hx0
        have hT7 := (hT6.out.over hbkB)
        have hbq := hbw3.out.trans (hbkB.mono hbw3.out.size)
        replace hx0 := Lib.hid hx0
        replace hLq := Lib.hid hLq
        clear hmore hX hlen1 ho hr hqo hql hoB hbkB hbk
        go_wp2_with fail
        (with_reducible refine hLq.out.mono ?_)
        rintro e w5 ⟨hb5, rfl⟩
        have hbq5 := below_call hb5 hbq
        have hT8 := (hT7.over hb5).over ((Below.refl _ w5).alloc (Nat.le_refl _) (.cells #[.int .i64 x.1.f, .int .i64 x.1.l, .int .i64 x.1.c] 29))
        have hT9 := hT8.all
        have hbq6 := hbq5.alloc hbq5.size (.cells #[.int .i64 x.1.f, .int .i64 x.1.l, .int .i64 x.1.c] 29)
        have N5 : C3 (w5.alloc (.cells #[.int .i64 x.1.f, .int .i64 x.1.l, .int .i64 x.1.c] 29)) w5.heap.size 29 (.int .i64 x.1.f) (.int .i64 x.1.l) (.int .i64 x.1.c) := Go.Deep.blk_alloc_new _ _
        have N6 := N5.all
        replace hbq6 := Lib.hid hbq6
        clear hb5 hbq5 hT7 hT8 hbq
        go_wp2_with fail
        go_ret
        exact ⟨rfl, hbq6.out⟩
      | ok b =>
        rw [hX] at hLq
        unfold LR at hLq
        simp only at hLq
        have hnext : lexL nbP (L.drop (k + 1)) (acc ++ b) = .error x := by rw [hX] at hmore; exact hmore.symm
        have hb300 := hlen1 b hX
        replace hLq := Lib.hid hLq
        replace hnext := Lib.hid hnext
        replace hoB := Lib.hid hoB
        replace hbkB := Lib.hid hbkB
        replace hbk := Lib.hid hbk
        clear hmore hX hlen1 ho hr hqo hql
        go_wp2_with fail
        (with_reducible refine hLq.out.mono ?_)
        rintro e w5 ⟨hb5, v, rfl, ho5⟩
        obtain ⟨Av, cv, rfl⟩ := own_form ho5
        have hbk5 := below_call hb5 hbkB.out
        have ho5' : w5.ownsRow w3.heap.size 37 5 u8 acc.length (tcs acc) := own_blk hoB.out fun g hg => hb5.block g (own_lt hoB.out g hg).2
        have z5 := hbk5.size
        have hbk6 := hbk5.alloc z5 (.cells #[.int .i64 0, .int .i64 0, .int .i64 0] 29)
        have ho6 : (w5.alloc (.cells #[.int .i64 0, .int .i64 0, .int .i64 0] 29)).ownsRow w3.heap.size 37 5 u8 acc.length (tcs acc) := own_blk ho5' fun g hg => Go.Deep.blk_alloc_lt _ _ _ (own_lt ho5' g hg).2
        have hx6 : (w5.alloc (.cells #[.int .i64 0, .int .i64 0, .int .i64 0] 29)).ownsRow _ 37 5 (.slice Av b.length cv) b.length (tcs b) := own_blk ho5 fun g hg => Go.Deep.blk_alloc_lt _ _ _ (own_lt ho5 g hg).2
        have z6 : w3.heap.size ≤ (w5.alloc (.cells #[.int .i64 0, .int .i64 0, .int .i64 0] 29)).heap.size := by rw [World.size_alloc]; omega
        have hlow := fun g hg => (own_lt ho6 g hg).1
        replace hbk6 := Lib.hid hbk6
        replace ho6 := Lib.hid ho6
        replace hx6 := Lib.hid hx6
        replace z6 := Lib.hid z6
        replace hlow := Lib.hid hlow
        clear hb5 ho5 ho5' hbk5 hoB hbkB
        go_wp2_with (at_builtin; refine wpList_append_TL rfl _ _ rfl w3.heap.size _ acc.length (tcs acc) rfl ho6.out Av b.length cv _ b rfl rfl hx6.out ?a0 z6.out ?a2)
        case a0 => omega
        case a2 =>
          intro v9 w9 ho9 hg9
          have hb9 : Below w3.heap.size w3 w9 := hbk6.out.grown hg9 z6.out (fun q hq => hlow.out q hq)
          have ho9' : w9.ownsRow w3.heap.size 37 5 v9 (acc ++ b).length (tcs (acc ++ b)) := by rw [tcs_app, List.length_append]; exact ho9
          have hal : (acc ++ b).length ≤ 300 * (k + 1) := by rw [List.length_append]; omega
          replace ho9' := Lib.hid ho9'
          replace hb9 := Lib.hid hb9
          replace hal := Lib.hid hal
          clear ho9 hg9 hbk6 ho6 hx6 z6 hlow
          go_wp2_with fail
          go_roundw
          case rel => exact ⟨k + 1, by omega, by go_num, acc ++ b, hal.out, hnext.out, ho9'.out, hb9.out⟩
          case measure => simp [RowKit.intOf]; omega
    · exfalso
      rw [List.drop_eq_nil_of_le (by rw [hNe.out]; omega)] at hr
      cases hr
theorem LexJoins_t (A : Option Addr) (c : Nat) (qs : List PC) (w : World) (hA : PL w A qs) (hN : qs.length ≤ 9223372036854775807) (hq : ∀ q, q ∈ qs → q.p.ok) (hL : LS w) : Calls Tryd.prog 7 #[.slice A qs.length c] w (RV w (.bool true)) := by
  cases hR : lexL nbP (fewL qs) [] with
  | error x => exact LexJoins_err A c qs w hA hN hq hL x hR
  | ok a => exact LexJoins_ok A c qs w hA hN hq hL a hR
end Go.Proofs.YtomjokpgcijccaaDoor
