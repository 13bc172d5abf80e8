/-
  The walk of LexCovers.
-/
import Derived.Test.YtomjokpgcijccaaDoorHz
namespace Go.Proofs.YtomjokpgcijccaaDoor
open Go.RowKit Go.Lib
theorem tl_ge (a : List TK) : ∀ (k : Nat) (h : k < a.length), a[k].t.length ≤ tl a := by
  induction a with
  | nil => intro k h; simp at h
  | cons x r ih =>
    intro k h
    cases k with
    | zero => simp only [List.getElem_cons_zero, tl]; omega
    | succ k =>
      have := ih k (by simpa using h)
      simp only [List.getElem_cons_succ, tl]; omega
theorem blank_or {c : Nat} (h : blkB c = true) : c = 32 ∨ c = 9 ∨ c = 13 ∨ c = 10 := by
  simp only [blkB, Bool.or_eq_true, decide_eq_true_eq] at h
  omega
theorem noblank {c : Nat} (h : blkB c = false) : c ≠ 32 ∧ c ≠ 9 ∧ c ≠ 13 ∧ c ≠ 10 := by
  simp only [blkB, Bool.or_eq_false_iff, decide_eq_false_iff_not] at h
  omega
theorem some_toNat {l : List UInt8} {i : Nat} {c : UInt8} {S : ByteArray} (hS : tx l = S) (h : l[i]? = some c) (h' : i < S.size) : S[i].toNat = c.toNat := by
  subst hS
  have hl : i < l.length := h'
  have e : l[i] = c := by rw [List.getElem?_eq_getElem hl] at h; exact Option.some.inj h
  rw [← e]; rfl
set_option maxRecDepth 100000 in
set_option maxHeartbeats 6400000 in
theorem LexCovers_long_err (l0 : List UInt8) (hlong : 400 < l0.length) (hmax : l0.length ≤ 9223372036854775807) (w : World) (hL : LS w) (x : PS × Int) (hR : lexL nbP [⟨l0.take 400, ⟨1, 1, 1⟩, false⟩] [] = .error x) : Calls Tryd.prog 4 #[.string (tx l0)] w (RV w (.bool true)) := by
  obtain ⟨l, hl⟩ : ∃ l, l0.take 400 = l := ⟨_, rfl⟩
  have hn400 : l.length ≤ 400 := by rw [← hl, List.length_take]; omega
  have e4 := tx_take l0 400
  have hz0 : (tx l0).size = l0.length := rfl
  rw [hl] at e4 hR
  obtain ⟨S, hS⟩ : ∃ S, tx l = S := ⟨_, rfl⟩
  obtain ⟨S0, hS0⟩ : ∃ S, tx l0 = S := ⟨_, rfl⟩
  rw [hS, hS0] at e4
  rw [hS0] at hz0 ⊢
  obtain ⟨n0, hn0⟩ : ∃ n, l0.length = n := ⟨_, rfl⟩
  rw [hn0] at hz0 hlong hmax
  clear hn0 hS0 hl
  have hz : S.size = l.length := by rw [← hS]; rfl
  have hAw := awake_t w hL
  have hLx := fun W b (h : C5 W b 35 (.string S) (.int .i64 1) (.int .i64 1) (.int .i64 1) (.bool false)) (hL : LS W) =>
    (show Calls Tryd.prog 10 #[.slice (some ⟨b, 0, none⟩) 1 1] W (LR W (.error x)) from hR ▸ Lex_t (some ⟨b, 0, none⟩) 1 [⟨l, ⟨1, 1, 1⟩, false⟩] W (C5.PL (q := ⟨l, ⟨1, 1, 1⟩, false⟩) (by rw [hS]; exact h)) (by show 1 ≤ 1000000000; omega) hL (fun q hq => by rw [List.mem_singleton.1 hq]; exact ⟨pos1_ok, by show l.length < _; omega⟩))
  unfold LR at hLx
  simp only at hLx
  replace hAw := Lib.hid hAw
  replace hLx := Lib.hid hLx
  replace hL := Lib.hid hL
  obtain ⟨n, hn⟩ : ∃ n, l.length = n := ⟨_, rfl⟩
  rw [hn] at hz hn400
  replace hn := Lib.hid hn
  replace hS := Lib.hid hS
  replace hR := Lib.hid hR
  go_enter Tryd.func4, Tryd.ntmps4
  go_wp2_with fail
  (with_reducible refine hAw.out.mono ?_)
  rintro e w1 ⟨rfl, hb1⟩
  have hN1 := C5.new w1 35 (.string S) (.int .i64 1) (.int .i64 1) (.int .i64 1) (.bool false)
  have hL1 := (hL.out.over hb1).over ((Below.refl _ w1).alloc (Nat.le_refl _) (.cells #[.string S, .int .i64 1, .int .i64 1, .int .i64 1, .bool false] 35))
  have hb2 := hb1.alloc hb1.size (.cells #[.string S, .int .i64 1, .int .i64 1, .int .i64 1, .bool false] 35)
  have hC1 := hLx.out _ _ hN1 hL1
  replace hC1 := Lib.hid hC1
  replace hb2 := Lib.hid hb2
  clear hN1 hL1 hb1 hAw hLx hL
  go_wp2_with fail
  (with_reducible refine hC1.out.mono ?_)
  rintro e w4 ⟨hb4, rfl⟩
  have hx0 : x.2 ≠ 0 := lexL_err nbP _ _ x hR.out
  obtain ⟨f1, f2, f3⟩ := err_low nbP l (by have := hn.out; omega) x hR.out
  have hbw4 := below_call hb4 hb2.out
  have hT := (show C3 (w4.alloc (.cells #[.int .i64 x.1.f, .int .i64 x.1.l, .int .i64 x.1.c] 29)) w4.heap.size 29 (.int .i64 x.1.f) (.int .i64 x.1.l) (.int .i64 x.1.c) from Go.Deep.blk_alloc_new _ _).all
  have hbw5 := hbw4.alloc hbw4.size (.cells #[.int .i64 x.1.f, .int .i64 x.1.l, .int .i64 x.1.c] 29)
  rw [f1] at hT hbw5 ⊢
  have q1 : (x.2 != 0) = true := by simpa using hx0
  have q2 : decide ((1 : Int) ≤ x.1.l) = true := by simpa using f2
  have q3 : decide ((1 : Int) ≤ x.1.c) = true := by simpa using f3
  replace hx0 := Lib.hid hx0
  replace hbw5 := Lib.hid hbw5
  clear hb4 hbw4 f1
  go_wp2_with fail
  go_ret
  exact ⟨rfl, hbw5.out⟩
set_option maxRecDepth 100000 in
set_option maxHeartbeats 6400000 in
theorem LexCovers_short_err (l0 : List UInt8) (hlong : l0.length ≤ 400) (w : World) (hL : LS w) (x : PS × Int) (hR : lexL nbP [⟨l0, ⟨1, 1, 1⟩, false⟩] [] = .error x) : Calls Tryd.prog 4 #[.string (tx l0)] w (RV w (.bool true)) := by
  obtain ⟨l, hl⟩ : ∃ l, l0 = l := ⟨_, rfl⟩
  rw [hl] at hlong hR ⊢
  have hn400 : l.length ≤ 400 := hlong
  have hlz : ¬ (400 : Int) < (l.length : Int) := by omega
  obtain ⟨S, hS⟩ : ∃ S, tx l = S := ⟨_, rfl⟩
  rw [hS]
  clear hl
  have hz : S.size = l.length := by rw [← hS]; rfl
  have hAw := awake_t w hL
  have hLx := fun W b (h : C5 W b 35 (.string S) (.int .i64 1) (.int .i64 1) (.int .i64 1) (.bool false)) (hL : LS W) =>
    (show Calls Tryd.prog 10 #[.slice (some ⟨b, 0, none⟩) 1 1] W (LR W (.error x)) from hR ▸ Lex_t (some ⟨b, 0, none⟩) 1 [⟨l, ⟨1, 1, 1⟩, false⟩] W (C5.PL (q := ⟨l, ⟨1, 1, 1⟩, false⟩) (by rw [hS]; exact h)) (by show 1 ≤ 1000000000; omega) hL (fun q hq => by rw [List.mem_singleton.1 hq]; exact ⟨pos1_ok, by show l.length < _; omega⟩))
  unfold LR at hLx
  simp only at hLx
  replace hAw := Lib.hid hAw
  replace hLx := Lib.hid hLx
  replace hL := Lib.hid hL
  obtain ⟨n, hn⟩ : ∃ n, l.length = n := ⟨_, rfl⟩
  rw [hn] at hz hn400
  replace hn := Lib.hid hn
  replace hS := Lib.hid hS
  replace hR := Lib.hid hR
  go_enter Tryd.func4, Tryd.ntmps4
  go_wp2_with fail
  (with_reducible refine hAw.out.mono ?_)
  rintro e w1 ⟨rfl, hb1⟩
  have hN1 := C5.new w1 35 (.string S) (.int .i64 1) (.int .i64 1) (.int .i64 1) (.bool false)
  have hL1 := (hL.out.over hb1).over ((Below.refl _ w1).alloc (Nat.le_refl _) (.cells #[.string S, .int .i64 1, .int .i64 1, .int .i64 1, .bool false] 35))
  have hb2 := hb1.alloc hb1.size (.cells #[.string S, .int .i64 1, .int .i64 1, .int .i64 1, .bool false] 35)
  have hC1 := hLx.out _ _ hN1 hL1
  replace hC1 := Lib.hid hC1
  replace hb2 := Lib.hid hb2
  clear hN1 hL1 hb1 hAw hLx hL
  go_wp2_with fail
  (with_reducible refine hC1.out.mono ?_)
  rintro e w4 ⟨hb4, rfl⟩
  have hx0 : x.2 ≠ 0 := lexL_err nbP _ _ x hR.out
  obtain ⟨f1, f2, f3⟩ := err_low nbP l (by have := hn.out; omega) x hR.out
  have hbw4 := below_call hb4 hb2.out
  have hT := (show C3 (w4.alloc (.cells #[.int .i64 x.1.f, .int .i64 x.1.l, .int .i64 x.1.c] 29)) w4.heap.size 29 (.int .i64 x.1.f) (.int .i64 x.1.l) (.int .i64 x.1.c) from Go.Deep.blk_alloc_new _ _).all
  have hbw5 := hbw4.alloc hbw4.size (.cells #[.int .i64 x.1.f, .int .i64 x.1.l, .int .i64 x.1.c] 29)
  rw [f1] at hT hbw5 ⊢
  have q1 : (x.2 != 0) = true := by simpa using hx0
  have q2 : decide ((1 : Int) ≤ x.1.l) = true := by simpa using f2
  have q3 : decide ((1 : Int) ≤ x.1.c) = true := by simpa using f3
  replace hx0 := Lib.hid hx0
  replace hbw5 := Lib.hid hbw5
  clear hb4 hbw4 f1
  go_wp2_with fail
  go_ret
  exact ⟨rfl, hbw5.out⟩
set_option maxRecDepth 100000 in
set_option maxHeartbeats 12800000 in
theorem LexCovers_long_ok (l0 : List UInt8) (hlong : 400 < l0.length) (hmax : l0.length ≤ 9223372036854775807) (w : World) (hL : LS w) (a : List TK) (hR : lexL nbP [⟨l0.take 400, ⟨1, 1, 1⟩, false⟩] [] = .ok a) : Calls Tryd.prog 4 #[.string (tx l0)] w (RV w (.bool true)) := by
  obtain ⟨l, hl⟩ : ∃ l, l0.take 400 = l := ⟨_, rfl⟩
  have hn400 : l.length ≤ 400 := by rw [← hl, List.length_take]; omega
  have e4 := tx_take l0 400
  have hz0 : (tx l0).size = l0.length := rfl
  rw [hl] at e4 hR
  obtain ⟨S, hS⟩ : ∃ S, tx l = S := ⟨_, rfl⟩
  obtain ⟨S0, hS0⟩ : ∃ S, tx l0 = S := ⟨_, rfl⟩
  rw [hS, hS0] at e4
  rw [hS0] at hz0 ⊢
  obtain ⟨n0, hn0⟩ : ∃ n, l0.length = n := ⟨_, rfl⟩
  rw [hn0] at hz0 hlong hmax
  clear hn0 hS0 hl
  have hz : S.size = l.length := by rw [← hS]; rfl
  have hAw := awake_t w hL
  have hLx := fun W b (h : C5 W b 35 (.string S) (.int .i64 1) (.int .i64 1) (.int .i64 1) (.bool false)) (hL : LS W) =>
    (show Calls Tryd.prog 10 #[.slice (some ⟨b, 0, none⟩) 1 1] W (LR W (.ok a)) from hR ▸ Lex_t (some ⟨b, 0, none⟩) 1 [⟨l, ⟨1, 1, 1⟩, false⟩] W (C5.PL (q := ⟨l, ⟨1, 1, 1⟩, false⟩) (by rw [hS]; exact h)) (by show 1 ≤ 1000000000; omega) hL (fun q hq => by rw [List.mem_singleton.1 hq]; exact ⟨pos1_ok, by show l.length < _; omega⟩))
  unfold LR at hLx
  simp only at hLx
  replace hAw := Lib.hid hAw
  replace hLx := Lib.hid hLx
  replace hL := Lib.hid hL
  obtain ⟨n, hn⟩ : ∃ n, l.length = n := ⟨_, rfl⟩
  rw [hn] at hz hn400
  have hseg0 := seg_text nbP l ⟨1, 1, 1⟩ a hR
  have htl : tl a ≤ 400 := by
    have h1 := lexL_tl nbP _ [] a hR
    have e : tl [] + sumQ [(⟨l, ⟨1, 1, 1⟩, false⟩ : PC)] = l.length := by simp [tl, sumQ]
    omega
  replace hseg0 := Lib.hid hseg0
  replace hn := Lib.hid hn
  replace hS := Lib.hid hS
  replace hR := Lib.hid hR
  go_enter Tryd.func4, Tryd.ntmps4
  go_wp2_with fail
  (with_reducible refine hAw.out.mono ?_)
  rintro e w1 ⟨rfl, hb1⟩
  have hN1 := C5.new w1 35 (.string S) (.int .i64 1) (.int .i64 1) (.int .i64 1) (.bool false)
  have hL1 := (hL.out.over hb1).over ((Below.refl _ w1).alloc (Nat.le_refl _) (.cells #[.string S, .int .i64 1, .int .i64 1, .int .i64 1, .bool false] 35))
  have hb2 := hb1.alloc hb1.size (.cells #[.string S, .int .i64 1, .int .i64 1, .int .i64 1, .bool false] 35)
  have hC1 := hLx.out _ _ hN1 hL1
  replace hC1 := Lib.hid hC1
  replace hb2 := Lib.hid hb2
  clear hN1 hL1 hb1 hAw hLx hL
  go_wp2_with fail
  (with_reducible refine hC1.out.mono ?_)
  rintro e w4 ⟨hb4, v, rfl, ho4⟩
  obtain ⟨Av, cv, rfl⟩ := own_form ho4
  have hbw4 := below_call hb4 hb2.out
  have ho3 : (w4.alloc (.cells #[.int .i64 0, .int .i64 0, .int .i64 0] 29)).ownsRow _ 37 5 (.slice Av a.length cv) a.length (tcs a) := own_blk ho4 fun g hg => Go.Deep.blk_alloc_lt _ _ _ (own_lt ho4 g hg).2
  obtain ⟨hTa, _, _, _⟩ := own_TLr ho3
  have hbw3 := hbw4.alloc hbw4.size (.cells #[.int .i64 0, .int .i64 0, .int .i64 0] 29)
  have hal : a.length ≤ 400 := by
    have hwok := (lexL_ok nbP _ [] a hR.out (fun x hx => by simp at hx) (by simp)).1
    have := len_tl a fun x hx => (hwok x hx).1
    omega
  obtain ⟨na, hna⟩ : ∃ na, a.length = na := ⟨_, rfl⟩
  rw [hna] at hal ⊢
  replace hna := Lib.hid hna
  replace hTa := Lib.hid hTa
  replace hbw3 := Lib.hid hbw3
  clear hb4 hbw4 ho4 ho3 hb2 hC1
  generalize hw3 : w4.alloc (.cells #[.int .i64 0, .int .i64 0, .int .i64 0] 29) = w3 at *
  replace hw3 := Lib.hid hw3
  go_wp2_with fail
  rw [hw3.out]
  go_loopw [6, 7, 8, 9, 46] (fun ln cl kv mv iv wr => ∃ i : Nat, i ≤ n ∧ iv = .int .i64 (i : Int) ∧ ∃ (p : PS) (k m : Nat), ln = .int .i64 p.l ∧ cl = .int .i64 p.c ∧ kv = .int .i64 (k : Int) ∧ mv = .int .i64 (m : Int) ∧ p.f = 1 ∧ 1 ≤ p.l ∧ p.l ≤ 1 + (i : Int) ∧ 1 ≤ p.c ∧ p.c ≤ 1 + (i : Int) ∧ k ≤ na ∧ SegAt p (l.drop i) a k m ∧ Below w3.heap.size w3 wr) (fun _ _ _ _ iv _ => n - (RowKit.intOf iv).toNat)
  case atStart => exact ⟨0, Nat.zero_le _, rfl, ⟨1, 1, 1⟩, 0, 0, rfl, rfl, rfl, rfl, rfl, by decide, by decide, by decide, by decide, Nat.zero_le _, Or.inl ⟨rfl, hseg0.out⟩, Below.refl _ _⟩
  case round =>
    obtain ⟨i, hi, rfl, ⟨pf, pl, pc⟩, k, m, rfl, rfl, rfl, rfl, hpf, hpl, hpl2, hpc, hpc2, hk, hsg, hbk⟩ := hrel
    simp only at hpf hpl hpl2 hpc hpc2
    subst hpf
    clear hseg0
    by_cases hlt : i < n
    · have hil : i < l.length := by have := hn.out; omega
      rw [List.drop_eq_getElem_cons hil] at hsg
      have hrl : (l.drop (i + 1)).length ≤ 400 := by rw [List.length_drop]; have := hn.out; omega
      have hst := seg_step hsg rfl (by show 1 ≤ pl; omega) (by show 1 ≤ pc; omega) (by show pl + _ < _; omega) (by show pc + _ < _; omega)
      have hSi := fun h' => some_toNat (i := i) (c := l[i]) hS.out (List.getElem?_eq_getElem hil) h'
      have hSi2 := hSi (by omega)
      obtain ⟨c, hcc⟩ : ∃ c, l[i] = c := ⟨_, rfl⟩
      rw [hcc] at hst hSi2
      obtain ⟨x, hx⟩ : ∃ x, c.toNat = x := ⟨_, rfl⟩
      rw [hx] at hSi2
      have hx256 : x < 256 := by rw [← hx]; exact UInt8.toNat_lt _
      obtain ⟨r, hr⟩ : ∃ r, l.drop (i + 1) = r := ⟨_, rfl⟩
      rw [hr] at hst hrl
      replace hr := Lib.hid hr
      clear hsg hSi hcc hil hrl
      have hst2 : True := trivial
      rcases hst with ⟨rfl, hst⟩ | hst | ⟨rfl, hst⟩ | ⟨rfl, hst⟩
      · obtain ⟨hk, hp, hpos, h0c, hnb, hseg⟩ := hst
        have hkl : k < a.length := hk
        obtain ⟨bV, oV, rfl, hbV, hcV⟩ := (hTa.out.over hbk) (by omega)
        obtain ⟨n0, n1, n2, n3, n4⟩ := hcV k hkl
        rw [hp] at n2 n3 n4
        have htk := tl_ge a k hkl
        generalize a[k] = y at *
        obtain ⟨T, hT⟩ : ∃ T, tx y.t = T := ⟨_, rfl⟩
        have hTz : T.size = y.t.length := by rw [← hT]; rfl
        have hq0 : 0 < T.size := by omega
        have hTx := some_toNat hT h0c hq0
        rw [hT] at n1
        rw [hx] at hTx
        have hkn : (k : Int) < (na : Int) := by have := hna.out; omega
        have hkn2 : k < na := by have := hna.out; omega
        obtain ⟨m, hm⟩ : ∃ m, y.t.length = m := ⟨_, rfl⟩
        rw [hm] at hTz hseg hpos htk
        have hqq : IntKind.i64.wrap ((m : Int) - (m : Int)) = 0 := by rw [show (m : Int) - (m : Int) = 0 by omega]; rfl
        have hsub : (m : Int) - (m : Int) = 0 := by omega
        have hm0 : (0 : Int) < (m : Int) := by omega
        clear hp h0c hcV hT hm hk hkl hst2
        obtain ⟨v1, v2, v3, v4⟩ := noblank hnb
        rcases ad1_plain (p := ⟨1, pl, pc⟩) (c := c) rfl (by show pl < _; omega) (by show pc < _; omega) (by show 1 ≤ pl; omega) (by show 1 ≤ pc; omega) with ⟨h10, _⟩ | ⟨_, had⟩
        · exact absurd h10 v4
        simp only at had
        rw [had] at hseg
        have y1 : ((x : Int) == 10) = false := by simp; omega
        have y2 : (x == 10) = false := by simp; omega
        have hwc : IntKind.i64.wrap (pc + 1) = pc + 1 := IntWalk.i64_in _ (by omega)
        have hwk : IntKind.i64.wrap ((k : Int) + 1) = (k : Int) + 1 := IntWalk.i64_in _ (by omega)
        clear v1 v2 v3 had
        by_cases hm9 : m = 1
        · subst hm9
          rw [if_pos rfl] at hseg
          go_wp2_with fail
          go_roundw
          case rel => exact ⟨i + 1, by omega, by go_num, ⟨1, pl, pc + 1⟩, k + 1, 0, rfl, rfl, by first | rfl | go_num, by first | rfl | go_num, rfl, by first | omega | (dsimp only; omega), by first | omega | (dsimp only; omega), by first | omega | (dsimp only; omega), by first | omega | (dsimp only; omega), by omega, by rw [hr.out]; exact hseg, hbk⟩
          case measure => simp [RowKit.intOf]; omega
        · rw [if_neg hm9] at hseg
          have hwm : IntKind.i64.wrap ((m : Int) - 1) = ((m - 1 : Nat) : Int) := by rw [IntWalk.i64_in _ (by omega)]; omega
          have hwz : (((m - 1 : Nat) : Int) == 0) = false := by simp; omega
          obtain ⟨mm, hmm⟩ : ∃ mm, m - 1 = mm := ⟨_, rfl⟩
          rw [hmm] at hwm hwz hseg
          have hmm1 : ¬ (mm : Int) = 0 := by omega
          have hmm2 : ¬ mm = 0 := by omega
          have hmm3 : mm ≤ 400 := by omega
          clear hmm
          replace hm9 := Lib.hid hm9
          go_wp2_with fail
          go_roundw
          case rel => exact ⟨i + 1, by omega, by go_num, ⟨1, pl, pc + 1⟩, k, mm, rfl, rfl, by first | rfl | go_num, by first | rfl | go_num, rfl, by first | omega | (dsimp only; omega), by first | omega | (dsimp only; omega), by first | omega | (dsimp only; omega), by first | omega | (dsimp only; omega), by omega, by rw [hr.out]; exact hseg, hbk⟩
          case measure => simp [RowKit.intOf]; omega
      · obtain ⟨hm1, hk, hle, h0c, hnb, hseg⟩ := hst
        have hkl : k < a.length := hk
        obtain ⟨bV, oV, rfl, hbV, hcV⟩ := (hTa.out.over hbk) (by omega)
        obtain ⟨n0, n1, n2, n3, n4⟩ := hcV k hkl
        have htk := tl_ge a k hkl
        generalize a[k] = y at *
        obtain ⟨T, hT⟩ : ∃ T, tx y.t = T := ⟨_, rfl⟩
        have hTz : T.size = y.t.length := by rw [← hT]; rfl
        obtain ⟨q, hq⟩ : ∃ q, y.t.length - m = q := ⟨_, rfl⟩
        rw [hq] at h0c
        have hq0 : q < T.size := by omega
        have hTx := some_toNat hT h0c hq0
        rw [hT] at n1
        rw [hx] at hTx
        have hkn : (k : Int) < (na : Int) := by have := hna.out; omega
        have hkn2 : k < na := by have := hna.out; omega
        obtain ⟨tn, htn⟩ : ∃ tn, y.t.length = tn := ⟨_, rfl⟩
        rw [htn] at hTz htk hle hq
        have hqq : IntKind.i64.wrap ((tn : Int) - (m : Int)) = (q : Int) := by rw [IntWalk.i64_in _ (by omega)]; omega
        have hsub : (tn : Int) - (m : Int) = (q : Int) := by omega
        have hm0 : (0 : Int) < (m : Int) := by omega
        have hmz : ((m : Int) == 0) = false := by simp; omega
        have hmz2 : ¬ m = 0 := by omega
        replace hmz2 := Lib.hid hmz2
        have hpos : 0 < m := hm1
        clear h0c hcV hT hk hkl hst2 htn hq n2 n3 n4
        obtain ⟨v1, v2, v3, v4⟩ := noblank hnb
        rcases ad1_plain (p := ⟨1, pl, pc⟩) (c := c) rfl (by show pl < _; omega) (by show pc < _; omega) (by show 1 ≤ pl; omega) (by show 1 ≤ pc; omega) with ⟨h10, _⟩ | ⟨_, had⟩
        · exact absurd h10 v4
        simp only at had
        rw [had] at hseg
        have y1 : ((x : Int) == 10) = false := by simp; omega
        have y2 : (x == 10) = false := by simp; omega
        have hwc : IntKind.i64.wrap (pc + 1) = pc + 1 := IntWalk.i64_in _ (by omega)
        have hwk : IntKind.i64.wrap ((k : Int) + 1) = (k : Int) + 1 := IntWalk.i64_in _ (by omega)
        clear v1 v2 v3 had
        by_cases hm9 : m = 1
        · subst hm9
          rw [if_pos rfl] at hseg
          have hqq1 : IntKind.i64.wrap ((tn : Int) - 1) = (q : Int) := hqq
          have hsub1 : (tn : Int) - 1 = (q : Int) := hsub
          clear hqq hsub hmz hm0 hpos
          go_wp2_with fail
          go_roundw
          case rel => exact ⟨i + 1, by omega, by go_num, ⟨1, pl, pc + 1⟩, k + 1, 0, rfl, rfl, by first | rfl | go_num, by first | rfl | go_num, rfl, by first | omega | (dsimp only; omega), by first | omega | (dsimp only; omega), by first | omega | (dsimp only; omega), by first | omega | (dsimp only; omega), by omega, by rw [hr.out]; exact hseg, hbk⟩
          case measure => simp [RowKit.intOf]; omega
        · rw [if_neg hm9] at hseg
          have hwm : IntKind.i64.wrap ((m : Int) - 1) = ((m - 1 : Nat) : Int) := by rw [IntWalk.i64_in _ (by omega)]; omega
          have hwz : (((m - 1 : Nat) : Int) == 0) = false := by simp; omega
          obtain ⟨mm, hmm⟩ : ∃ mm, m - 1 = mm := ⟨_, rfl⟩
          rw [hmm] at hwm hwz hseg
          have hmm1 : ¬ (mm : Int) = 0 := by omega
          have hmm2 : ¬ mm = 0 := by omega
          have hmm3 : mm ≤ 400 := by omega
          clear hmm
          replace hm9 := Lib.hid hm9
          go_wp2_with fail
          go_roundw
          case rel => exact ⟨i + 1, by omega, by go_num, ⟨1, pl, pc + 1⟩, k, mm, rfl, rfl, by first | rfl | go_num, by first | rfl | go_num, rfl, by first | omega | (dsimp only; omega), by first | omega | (dsimp only; omega), by first | omega | (dsimp only; omega), by first | omega | (dsimp only; omega), by omega, by rw [hr.out]; exact hseg, hbk⟩
          case measure => simp [RowKit.intOf]; omega
      · obtain ⟨hbl, hseg, hk, g1, g2⟩ := hst
        have hkl : k < a.length := hk
        obtain ⟨bV, oV, rfl, hbV, hcV⟩ := (hTa.out.over hbk) (by omega)
        obtain ⟨n0, n1, n2, n3, n4⟩ := hcV k hkl
        generalize a[k] = y at *
        obtain ⟨T, hT⟩ : ∃ T, tx y.t = T := ⟨_, rfl⟩
        rw [hT] at n1
        rw [g1] at n2
        have hkn : (k : Int) < (na : Int) := by have := hna.out; omega
        have hkn2 : k < na := by have := hna.out; omega
        obtain ⟨yl, hyl⟩ : ∃ yl, y.p.l = yl := ⟨_, rfl⟩
        obtain ⟨yc, hyc⟩ : ∃ yc, y.p.c = yc := ⟨_, rfl⟩
        rw [hyl] at n3 g2
        rw [hyc] at n4 g2
        clear hcV hT hk hkl g1 hyl hyc hst2
        rcases g2 with g2 | ⟨g3, g2⟩
        · have gl : (yl == pl) = false := by simpa using g2
          rcases blank_or hbl with hv | hv | hv | hv
          · rw [hx] at hv
            subst hv
            rcases ad1_plain (p := ⟨1, pl, pc⟩) (c := c) rfl (by show pl < _; omega) (by show pc < _; omega) (by show 1 ≤ pl; omega) (by show 1 ≤ pc; omega) with ⟨h10, _⟩ | ⟨_, had⟩
            · rw [hx] at h10; exact absurd h10 (by decide)
            · simp only at had
              rw [had] at hseg
              have hwc : IntKind.i64.wrap (pc + 1) = pc + 1 := IntWalk.i64_in _ (by omega)
              clear had
              go_wp2_with fail
              go_roundw
              case rel => exact ⟨i + 1, by omega, by go_num, ⟨1, pl, pc + 1⟩, k, 0, rfl, rfl, by first | rfl | go_num, by first | rfl | go_num, rfl, by first | omega | (dsimp only; omega), by first | omega | (dsimp only; omega), by first | omega | (dsimp only; omega), by first | omega | (dsimp only; omega), by omega, by rw [hr.out]; exact hseg, hbk⟩
              case measure => simp [RowKit.intOf]; omega
          · rw [hx] at hv
            subst hv
            rcases ad1_plain (p := ⟨1, pl, pc⟩) (c := c) rfl (by show pl < _; omega) (by show pc < _; omega) (by show 1 ≤ pl; omega) (by show 1 ≤ pc; omega) with ⟨h10, _⟩ | ⟨_, had⟩
            · rw [hx] at h10; exact absurd h10 (by decide)
            · simp only at had
              rw [had] at hseg
              have hwc : IntKind.i64.wrap (pc + 1) = pc + 1 := IntWalk.i64_in _ (by omega)
              clear had
              go_wp2_with fail
              go_roundw
              case rel => exact ⟨i + 1, by omega, by go_num, ⟨1, pl, pc + 1⟩, k, 0, rfl, rfl, by first | rfl | go_num, by first | rfl | go_num, rfl, by first | omega | (dsimp only; omega), by first | omega | (dsimp only; omega), by first | omega | (dsimp only; omega), by first | omega | (dsimp only; omega), by omega, by rw [hr.out]; exact hseg, hbk⟩
              case measure => simp [RowKit.intOf]; omega
          · rw [hx] at hv
            subst hv
            rcases ad1_plain (p := ⟨1, pl, pc⟩) (c := c) rfl (by show pl < _; omega) (by show pc < _; omega) (by show 1 ≤ pl; omega) (by show 1 ≤ pc; omega) with ⟨h10, _⟩ | ⟨_, had⟩
            · rw [hx] at h10; exact absurd h10 (by decide)
            · simp only at had
              rw [had] at hseg
              have hwc : IntKind.i64.wrap (pc + 1) = pc + 1 := IntWalk.i64_in _ (by omega)
              clear had
              go_wp2_with fail
              go_roundw
              case rel => exact ⟨i + 1, by omega, by go_num, ⟨1, pl, pc + 1⟩, k, 0, rfl, rfl, by first | rfl | go_num, by first | rfl | go_num, rfl, by first | omega | (dsimp only; omega), by first | omega | (dsimp only; omega), by first | omega | (dsimp only; omega), by first | omega | (dsimp only; omega), by omega, by rw [hr.out]; exact hseg, hbk⟩
              case measure => simp [RowKit.intOf]; omega
          · rw [hx] at hv
            subst hv
            rcases ad1_plain (p := ⟨1, pl, pc⟩) (c := c) rfl (by show pl < _; omega) (by show pc < _; omega) (by show 1 ≤ pl; omega) (by show 1 ≤ pc; omega) with ⟨_, had⟩ | ⟨h10, _⟩
            · simp only at had
              rw [had] at hseg
              have hwl : IntKind.i64.wrap (pl + 1) = pl + 1 := IntWalk.i64_in _ (by omega)
              have hwc : IntKind.i64.wrap (pc + 1) = pc + 1 := IntWalk.i64_in _ (by omega)
              clear had
              go_wp2_with fail
              go_roundw
              case rel => exact ⟨i + 1, by omega, by go_num, ⟨1, pl + 1, 1⟩, k, 0, rfl, rfl, by first | rfl | go_num, by first | rfl | go_num, rfl, by first | omega | (dsimp only; omega), by first | omega | (dsimp only; omega), by first | omega | (dsimp only; omega), by first | omega | (dsimp only; omega), by omega, by rw [hr.out]; exact hseg, hbk⟩
              case measure => simp [RowKit.intOf]; omega
            · exact absurd hx h10
        · have g4 := g3.symm
          subst g4
          clear g3
          have gc : (yc == pc) = false := by simpa using g2
          rcases blank_or hbl with hv | hv | hv | hv
          · rw [hx] at hv
            subst hv
            rcases ad1_plain (p := ⟨1, pl, pc⟩) (c := c) rfl (by show pl < _; omega) (by show pc < _; omega) (by show 1 ≤ pl; omega) (by show 1 ≤ pc; omega) with ⟨h10, _⟩ | ⟨_, had⟩
            · rw [hx] at h10; exact absurd h10 (by decide)
            · simp only at had
              rw [had] at hseg
              have hwc : IntKind.i64.wrap (pc + 1) = pc + 1 := IntWalk.i64_in _ (by omega)
              clear had
              go_wp2_with fail
              go_roundw
              case rel => exact ⟨i + 1, by omega, by go_num, ⟨1, pl, pc + 1⟩, k, 0, rfl, rfl, by first | rfl | go_num, by first | rfl | go_num, rfl, by first | omega | (dsimp only; omega), by first | omega | (dsimp only; omega), by first | omega | (dsimp only; omega), by first | omega | (dsimp only; omega), by omega, by rw [hr.out]; exact hseg, hbk⟩
              case measure => simp [RowKit.intOf]; omega
          · rw [hx] at hv
            subst hv
            rcases ad1_plain (p := ⟨1, pl, pc⟩) (c := c) rfl (by show pl < _; omega) (by show pc < _; omega) (by show 1 ≤ pl; omega) (by show 1 ≤ pc; omega) with ⟨h10, _⟩ | ⟨_, had⟩
            · rw [hx] at h10; exact absurd h10 (by decide)
            · simp only at had
              rw [had] at hseg
              have hwc : IntKind.i64.wrap (pc + 1) = pc + 1 := IntWalk.i64_in _ (by omega)
              clear had
              go_wp2_with fail
              go_roundw
              case rel => exact ⟨i + 1, by omega, by go_num, ⟨1, pl, pc + 1⟩, k, 0, rfl, rfl, by first | rfl | go_num, by first | rfl | go_num, rfl, by first | omega | (dsimp only; omega), by first | omega | (dsimp only; omega), by first | omega | (dsimp only; omega), by first | omega | (dsimp only; omega), by omega, by rw [hr.out]; exact hseg, hbk⟩
              case measure => simp [RowKit.intOf]; omega
          · rw [hx] at hv
            subst hv
            rcases ad1_plain (p := ⟨1, pl, pc⟩) (c := c) rfl (by show pl < _; omega) (by show pc < _; omega) (by show 1 ≤ pl; omega) (by show 1 ≤ pc; omega) with ⟨h10, _⟩ | ⟨_, had⟩
            · rw [hx] at h10; exact absurd h10 (by decide)
            · simp only at had
              rw [had] at hseg
              have hwc : IntKind.i64.wrap (pc + 1) = pc + 1 := IntWalk.i64_in _ (by omega)
              clear had
              go_wp2_with fail
              go_roundw
              case rel => exact ⟨i + 1, by omega, by go_num, ⟨1, pl, pc + 1⟩, k, 0, rfl, rfl, by first | rfl | go_num, by first | rfl | go_num, rfl, by first | omega | (dsimp only; omega), by first | omega | (dsimp only; omega), by first | omega | (dsimp only; omega), by first | omega | (dsimp only; omega), by omega, by rw [hr.out]; exact hseg, hbk⟩
              case measure => simp [RowKit.intOf]; omega
          · rw [hx] at hv
            subst hv
            rcases ad1_plain (p := ⟨1, pl, pc⟩) (c := c) rfl (by show pl < _; omega) (by show pc < _; omega) (by show 1 ≤ pl; omega) (by show 1 ≤ pc; omega) with ⟨_, had⟩ | ⟨h10, _⟩
            · simp only at had
              rw [had] at hseg
              have hwl : IntKind.i64.wrap (pl + 1) = pl + 1 := IntWalk.i64_in _ (by omega)
              have hwc : IntKind.i64.wrap (pc + 1) = pc + 1 := IntWalk.i64_in _ (by omega)
              clear had
              go_wp2_with fail
              go_roundw
              case rel => exact ⟨i + 1, by omega, by go_num, ⟨1, pl + 1, 1⟩, k, 0, rfl, rfl, by first | rfl | go_num, by first | rfl | go_num, rfl, by first | omega | (dsimp only; omega), by first | omega | (dsimp only; omega), by first | omega | (dsimp only; omega), by first | omega | (dsimp only; omega), by omega, by rw [hr.out]; exact hseg, hbk⟩
              case measure => simp [RowKit.intOf]; omega
            · exact absurd hx h10
      · obtain ⟨hk, hbl, hseg⟩ := hst
        have hkn : ¬ (k : Int) < (na : Int) := by have := hna.out; omega
        have hkn2 : ¬ k < na := by have := hna.out; omega
        clear hst2
        rcases blank_or hbl with hv | hv | hv | hv
        · rw [hx] at hv
          subst hv
          rcases ad1_plain (p := ⟨1, pl, pc⟩) (c := c) rfl (by show pl < _; omega) (by show pc < _; omega) (by show 1 ≤ pl; omega) (by show 1 ≤ pc; omega) with ⟨h10, _⟩ | ⟨_, had⟩
          · rw [hx] at h10; exact absurd h10 (by decide)
          · simp only at had
            rw [had] at hseg
            have hwc : IntKind.i64.wrap (pc + 1) = pc + 1 := IntWalk.i64_in _ (by omega)
            clear had
            go_wp2_with fail
            go_roundw
            case rel => exact ⟨i + 1, by omega, by go_num, ⟨1, pl, pc + 1⟩, k, 0, rfl, rfl, by first | rfl | go_num, by first | rfl | go_num, rfl, by first | omega | (dsimp only; omega), by first | omega | (dsimp only; omega), by first | omega | (dsimp only; omega), by first | omega | (dsimp only; omega), by omega, by rw [hr.out]; exact hseg, hbk⟩
            case measure => simp [RowKit.intOf]; omega
        · rw [hx] at hv
          subst hv
          rcases ad1_plain (p := ⟨1, pl, pc⟩) (c := c) rfl (by show pl < _; omega) (by show pc < _; omega) (by show 1 ≤ pl; omega) (by show 1 ≤ pc; omega) with ⟨h10, _⟩ | ⟨_, had⟩
          · rw [hx] at h10; exact absurd h10 (by decide)
          · simp only at had
            rw [had] at hseg
            have hwc : IntKind.i64.wrap (pc + 1) = pc + 1 := IntWalk.i64_in _ (by omega)
            clear had
            go_wp2_with fail
            go_roundw
            case rel => exact ⟨i + 1, by omega, by go_num, ⟨1, pl, pc + 1⟩, k, 0, rfl, rfl, by first | rfl | go_num, by first | rfl | go_num, rfl, by first | omega | (dsimp only; omega), by first | omega | (dsimp only; omega), by first | omega | (dsimp only; omega), by first | omega | (dsimp only; omega), by omega, by rw [hr.out]; exact hseg, hbk⟩
            case measure => simp [RowKit.intOf]; omega
        · rw [hx] at hv
          subst hv
          rcases ad1_plain (p := ⟨1, pl, pc⟩) (c := c) rfl (by show pl < _; omega) (by show pc < _; omega) (by show 1 ≤ pl; omega) (by show 1 ≤ pc; omega) with ⟨h10, _⟩ | ⟨_, had⟩
          · rw [hx] at h10; exact absurd h10 (by decide)
          · simp only at had
            rw [had] at hseg
            have hwc : IntKind.i64.wrap (pc + 1) = pc + 1 := IntWalk.i64_in _ (by omega)
            clear had
            go_wp2_with fail
            go_roundw
            case rel => exact ⟨i + 1, by omega, by go_num, ⟨1, pl, pc + 1⟩, k, 0, rfl, rfl, by first | rfl | go_num, by first | rfl | go_num, rfl, by first | omega | (dsimp only; omega), by first | omega | (dsimp only; omega), by first | omega | (dsimp only; omega), by first | omega | (dsimp only; omega), by omega, by rw [hr.out]; exact hseg, hbk⟩
            case measure => simp [RowKit.intOf]; omega
        · rw [hx] at hv
          subst hv
          rcases ad1_plain (p := ⟨1, pl, pc⟩) (c := c) rfl (by show pl < _; omega) (by show pc < _; omega) (by show 1 ≤ pl; omega) (by show 1 ≤ pc; omega) with ⟨_, had⟩ | ⟨h10, _⟩
          · simp only at had
            rw [had] at hseg
            have hwl : IntKind.i64.wrap (pl + 1) = pl + 1 := IntWalk.i64_in _ (by omega)
            have hwc : IntKind.i64.wrap (pc + 1) = pc + 1 := IntWalk.i64_in _ (by omega)
            clear had
            go_wp2_with fail
            go_roundw
            case rel => exact ⟨i + 1, by omega, by go_num, ⟨1, pl + 1, 1⟩, k, 0, rfl, rfl, by first | rfl | go_num, by first | rfl | go_num, rfl, by first | omega | (dsimp only; omega), by first | omega | (dsimp only; omega), by first | omega | (dsimp only; omega), by first | omega | (dsimp only; omega), by omega, by rw [hr.out]; exact hseg, hbk⟩
            case measure => simp [RowKit.intOf]; omega
          · exact absurd hx h10
    · obtain rfl : i = n := by omega
      rw [List.drop_eq_nil_of_le (by have := hn.out; omega)] at hsg
      obtain ⟨rfl, hke⟩ := segAt_end hsg (by have := hna.out; omega)
      obtain rfl : k = na := hke.trans hna.out
      have hbf := hbw3.out.trans (hbk.mono hbw3.out.size)
      replace hbf := Lib.hid hbf
      clear hsg hke
      go_wp2_with fail
      go_ret
      exact ⟨rfl, hbf.out⟩
set_option maxRecDepth 100000 in
set_option maxHeartbeats 12800000 in
theorem LexCovers_short_ok (l0 : List UInt8) (hlong : l0.length ≤ 400) (w : World) (hL : LS w) (a : List TK) (hR : lexL nbP [⟨l0, ⟨1, 1, 1⟩, false⟩] [] = .ok a) : Calls Tryd.prog 4 #[.string (tx l0)] w (RV w (.bool true)) := by
  obtain ⟨l, hl⟩ : ∃ l, l0 = l := ⟨_, rfl⟩
  rw [hl] at hlong hR ⊢
  have hn400 : l.length ≤ 400 := hlong
  have hlz : ¬ (400 : Int) < (l.length : Int) := by omega
  obtain ⟨S, hS⟩ : ∃ S, tx l = S := ⟨_, rfl⟩
  rw [hS]
  clear hl
  have hz : S.size = l.length := by rw [← hS]; rfl
  have hAw := awake_t w hL
  have hLx := fun W b (h : C5 W b 35 (.string S) (.int .i64 1) (.int .i64 1) (.int .i64 1) (.bool false)) (hL : LS W) =>
    (show Calls Tryd.prog 10 #[.slice (some ⟨b, 0, none⟩) 1 1] W (LR W (.ok a)) from hR ▸ Lex_t (some ⟨b, 0, none⟩) 1 [⟨l, ⟨1, 1, 1⟩, false⟩] W (C5.PL (q := ⟨l, ⟨1, 1, 1⟩, false⟩) (by rw [hS]; exact h)) (by show 1 ≤ 1000000000; omega) hL (fun q hq => by rw [List.mem_singleton.1 hq]; exact ⟨pos1_ok, by show l.length < _; omega⟩))
  unfold LR at hLx
  simp only at hLx
  replace hAw := Lib.hid hAw
  replace hLx := Lib.hid hLx
  replace hL := Lib.hid hL
  obtain ⟨n, hn⟩ : ∃ n, l.length = n := ⟨_, rfl⟩
  rw [hn] at hz hn400
  have hseg0 := seg_text nbP l ⟨1, 1, 1⟩ a hR
  have htl : tl a ≤ 400 := by
    have h1 := lexL_tl nbP _ [] a hR
    have e : tl [] + sumQ [(⟨l, ⟨1, 1, 1⟩, false⟩ : PC)] = l.length := by simp [tl, sumQ]
    omega
  replace hseg0 := Lib.hid hseg0
  replace hn := Lib.hid hn
  replace hS := Lib.hid hS
  replace hR := Lib.hid hR
  go_enter Tryd.func4, Tryd.ntmps4
  go_wp2_with fail
  (with_reducible refine hAw.out.mono ?_)
  rintro e w1 ⟨rfl, hb1⟩
  have hN1 := C5.new w1 35 (.string S) (.int .i64 1) (.int .i64 1) (.int .i64 1) (.bool false)
  have hL1 := (hL.out.over hb1).over ((Below.refl _ w1).alloc (Nat.le_refl _) (.cells #[.string S, .int .i64 1, .int .i64 1, .int .i64 1, .bool false] 35))
  have hb2 := hb1.alloc hb1.size (.cells #[.string S, .int .i64 1, .int .i64 1, .int .i64 1, .bool false] 35)
  have hC1 := hLx.out _ _ hN1 hL1
  replace hC1 := Lib.hid hC1
  replace hb2 := Lib.hid hb2
  clear hN1 hL1 hb1 hAw hLx hL
  go_wp2_with fail
  (with_reducible refine hC1.out.mono ?_)
  rintro e w4 ⟨hb4, v, rfl, ho4⟩
  obtain ⟨Av, cv, rfl⟩ := own_form ho4
  have hbw4 := below_call hb4 hb2.out
  have ho3 : (w4.alloc (.cells #[.int .i64 0, .int .i64 0, .int .i64 0] 29)).ownsRow _ 37 5 (.slice Av a.length cv) a.length (tcs a) := own_blk ho4 fun g hg => Go.Deep.blk_alloc_lt _ _ _ (own_lt ho4 g hg).2
  obtain ⟨hTa, _, _, _⟩ := own_TLr ho3
  have hbw3 := hbw4.alloc hbw4.size (.cells #[.int .i64 0, .int .i64 0, .int .i64 0] 29)
  have hal : a.length ≤ 400 := by
    have hwok := (lexL_ok nbP _ [] a hR.out (fun x hx => by simp at hx) (by simp)).1
    have := len_tl a fun x hx => (hwok x hx).1
    omega
  obtain ⟨na, hna⟩ : ∃ na, a.length = na := ⟨_, rfl⟩
  rw [hna] at hal ⊢
  replace hna := Lib.hid hna
  replace hTa := Lib.hid hTa
  replace hbw3 := Lib.hid hbw3
  clear hb4 hbw4 ho4 ho3 hb2 hC1
  generalize hw3 : w4.alloc (.cells #[.int .i64 0, .int .i64 0, .int .i64 0] 29) = w3 at *
  replace hw3 := Lib.hid hw3
  go_wp2_with fail
  rw [hw3.out]
  go_loopw [6, 7, 8, 9, 46] (fun ln cl kv mv iv wr => ∃ i : Nat, i ≤ n ∧ iv = .int .i64 (i : Int) ∧ ∃ (p : PS) (k m : Nat), ln = .int .i64 p.l ∧ cl = .int .i64 p.c ∧ kv = .int .i64 (k : Int) ∧ mv = .int .i64 (m : Int) ∧ p.f = 1 ∧ 1 ≤ p.l ∧ p.l ≤ 1 + (i : Int) ∧ 1 ≤ p.c ∧ p.c ≤ 1 + (i : Int) ∧ k ≤ na ∧ SegAt p (l.drop i) a k m ∧ Below w3.heap.size w3 wr) (fun _ _ _ _ iv _ => n - (RowKit.intOf iv).toNat)
  case atStart => exact ⟨0, Nat.zero_le _, rfl, ⟨1, 1, 1⟩, 0, 0, rfl, rfl, rfl, rfl, rfl, by decide, by decide, by decide, by decide, Nat.zero_le _, Or.inl ⟨rfl, hseg0.out⟩, Below.refl _ _⟩
  case round =>
    obtain ⟨i, hi, rfl, ⟨pf, pl, pc⟩, k, m, rfl, rfl, rfl, rfl, hpf, hpl, hpl2, hpc, hpc2, hk, hsg, hbk⟩ := hrel
    simp only at hpf hpl hpl2 hpc hpc2
    subst hpf
    clear hseg0
    by_cases hlt : i < n
    · have hil : i < l.length := by have := hn.out; omega
      rw [List.drop_eq_getElem_cons hil] at hsg
      have hrl : (l.drop (i + 1)).length ≤ 400 := by rw [List.length_drop]; have := hn.out; omega
      have hst := seg_step hsg rfl (by show 1 ≤ pl; omega) (by show 1 ≤ pc; omega) (by show pl + _ < _; omega) (by show pc + _ < _; omega)
      have hSi := fun h' => some_toNat (i := i) (c := l[i]) hS.out (List.getElem?_eq_getElem hil) h'
      have hSi2 := hSi (by omega)
      obtain ⟨c, hcc⟩ : ∃ c, l[i] = c := ⟨_, rfl⟩
      rw [hcc] at hst hSi2
      obtain ⟨x, hx⟩ : ∃ x, c.toNat = x := ⟨_, rfl⟩
      rw [hx] at hSi2
      have hx256 : x < 256 := by rw [← hx]; exact UInt8.toNat_lt _
      obtain ⟨r, hr⟩ : ∃ r, l.drop (i + 1) = r := ⟨_, rfl⟩
      rw [hr] at hst hrl
      replace hr := Lib.hid hr
      clear hsg hSi hcc hil hrl
      have hst2 : True := trivial
      rcases hst with ⟨rfl, hst⟩ | hst | ⟨rfl, hst⟩ | ⟨rfl, hst⟩
      · obtain ⟨hk, hp, hpos, h0c, hnb, hseg⟩ := hst
        have hkl : k < a.length := hk
        obtain ⟨bV, oV, rfl, hbV, hcV⟩ := (hTa.out.over hbk) (by omega)
        obtain ⟨n0, n1, n2, n3, n4⟩ := hcV k hkl
        rw [hp] at n2 n3 n4
        have htk := tl_ge a k hkl
        generalize a[k] = y at *
        obtain ⟨T, hT⟩ : ∃ T, tx y.t = T := ⟨_, rfl⟩
        have hTz : T.size = y.t.length := by rw [← hT]; rfl
        have hq0 : 0 < T.size := by omega
        have hTx := some_toNat hT h0c hq0
        rw [hT] at n1
        rw [hx] at hTx
        have hkn : (k : Int) < (na : Int) := by have := hna.out; omega
        have hkn2 : k < na := by have := hna.out; omega
        obtain ⟨m, hm⟩ : ∃ m, y.t.length = m := ⟨_, rfl⟩
        rw [hm] at hTz hseg hpos htk
        have hqq : IntKind.i64.wrap ((m : Int) - (m : Int)) = 0 := by rw [show (m : Int) - (m : Int) = 0 by omega]; rfl
        have hsub : (m : Int) - (m : Int) = 0 := by omega
        have hm0 : (0 : Int) < (m : Int) := by omega
        clear hp h0c hcV hT hm hk hkl hst2
        obtain ⟨v1, v2, v3, v4⟩ := noblank hnb
        rcases ad1_plain (p := ⟨1, pl, pc⟩) (c := c) rfl (by show pl < _; omega) (by show pc < _; omega) (by show 1 ≤ pl; omega) (by show 1 ≤ pc; omega) with ⟨h10, _⟩ | ⟨_, had⟩
        · exact absurd h10 v4
        simp only at had
        rw [had] at hseg
        have y1 : ((x : Int) == 10) = false := by simp; omega
        have y2 : (x == 10) = false := by simp; omega
        have hwc : IntKind.i64.wrap (pc + 1) = pc + 1 := IntWalk.i64_in _ (by omega)
        have hwk : IntKind.i64.wrap ((k : Int) + 1) = (k : Int) + 1 := IntWalk.i64_in _ (by omega)
        clear v1 v2 v3 had
        by_cases hm9 : m = 1
        · subst hm9
          rw [if_pos rfl] at hseg
          go_wp2_with fail
          go_roundw
          case rel => exact ⟨i + 1, by omega, by go_num, ⟨1, pl, pc + 1⟩, k + 1, 0, rfl, rfl, by first | rfl | go_num, by first | rfl | go_num, rfl, by first | omega | (dsimp only; omega), by first | omega | (dsimp only; omega), by first | omega | (dsimp only; omega), by first | omega | (dsimp only; omega), by omega, by rw [hr.out]; exact hseg, hbk⟩
          case measure => simp [RowKit.intOf]; omega
        · rw [if_neg hm9] at hseg
          have hwm : IntKind.i64.wrap ((m : Int) - 1) = ((m - 1 : Nat) : Int) := by rw [IntWalk.i64_in _ (by omega)]; omega
          have hwz : (((m - 1 : Nat) : Int) == 0) = false := by simp; omega
          obtain ⟨mm, hmm⟩ : ∃ mm, m - 1 = mm := ⟨_, rfl⟩
          rw [hmm] at hwm hwz hseg
          have hmm1 : ¬ (mm : Int) = 0 := by omega
          have hmm2 : ¬ mm = 0 := by omega
          have hmm3 : mm ≤ 400 := by omega
          clear hmm
          replace hm9 := Lib.hid hm9
          go_wp2_with fail
          go_roundw
          case rel => exact ⟨i + 1, by omega, by go_num, ⟨1, pl, pc + 1⟩, k, mm, rfl, rfl, by first | rfl | go_num, by first | rfl | go_num, rfl, by first | omega | (dsimp only; omega), by first | omega | (dsimp only; omega), by first | omega | (dsimp only; omega), by first | omega | (dsimp only; omega), by omega, by rw [hr.out]; exact hseg, hbk⟩
          case measure => simp [RowKit.intOf]; omega
      · obtain ⟨hm1, hk, hle, h0c, hnb, hseg⟩ := hst
        have hkl : k < a.length := hk
        obtain ⟨bV, oV, rfl, hbV, hcV⟩ := (hTa.out.over hbk) (by omega)
        obtain ⟨n0, n1, n2, n3, n4⟩ := hcV k hkl
        have htk := tl_ge a k hkl
        generalize a[k] = y at *
        obtain ⟨T, hT⟩ : ∃ T, tx y.t = T := ⟨_, rfl⟩
        have hTz : T.size = y.t.length := by rw [← hT]; rfl
        obtain ⟨q, hq⟩ : ∃ q, y.t.length - m = q := ⟨_, rfl⟩
        rw [hq] at h0c
        have hq0 : q < T.size := by omega
        have hTx := some_toNat hT h0c hq0
        rw [hT] at n1
        rw [hx] at hTx
        have hkn : (k : Int) < (na : Int) := by have := hna.out; omega
        have hkn2 : k < na := by have := hna.out; omega
        obtain ⟨tn, htn⟩ : ∃ tn, y.t.length = tn := ⟨_, rfl⟩
        rw [htn] at hTz htk hle hq
        have hqq : IntKind.i64.wrap ((tn : Int) - (m : Int)) = (q : Int) := by rw [IntWalk.i64_in _ (by omega)]; omega
        have hsub : (tn : Int) - (m : Int) = (q : Int) := by omega
        have hm0 : (0 : Int) < (m : Int) := by omega
        have hmz : ((m : Int) == 0) = false := by simp; omega
        have hmz2 : ¬ m = 0 := by omega
        replace hmz2 := Lib.hid hmz2
        have hpos : 0 < m := hm1
        clear h0c hcV hT hk hkl hst2 htn hq n2 n3 n4
        obtain ⟨v1, v2, v3, v4⟩ := noblank hnb
        rcases ad1_plain (p := ⟨1, pl, pc⟩) (c := c) rfl (by show pl < _; omega) (by show pc < _; omega) (by show 1 ≤ pl; omega) (by show 1 ≤ pc; omega) with ⟨h10, _⟩ | ⟨_, had⟩
        · exact absurd h10 v4
        simp only at had
        rw [had] at hseg
        have y1 : ((x : Int) == 10) = false := by simp; omega
        have y2 : (x == 10) = false := by simp; omega
        have hwc : IntKind.i64.wrap (pc + 1) = pc + 1 := IntWalk.i64_in _ (by omega)
        have hwk : IntKind.i64.wrap ((k : Int) + 1) = (k : Int) + 1 := IntWalk.i64_in _ (by omega)
        clear v1 v2 v3 had
        by_cases hm9 : m = 1
        · subst hm9
          rw [if_pos rfl] at hseg
          have hqq1 : IntKind.i64.wrap ((tn : Int) - 1) = (q : Int) := hqq
          have hsub1 : (tn : Int) - 1 = (q : Int) := hsub
          clear hqq hsub hmz hm0 hpos
          go_wp2_with fail
          go_roundw
          case rel => exact ⟨i + 1, by omega, by go_num, ⟨1, pl, pc + 1⟩, k + 1, 0, rfl, rfl, by first | rfl | go_num, by first | rfl | go_num, rfl, by first | omega | (dsimp only; omega), by first | omega | (dsimp only; omega), by first | omega | (dsimp only; omega), by first | omega | (dsimp only; omega), by omega, by rw [hr.out]; exact hseg, hbk⟩
          case measure => simp [RowKit.intOf]; omega
        · rw [if_neg hm9] at hseg
          have hwm : IntKind.i64.wrap ((m : Int) - 1) = ((m - 1 : Nat) : Int) := by rw [IntWalk.i64_in _ (by omega)]; omega
          have hwz : (((m - 1 : Nat) : Int) == 0) = false := by simp; omega
          obtain ⟨mm, hmm⟩ : ∃ mm, m - 1 = mm := ⟨_, rfl⟩
          rw [hmm] at hwm hwz hseg
          have hmm1 : ¬ (mm : Int) = 0 := by omega
          have hmm2 : ¬ mm = 0 := by omega
          have hmm3 : mm ≤ 400 := by omega
          clear hmm
          replace hm9 := Lib.hid hm9
          go_wp2_with fail
          go_roundw
          case rel => exact ⟨i + 1, by omega, by go_num, ⟨1, pl, pc + 1⟩, k, mm, rfl, rfl, by first | rfl | go_num, by first | rfl | go_num, rfl, by first | omega | (dsimp only; omega), by first | omega | (dsimp only; omega), by first | omega | (dsimp only; omega), by first | omega | (dsimp only; omega), by omega, by rw [hr.out]; exact hseg, hbk⟩
          case measure => simp [RowKit.intOf]; omega
      · obtain ⟨hbl, hseg, hk, g1, g2⟩ := hst
        have hkl : k < a.length := hk
        obtain ⟨bV, oV, rfl, hbV, hcV⟩ := (hTa.out.over hbk) (by omega)
        obtain ⟨n0, n1, n2, n3, n4⟩ := hcV k hkl
        generalize a[k] = y at *
        obtain ⟨T, hT⟩ : ∃ T, tx y.t = T := ⟨_, rfl⟩
        rw [hT] at n1
        rw [g1] at n2
        have hkn : (k : Int) < (na : Int) := by have := hna.out; omega
        have hkn2 : k < na := by have := hna.out; omega
        obtain ⟨yl, hyl⟩ : ∃ yl, y.p.l = yl := ⟨_, rfl⟩
        obtain ⟨yc, hyc⟩ : ∃ yc, y.p.c = yc := ⟨_, rfl⟩
        rw [hyl] at n3 g2
        rw [hyc] at n4 g2
        clear hcV hT hk hkl g1 hyl hyc hst2
        rcases g2 with g2 | ⟨g3, g2⟩
        · have gl : (yl == pl) = false := by simpa using g2
          rcases blank_or hbl with hv | hv | hv | hv
          · rw [hx] at hv
            subst hv
            rcases ad1_plain (p := ⟨1, pl, pc⟩) (c := c) rfl (by show pl < _; omega) (by show pc < _; omega) (by show 1 ≤ pl; omega) (by show 1 ≤ pc; omega) with ⟨h10, _⟩ | ⟨_, had⟩
            · rw [hx] at h10; exact absurd h10 (by decide)
            · simp only at had
              rw [had] at hseg
              have hwc : IntKind.i64.wrap (pc + 1) = pc + 1 := IntWalk.i64_in _ (by omega)
              clear had
              go_wp2_with fail
              go_roundw
              case rel => exact ⟨i + 1, by omega, by go_num, ⟨1, pl, pc + 1⟩, k, 0, rfl, rfl, by first | rfl | go_num, by first | rfl | go_num, rfl, by first | omega | (dsimp only; omega), by first | omega | (dsimp only; omega), by first | omega | (dsimp only; omega), by first | omega | (dsimp only; omega), by omega, by rw [hr.out]; exact hseg, hbk⟩
              case measure => simp [RowKit.intOf]; omega
          · rw [hx] at hv
            subst hv
            rcases ad1_plain (p := ⟨1, pl, pc⟩) (c := c) rfl (by show pl < _; omega) (by show pc < _; omega) (by show 1 ≤ pl; omega) (by show 1 ≤ pc; omega) with ⟨h10, _⟩ | ⟨_, had⟩
            · rw [hx] at h10; exact absurd h10 (by decide)
            · simp only at had
              rw [had] at hseg
              have hwc : IntKind.i64.wrap (pc + 1) = pc + 1 := IntWalk.i64_in _ (by omega)
              clear had
              go_wp2_with fail
              go_roundw
              case rel => exact ⟨i + 1, by omega, by go_num, ⟨1, pl, pc + 1⟩, k, 0, rfl, rfl, by first | rfl | go_num, by first | rfl | go_num, rfl, by first | omega | (dsimp only; omega), by first | omega | (dsimp only; omega), by first | omega | (dsimp only; omega), by first | omega | (dsimp only; omega), by omega, by rw [hr.out]; exact hseg, hbk⟩
              case measure => simp [RowKit.intOf]; omega
          · rw [hx] at hv
            subst hv
            rcases ad1_plain (p := ⟨1, pl, pc⟩) (c := c) rfl (by show pl < _; omega) (by show pc < _; omega) (by show 1 ≤ pl; omega) (by show 1 ≤ pc; omega) with ⟨h10, _⟩ | ⟨_, had⟩
            · rw [hx] at h10; exact absurd h10 (by decide)
            · simp only at had
              rw [had] at hseg
              have hwc : IntKind.i64.wrap (pc + 1) = pc + 1 := IntWalk.i64_in _ (by omega)
              clear had
              go_wp2_with fail
              go_roundw
              case rel => exact ⟨i + 1, by omega, by go_num, ⟨1, pl, pc + 1⟩, k, 0, rfl, rfl, by first | rfl | go_num, by first | rfl | go_num, rfl, by first | omega | (dsimp only; omega), by first | omega | (dsimp only; omega), by first | omega | (dsimp only; omega), by first | omega | (dsimp only; omega), by omega, by rw [hr.out]; exact hseg, hbk⟩
              case measure => simp [RowKit.intOf]; omega
          · rw [hx] at hv
            subst hv
            rcases ad1_plain (p := ⟨1, pl, pc⟩) (c := c) rfl (by show pl < _; omega) (by show pc < _; omega) (by show 1 ≤ pl; omega) (by show 1 ≤ pc; omega) with ⟨_, had⟩ | ⟨h10, _⟩
            · simp only at had
              rw [had] at hseg
              have hwl : IntKind.i64.wrap (pl + 1) = pl + 1 := IntWalk.i64_in _ (by omega)
              have hwc : IntKind.i64.wrap (pc + 1) = pc + 1 := IntWalk.i64_in _ (by omega)
              clear had
              go_wp2_with fail
              go_roundw
              case rel => exact ⟨i + 1, by omega, by go_num, ⟨1, pl + 1, 1⟩, k, 0, rfl, rfl, by first | rfl | go_num, by first | rfl | go_num, rfl, by first | omega | (dsimp only; omega), by first | omega | (dsimp only; omega), by first | omega | (dsimp only; omega), by first | omega | (dsimp only; omega), by omega, by rw [hr.out]; exact hseg, hbk⟩
              case measure => simp [RowKit.intOf]; omega
            · exact absurd hx h10
        · have g4 := g3.symm
          subst g4
          clear g3
          have gc : (yc == pc) = false := by simpa using g2
          rcases blank_or hbl with hv | hv | hv | hv
          · rw [hx] at hv
            subst hv
            rcases ad1_plain (p := ⟨1, pl, pc⟩) (c := c) rfl (by show pl < _; omega) (by show pc < _; omega) (by show 1 ≤ pl; omega) (by show 1 ≤ pc; omega) with ⟨h10, _⟩ | ⟨_, had⟩
            · rw [hx] at h10; exact absurd h10 (by decide)
            · simp only at had
              rw [had] at hseg
              have hwc : IntKind.i64.wrap (pc + 1) = pc + 1 := IntWalk.i64_in _ (by omega)
              clear had
              go_wp2_with fail
              go_roundw
              case rel => exact ⟨i + 1, by omega, by go_num, ⟨1, pl, pc + 1⟩, k, 0, rfl, rfl, by first | rfl | go_num, by first | rfl | go_num, rfl, by first | omega | (dsimp only; omega), by first | omega | (dsimp only; omega), by first | omega | (dsimp only; omega), by first | omega | (dsimp only; omega), by omega, by rw [hr.out]; exact hseg, hbk⟩
              case measure => simp [RowKit.intOf]; omega
          · rw [hx] at hv
            subst hv
            rcases ad1_plain (p := ⟨1, pl, pc⟩) (c := c) rfl (by show pl < _; omega) (by show pc < _; omega) (by show 1 ≤ pl; omega) (by show 1 ≤ pc; omega) with ⟨h10, _⟩ | ⟨_, had⟩
            · rw [hx] at h10; exact absurd h10 (by decide)
            · simp only at had
              rw [had] at hseg
              have hwc : IntKind.i64.wrap (pc + 1) = pc + 1 := IntWalk.i64_in _ (by omega)
              clear had
              go_wp2_with fail
              go_roundw
              case rel => exact ⟨i + 1, by omega, by go_num, ⟨1, pl, pc + 1⟩, k, 0, rfl, rfl, by first | rfl | go_num, by first | rfl | go_num, rfl, by first | omega | (dsimp only; omega), by first | omega | (dsimp only; omega), by first | omega | (dsimp only; omega), by first | omega | (dsimp only; omega), by omega, by rw [hr.out]; exact hseg, hbk⟩
              case measure => simp [RowKit.intOf]; omega
          · rw [hx] at hv
            subst hv
            rcases ad1_plain (p := ⟨1, pl, pc⟩) (c := c) rfl (by show pl < _; omega) (by show pc < _; omega) (by show 1 ≤ pl; omega) (by show 1 ≤ pc; omega) with ⟨h10, _⟩ | ⟨_, had⟩
            · rw [hx] at h10; exact absurd h10 (by decide)
            · simp only at had
              rw [had] at hseg
              have hwc : IntKind.i64.wrap (pc + 1) = pc + 1 := IntWalk.i64_in _ (by omega)
              clear had
              go_wp2_with fail
              go_roundw
              case rel => exact ⟨i + 1, by omega, by go_num, ⟨1, pl, pc + 1⟩, k, 0, rfl, rfl, by first | rfl | go_num, by first | rfl | go_num, rfl, by first | omega | (dsimp only; omega), by first | omega | (dsimp only; omega), by first | omega | (dsimp only; omega), by first | omega | (dsimp only; omega), by omega, by rw [hr.out]; exact hseg, hbk⟩
              case measure => simp [RowKit.intOf]; omega
          · rw [hx] at hv
            subst hv
            rcases ad1_plain (p := ⟨1, pl, pc⟩) (c := c) rfl (by show pl < _; omega) (by show pc < _; omega) (by show 1 ≤ pl; omega) (by show 1 ≤ pc; omega) with ⟨_, had⟩ | ⟨h10, _⟩
            · simp only at had
              rw [had] at hseg
              have hwl : IntKind.i64.wrap (pl + 1) = pl + 1 := IntWalk.i64_in _ (by omega)
              have hwc : IntKind.i64.wrap (pc + 1) = pc + 1 := IntWalk.i64_in _ (by omega)
              clear had
              go_wp2_with fail
              go_roundw
              case rel => exact ⟨i + 1, by omega, by go_num, ⟨1, pl + 1, 1⟩, k, 0, rfl, rfl, by first | rfl | go_num, by first | rfl | go_num, rfl, by first | omega | (dsimp only; omega), by first | omega | (dsimp only; omega), by first | omega | (dsimp only; omega), by first | omega | (dsimp only; omega), by omega, by rw [hr.out]; exact hseg, hbk⟩
              case measure => simp [RowKit.intOf]; omega
            · exact absurd hx h10
      · obtain ⟨hk, hbl, hseg⟩ := hst
        have hkn : ¬ (k : Int) < (na : Int) := by have := hna.out; omega
        have hkn2 : ¬ k < na := by have := hna.out; omega
        clear hst2
        rcases blank_or hbl with hv | hv | hv | hv
        · rw [hx] at hv
          subst hv
          rcases ad1_plain (p := ⟨1, pl, pc⟩) (c := c) rfl (by show pl < _; omega) (by show pc < _; omega) (by show 1 ≤ pl; omega) (by show 1 ≤ pc; omega) with ⟨h10, _⟩ | ⟨_, had⟩
          · rw [hx] at h10; exact absurd h10 (by decide)
          · simp only at had
            rw [had] at hseg
            have hwc : IntKind.i64.wrap (pc + 1) = pc + 1 := IntWalk.i64_in _ (by omega)
            clear had
            go_wp2_with fail
            go_roundw
            case rel => exact ⟨i + 1, by omega, by go_num, ⟨1, pl, pc + 1⟩, k, 0, rfl, rfl, by first | rfl | go_num, by first | rfl | go_num, rfl, by first | omega | (dsimp only; omega), by first | omega | (dsimp only; omega), by first | omega | (dsimp only; omega), by first | omega | (dsimp only; omega), by omega, by rw [hr.out]; exact hseg, hbk⟩
            case measure => simp [RowKit.intOf]; omega
        · rw [hx] at hv
          subst hv
          rcases ad1_plain (p := ⟨1, pl, pc⟩) (c := c) rfl (by show pl < _; omega) (by show pc < _; omega) (by show 1 ≤ pl; omega) (by show 1 ≤ pc; omega) with ⟨h10, _⟩ | ⟨_, had⟩
          · rw [hx] at h10; exact absurd h10 (by decide)
          · simp only at had
            rw [had] at hseg
            have hwc : IntKind.i64.wrap (pc + 1) = pc + 1 := IntWalk.i64_in _ (by omega)
            clear had
            go_wp2_with fail
            go_roundw
            case rel => exact ⟨i + 1, by omega, by go_num, ⟨1, pl, pc + 1⟩, k, 0, rfl, rfl, by first | rfl | go_num, by first | rfl | go_num, rfl, by first | omega | (dsimp only; omega), by first | omega | (dsimp only; omega), by first | omega | (dsimp only; omega), by first | omega | (dsimp only; omega), by omega, by rw [hr.out]; exact hseg, hbk⟩
            case measure => simp [RowKit.intOf]; omega
        · rw [hx] at hv
          subst hv
          rcases ad1_plain (p := ⟨1, pl, pc⟩) (c := c) rfl (by show pl < _; omega) (by show pc < _; omega) (by show 1 ≤ pl; omega) (by show 1 ≤ pc; omega) with ⟨h10, _⟩ | ⟨_, had⟩
          · rw [hx] at h10; exact absurd h10 (by decide)
          · simp only at had
            rw [had] at hseg
            have hwc : IntKind.i64.wrap (pc + 1) = pc + 1 := IntWalk.i64_in _ (by omega)
            clear had
            go_wp2_with fail
            go_roundw
            case rel => exact ⟨i + 1, by omega, by go_num, ⟨1, pl, pc + 1⟩, k, 0, rfl, rfl, by first | rfl | go_num, by first | rfl | go_num, rfl, by first | omega | (dsimp only; omega), by first | omega | (dsimp only; omega), by first | omega | (dsimp only; omega), by first | omega | (dsimp only; omega), by omega, by rw [hr.out]; exact hseg, hbk⟩
            case measure => simp [RowKit.intOf]; omega
        · rw [hx] at hv
          subst hv
          rcases ad1_plain (p := ⟨1, pl, pc⟩) (c := c) rfl (by show pl < _; omega) (by show pc < _; omega) (by show 1 ≤ pl; omega) (by show 1 ≤ pc; omega) with ⟨_, had⟩ | ⟨h10, _⟩
          · simp only at had
            rw [had] at hseg
            have hwl : IntKind.i64.wrap (pl + 1) = pl + 1 := IntWalk.i64_in _ (by omega)
            have hwc : IntKind.i64.wrap (pc + 1) = pc + 1 := IntWalk.i64_in _ (by omega)
            clear had
            go_wp2_with fail
            go_roundw
            case rel => exact ⟨i + 1, by omega, by go_num, ⟨1, pl + 1, 1⟩, k, 0, rfl, rfl, by first | rfl | go_num, by first | rfl | go_num, rfl, by first | omega | (dsimp only; omega), by first | omega | (dsimp only; omega), by first | omega | (dsimp only; omega), by first | omega | (dsimp only; omega), by omega, by rw [hr.out]; exact hseg, hbk⟩
            case measure => simp [RowKit.intOf]; omega
          · exact absurd hx h10
    · obtain rfl : i = n := by omega
      rw [List.drop_eq_nil_of_le (by have := hn.out; omega)] at hsg
      obtain ⟨rfl, hke⟩ := segAt_end hsg (by have := hna.out; omega)
      obtain rfl : k = na := hke.trans hna.out
      have hbf := hbw3.out.trans (hbk.mono hbw3.out.size)
      replace hbf := Lib.hid hbf
      clear hsg hke
      go_wp2_with fail
      go_ret
      exact ⟨rfl, hbf.out⟩
theorem LexCovers_t (l0 : List UInt8) (hmax : l0.length ≤ 9223372036854775807) (w : World) (hL : LS w) : Calls Tryd.prog 4 #[.string (tx l0)] w (RV w (.bool true)) := by
  by_cases h : 400 < l0.length
  · cases hR : lexL nbP [⟨l0.take 400, ⟨1, 1, 1⟩, false⟩] [] with
    | error x => exact LexCovers_long_err l0 h hmax w hL x hR
    | ok a => exact LexCovers_long_ok l0 h hmax w hL a hR
  · cases hR : lexL nbP [⟨l0, ⟨1, 1, 1⟩, false⟩] [] with
    | error x => exact LexCovers_short_err l0 (by omega) w hL x hR
    | ok a => exact LexCovers_short_ok l0 (by omega) w hL a hR
end Go.Proofs.YtomjokpgcijccaaDoor
