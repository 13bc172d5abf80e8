/-
  CnfOrder walked.
-/
import Derived.Test.YtgnmehkklmklnaaDoorKx
namespace Go.Proofs.YtgnmehkklmklnaaDoor
open Go.RowKit Go.Lib
set_option maxRecDepth 100000 in
set_option maxHeartbeats 4000000 in
theorem order_short (A : Option Addr) (l0 : List Int) (c : Nat) (x turn : Int) (w : World) (hT : LT w) (hnil : A = none → c = 0) (hc : l0.length ≤ c) (hR0 : RL w A l0) (hlen : l0.length ≤ 30) : Calls Tryd.prog 5 #[.int .i64 x, .slice A l0.length c, .int .i64 turn] w (RV w (.bool true)) := by
  obtain ⟨i0, hi, hz0, hz1, hz2⟩ := info_parts info_int
  have hAw := Lib.hid (awake_t w hT)
  obtain ⟨V, hV⟩ : ∃ V : Nat, max 0 (min x 60) = (V : Int) := ⟨(max 0 (min x 60)).toNat, by omega⟩
  have hV60 : V ≤ 60 := by omega
  have hN := Lib.hid (fun w => New_t (V : Int) V (by omega) w)
  obtain ⟨l, hl⟩ : ∃ l, l0 = l := ⟨_, rfl⟩
  rw [hl] at hlen hc hR0 ⊢
  have hR := hR0
  obtain ⟨m, hlm⟩ : ∃ m : Nat, l.length = m := ⟨_, rfl⟩
  rw [hlm] at hlen hc ⊢
  have d1 : decide ((30 : Int) < (m : Int)) = false := by rw [decide_eq_false_iff_not]; omega
  have hm30 : m ≤ 30 := hlen
  have hmem := othT_mem l turn
  have holen := othT_len l turn
  have hsucc := othT_succ l turn
  rw [hlm] at hmem hsucc
  replace hmem := Lib.hid hmem
  replace holen := Lib.hid holen
  replace hsucc := Lib.hid hsucc
  replace hR0 := Lib.hid hR0
  replace hR := Lib.hid hR
  replace hlm := Lib.hid hlm
  replace hV60 := Lib.hid hV60
  replace hlen := Lib.hid hlen
  replace hnil := Lib.hid hnil
  replace hc := Lib.hid hc
  go_enter Tryd.func5, Tryd.ntmps5
  go_wp2_with fail
  (with_reducible refine hAw.out.mono ?_)
  rintro e w1 ⟨rfl, hb1⟩
  have hR1 := hR.out.over hb1
  replace hR1 := Lib.hid hR1
  clear hAw
  go_wp2_with fail
  go_loopw [8, 28] (fun o i wr => ∃ (k : Nat) (v : Value), k ≤ m ∧ i = .int .i64 (k : Int) ∧ o = v ∧ wr.ownsRow w.heap.size 3 1 v (k + k) (iv (othT l turn k)) ∧ Below w.heap.size w wr) (fun _ i _ => m - (intOf i).toNat)
  case atStart => exact ⟨0, _, Nat.zero_le _, rfl, rfl, World.ownsRow_nil _ _ _ _, hb1⟩
  case round =>
    obtain ⟨k, v, hk, rfl, rfl, hown, hbw⟩ := hrel
    clear hR1
    by_cases hlt : k < m
    · obtain ⟨b, off, rfl, hb, hcell⟩ := hR.out.over hbw (by have := hlm.out; omega)
      have hbs := hbw.size
      have hm0 : ((m : Int) == 0) = false := by simp; omega
      have hix := ixT_eq m turn k (by omega)
      have hixl := ixT_lt m turn k (by omega)
      have hsk := hsucc.out k
      have b1 := tmod_bounds turn m (by omega)
      have b2 := tmod_bounds ((k : Int) + turn.tmod m) m (by omega)
      obtain ⟨t, ht⟩ : ∃ t, turn.tmod (m : Int) = t := ⟨_, rfl⟩
      rw [ht] at b1 b2 hix
      obtain ⟨s, hs⟩ : ∃ s, ((k : Int) + t).tmod (m : Int) = s := ⟨_, rfl⟩
      rw [hs] at b2 hix
      obtain ⟨ix, hixe⟩ : ∃ ix, ixT m turn k = ix := ⟨_, rfl⟩
      rw [hixe] at hix hixl hsk
      have c0 := hcell ix (by have := hlm.out; omega)
      obtain ⟨y, hy⟩ : ∃ y, l.getD ix 0 = y := ⟨_, rfl⟩
      rw [hy] at c0 hsk
      have hko := othT_len l turn k
      obtain ⟨xs, hxs⟩ : ∃ xs, iv (othT l turn k) = xs := ⟨_, rfl⟩
      have hxs2 : xs ++ [.int .i64 y, .int .i64 y] = iv (othT l turn (k + 1)) := by rw [hsk, ← hxs]; simp [iv]
      rw [hxs] at hown
      replace hown := Lib.hid hown
      replace hxs2 := Lib.hid hxs2
      replace hsk := Lib.hid hsk
      clear hcell hy hxs hko hixe hsk
      have hmx : max (m : Int) 1 = (m : Int) := by omega
      go_wp2_with (at_builtin; refine wpList_append_lies _ rfl _ _ 39 rfl w.heap.size 3 i0 (.int .i64 0) 1 8 Tryd.underlying39 hi hz0 hz1 hz2 rfl (by decide) _ (k + k) xs rfl (hown.out.alloc _) ⟨wr.heap.size, 0, none⟩ 2 2 [.int .i64 y, .int .i64 y] rfl rfl ?c1 ?c2 (by decide) ?c3 ?c4 ?c5 (wr.heap.size + 1) (by simp) ?c6)
      case c1 => exact World.news_of_block (heap_alloc_new _ _)
      case c2 => intro u hu; simp only [List.mem_cons, List.not_mem_nil, or_false] at hu; rcases hu with rfl | rfl <;> rfl
      case c3 => unfold maxLen; omega
      case c4 => omega
      case c5 => simp; omega
      intro g' cap' w3 hown3 hgrow hat hlt3
      have hbw3 : Below w.heap.size w w3 := (hbw.alloc hbs _).grown hgrow (by simp; omega) (fun j e => (hown.out.lt j e).1)
      rw [hxs2.out, show k + k + 2 = (k + 1) + (k + 1) by omega] at hown3
      replace hown3 := Lib.hid hown3
      clear hgrow hat hlt3 hown
      go_wp2_with fail
      go_roundw
      case rel => exact ⟨k + 1, _, by omega, by go_num, rfl, (by rw [show k + k + 2 = (k + 1) + (k + 1) by omega]; exact hown3.out), hbw3⟩
      case measure => simp [intOf]; omega
    · obtain rfl : k = m := by omega
      have hN1 := hN.out wr
      obtain ⟨Ao, co, hvo, hRo⟩ := own_RL (l := othT l turn k) (by rw [holen.out]; exact hown)
      rw [holen.out] at hvo
      subst hvo
      have hRob : ∀ a, Ao = some a → a.block < wr.heap.size := fun a ha => by
        subst ha
        exact (hown.lt a.block rfl).2
      have hRw := hR.out.over hbw
      replace hN1 := Lib.hid hN1
      replace hRo := Lib.hid hRo
      replace hRob := Lib.hid hRob
      have hzw := hbw.size
      clear hsucc hR hR0 hown
      go_wp2_with fail
      (with_reducible refine hN1.out.mono ?_)
      rintro e w4 ⟨rfl, h1, hb4⟩
      have hbw4 : Below w.heap.size w w4 := below_call hb4 hbw hzw
      have hRw4 := hRw.over hb4
      have hRo4 := hRo.out.over hb4
      have hz4 := hb4.size
      have hp1 := h1.lt
      have hN2 := Lib.hid (hN.out w4)
      replace h1 := Lib.hid h1
      clear hN1 hN hRw hbw
      go_wp2_with fail
      (with_reducible refine hN2.out.mono ?_)
      rintro e w5 ⟨rfl, h2, hb5⟩
      have h15 := h1.out.over hb5
      have hbw5 : Below w.heap.size w w5 := below_call hb5 hbw4 hbw4.size
      have hRw5 := hRw4.over hb5
      have hRo5 := hRo4.over hb5
      have hz5 := hbw5.size
      have hz54 := hb5.size
      have hp2 := h2.lt
      replace h15 := Lib.hid h15
      replace h2 := Lib.hid h2
      replace hRo5 := Lib.hid hRo5
      clear hN2 h1 hRw4 hRo4 hb4 hb5 hbw4
      rcases Nat.eq_zero_or_pos k with hm0 | hmp
      · have hl0 : l = [] := List.length_eq_zero_iff.1 (by rw [hlm.out]; exact hm0)
        subst hm0
        go_wp2_with (at_builtin; refine wpList_append_zero rfl _ _ 39 rfl w5.heap.size 3 i0 (.int .i64 0) Tryd.underlying39 hi hz0 hz1 _ 0 [] rfl (World.ownsRow_made (base := w5.heap.size) w5 #[] 0 (Nat.le_refl _) (by decide) (by simp)) A c hnil.out rfl ?_)
        have own6 : (w5.alloc (.cells #[] 3)).ownsRow w5.heap.size 3 1 (.slice (some ⟨w5.heap.size, 0, none⟩) 0 0) 0 (iv l) := by rw [hl0]; exact World.ownsRow_made (base := w5.heap.size) w5 #[] 0 (Nat.le_refl _) (by decide) (by simp)
        have hb56 : Below w5.heap.size w5 (w5.alloc (.cells #[] 3)) := (Below.refl _ w5).alloc (Nat.le_refl _) _
        obtain ⟨w6, hw6⟩ : ∃ w6, w5.alloc (.cells #[] 3) = w6 := ⟨_, rfl⟩
        rw [hw6] at own6 hb56 ⊢
        obtain ⟨v6, hv60⟩ : ∃ v6, Value.slice (some ⟨w5.heap.size, 0, none⟩) 0 0 = v6 := ⟨_, rfl⟩
        rw [hv60] at own6 ⊢
        clear hw6 hv60 hl0
        obtain ⟨A6, c6, hv6, hR6⟩ := own_RL (l := l) (by rw [hlm.out]; exact own6)
        rw [hlm.out] at hv6
        subst hv6
        have hA1 := Add_t (h15.out.over hb56) A6 c6 l hR6 (by rw [hlm.out]; omega)
        rw [hlm.out] at hA1
        have hR1e : ∃ r cs1, addF V [] l = (r, cs1) := ⟨_, _, rfl⟩
        obtain ⟨r, cs1, hr⟩ := hR1e
        have hr2 : addF V [] (othT l turn 0) = (r, cs1) := by
          rw [← hr]
          exact addF_same V [] (fun x => hmem.out x) (by rw [holen.out]; omega) (by rw [hlm.out]; omega)
        rw [hr] at hA1
        replace hA1 := Lib.hid hA1
        have h26 := h2.out.over hb56
        have hRo6 := hRo5.out.over hb56
        have h16 := Lib.hid (h15.out.over hb56)
        have hbw6 : Below w.heap.size w w6 := below_call hb56 hbw5 hz5
        have hz6 := hb56.size
        replace h26 := Lib.hid h26
        replace hRo6 := Lib.hid hRo6
        clear h15 h2 hRo5 own6 hR6 hb56 hr hbw5
        (with_reducible refine hA1.out.mono ?_)
        rintro e w7 ⟨rfl, vl1, ve1, h17, k7, f7⟩
        have hb7 := h16.out.below k7
        have h27 := h26.out.keep k7 fun b hb hf => by
          have e1 : b = w4.heap.size := by rcases hb with e | e | e; exact e; cases e; cases e
          have e2 : b = wr.heap.size := by rcases hf with e | e | e; exact e; cases e; cases e
          omega
        have hRo7 := hRo6.out.low hRob.out hb7
        have hz7 := hb7.size
        have hA2 := Add_t h27 Ao co (othT l turn 0) hRo7 (by rw [holen.out]; omega)
        rw [hr2, holen.out] at hA2
        replace hA2 := Lib.hid hA2
        have hbw7 : Below w.heap.size w w7 := hbw6.trans (hb7.mono hzw)
        replace h17 := Lib.hid h17
        replace h27 := Lib.hid h27
        replace f7 := Lib.hid f7
        clear hA1 h16 h26 hRo6 hRo7 k7 hb7 hbw6 hr2
        go_wp2_with fail
        (with_reducible refine hA2.out.mono ?_)
        rintro e w8 ⟨rfl, vl2, ve2, h28, k8, f8⟩
        have hb8 := h27.out.below k8
        have h18 := h17.out.keep k8 fun b hb hf => by
          have e2 : b = w4.heap.size := by rcases hf with e | e | e; exact e; cases e; cases e
          rcases f7.out b hb with e | e
          · have e1 : b = wr.heap.size := by rcases e with e | e | e; exact e; cases e; cases e
            omega
          · omega
        have hbw8 : Below w.heap.size w w8 := hbw7.trans (hb8.mono (by omega))
        have hT1 := Lib.hid (Text_t h18 (hT.on hbw8))
        replace h28 := Lib.hid h28
        clear hA2 h17 h27 k8 f8 hb8 hbw7 f7 h18
        go_wp2_with fail
        (with_reducible refine hT1.out.mono ?_)
        rintro e w9 ⟨rfl, hb9⟩
        have hbw9 : Below w.heap.size w w9 := below_call hb9 hbw8 hbw8.size
        have hT2 := Lib.hid (Text_t (h28.out.over hb9) (hT.on hbw9))
        clear hT1 hb9 hbw8
        go_wp2_with fail
        (with_reducible refine hT2.out.mono ?_)
        rintro e w10 ⟨rfl, hb10⟩
        go_wp2_with fail
        go_ret
        exact ⟨rfl, below_call hb10 hbw9 hbw9.size⟩
      · obtain ⟨ba, oa, hab, _⟩ := hRw5 (by have := hlm.out; omega)
        subst hab
        go_wp2_with (at_builtin; refine wpList_append_own _ rfl _ _ 39 rfl w5.heap.size 3 i0 (.int .i64 0) 1 8 Tryd.underlying39 hi hz0 hz1 hz2 rfl (by decide) _ 0 [] rfl (World.ownsRow_made (base := w5.heap.size) w5 #[] 0 (Nat.le_refl _) (by decide) (by simp)) ⟨ba, oa, none⟩ k c (iv l) rfl ?a0 ?a1 ?a2 ?a3 ?a4 ?a5 ?a6)
        case a0 => rw [iv_len, hlm.out, Nat.mul_one]
        case a1 => exact RL_cells (hRw5.over ((Below.refl _ w5).alloc (Nat.le_refl _) _))
        case a2 => exact iv_one l
        case a3 => unfold maxLen; omega
        case a4 => omega
        case a5 => simp
        intro v6 w6 own6 hgrow6 _
        have hb56 : Below w5.heap.size w5 w6 := ((Below.refl _ w5).alloc (Nat.le_refl _) _).grown hgrow6 (by simp) (fun j e => by cases e; exact Nat.le_refl _)
        have own6 : w6.ownsRow w5.heap.size 3 1 v6 k (iv l) := by simpa using own6
        clear hgrow6
        obtain ⟨A6, c6, hv6, hR6⟩ := own_RL (l := l) (by rw [hlm.out]; exact own6)
        rw [hlm.out] at hv6
        subst hv6
        have hA1 := Add_t (h15.out.over hb56) A6 c6 l hR6 (by rw [hlm.out]; omega)
        rw [hlm.out] at hA1
        have hR1e : ∃ r cs1, addF V [] l = (r, cs1) := ⟨_, _, rfl⟩
        obtain ⟨r, cs1, hr⟩ := hR1e
        have hr2 : addF V [] (othT l turn k) = (r, cs1) := by
          rw [← hr]
          exact addF_same V [] (fun x => hmem.out x) (by rw [holen.out]; omega) (by rw [hlm.out]; omega)
        rw [hr] at hA1
        replace hA1 := Lib.hid hA1
        have h26 := h2.out.over hb56
        have hRo6 := hRo5.out.over hb56
        have h16 := Lib.hid (h15.out.over hb56)
        have hbw6 : Below w.heap.size w w6 := below_call hb56 hbw5 hz5
        have hz6 := hb56.size
        replace h26 := Lib.hid h26
        replace hRo6 := Lib.hid hRo6
        clear h15 h2 hRo5 own6 hR6 hb56 hr hbw5
        go_wp2_with fail
        (with_reducible refine hA1.out.mono ?_)
        rintro e w7 ⟨rfl, vl1, ve1, h17, k7, f7⟩
        have hb7 := h16.out.below k7
        have h27 := h26.out.keep k7 fun b hb hf => by
          have e1 : b = w4.heap.size := by rcases hb with e | e | e; exact e; cases e; cases e
          have e2 : b = wr.heap.size := by rcases hf with e | e | e; exact e; cases e; cases e
          omega
        have hRo7 := hRo6.out.low hRob.out hb7
        have hz7 := hb7.size
        have hA2 := Add_t h27 Ao co (othT l turn k) hRo7 (by rw [holen.out]; omega)
        rw [hr2, holen.out] at hA2
        replace hA2 := Lib.hid hA2
        have hbw7 : Below w.heap.size w w7 := hbw6.trans (hb7.mono hzw)
        replace h17 := Lib.hid h17
        replace h27 := Lib.hid h27
        replace f7 := Lib.hid f7
        clear hA1 h16 h26 hRo6 hRo7 k7 hb7 hbw6 hr2
        go_wp2_with fail
        (with_reducible refine hA2.out.mono ?_)
        rintro e w8 ⟨rfl, vl2, ve2, h28, k8, f8⟩
        have hb8 := h27.out.below k8
        have h18 := h17.out.keep k8 fun b hb hf => by
          have e2 : b = w4.heap.size := by rcases hf with e | e | e; exact e; cases e; cases e
          rcases f7.out b hb with e | e
          · have e1 : b = wr.heap.size := by rcases e with e | e | e; exact e; cases e; cases e
            omega
          · omega
        have hbw8 : Below w.heap.size w w8 := hbw7.trans (hb8.mono (by omega))
        have hT1 := Lib.hid (Text_t h18 (hT.on hbw8))
        replace h28 := Lib.hid h28
        clear hA2 h17 h27 k8 f8 hb8 hbw7 f7 h18
        go_wp2_with fail
        (with_reducible refine hT1.out.mono ?_)
        rintro e w9 ⟨rfl, hb9⟩
        have hbw9 : Below w.heap.size w w9 := below_call hb9 hbw8 hbw8.size
        have hT2 := Lib.hid (Text_t (h28.out.over hb9) (hT.on hbw9))
        clear hT1 hb9 hbw8
        go_wp2_with fail
        (with_reducible refine hT2.out.mono ?_)
        rintro e w10 ⟨rfl, hb10⟩
        go_wp2_with fail
        go_ret
        exact ⟨rfl, below_call hb10 hbw9 hbw9.size⟩
set_option maxRecDepth 100000 in
set_option maxHeartbeats 4000000 in
theorem order_long (A : Option Addr) (l0 : List Int) (c : Nat) (x turn : Int) (w : World) (hT : LT w) (hnil : A = none → c = 0) (hc : l0.length ≤ c) (hR0 : RL w A l0) (hlen : 30 < l0.length) : Calls Tryd.prog 5 #[.int .i64 x, .slice A l0.length c, .int .i64 turn] w (RV w (.bool true)) := by
  obtain ⟨i0, hi, hz0, hz1, hz2⟩ := info_parts info_int
  have hAw := Lib.hid (awake_t w hT)
  obtain ⟨V, hV⟩ : ∃ V : Nat, max 0 (min x 60) = (V : Int) := ⟨(max 0 (min x 60)).toNat, by omega⟩
  have hV60 : V ≤ 60 := by omega
  have hN := Lib.hid (fun w => New_t (V : Int) V (by omega) w)
  obtain ⟨n0, hn0⟩ : ∃ n0, l0.length = n0 := ⟨_, rfl⟩
  have hl30 : (l0.take 30).length = 30 := by rw [List.length_take]; omega
  have hR := hR0.take 30
  have hA : ∃ b off : Nat, A = some ⟨b, off, none⟩ := by
    obtain ⟨b, off, e, _⟩ := hR0 (by omega)
    exact ⟨b, off, e⟩
  obtain ⟨l, hl⟩ : ∃ l, l0.take 30 = l := ⟨_, rfl⟩
  rw [hl] at hl30 hR
  rw [hn0] at hlen hc ⊢
  have d1 : decide ((30 : Int) < (n0 : Int)) = true := by rw [decide_eq_true_iff]; omega
  have d3 : 30 ≤ c := by omega
  have d4 : ¬ c = 30 := by omega
  have hlm : l.length = 30 := hl30
  obtain ⟨ba, oa, rfl⟩ := hA
  have hmem := othT_mem l turn
  have holen := othT_len l turn
  have hsucc := othT_succ l turn
  rw [hlm] at hmem hsucc
  replace hmem := Lib.hid hmem
  replace holen := Lib.hid holen
  replace hsucc := Lib.hid hsucc
  replace hR0 := Lib.hid hR0
  replace hR := Lib.hid hR
  replace hlm := Lib.hid hlm
  replace hV60 := Lib.hid hV60
  replace hlen := Lib.hid hlen
  replace hnil := Lib.hid hnil
  replace hc := Lib.hid hc
  go_enter Tryd.func5, Tryd.ntmps5
  go_wp2_with fail
  (with_reducible refine hAw.out.mono ?_)
  rintro e w1 ⟨rfl, hb1⟩
  have hR1 := hR.out.over hb1
  replace hR1 := Lib.hid hR1
  clear hAw
  go_wp2_with fail
  go_loopw [8, 28] (fun o i wr => ∃ (k : Nat) (v : Value), k ≤ 30 ∧ i = .int .i64 (k : Int) ∧ o = v ∧ wr.ownsRow w.heap.size 3 1 v (k + k) (iv (othT l turn k)) ∧ Below w.heap.size w wr) (fun _ i _ => 30 - (intOf i).toNat)
  case atStart => exact ⟨0, _, Nat.zero_le _, rfl, rfl, World.ownsRow_nil _ _ _ _, hb1⟩
  case round =>
    obtain ⟨k, v, hk, rfl, rfl, hown, hbw⟩ := hrel
    clear hR1
    by_cases hlt : k < 30
    · obtain ⟨b, off, hab, hb, hcell⟩ := hR.out.over hbw (by have := hlm.out; omega)
      have hbs := hbw.size
      cases hab
      have hm0 : ((30 : Int) == 0) = false := rfl
      have hix := ixT_eq 30 turn k (by omega)
      have hixl := ixT_lt 30 turn k (by omega)
      have hsk := hsucc.out k
      have b1 := tmod_bounds turn 30 (by omega)
      have b2 := tmod_bounds ((k : Int) + turn.tmod 30) 30 (by omega)
      change -(30 : Int) < turn.tmod 30 ∧ turn.tmod 30 < 30 at b1
      change -(30 : Int) < ((k : Int) + turn.tmod 30).tmod 30 ∧ ((k : Int) + turn.tmod 30).tmod 30 < 30 at b2
      change (((k : Int) + turn.tmod 30).tmod 30 + 30).tmod 30 = ((ixT 30 turn k : Nat) : Int) at hix
      obtain ⟨t, ht⟩ : ∃ t, turn.tmod (30 : Int) = t := ⟨_, rfl⟩
      rw [ht] at b1 b2 hix
      have ht2 : turn.tmod (max (30 : Int) 1) = t := ht
      obtain ⟨s, hs⟩ : ∃ s, ((k : Int) + t).tmod (30 : Int) = s := ⟨_, rfl⟩
      rw [hs] at b2 hix
      obtain ⟨ix, hixe⟩ : ∃ ix, ixT 30 turn k = ix := ⟨_, rfl⟩
      rw [hixe] at hix hixl hsk
      have c0 := hcell ix (by have := hlm.out; omega)
      obtain ⟨y, hy⟩ : ∃ y, l.getD ix 0 = y := ⟨_, rfl⟩
      rw [hy] at c0 hsk
      have hko := othT_len l turn k
      obtain ⟨xs, hxs⟩ : ∃ xs, iv (othT l turn k) = xs := ⟨_, rfl⟩
      have hxs2 : xs ++ [.int .i64 y, .int .i64 y] = iv (othT l turn (k + 1)) := by rw [hsk, ← hxs]; simp [iv]
      rw [hxs] at hown
      replace hown := Lib.hid hown
      replace hxs2 := Lib.hid hxs2
      replace hsk := Lib.hid hsk
      clear hcell hy hxs hko hixe hsk
      go_wp2_with (at_builtin; refine wpList_append_lies _ rfl _ _ 39 rfl w.heap.size 3 i0 (.int .i64 0) 1 8 Tryd.underlying39 hi hz0 hz1 hz2 rfl (by decide) _ (k + k) xs rfl (hown.out.alloc _) ⟨wr.heap.size, 0, none⟩ 2 2 [.int .i64 y, .int .i64 y] rfl rfl ?c1 ?c2 (by decide) ?c3 ?c4 ?c5 (wr.heap.size + 1) (by simp) ?c6)
      case c1 => exact World.news_of_block (heap_alloc_new _ _)
      case c2 => intro u hu; simp only [List.mem_cons, List.not_mem_nil, or_false] at hu; rcases hu with rfl | rfl <;> rfl
      case c3 => unfold maxLen; omega
      case c4 => omega
      case c5 => simp; omega
      intro g' cap' w3 hown3 hgrow hat hlt3
      have hbw3 : Below w.heap.size w w3 := (hbw.alloc hbs _).grown hgrow (by simp; omega) (fun j e => (hown.out.lt j e).1)
      rw [hxs2.out, show k + k + 2 = (k + 1) + (k + 1) by omega] at hown3
      replace hown3 := Lib.hid hown3
      clear hgrow hat hlt3 hown
      go_wp2_with fail
      go_roundw
      case rel => exact ⟨k + 1, _, by omega, by go_num, rfl, (by rw [show k + k + 2 = (k + 1) + (k + 1) by omega]; exact hown3.out), hbw3⟩
      case measure => simp [intOf]; omega
    · obtain rfl : k = 30 := by omega
      have hN1 := hN.out wr
      obtain ⟨Ao, co, hvo, hRo⟩ := own_RL (l := othT l turn 30) (by rw [holen.out]; exact hown)
      rw [holen.out] at hvo
      subst hvo
      have hRob : ∀ a, Ao = some a → a.block < wr.heap.size := fun a ha => by
        subst ha
        exact (hown.lt a.block rfl).2
      have hRw := hR.out.over hbw
      replace hN1 := Lib.hid hN1
      replace hRo := Lib.hid hRo
      replace hRob := Lib.hid hRob
      have hzw := hbw.size
      clear hsucc hR hR0 hown
      go_wp2_with fail
      (with_reducible refine hN1.out.mono ?_)
      rintro e w4 ⟨rfl, h1, hb4⟩
      have hbw4 : Below w.heap.size w w4 := below_call hb4 hbw hzw
      have hRw4 := hRw.over hb4
      have hRo4 := hRo.out.over hb4
      have hz4 := hb4.size
      have hp1 := h1.lt
      have hN2 := Lib.hid (hN.out w4)
      replace h1 := Lib.hid h1
      clear hN1 hN hRw hbw
      go_wp2_with fail
      (with_reducible refine hN2.out.mono ?_)
      rintro e w5 ⟨rfl, h2, hb5⟩
      have h15 := h1.out.over hb5
      have hbw5 : Below w.heap.size w w5 := below_call hb5 hbw4 hbw4.size
      have hRw5 := hRw4.over hb5
      have hRo5 := hRo4.over hb5
      have hz5 := hbw5.size
      have hz54 := hb5.size
      have hp2 := h2.lt
      replace h15 := Lib.hid h15
      replace h2 := Lib.hid h2
      replace hRo5 := Lib.hid hRo5
      clear hN2 h1 hRw4 hRo4 hb4 hb5 hbw4
      go_wp2_with (at_builtin; refine wpList_append_own _ rfl _ _ 39 rfl w5.heap.size 3 i0 (.int .i64 0) 1 8 Tryd.underlying39 hi hz0 hz1 hz2 rfl (by decide) _ 0 [] rfl (World.ownsRow_made (base := w5.heap.size) w5 #[] 0 (Nat.le_refl _) (by decide) (by simp)) ⟨ba, oa, none⟩ 30 c (iv l) rfl ?a0 ?a1 ?a2 ?a3 ?a4 ?a5 ?a6)
      case a0 => rw [iv_len, hlm.out, Nat.mul_one]
      case a1 => exact RL_cells (hRw5.over ((Below.refl _ w5).alloc (Nat.le_refl _) _))
      case a2 => exact iv_one l
      case a3 => unfold maxLen; omega
      case a4 => omega
      case a5 => simp
      intro v6 w6 own6 hgrow6 _
      have hb56 : Below w5.heap.size w5 w6 := ((Below.refl _ w5).alloc (Nat.le_refl _) _).grown hgrow6 (by simp) (fun j e => by cases e; exact Nat.le_refl _)
      have own6 : w6.ownsRow w5.heap.size 3 1 v6 30 (iv l) := by simpa using own6
      clear hgrow6
      obtain ⟨A6, c6, hv6, hR6⟩ := own_RL (l := l) (by rw [hlm.out]; exact own6)
      rw [hlm.out] at hv6
      subst hv6
      have hA1 := Add_t (h15.out.over hb56) A6 c6 l hR6 (by rw [hlm.out]; decide)
      rw [hlm.out] at hA1
      have hR1e : ∃ r cs1, addF V [] l = (r, cs1) := ⟨_, _, rfl⟩
      obtain ⟨r, cs1, hr⟩ := hR1e
      have hr2 : addF V [] (othT l turn 30) = (r, cs1) := by
        rw [← hr]
        exact addF_same V [] (fun x => hmem.out x) (by rw [holen.out]; omega) (by rw [hlm.out]; omega)
      rw [hr] at hA1
      replace hA1 := Lib.hid hA1
      have h26 := h2.out.over hb56
      have hRo6 := hRo5.out.over hb56
      have h16 := Lib.hid (h15.out.over hb56)
      have hbw6 : Below w.heap.size w w6 := below_call hb56 hbw5 hz5
      have hz6 := hb56.size
      replace h26 := Lib.hid h26
      replace hRo6 := Lib.hid hRo6
      clear h15 h2 hRo5 own6 hR6 hb56 hr hbw5
      go_wp2_with fail
      (with_reducible refine hA1.out.mono ?_)
      rintro e w7 ⟨rfl, vl1, ve1, h17, k7, f7⟩
      have hb7 := h16.out.below k7
      have h27 := h26.out.keep k7 fun b hb hf => by
        have e1 : b = w4.heap.size := by rcases hb with e | e | e; exact e; cases e; cases e
        have e2 : b = wr.heap.size := by rcases hf with e | e | e; exact e; cases e; cases e
        omega
      have hRo7 := hRo6.out.low hRob.out hb7
      have hz7 := hb7.size
      have hA2 := Add_t h27 Ao co (othT l turn 30) hRo7 (by rw [holen.out]; omega)
      rw [hr2, holen.out] at hA2
      replace hA2 := Lib.hid hA2
      have hbw7 : Below w.heap.size w w7 := hbw6.trans (hb7.mono hzw)
      replace h17 := Lib.hid h17
      replace h27 := Lib.hid h27
      replace f7 := Lib.hid f7
      clear hA1 h16 h26 hRo6 hRo7 k7 hb7 hbw6 hr2
      go_wp2_with fail
      (with_reducible refine hA2.out.mono ?_)
      rintro e w8 ⟨rfl, vl2, ve2, h28, k8, f8⟩
      have hb8 := h27.out.below k8
      have h18 := h17.out.keep k8 fun b hb hf => by
        have e2 : b = w4.heap.size := by rcases hf with e | e | e; exact e; cases e; cases e
        rcases f7.out b hb with e | e
        · have e1 : b = wr.heap.size := by rcases e with e | e | e; exact e; cases e; cases e
          omega
        · omega
      have hbw8 : Below w.heap.size w w8 := hbw7.trans (hb8.mono (by omega))
      have hT1 := Lib.hid (Text_t h18 (hT.on hbw8))
      replace h28 := Lib.hid h28
      clear hA2 h17 h27 k8 f8 hb8 hbw7 f7 h18
      go_wp2_with fail
      (with_reducible refine hT1.out.mono ?_)
      rintro e w9 ⟨rfl, hb9⟩
      have hbw9 : Below w.heap.size w w9 := below_call hb9 hbw8 hbw8.size
      have hT2 := Lib.hid (Text_t (h28.out.over hb9) (hT.on hbw9))
      clear hT1 hb9 hbw8
      go_wp2_with fail
      (with_reducible refine hT2.out.mono ?_)
      rintro e w10 ⟨rfl, hb10⟩
      go_wp2_with fail
      go_ret
      exact ⟨rfl, below_call hb10 hbw9 hbw9.size⟩
theorem order_all (A : Option Addr) (l0 : List Int) (c : Nat) (x turn : Int) (w : World) (hT : LT w) (hnil : A = none → c = 0) (hc : l0.length ≤ c) (hR0 : RL w A l0) : Calls Tryd.prog 5 #[.int .i64 x, .slice A l0.length c, .int .i64 turn] w (RV w (.bool true)) := by
  by_cases h : l0.length ≤ 30
  · exact order_short A l0 c x turn w hT hnil hc hR0 h
  · exact order_long A l0 c x turn w hT hnil hc hR0 (by omega)
end Go.Proofs.YtgnmehkklmklnaaDoor
