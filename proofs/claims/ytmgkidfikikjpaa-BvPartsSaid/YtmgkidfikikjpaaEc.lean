/-
  The walks of the reference's Put and Cat.
-/
import Derived.Test.YtmgkidfikikjpaaEb
import Derived.Test.YtmgkidfikikjpaaCc
namespace Go.Proofs.Ytmgkidfikikjpaa
open Go.RowKit
/-- The bits of f, those of g put over them from bit l on. -/
def putB (f g : Nat → Bool) (l m j : Nat) : Bool := if l ≤ j ∧ j < l + m then g (j - l) else f j
theorem put_list (f g : Nat → Bool) (l m n : Nat) (h : l + m ≤ n) : bcs f l ++ bcs g m ++ bcs (fun j => f (l + m + j)) (n - (l + m)) = bcs (putB f g l m) n := by
  refine List.ext_getElem (by simp [bcs]; omega) fun j h1 h2 => ?_
  have hj : j < n := by simpa [bcs] using h2
  simp only [bcs, List.getElem_append, List.getElem_map, List.getElem_range, List.length_append, List.length_map, List.length_range, putB]
  by_cases h3 : j < l
  · rw [dif_pos (by omega), dif_pos h3, if_neg (by omega)]
  · by_cases h4 : j < l + m
    · rw [dif_pos h4, dif_neg h3, if_pos (by omega)]
    · rw [dif_neg h4, if_neg (by omega), show l + m + (j - (l + m)) = j by omega]
set_option maxRecDepth 100000 in
set_option maxHeartbeats 2000000 in
theorem refPut_ok (n l m c1 c2 : Nat) (A B : Option Addr) (f g : Nat → Bool) (w : World) (hn : n ≤ 140) (hc : n ≤ c1) (hm : 1 ≤ m) (h : l + m ≤ n) (hA : RB w A n f) (hB : RB w B m g) :
    Calls Try.prog 15 #[.slice A n c1, .int .i64 (l : Int), .slice B m c2] w (LB w n (putB f g l m) 0) := by
  obtain ⟨i0, hi, hz0, hz1, hz2⟩ := info_parts info_bool
  obtain ⟨b, off, rfl, hb, hcs⟩ := hA (by omega)
  obtain ⟨b2, off2, rfl, hb2, hcs2⟩ := hB (by omega)
  obtain ⟨s, hs⟩ : ∃ s, l + m = s := ⟨_, rfl⟩
  have add : IntKind.i64.wrap ((l : Int) + (m : Int)) = (s : Int) := by rw [IntWalk.i64_in _ (by omega)]; omega
  have d0 : decide ((l : Int) < 0) = false := by simp
  have d1 : decide ((m : Int) < 1) = false := by simp; omega
  have d2 : decide ((n : Int) < (l : Int)) = false := by simp; omega
  have d2' : decide (n < l) = false := by simp; omega
  have d3 : decide ((n : Int) - (l : Int) < (m : Int)) = false := by simp; omega
  have k1 : l ≤ c1 := by omega
  have k2 : s ≤ n := by omega
  have hlist := Lib.hid (put_list f g l m n h)
  have hsl := Lib.hid hs
  have hcs' := Lib.hid hcs
  have hcs2' := Lib.hid hcs2
  have hcase : c1 = s ∨ ¬ c1 = s := by omega
  clear hcs hcs2 hs hA hB
  go_enter Try.func15, Try.ntmps15
  go_wp2_with (at_builtin; refine wpList_append_own _ rfl _ _ 22 rfl w.heap.size 4 i0 (.bool false) 1 1 Try.underlying22 hi hz0 hz1 hz2 rfl (by decide) _ _ _ rfl (World.ownsRow_made (base := w.heap.size) w #[] 0 (Nat.le_refl _) (by decide) (by simp)) ⟨b, off, none⟩ l c1 (bcs f l) rfl ?c0 ?c1 ?c2 ?c3 ?c4 ?c5 ?c6)
  case c0 => rw [bcs_len, Nat.mul_one]
  case c1 => exact bcs_cells (fun j hj => hcs'.out j (by omega)) (by go_grown)
  case c2 => exact bcs_one _ l
  case c3 => unfold maxLen; omega
  case c4 => omega
  case c5 => rw [World.size_alloc]; omega
  case c6 =>
    intro v1 w1 hown1 hgrow1 _
    have hbw1 : Below w.heap.size w w1 := ((Below.refl _ w).alloc (Nat.le_refl _) _).grown hgrow1 (by simp) (fun j e => by cases e; exact Nat.le_refl _)
    try simp only [Nat.zero_add, List.nil_append] at hown1
    have z1 := hbw1.size
    replace hown1 := Lib.hid hown1
    clear hgrow1
    go_wp2_with (at_builtin; refine wpList_append_own _ rfl _ _ 22 rfl w.heap.size 4 i0 (.bool false) 1 1 Try.underlying22 hi hz0 hz1 hz2 rfl (by decide) _ _ _ rfl hown1.out ⟨b2, off2, none⟩ m c2 (bcs g m) rfl ?d0 ?d1 ?d2 ?d3 ?d4 ?d5 ?d6)
    case d0 => rw [bcs_len, Nat.mul_one]
    case d1 => exact bcs_cells hcs2'.out hbw1
    case d2 => exact bcs_one _ m
    case d3 => unfold maxLen; omega
    case d4 => omega
    case d5 => exact z1
    case d6 =>
      intro v2 w2 hown2 hgrow2 _
      have hbw2 : Below w.heap.size w w2 := hbw1.grown hgrow2 z1 (fun j e => (hown1.out.lt j e).1)
      have z2 := hbw2.size
      replace hown2 := Lib.hid hown2
      clear hgrow2
      rcases hcase with hcase | hcase
      · obtain rfl : s = n := by omega
        subst hcase
        go_wp2_with (at_builtin; refine wpList_append_own _ rfl _ _ 22 rfl w.heap.size 4 i0 (.bool false) 1 1 Try.underlying22 hi hz0 hz1 hz2 rfl (by decide) _ _ _ rfl hown2.out _ 0 _ [] rfl rfl (by intro j u hj; simp at hj) (by simp) (by unfold maxLen; omega) (by omega) z2 ?e6)
        case e6 =>
          intro v3 w3 hown3 hgrow3 _
          have hbw3 : Below w.heap.size w w3 := hbw2.grown hgrow3 z2 (fun j e => (hown2.out.lt j e).1)
          have hl := hlist.out
          rw [hsl.out, Nat.sub_self] at hl
          rw [show bcs (fun j => f (c1 + j)) 0 = [] from rfl] at hl
          rw [List.append_nil] at hl
          try rw [List.append_nil] at hown3
          rw [hl, hsl.out] at hown3
          try rw [Nat.add_zero] at hown3
          obtain ⟨g3, cap3, rfl, hR⟩ := ownB_form hown3 (by omega)
          replace hR := Lib.hid hR
          clear hown3 hgrow3 hl
          go_wp2_with fail
          go_ret2
          exact ⟨_, _, rfl, hR.out, hbw3⟩
      · go_wp2_with (at_builtin; refine wpList_append_own _ rfl _ _ 22 rfl w.heap.size 4 i0 (.bool false) 1 1 Try.underlying22 hi hz0 hz1 hz2 rfl (by decide) _ _ _ rfl hown2.out ⟨b, off + s, none⟩ (n - s) (c1 - s) (bcs (fun j => f (s + j)) (n - s)) rfl ?e0 ?e1 ?e2 ?e3 ?e4 ?e5 ?e6)
        case e0 => rw [bcs_len, Nat.mul_one]
        case e1 => exact sub_cells hcs'.out (by omega) hbw2
        case e2 => exact bcs_one _ _
        case e3 => unfold maxLen; have := hsl.out; omega
        case e4 => have := hsl.out; omega
        case e5 => exact z2
        case e6 =>
          intro v3 w3 hown3 hgrow3 _
          have hbw3 : Below w.heap.size w w3 := hbw2.grown hgrow3 z2 (fun j e => (hown2.out.lt j e).1)
          have hl := hlist.out
          rw [hsl.out] at hl
          rw [List.append_assoc] at hl
          try rw [List.append_assoc] at hown3
          rw [hl, hsl.out, show s + (n - s) = n by omega] at hown3
          obtain ⟨g3, cap3, rfl, hR⟩ := ownB_form hown3 (by omega)
          replace hR := Lib.hid hR
          clear hown3 hgrow3 hl
          go_wp2_with fail
          go_ret2
          exact ⟨_, _, rfl, hR.out, hbw3⟩
set_option maxRecDepth 100000 in
set_option maxHeartbeats 1000000 in
theorem refPut_bad (n m c1 c2 : Nat) (l : Int) (A B : Option Addr) (h : Nat → Bool) (w : World) (hn : n ≤ 140) (hb : l < 0 ∨ m < 1 ∨ (n : Int) < l ∨ (n : Int) - l < m) :
    Calls Try.prog 15 #[.slice A n c1, .int .i64 l, .slice B m c2] w (LB w 0 h 3) := by
  by_cases h0 : l < 0
  · have d0 : decide (l < 0) = true := by simp; omega
    go_enter Try.func15, Try.ntmps15
    go_wp2
    go_ret2
    exact ⟨none, 0, rfl, fun h => absurd h (by omega), Below.refl _ _⟩
  have d0 : decide (l < 0) = false := by simp; omega
  have d0' : ¬ l < 0 := by omega
  by_cases h1 : m < 1
  · have d1 : decide ((m : Int) < 1) = true := by simp; omega
    go_enter Try.func15, Try.ntmps15
    go_wp2
    go_ret2
    exact ⟨none, 0, rfl, fun h => absurd h (by omega), Below.refl _ _⟩
  have d1 : decide ((m : Int) < 1) = false := by simp; omega
  have d1' : ¬ (m : Int) < 1 := by omega
  by_cases h2 : (n : Int) < l
  · have d2 : decide ((n : Int) < l) = true := by simp; omega
    go_enter Try.func15, Try.ntmps15
    go_wp2
    go_ret2
    exact ⟨none, 0, rfl, fun h => absurd h (by omega), Below.refl _ _⟩
  have d2 : decide ((n : Int) < l) = false := by simp; omega
  have d2' : ¬ (n : Int) < l := by omega
  have sub : IntKind.i64.wrap ((n : Int) - l) = (n : Int) - l := IntWalk.i64_in _ (by omega)
  have d3 : decide ((n : Int) - l < (m : Int)) = true := by simp; omega
  have d3' : (n : Int) - l < (m : Int) := by omega
  go_enter Try.func15, Try.ntmps15
  go_wp2
  go_ret2
  exact ⟨none, 0, rfl, fun h => absurd h (by omega), Below.refl _ _⟩
/-- A slice of slices of bits. -/
def RL (w : World) (A : Option Addr) (len : Nat) (nn cc : Nat → Nat) (AA : Nat → Option Addr) (ff : Nat → Nat → Bool) : Prop := 0 < len → ∃ b off : Nat, A = some ⟨b, off, none⟩ ∧ b < w.heap.size ∧ ∀ j, j < len → w.cell? ⟨b, off + j, none⟩ = some (.slice (AA j) (nn j) (cc j)) ∧ RB w (AA j) (nn j) (ff j)
theorem RL.keep {w w' : World} {A : Option Addr} {len : Nat} {nn cc : Nat → Nat} {AA : Nat → Option Addr} {ff : Nat → Nat → Bool} (h : RL w A len nn cc AA ff) (hb : Below w.heap.size w w') : RL w' A len nn cc AA ff := fun h0 => by
  obtain ⟨b, off, e, hl, hc⟩ := h h0
  exact ⟨b, off, e, Nat.lt_of_lt_of_le hl hb.size, fun j hj => ⟨cellB (hc j hj).1 hb, (hc j hj).2.keep hb⟩⟩
theorem cat_list (f : Nat → Bool) (m n v : Nat) (hv : v < 2 ^ m) : bcs (tb v) m ++ bcs f n = bcs (tb (valB f n * 2 ^ m ||| v)) (m + n) := by
  have e : ∀ j, tb (valB f n * 2 ^ m ||| v) j = if j < m then tb v j else (decide (j - m < n) && f (j - m)) := fun j => by
    unfold tb
    rw [Nat.testBit_or, ← Nat.shiftLeft_eq, Nat.testBit_shiftLeft, valB_testBit]
    by_cases h : j < m
    · rw [if_pos h]
      have : ¬ m ≤ j := by omega
      simp [this]
    · rw [if_neg h]
      have h1 : v.testBit j = false := Nat.testBit_lt_two_pow (Nat.lt_of_lt_of_le hv (Nat.pow_le_pow_right (by decide) (by omega)))
      have h2 : m ≤ j := by omega
      simp [h1, h2]
  refine List.ext_getElem (by simp [bcs]) fun j h1 h2 => ?_
  have hj : j < m + n := by simpa [bcs] using h2
  simp only [bcs, List.getElem_append, List.getElem_map, List.getElem_range, List.length_map, List.length_range]
  rw [e]
  by_cases h3 : j < m
  · rw [dif_pos h3, if_pos h3]
  · rw [dif_neg h3, if_neg h3]
    have : j - m < n := by omega
    simp [this]
set_option maxRecDepth 100000 in
set_option maxHeartbeats 2000000 in
theorem refCat_ok (len c : Nat) (A : Option Addr) (nn cc : Nat → Nat) (AA : Nat → Option Addr) (ff : Nat → Nat → Bool) (w : World) (hlen : len ≤ 1000) (hnn : ∀ j, nn j ≤ 1000) (hA : RL w A len nn cc AA ff) :
    Calls Try.prog 17 #[.slice A len c] w (LN w (catR nn (fun j => valB (ff j) (nn j)) len).1 (catR nn (fun j => valB (ff j) (nn j)) len).2.1 (catR nn (fun j => valB (ff j) (nn j)) len).2.2) := by
  obtain ⟨i0, hi, hz0, hz1, hz2⟩ := info_parts info_bool
  have hx : ∀ j, (fun j => valB (ff j) (nn j)) j < 2 ^ nn j := fun j => valB_lt _ _
  obtain ⟨xx, hxx⟩ : ∃ xx : Nat → Nat, (fun j => valB (ff j) (nn j)) = xx := ⟨_, rfl⟩
  have hxe := Lib.hid (fun j => (congrFun hxx j : valB (ff j) (nn j) = xx j))
  rw [hxx] at hx ⊢
  replace hx := Lib.hid hx
  replace hnn := Lib.hid hnn
  replace hA := Lib.hid hA
  clear hxx
  go_enter Try.func17, Try.ntmps17
  go_wp2_with fail
  go_loopw [4, 5] (fun o i wr => ∃ k : Nat, k ≤ len ∧ ((k = len ∧ i = .int .i64 (-1)) ∨ ∃ s : Nat, len = k + (s + 1) ∧ i = .int .i64 (s : Int)) ∧ (∃ m v cap A1, catS nn xx (dn len k) = some (m, v) ∧ o = .slice A1 m cap ∧ wr.ownsRow w.heap.size 4 1 o m (bcs (tb v) m)) ∧ Below w.heap.size w wr) (fun _ i _ => (intOf i + 1).toNat)
  case atStart =>
    refine ⟨0, Nat.zero_le _, ?_, ⟨0, 0, 0, none, rfl, rfl, World.ownsRow_nil _ _ _ _⟩, by go_grown⟩
    rcases Nat.eq_zero_or_pos len with h | h
    · exact .inl ⟨h.symm, by rw [h]; rfl⟩
    · exact .inr ⟨len - 1, by omega, by congr 1; omega⟩
  case round =>
    obtain ⟨k, hk, hc, ⟨m, v, cap, A1, hs, rfl, ho⟩, hbw⟩ := hrel
    obtain ⟨hm, hv⟩ := catS_lt nn xx hx.out _ m v hs
    rcases hc with ⟨rfl, rfl⟩ | ⟨s, hsl, rfl⟩
    · by_cases hm0 : m = 0
      · have hr := Lib.hid (show catR nn xx k = (0, 0, 2) by unfold catR; rw [hs]; simp [hm0])
        have c0 : ((m : Int) == 0) = true := by simp [hm0]
        have c0' : (m == 0) = true := by simp [hm0]
        clear hs hv
        go_wp2_with fail
        go_ret2
        rw [hr.out]
        exact ⟨none, 0, rfl, fun h => absurd h (by omega), hbw⟩
      · have hr := Lib.hid (show catR nn xx k = (m, v, 0) by unfold catR; rw [hs]; simp [hm0])
        have c0 : ((m : Int) == 0) = false := by simp; omega
        have c0' : (m == 0) = false := by simp; omega
        obtain ⟨g, cap2, e, R⟩ := ownB_form ho (by omega)
        cases e
        replace R := Lib.hid R
        clear hs hv ho
        go_wp2_with fail
        go_ret2
        rw [hr.out]
        exact ⟨_, _, rfl, R.out, hbw⟩
    · have hsx : len - 1 - k = s := by omega
      have hst : catS nn xx (dn len (k + 1)) = catT nn xx (some (m, v)) s := by rw [dn_succ, catS_snoc, hs, hsx]
      unfold catT at hst
      simp only at hst
      obtain ⟨b, off, rfl, hb, hcs⟩ := (hA.out.keep hbw) (by omega)
      obtain ⟨hcell, hRB⟩ := hcs s (by omega)
      have hns := hnn.out s
      have hsn : (s : Int) < (len : Int) := by omega
      have hnx : ((k + 1 = len ∧ Value.int .i64 ((s : Int) - 1) = Value.int .i64 (-1)) ∨ ∃ s' : Nat, len = k + 1 + (s' + 1) ∧ Value.int .i64 ((s : Int) - 1) = Value.int .i64 (s' : Int)) := by
        rcases Nat.eq_zero_or_pos s with h | h
        · exact .inl ⟨by omega, by rw [h]; rfl⟩
        · exact .inr ⟨s - 1, by omega, by congr 1; omega⟩
      replace hnx := Lib.hid hnx
      have hxs := hxe.out s
      have hk1 : k + 1 ≤ len := by omega
      have hone : catS nn xx (dn len (k + 1)) = none → catR nn xx len = (0, 0, 2) := fun h => catR_none nn xx len (k + 1) hk1 h
      clear hcs hs hsx
      replace hsl := Lib.hid hsl
      generalize AA s = As at *
      generalize cc s = cs at *
      by_cases hn0 : nn s = 0
      · rw [if_pos (Or.inl hn0)] at hst
        have hr := Lib.hid (hone hst)
        have c0 : ((nn s : Int) == 0) = true := by simp [hn0]
        have c0' : (nn s == 0) = true := by simp [hn0]
        clear hst hone hv ho hm hxs
        generalize nn s = ns at *
        replace hn0 := Lib.hid hn0
        go_wp2_with fail
        go_ret2
        rw [hr.out]
        exact ⟨none, 0, rfl, fun h => absurd h (by omega), hbw⟩
      · obtain ⟨bs, offs, rfl, hbs, hcell2⟩ := hRB (by omega)
        have c0 : ((nn s : Int) == 0) = false := by simp; omega
        have c0' : (nn s == 0) = false := by simp; omega
        have hl := cat_list (ff s) m (nn s) v hv
        rw [hxs] at hl
        generalize nn s = ns at *
        generalize ff s = fs at *
        replace hl := Lib.hid hl
        replace hcell2 := Lib.hid hcell2
        replace ho := Lib.hid ho
        have zr := hbw.size
        have hdec : 128 < m + ns ∨ ¬ 128 < m + ns := by omega
        replace hst := Lib.hid hst
        replace hone := Lib.hid hone
        clear hv hxs
        go_wp2_with (at_builtin; refine wpList_append_own _ rfl _ _ 22 rfl w.heap.size 4 i0 (.bool false) 1 1 Try.underlying22 hi hz0 hz1 hz2 rfl (by decide) _ _ _ rfl ho.out ⟨bs, offs, none⟩ ns cs (bcs fs ns) rfl ?c0 ?c1 ?c2 ?c3 ?c4 ?c5 ?c6)
        case c0 => rw [bcs_len, Nat.mul_one]
        case c1 => exact bcs_cells hcell2.out (Below.refl _ _)
        case c2 => exact bcs_one _ _
        case c3 => unfold maxLen; omega
        case c4 => omega
        case c5 => exact zr
        case c6 =>
          intro v1 w1 hown1 hgrow1 _
          have hbw1 : Below w.heap.size w w1 := hbw.grown hgrow1 zr (fun j e => (ho.out.lt j e).1)
          rw [hl.out] at hown1
          obtain ⟨g3, cap3, rfl, _, _⟩ := hown1.form (by omega)
          replace hown1 := Lib.hid hown1
          clear hgrow1
          rcases hdec with hd | hd
          · have hr := Lib.hid (hone.out (by rw [hst.out, if_pos (Or.inr hd)]))
            have d1 : (128 : Int) < ((m + ns : Nat) : Int) := by omega
            have d2 : decide ((128 : Int) < ((m + ns : Nat) : Int)) = true := by simp; omega
            go_wp2_with fail
            go_ret2
            rw [hr.out]
            exact ⟨none, 0, rfl, fun h => absurd h (by omega), hbw1⟩
          · have hst2 := hst.out
            rw [if_neg (by omega)] at hst2
            replace hst2 := Lib.hid hst2
            have d1 : ¬ (128 : Int) < ((m + ns : Nat) : Int) := by omega
            have d2 : decide ((128 : Int) < ((m + ns : Nat) : Int)) = false := by simp; omega
            go_wp2_with fail
            go_roundw
            case rel => exact ⟨k + 1, hk1, hnx.out, ⟨_, _, _, _, hst2.out, rfl, hown1.out⟩, hbw1⟩
            case measure => simp [intOf] <;> omega
end Go.Proofs.Ytmgkidfikikjpaa
