/-
  The walks of what src's calls on a table stand on: the number of files, one file, one line, the search of an offset's line.
-/
import Derived.Test.YtegoldihcchfdaaSf
namespace Go.Proofs.Ytegoldihcchfdaa
open Go.RowKit
/-- File number i + 1 of the row g, named a, of text b. -/
def At (w : World) (g i : Nat) (a b : ByteArray) : Prop := ∃ s cap : Nat, w.cell? ⟨g, i * 3, none⟩ = some (.string a) ∧ w.cell? ⟨g, i * 3 + 1, none⟩ = some (.string b) ∧ w.cell? ⟨g, i * 3 + 2, none⟩ = some (.slice (some ⟨s, 0, none⟩) (nOf b) cap) ∧ nOf b ≤ cap ∧ ∀ j, j < nOf b → w.cell? ⟨s, j, none⟩ = some (.int .i64 ((sOf b j : Nat) : Int))
theorem below_dN {B : Nat} {a w : World} (h : Below B a w) (q : Nat) : Below B a (w.drewN q) := ⟨h.os, h.tape, h.output, h.size, h.block⟩
theorem cell_over {w w' : World} {a : Addr} {v : Value} (h : w.cell? a = some v) (hb : Below w.heap.size w w') : w'.cell? a = some v := (hb.cell (World.block_lt_of_cell? w a h)).trans h
theorem At.over {w w' : World} {g i : Nat} {a b : ByteArray} (h : At w g i a b) (hb : Below w.heap.size w w') : At w' g i a b := by
  obtain ⟨s, cap, h0, h1, h2, h3, h4⟩ := h
  exact ⟨s, cap, cell_over h0 hb, cell_over h1 hb, cell_over h2 hb, h3, fun j hj => cell_over (h4 j hj) hb⟩
theorem tcell_get (nm tx : Nat → ByteArray) (vs : Nat → Value) : ∀ k i, i < k → (tcell nm tx vs k)[i * 3]? = some (.string (nm i)) ∧ (tcell nm tx vs k)[i * 3 + 1]? = some (.string (tx i)) ∧ (tcell nm tx vs k)[i * 3 + 2]? = some (vs i)
  | 0, _, h => absurd h (by omega)
  | k + 1, i, h => by
    show (tcell nm tx vs k ++ _)[i * 3]? = _ ∧ (tcell nm tx vs k ++ _)[i * 3 + 1]? = _ ∧ (tcell nm tx vs k ++ _)[i * 3 + 2]? = _
    have hl := tcell_len nm tx vs k
    by_cases hi : i < k
    · have ih := tcell_get nm tx vs k i hi
      rw [List.getElem?_append_left (by omega), List.getElem?_append_left (by omega), List.getElem?_append_left (by omega)]
      exact ih
    · obtain rfl : i = k := by omega
      rw [List.getElem?_append_right (by omega), List.getElem?_append_right (by omega), List.getElem?_append_right (by omega), hl, Nat.sub_self, show i * 3 + 1 - i * 3 = 1 by omega, show i * 3 + 2 - i * 3 = 2 by omega]
      exact ⟨rfl, rfl, rfl⟩
theorem own_form {w : World} {base : Nat} {e : TypeId} {size : Nat} {v : Value} {n : Nat} {xs : List Value} (h : w.ownsRow base e size v n xs) (hn : 0 < n) : ∃ g cap, v = .slice (some ⟨g, 0, none⟩) n cap ∧ n ≤ cap := by
  rcases h.2 with ⟨_, h0⟩ | ⟨g, cap, cur, h1, _, _, h2, _⟩
  · omega
  · exact ⟨g, cap, h1, h2⟩
/-- A table: the row, and each file in it. -/
theorem Tab.form {w : World} {q n : Nat} {nm tx : Nat → ByteArray} (h : Tab w q n nm tx) : ∃ A cap, w.cell? ⟨q, 0, none⟩ = some (.slice A n cap) ∧ n ≤ cap ∧ (0 < n → ∃ g, A = some ⟨g, 0, none⟩ ∧ ∀ i, i < n → At w g i (nm i) (tx i)) := by
  obtain ⟨v, hv, vs, h1, h2⟩ := h
  rcases Nat.eq_zero_or_pos n with rfl | hn
  · rcases h1.2 with ⟨h0, _⟩ | ⟨g, cap, cur, h0, _, _, h3, _⟩
    · exact ⟨none, 0, by rw [hv.all.1, h0], Nat.le_refl _, fun h => absurd h (by omega)⟩
    · exact ⟨_, cap, by rw [hv.all.1, h0], h3, fun h => absurd h (by omega)⟩
  · obtain ⟨g, cap, rfl, hc⟩ := own_form h1 hn
    refine ⟨_, cap, hv.all.1, hc, fun _ => ⟨g, rfl, fun i hi => ?_⟩⟩
    obtain ⟨s, cs, e, h3⟩ := h2 i hi
    obtain ⟨c0, c1, c2⟩ := tcell_get nm tx vs n i hi
    have hp : 0 < nOf (tx i) := plL_pos _ _
    rw [e] at h3
    obtain ⟨_, _, e2, h4⟩ := own_form h3 hp
    cases e2
    refine ⟨s, cs, ?_, ?_, ?_, h4, fun j hj => ?_⟩
    · rw [World.ownsRow.cellAt h1 (i * 3) (by omega), c0]
    · rw [World.ownsRow.cellAt h1 (i * 3 + 1) (by omega), c1]
    · rw [World.ownsRow.cellAt h1 (i * 3 + 2) (by omega), c2, e]
    · rw [World.ownsRow.cellAt h3 j (by omega)]
      have hj2 : j < (sts (tx i) (tx i).size).length := by rw [sts_len]; exact hj
      unfold sOf
      rw [List.getElem?_map, List.getD_eq_getElem?_getD, List.getElem?_eq_getElem hj2]
      rfl
set_option maxHeartbeats 400000 in
theorem len_t (q n cap : Nat) (A : Option Addr) (w : World) (h : w.cell? ⟨q, 0, none⟩ = some (.slice A n cap)) :
    Calls Try.prog 17 #[.pointer (some ⟨q, 0, none⟩)] w fun e w' => e = .returned (.int .i64 (n : Int)) ∧ w = w' := by
  go_enter Try.func17, Try.ntmps17
  go_wp2
  go_ret
  exact ⟨rfl, rfl⟩
set_option maxHeartbeats 400000 in
theorem file_ok (q n i : Nat) (nm tx : Nat → ByteArray) (w : World) (h : Tab w q n nm tx) (hn : n ≤ 1000000) (hi : i < n) :
    Calls Try.prog 27 #[.pointer (some ⟨q, 0, none⟩), .int .i64 ((i : Int) + 1)] w fun e w' => ∃ g : Nat, e = .returned (.pointer (some ⟨g, i * 3, none⟩)) ∧ At w g i (nm i) (tx i) ∧ w = w' := by
  obtain ⟨A, cap, hc, hcap, hA⟩ := h.form
  obtain ⟨g, rfl, hg⟩ := hA (by omega)
  have hgi := Lib.hid (hg i hi)
  have hL := Lib.hid (fun w h => len_t q n cap (some ⟨g, 0, none⟩) w h)
  clear hg hA h
  go_enter Try.func27, Try.ntmps27
  go_wp2_with (go_at_call 17; refine (hL.out _ (by assumption)).mono ?_; rintro e w' ⟨rfl, rfl⟩)
  go_ret
  exact ⟨g, rfl, hgi.out, rfl⟩
set_option maxHeartbeats 400000 in
theorem file_no (q n : Nat) (m : Int) (nm tx : Nat → ByteArray) (w : World) (h : Tab w q n nm tx) (hm : m < 1 ∨ (n : Int) < m) :
    Calls Try.prog 27 #[.pointer (some ⟨q, 0, none⟩), .int .i64 m] w fun e w' => e = .returned (.pointer none) ∧ w = w' := by
  obtain ⟨A, cap, hc, hcap, hA⟩ := h.form
  have hL := Lib.hid (fun w h => len_t q n cap A w h)
  clear hA h
  by_cases h1 : m < 1
  · go_enter Try.func27, Try.ntmps27
    go_wp2_with (go_at_call 17; refine (hL.out _ (by assumption)).mono ?_; rintro e w' ⟨rfl, rfl⟩)
    go_ret
    exact ⟨rfl, rfl⟩
  · have h2 : (n : Int) < m := by omega
    clear hm
    go_enter Try.func27, Try.ntmps27
    go_wp2_with (go_at_call 17; refine (hL.out _ (by assumption)).mono ?_; rintro e w' ⟨rfl, rfl⟩)
    go_ret
    exact ⟨rfl, rfl⟩
def hasB (b : ByteArray) (l : Int) : Bool := decide (1 ≤ l ∧ l ≤ (nOf b : Int))
set_option maxHeartbeats 400000 in
theorem hasLine_t (g i : Nat) (a b : ByteArray) (l : Int) (w : World) (h : At w g i a b) :
    Calls Try.prog 29 #[.pointer (some ⟨g, i * 3, none⟩), .int .i64 l] w fun e w' => e = .returned (.bool (hasB b l)) ∧ w = w' := by
  obtain ⟨s, cap, h0, h1, h2, h3, h4⟩ := h
  clear h4
  by_cases hl : 1 ≤ l
  · have e := Lib.hid (show hasB b l = decide (l ≤ (nOf b : Int)) by unfold hasB; simp [hl])
    go_enter Try.func29, Try.ntmps29
    go_wp2
    go_ret
    exact ⟨by rw [e.out]; rfl, rfl⟩
  · have e := Lib.hid (show hasB b l = false by unfold hasB; simp; omega)
    go_enter Try.func29, Try.ntmps29
    go_wp2
    go_ret
    exact ⟨by rw [e.out]; rfl, rfl⟩
set_option maxHeartbeats 800000 in
set_option maxRecDepth 100000 in
theorem bounds_t (g i j : Nat) (a b : ByteArray) (w : World) (h : At w g i a b) (hj : j < nOf b) (hb : b.size ≤ 17592186000000) :
    Calls Try.prog 30 #[.pointer (some ⟨g, i * 3, none⟩), .int .i64 ((j : Int) + 1)] w fun e w' => e = .returned (.tuple #[.int .i64 ((sOf b j : Nat) : Int), .int .i64 ((eOf b j : Nat) : Int)]) ∧ Below w.heap.size w w' := by
  obtain ⟨s, cap, h0, h1, h2, h3, h4⟩ := h
  have hn : nOf b ≤ b.size + 1 := plL_le b _
  have c0 := h4 j hj
  have s0 := sOf_le b j
  by_cases hl : j + 1 = nOf b
  · have e := Lib.hid (show eOf b j = b.size from if_pos hl)
    have d : ((j : Int) + 1 == (nOf b : Int)) = true := by simp; omega
    have e1 : IntKind.i64.wrap ((j : Int) + 1 - 1) = (j : Int) := by rw [show (j : Int) + 1 - 1 = (j : Int) by omega]; exact IntWalk.i64_in _ (by omega)
    have k0 : (0 : Int) ≤ (j : Int) := by omega
    have k1 : (j : Int) < (nOf b : Int) := by omega
    clear h4 hl
    go_enter Try.func30, Try.ntmps30
    go_wp2
    go_quiet (fail)
    go_wp2
    go_ret2
    exact ⟨by rw [e.out]; rfl, below_dN (Below.refl _ _) nq⟩
  · have hj1 : j + 1 < nOf b := by omega
    have c1 := h4 (j + 1) hj1
    have s1 := sOf_lt b j hj1
    have s2 := sOf_le b (j + 1)
    have e : ((eOf b j : Nat) : Int) = (sOf b (j + 1) : Int) - 1 := by rw [show eOf b j = sOf b (j + 1) - 1 from if_neg hl]; omega
    replace e := Lib.hid e
    have d : ((j : Int) + 1 == (nOf b : Int)) = false := by simp; omega
    have e1 : IntKind.i64.wrap ((j : Int) + 1 - 1) = (j : Int) := by rw [show (j : Int) + 1 - 1 = (j : Int) by omega]; exact IntWalk.i64_in _ (by omega)
    have e2 : IntKind.i64.wrap ((sOf b (j + 1) : Int) - 1) = (sOf b (j + 1) : Int) - 1 := IntWalk.i64_in _ (by omega)
    have k0 : (0 : Int) ≤ (j : Int) := by omega
    have k1 : (j : Int) < (nOf b : Int) := by omega
    have k2 : (0 : Int) ≤ (j : Int) + 1 := by omega
    have k3 : (j : Int) + 1 < (nOf b : Int) := by omega
    have k4 : ((j : Int) + 1).toNat = j + 1 := by omega
    clear h4 hl
    go_enter Try.func30, Try.ntmps30
    go_wp2
    go_quiet (fail)
    go_wp2
    go_ret2
    exact ⟨by rw [e.out]; rfl, below_dN (Below.refl _ _) nq⟩
theorem less_int_t (a b : Int) (w : World) : Calls Try.prog 37 #[.int .i64 a, .int .i64 b] w fun e w' => e = .returned (.bool (decide (a < b))) ∧ w' = w := by
  go_enter Try.func37, Try.ntmps37
  go_wp2_with (go_at_call 39; (with_reducible refine (nan_t _ _).mono ?_); rintro e w' ⟨rfl, rfl⟩)
  go_ret
  exact ⟨rfl, rfl⟩
theorem nan2_t (a : Int) (w : World) : Calls Try.prog 38 #[.int .i64 a] w fun e w' => e = .returned (.bool false) ∧ w' = w := by
  go_enter Try.func38, Try.ntmps38
  go_wp2
  go_ret
  exact ⟨by simp, rfl⟩
/-- What the search returns. -/
def SV (w : World) (m : Nat) (e : Ending) (w' : World) : Prop := ∃ o : Bool, e = .returned (.tuple #[.int .i64 (m : Int), .bool o]) ∧ w' = w
set_option maxHeartbeats 800000 in
set_option maxRecDepth 100000 in
/-- The search for the line of offset k: as many lines as begin up to there. -/
theorem search_t (s cap k : Nat) (b : ByteArray) (w : World) (hk : k ≤ b.size) (hb : b.size ≤ 17592186000000) (_hc : nOf b ≤ cap) (h : ∀ j, j < nOf b → w.cell? ⟨s, j, none⟩ = some (.int .i64 ((sOf b j : Nat) : Int))) :
    Calls Try.prog 28 #[.slice (some ⟨s, 0, none⟩) (nOf b) cap, .int .i64 ((k : Int) + 1)] w (SV w (plL b k)) := by
  have hn : nOf b ≤ b.size + 1 := plL_le b _
  have hiff := Lib.hid (fun i => sts_iff b k b.size i hk)
  have hm : plL b k ≤ nOf b := plL_mono b k _ hk
  have hp := plL_pos b k
  replace h := Lib.hid h
  go_enter Try.func28, Try.ntmps28
  go_wp2
  go_loop [7, 8] (fun i j => ∃ x y : Nat, i = .int .i64 (x : Int) ∧ j = .int .i64 (y : Int) ∧ x ≤ plL b k ∧ plL b k ≤ y ∧ y ≤ nOf b) (fun i j => ((intOf j) - (intOf i)).toNat)
  case atStart => exact ⟨0, nOf b, rfl, rfl, Nat.zero_le _, hm, Nat.le_refl _⟩
  case round =>
    obtain ⟨x, y, rfl, rfl, h1, h2, h3⟩ := hrel
    by_cases hlt : x < y
    · have hcm := h.out ((x + y) / 2) (by omega)
      have f1 : IntKind.u64.wrap ((x : Int) + (y : Int)) = ((x + y : Nat) : Int) := by rw [IntKind.wrap_u64]; omega
      by_cases hle : (x + y) / 2 < plL b k
      · have hs : sOf b ((x + y) / 2) ≤ k := ((hiff.out _).1 hle).2
        have r1 : (x + y) / 2 + 1 ≤ plL b k := by omega
        have r2 : y - ((x + y) / 2 + 1) < y - x := by omega
        go_wp2_with (go_at_call 37; (with_reducible refine (less_int_t _ _ _).mono ?_); rintro e w' ⟨rfl, rfl⟩)
        go_round
        case rel => exact ⟨(x + y) / 2 + 1, y, by go_num, rfl, r1, h2, h3⟩
        case measure => simp [intOf]; omega
      · have hs : ¬ sOf b ((x + y) / 2) ≤ k := fun hs => hle ((hiff.out _).2 ⟨(show (x + y) / 2 < nOf b by omega), hs⟩)
        have hs2 : ¬ ((sOf b ((x + y) / 2) : Int) < (k : Int) + 1) := by omega
        have r1 : plL b k ≤ (x + y) / 2 := by omega
        have r2 : (x + y) / 2 ≤ nOf b := by omega
        have r3 : (x + y) / 2 - x < y - x := by omega
        go_wp2_with (go_at_call 37; (with_reducible refine (less_int_t _ _ _).mono ?_); rintro e w' ⟨rfl, rfl⟩)
        go_round
        case rel => exact ⟨x, (x + y) / 2, rfl, by go_num, h1, r1, r2⟩
        case measure => simp [intOf]; omega
    · obtain rfl : x = plL b k := by omega
      by_cases hlt2 : plL b k < nOf b
      · have hcm := h.out (plL b k) hlt2
        cases ho : ((sOf b (plL b k) : Int) == (k : Int) + 1) with
        | true =>
          go_wp2_with (go_at_call 38; (with_reducible refine (nan2_t _ _).mono ?_); rintro e w' ⟨rfl, rfl⟩)
          go_ret2
          exact ⟨_, rfl, rfl⟩
        | false =>
          go_wp2_with (go_at_call 38; (with_reducible refine (nan2_t _ _).mono ?_); rintro e w' ⟨rfl, rfl⟩)
          go_ret2
          exact ⟨_, rfl, rfl⟩
      · have hlt3 : decide ((plL b k : Int) < (nOf b : Int)) = false := by simp; omega
        go_wp2_with (go_at_call 38; (with_reducible refine (nan2_t _ _).mono ?_); rintro e w' ⟨rfl, rfl⟩)
        go_ret2
        exact ⟨_, rfl, rfl⟩
end Go.Proofs.Ytegoldihcchfdaa
