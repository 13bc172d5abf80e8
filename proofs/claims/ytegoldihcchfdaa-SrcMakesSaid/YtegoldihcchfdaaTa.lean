/-
  The walks of the reference for layer 6: Place and Lines.
-/
import Derived.Test.YtegoldihcchfdaaSg
import Derived.Test.YtegoldihcchfdaaSj
namespace Go.Proofs.Ytegoldihcchfdaa
open Go.RowKit
theorem pl_yes (s : ByteArray) (k : Nat) (h : nl s k = true) : plL s (k + 1) = plL s k + 1 ∧ plC s (k + 1) = 1 := by
  constructor
  · show (if nl s k then _ else _) = _
    rw [h]; rfl
  · show (if nl s k then _ else _) = _
    rw [h]; rfl
theorem pl_no (s : ByteArray) (k : Nat) (h : nl s k = false) : plL s (k + 1) = plL s k ∧ plC s (k + 1) = plC s k + 1 := by
  constructor
  · show (if nl s k then _ else _) = _
    rw [h]; rfl
  · show (if nl s k then _ else _) = _
    rw [h]; rfl
set_option maxHeartbeats 800000 in
set_option maxRecDepth 100000 in
theorem place_t (b : ByteArray) (k : Nat) (w : World) (hk : k ≤ b.size) (hb : b.size ≤ 17592186000000) :
    Calls Try.prog 19 #[.string b, .int .i64 (k : Int)] w fun e w' => e = .returned (.tuple #[.int .i64 ((plL b k : Nat) : Int), .int .i64 ((plC b k : Nat) : Int)]) ∧ w = w' := by
  have hL := Lib.hid (plL_le b)
  have hC := Lib.hid (plC_le b)
  go_enter Try.func19, Try.ntmps19
  go_wp2
  go_loop [6, 7, 8] (fun l c i => ∃ j : Nat, j ≤ k ∧ i = .int .i64 (j : Int) ∧ l = .int .i64 ((plL b j : Nat) : Int) ∧ c = .int .i64 ((plC b j : Nat) : Int)) (fun _ _ i => k - (intOf i).toNat)
  case atStart => exact ⟨0, Nat.zero_le _, rfl, rfl, rfl⟩
  case round =>
    obtain ⟨j, hj, rfl, rfl, rfl⟩ := hrel
    have h1 := hL.out j
    have h2 := hC.out j
    by_cases hlt : j < k
    · have hjs : j < b.size := by omega
      have hq := nl_eq b j hjs
      cases hn : nl b j with
      | true =>
        rw [hn] at hq
        obtain ⟨q1, q2⟩ := pl_yes b j hn
        replace q1 := Lib.hid q1
        replace q2 := Lib.hid q2
        clear hn
        go_wp2
        go_round
        case rel => exact ⟨j + 1, by omega, by go_num, by rw [q1.out]; go_num, by rw [q2.out]; rfl⟩
        case measure => simp [intOf]; omega
      | false =>
        rw [hn] at hq
        obtain ⟨q1, q2⟩ := pl_no b j hn
        replace q1 := Lib.hid q1
        replace q2 := Lib.hid q2
        clear hn
        go_wp2
        go_round
        case rel => exact ⟨j + 1, by omega, by go_num, by rw [q1.out], by rw [q2.out]; go_num⟩
        case measure => simp [intOf]; omega
    · obtain rfl : j = k := by omega
      go_wp2
      go_ret2
      exact ⟨rfl, rfl⟩
theorem info_str : (Try.prog.info? 9).map (fun i => (i.zero, i.size, i.bytes)) = some (some (.string ⟨#[]⟩), 1, 16) := by kernel_rfl
/-- The first m lines as cells. -/
def lcell (s : ByteArray) (m : Nat) : List Value := (List.range m).map fun i => .string (lineB s i)
theorem lcell_snoc (s : ByteArray) (m : Nat) : lcell s (m + 1) = lcell s m ++ [.string (lineB s m)] := by simp [lcell, List.range_succ]
/-- Where the line at hand begins. -/
def lst (s : ByteArray) (k : Nat) : Nat := (sts s k).getD (plL s k - 1) 0
theorem lst_le (s : ByteArray) (k : Nat) : lst s k ≤ k := by
  have h := sts_last s k
  have h1 := plC_pos s k
  unfold lst; omega
theorem lst_yes (s : ByteArray) (k : Nat) (h : nl s k = true) : lst s (k + 1) = k + 1 := by
  have h1 := sts_last s (k + 1)
  rw [(pl_yes s k h).2] at h1
  unfold lst; omega
theorem lst_no (s : ByteArray) (k : Nat) (h : nl s k = false) : lst s (k + 1) = lst s k := by
  unfold lst; rw [(sts_no s k h).1, (sts_no s k h).2]
theorem lst_sOf (s : ByteArray) (k : Nat) (h : k ≤ s.size) : sOf s (plL s k - 1) = lst s k := by
  have hp := plL_pos s k
  exact sts_at s k s.size _ h (by omega)
/-- The line that ends with the line feed at k. -/
theorem line_nl (s : ByteArray) (k : Nat) (h : k < s.size) (hn : nl s k = true) : lineB s (plL s k - 1) = s.extract (lst s k) k := by
  have hp := plL_pos s k
  have h1 := plL_mono s (k + 1) s.size h
  rw [(pl_yes s k hn).1] at h1
  have h2 := lst_sOf s (k + 1) h
  rw [lst_yes s k hn, (pl_yes s k hn).1, Nat.add_sub_cancel] at h2
  unfold lineB eOf
  rw [lst_sOf s k (by omega), if_neg (by unfold nOf; omega), show plL s k - 1 + 1 = plL s k by omega, h2, Nat.add_sub_cancel]
theorem line_end (s : ByteArray) : lineB s (plL s s.size - 1) = s.extract (lst s s.size) s.size := by
  have hp := plL_pos s s.size
  unfold lineB eOf
  rw [lst_sOf s s.size (Nat.le_refl _), if_pos (by unfold nOf; omega)]
/-- What the reference's Lines returns. -/
def LV (w : World) (s : ByteArray) (e : Ending) (w' : World) : Prop :=
  ∃ g cap : Nat, e = .returned (.slice (some ⟨g, 0, none⟩) (nOf s) cap) ∧ (∀ j, j < nOf s → w'.cell? ⟨g, j, none⟩ = some (.string (lineB s j))) ∧ Below w.heap.size w w'
set_option maxHeartbeats 1000000 in
set_option maxRecDepth 100000 in
theorem refLines_t (b : ByteArray) (w : World) (hb : b.size ≤ 1759218600000) : Calls Try.prog 16 #[.string b] w (LV w b) := by
  obtain ⟨i0, hi, hz0, hz1, hz2⟩ := info_parts info_str
  have hL := Lib.hid (plL_le b)
  have hP := Lib.hid (plL_pos b)
  have hF := Lib.hid (lst_le b)
  go_enter Try.func16, Try.ntmps16
  go_wp2
  go_loopw [3, 4, 5] (fun o f i wr => ∃ (k m : Nat) (v : Value), i = .int .i64 (k : Int) ∧ o = v ∧ ((k ≤ b.size ∧ m + 1 = plL b k ∧ f = .int .i64 ((lst b k : Nat) : Int)) ∨ (k = b.size + 1 ∧ m = nOf b)) ∧ wr.ownsRow w.heap.size 9 1 v m (lcell b m) ∧ Below w.heap.size w wr) (fun _ _ i _ => b.size + 1 - (intOf i).toNat)
  case atStart => exact ⟨0, 0, _, rfl, rfl, .inl ⟨Nat.zero_le _, rfl, rfl⟩, World.ownsRow_nil _ _ _ _, Below.refl _ _⟩
  case round =>
    obtain ⟨k, m, v, rfl, rfl, hc, hown, hbw⟩ := hrel
    have sz := hbw.size
    rcases hc with ⟨hk, hm, rfl⟩ | ⟨rfl, rfl⟩
    · have h1 := hL.out k
      have h2 := hP.out k
      have h3 := hF.out k
      have hmm : plL b k - 1 = m := by omega
      by_cases hlt : k < b.size
      · have hq := nl_eq b k hlt
        have hne : ((k : Int) == (b.size : Int)) = false := by simp; omega
        cases hn : nl b k with
        | true =>
          rw [hn] at hq
          have q1 := (pl_yes b k hn).1
          have q2 := lst_yes b k hn
          have q3 := line_nl b k hlt hn
          rw [hmm] at q3
          clear hn hm
          replace q1 := Lib.hid q1
          replace q2 := Lib.hid q2
          replace q3 := Lib.hid q3
          replace hmm := Lib.hid hmm
          go_wp2_with (at_builtin; refine wpList_append_lies _ rfl _ _ 39 rfl w.heap.size 9 i0 (.string ⟨#[]⟩) 1 16 Try.underlying39 hi hz0 hz1 hz2 rfl (by decide) _ _ _ rfl (hown.alloc _) ⟨wr.heap.size, 0, none⟩ 1 1 [.string (b.extract (lst b k) k)] rfl rfl ?c1 ?c2 (by decide) ?c3 ?c4 ?c5 (wr.heap.size + 1) (by simp) ?c6)
          case c1 => exact World.news_of_block (heap_alloc_new _ _)
          case c2 => intro u hu; simp only [List.mem_singleton] at hu; subst hu; rfl
          case c3 => have := hmm.out; unfold maxLen; omega
          case c4 => have := hmm.out; omega
          case c5 => simp; omega
          case c6 =>
            intro g' cap' w1 hown1 hgrow hat hlt1
            have hbw1 : Below w.heap.size w w1 := (hbw.alloc (by omega) (.cells #[.string (b.extract (lst b k) k)] 9)).grown hgrow (by simp; omega) (fun j e => (hown.lt j e).1)
            have hown2 : w1.ownsRow w.heap.size 9 1 (.slice (some ⟨g', 0, none⟩) (m + 1) cap') (m + 1) (lcell b (m + 1)) := by
              rw [lcell_snoc, q3.out]; exact hown1
            clear hown1 hgrow hat hlt1 hown hbw
            replace hown2 := Lib.hid hown2
            go_wp2_with fail
            go_roundw
            case rel => exact ⟨k + 1, m + 1, _, by go_num, rfl, .inl ⟨by omega, by have := hmm.out; have := q1.out; omega, by rw [q2.out]; go_num⟩, hown2.out, hbw1⟩
            case measure => simp [intOf]; omega
        | false =>
          rw [hn] at hq
          have q1 := (pl_no b k hn).1
          have q2 := lst_no b k hn
          clear hn
          replace q1 := Lib.hid q1
          replace q2 := Lib.hid q2
          replace hmm := Lib.hid hmm
          replace hm := Lib.hid hm
          go_wp2_with fail
          go_roundw
          case rel => exact ⟨k + 1, m, _, by go_num, rfl, .inl ⟨by omega, by have := hm.out; have := q1.out; omega, by rw [q2.out]⟩, hown, hbw⟩
          case measure => simp [intOf]; omega
      · obtain rfl : k = b.size := by omega
        have q3 := line_end b
        rw [hmm] at q3
        replace q3 := Lib.hid q3
        replace hmm := Lib.hid hmm
        replace hm := Lib.hid hm
        go_wp2_with (at_builtin; refine wpList_append_lies _ rfl _ _ 39 rfl w.heap.size 9 i0 (.string ⟨#[]⟩) 1 16 Try.underlying39 hi hz0 hz1 hz2 rfl (by decide) _ _ _ rfl (hown.alloc _) ⟨wr.heap.size, 0, none⟩ 1 1 [.string (b.extract (lst b b.size) b.size)] rfl rfl ?c1 ?c2 (by decide) ?c3 ?c4 ?c5 (wr.heap.size + 1) (by simp) ?c6)
        case c1 => exact World.news_of_block (heap_alloc_new _ _)
        case c2 => intro u hu; simp only [List.mem_singleton] at hu; subst hu; rfl
        case c3 => have := hmm.out; unfold maxLen; omega
        case c4 => have := hmm.out; omega
        case c5 => simp; omega
        case c6 =>
          intro g' cap' w1 hown1 hgrow hat hlt1
          have hbw1 : Below w.heap.size w w1 := (hbw.alloc (by omega) (.cells #[.string (b.extract (lst b b.size) b.size)] 9)).grown hgrow (by simp; omega) (fun j e => (hown.lt j e).1)
          have hown2 : w1.ownsRow w.heap.size 9 1 (.slice (some ⟨g', 0, none⟩) (m + 1) cap') (m + 1) (lcell b (m + 1)) := by
            rw [lcell_snoc, q3.out]; exact hown1
          clear hown1 hgrow hat hlt1 hown hbw
          replace hown2 := Lib.hid hown2
          go_wp2_with fail
          go_roundw
          case rel => exact ⟨b.size + 1, m + 1, _, by go_num, rfl, .inr ⟨rfl, by have := hm.out; exact this⟩, hown2.out, hbw1⟩
          case measure => simp [intOf]
    · have hp : 0 < nOf b := hP.out _
      obtain ⟨g, cap, rfl, hcap⟩ := own_form hown hp
      have hcell : ∀ j, j < nOf b → wr.cell? ⟨g, j, none⟩ = some (.string (lineB b j)) := fun j hj => by
        rw [World.ownsRow.cellAt hown j (by omega)]
        simp [lcell, hj]
      replace hcell := Lib.hid hcell
      go_wp2
      go_ret
      exact ⟨g, cap, rfl, hcell.out, hbw⟩
end Go.Proofs.Ytegoldihcchfdaa
