/-
  The walks of src's Pos and Offset on a table.
-/
import Derived.Test.YtegoldihcchfdaaSh
namespace Go.Proofs.Ytegoldihcchfdaa
open Go.RowKit
set_option maxHeartbeats 400000 in
theorem Pos_bad (q n i : Nat) (o : Int) (nm tx : Nat → ByteArray) (w : World) (h : Tab w q n nm tx) (hn : n ≤ 1000000) (hi : i < n) (ho : o < 0 ∨ ((tx i).size : Int) < o) :
    Calls Try.prog 18 #[.pointer (some ⟨q, 0, none⟩), .int .i64 ((i : Int) + 1), .int .i64 o] w (RV w (.tuple #[pv 0 0 0, .int .i64 3])) := by
  have hF := Lib.hid (fun w h => file_ok q n i nm tx w h hn hi)
  have h2 := Lib.hid (fun o => h.over ((Below.refl _ w).alloc (Nat.le_refl _) o))
  clear h
  by_cases h1 : o < 0
  · go_enter Try.func18, Try.ntmps18
    go_wp2_with (go_at_call 27; (with_reducible refine (hF.out _ (h2.out _)).mono ?_); rintro e w' ⟨g, rfl, ⟨s, cap, k0, k1, k2, k3, k4⟩, rfl⟩; clear k4)
    refine bodyPost_ret (v := .tuple #[pv 0 0 0, .int .i64 3]) (by simp [results, Try.results18, go_sem]) rfl ⟨rfl, by go_grown⟩
  · have h3 : ((tx i).size : Int) < o := by omega
    clear ho
    go_enter Try.func18, Try.ntmps18
    go_wp2_with (go_at_call 27; (with_reducible refine (hF.out _ (h2.out _)).mono ?_); rintro e w' ⟨g, rfl, ⟨s, cap, k0, k1, k2, k3, k4⟩, rfl⟩; clear k4)
    refine bodyPost_ret (v := .tuple #[pv 0 0 0, .int .i64 3]) (by simp [results, Try.results18, go_sem]) rfl ⟨rfl, by go_grown⟩
set_option maxRecDepth 100000 in
set_option maxHeartbeats 800000 in
theorem Pos_ok (q n i k : Nat) (nm tx : Nat → ByteArray) (w : World) (h : Tab w q n nm tx) (hn : n ≤ 1000000) (hi : i < n) (hk : k ≤ (tx i).size) (hb : (tx i).size ≤ 17592186000000) :
    Calls Try.prog 18 #[.pointer (some ⟨q, 0, none⟩), .int .i64 ((i : Int) + 1), .int .i64 (k : Int)] w (RV w (.tuple #[pv ((i : Int) + 1) ((plL (tx i) k : Nat) : Int) ((plC (tx i) k : Nat) : Int), .int .i64 0])) := by
  have hF := Lib.hid (fun w h => file_ok q n i nm tx w h hn hi)
  have h2 := Lib.hid (fun o => h.over ((Below.refl _ w).alloc (Nat.le_refl _) o))
  have hS := Lib.hid (fun s cap w h1 h2 => search_t s cap k (tx i) w hk hb h1 h2)
  have hp := plL_pos (tx i) k
  have hm : plL (tx i) k ≤ nOf (tx i) := plL_mono (tx i) k _ hk
  have hn2 : nOf (tx i) ≤ (tx i).size + 1 := plL_le (tx i) _
  have hpos := pos_of (tx i) k hk
  have e1 : ((plL (tx i) k : Nat) : Int) - 1 = ((plL (tx i) k - 1 : Nat) : Int) := by omega
  have e2 : (k : Int) - (sOf (tx i) (plL (tx i) k - 1) : Int) + 1 = ((plC (tx i) k : Nat) : Int) := by omega
  replace e2 := Lib.hid e2
  replace hpos := Lib.hid hpos
  have s1 := sOf_le (tx i) (plL (tx i) k - 1)
  have s2 : sOf (tx i) (plL (tx i) k - 1) ≤ k := by have := hpos.out; have := plC_pos (tx i) k; omega
  clear h
  replace e1 := Lib.hid e1
  go_enter Try.func18, Try.ntmps18
  go_wp2_with (first
    | (go_at_call 27; (with_reducible refine (hF.out _ (h2.out _)).mono ?_); rintro e w' ⟨g, rfl, ⟨s, cap, k0, k1, k2, k3, k4⟩, rfl⟩; have c4 := k4 (plL (tx i) k - 1) (by omega); replace k4 := Lib.hid k4)
    | (go_at_call 28; (with_reducible refine (hS.out _ _ _ k3 k4.out).mono ?_); rintro e w' ⟨o, rfl, rfl⟩))
  refine bodyPost_ret (v := .tuple #[pv ((i : Int) + 1) ((plL (tx i) k : Nat) : Int) ((plC (tx i) k : Nat) : Int), .int .i64 0]) (by simp [results, Try.results18, go_sem]; exact e2.out) rfl ⟨rfl, by go_grown⟩
set_option maxHeartbeats 400000 in
theorem Offset_no (q n : Nat) (m l c : Int) (nm tx : Nat → ByteArray) (w : World) (h : Tab w q n nm tx) (hm : m < 1 ∨ (n : Int) < m) :
    Calls Try.prog 20 #[.pointer (some ⟨q, 0, none⟩), pv m l c] w (RV w (.tuple #[.int .i64 0, .int .i64 21])) := by
  have hF := Lib.hid (fun w h => file_no q n m nm tx w h hm)
  have h2 := Lib.hid (fun o => h.over ((Below.refl _ w).alloc (Nat.le_refl _) o))
  clear h hm
  go_enter Try.func20, Try.ntmps20
  go_wp2_with (go_at_call 27; (with_reducible refine (hF.out _ (h2.out _)).mono ?_); rintro e w' ⟨rfl, rfl⟩)
  go_ret2
  exact ⟨rfl, by go_grown⟩
/-- The offset of a line and a column, or -1. -/
def ofs (b : ByteArray) (l c : Int) : Int := if hasB b l = true ∧ 1 ≤ c ∧ c ≤ (eOf b (l - 1).toNat : Int) - (sOf b (l - 1).toNat : Int) + 1 then (sOf b (l - 1).toNat : Int) + c - 1 else -1
set_option maxHeartbeats 400000 in
theorem Offset_noline (q n i : Nat) (l c : Int) (nm tx : Nat → ByteArray) (w : World) (h : Tab w q n nm tx) (hn : n ≤ 1000000) (hi : i < n) (hl : hasB (tx i) l = false) :
    Calls Try.prog 20 #[.pointer (some ⟨q, 0, none⟩), pv ((i : Int) + 1) l c] w (RV w (.tuple #[.int .i64 0, .int .i64 3])) := by
  have hF := Lib.hid (fun w h => file_ok q n i nm tx w h hn hi)
  have h2 := Lib.hid (fun o => h.over ((Below.refl _ w).alloc (Nat.le_refl _) o))
  have hH := fun g w => hasLine_t g i (nm i) (tx i) l w
  rw [hl] at hH
  replace hH := Lib.hid hH
  clear h hl
  go_enter Try.func20, Try.ntmps20
  go_wp2_with (first
    | (go_at_call 27; (with_reducible refine (hF.out _ (h2.out _)).mono ?_); rintro e w' ⟨g, rfl, hAt, rfl⟩; replace hAt := Lib.hid hAt)
    | (go_at_call 29; (with_reducible refine (hH.out _ _ hAt.out).mono ?_); rintro e w' ⟨rfl, rfl⟩))
  go_ret2
  exact ⟨rfl, by go_grown⟩
set_option maxHeartbeats 800000 in
theorem Offset_line (q n i j : Nat) (c : Int) (nm tx : Nat → ByteArray) (w : World) (h : Tab w q n nm tx) (hn : n ≤ 1000000) (hi : i < n) (hj : j < nOf (tx i)) (hb : (tx i).size ≤ 17592186000000) :
    Calls Try.prog 20 #[.pointer (some ⟨q, 0, none⟩), pv ((i : Int) + 1) ((j : Int) + 1) c] w (RV w (if 1 ≤ c ∧ c ≤ (eOf (tx i) j : Int) - (sOf (tx i) j : Int) + 1 then .tuple #[.int .i64 ((sOf (tx i) j : Int) + c - 1), .int .i64 0] else .tuple #[.int .i64 0, .int .i64 3])) := by
  have hF := Lib.hid (fun w h => file_ok q n i nm tx w h hn hi)
  have h2 := Lib.hid (fun o => h.over ((Below.refl _ w).alloc (Nat.le_refl _) o))
  have hH := fun g w => hasLine_t g i (nm i) (tx i) ((j : Int) + 1) w
  rw [show hasB (tx i) ((j : Int) + 1) = true by unfold hasB; simp; omega] at hH
  have hB := Lib.hid (fun g w h => bounds_t g i j (nm i) (tx i) w h hj hb)
  replace hH := Lib.hid hH
  have s0 := sOf_le (tx i) j
  have s1 := eOf_ge (tx i) j hj
  have s2 := eOf_le (tx i) j
  clear h
  by_cases h1 : 1 ≤ c
  · by_cases h3 : c ≤ (eOf (tx i) j : Int) - (sOf (tx i) j : Int) + 1
    · rw [if_pos ⟨h1, h3⟩]
      go_enter Try.func20, Try.ntmps20
      go_wp2_with (first
        | (go_at_call 27; (with_reducible refine (hF.out _ (h2.out _)).mono ?_); rintro e w' ⟨g, rfl, hAt, rfl⟩; replace hAt := Lib.hid hAt)
        | (go_at_call 29; (with_reducible refine (hH.out _ _ hAt.out).mono ?_); rintro e w' ⟨rfl, rfl⟩)
        | (go_at_call 30; (with_reducible refine (hB.out _ _ hAt.out).mono ?_); rintro e w1 ⟨rfl, hb1⟩; have hbw1 : Below w.heap.size w w1 := below_call hb1 (by go_grown); obtain ⟨c1, _⟩ := bcell hb1))
      go_ret2
      exact ⟨rfl, hbw1⟩
    · rw [if_neg (fun h => h3 h.2)]
      have h4 : ¬ c < 1 := by omega
      go_enter Try.func20, Try.ntmps20
      go_wp2_with (first
        | (go_at_call 27; (with_reducible refine (hF.out _ (h2.out _)).mono ?_); rintro e w' ⟨g, rfl, hAt, rfl⟩; replace hAt := Lib.hid hAt)
        | (go_at_call 29; (with_reducible refine (hH.out _ _ hAt.out).mono ?_); rintro e w' ⟨rfl, rfl⟩)
        | (go_at_call 30; (with_reducible refine (hB.out _ _ hAt.out).mono ?_); rintro e w1 ⟨rfl, hb1⟩; have hbw1 : Below w.heap.size w w1 := below_call hb1 (by go_grown); obtain ⟨c1, _⟩ := bcell hb1))
      go_ret2
      exact ⟨rfl, hbw1⟩
  · rw [if_neg (fun h => h1 h.1)]
    go_enter Try.func20, Try.ntmps20
    go_wp2_with (first
      | (go_at_call 27; (with_reducible refine (hF.out _ (h2.out _)).mono ?_); rintro e w' ⟨g, rfl, hAt, rfl⟩; replace hAt := Lib.hid hAt)
      | (go_at_call 29; (with_reducible refine (hH.out _ _ hAt.out).mono ?_); rintro e w' ⟨rfl, rfl⟩)
      | (go_at_call 30; (with_reducible refine (hB.out _ _ hAt.out).mono ?_); rintro e w1 ⟨rfl, hb1⟩; have hbw1 : Below w.heap.size w w1 := below_call hb1 (by go_grown); obtain ⟨c1, _⟩ := bcell hb1))
    go_ret2
    exact ⟨rfl, hbw1⟩
end Go.Proofs.Ytegoldihcchfdaa
