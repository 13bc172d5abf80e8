/-
  The walks of src's calls on a table: Pos, Offset, Line, Lines.
-/
import Derived.Test.YtegoldihcchfdaaSg
namespace Go.Proofs.Ytegoldihcchfdaa
open Go.RowKit
set_option maxHeartbeats 400000 in
theorem Lines_ok (q n i : Nat) (nm tx : Nat → ByteArray) (w : World) (h : Tab w q n nm tx) (hn : n ≤ 1000000) (hi : i < n) :
    Calls Try.prog 15 #[.pointer (some ⟨q, 0, none⟩), .int .i64 ((i : Int) + 1)] w fun e w' => e = .returned (.int .i64 ((nOf (tx i) : Nat) : Int)) ∧ w = w' := by
  have hF := Lib.hid (file_ok q n i nm tx w h hn hi)
  clear h
  go_enter Try.func15, Try.ntmps15
  go_wp2_with (go_at_call 27; (with_reducible refine hF.out.mono ?_); rintro e w' ⟨g, rfl, ⟨s, cap, h0, h1, h2, h3, h4⟩, rfl⟩; clear h4)
  go_ret
  exact ⟨rfl, rfl⟩
set_option maxHeartbeats 400000 in
theorem Lines_no (q n : Nat) (m : Int) (nm tx : Nat → ByteArray) (w : World) (h : Tab w q n nm tx) (hm : m < 1 ∨ (n : Int) < m) :
    Calls Try.prog 15 #[.pointer (some ⟨q, 0, none⟩), .int .i64 m] w fun e w' => e = .returned (.int .i64 0) ∧ w = w' := by
  have hF := Lib.hid (file_no q n m nm tx w h hm)
  clear h hm
  go_enter Try.func15, Try.ntmps15
  go_wp2_with (go_at_call 27; (with_reducible refine hF.out.mono ?_); rintro e w' ⟨rfl, rfl⟩)
  go_ret
  exact ⟨rfl, rfl⟩
set_option maxHeartbeats 400000 in
theorem Line_no (q n : Nat) (m l : Int) (nm tx : Nat → ByteArray) (w : World) (h : Tab w q n nm tx) (hm : m < 1 ∨ (n : Int) < m) :
    Calls Try.prog 21 #[.pointer (some ⟨q, 0, none⟩), .int .i64 m, .int .i64 l] w (RV w (.tuple #[.string ⟨#[]⟩, .int .i64 21])) := by
  have hF := Lib.hid (file_no q n m nm tx w h hm)
  clear h hm
  go_enter Try.func21, Try.ntmps21
  go_wp2_with (go_at_call 27; (with_reducible refine hF.out.mono ?_); rintro e w' ⟨rfl, rfl⟩)
  go_ret2
  exact ⟨rfl, Below.refl _ _⟩
set_option maxHeartbeats 400000 in
theorem Line_bad (q n i : Nat) (l : Int) (nm tx : Nat → ByteArray) (w : World) (h : Tab w q n nm tx) (hn : n ≤ 1000000) (hi : i < n) (hl : hasB (tx i) l = false) :
    Calls Try.prog 21 #[.pointer (some ⟨q, 0, none⟩), .int .i64 ((i : Int) + 1), .int .i64 l] w (RV w (.tuple #[.string ⟨#[]⟩, .int .i64 3])) := by
  have hF := Lib.hid (file_ok q n i nm tx w h hn hi)
  have hH := fun g w => hasLine_t g i (nm i) (tx i) l w
  rw [hl] at hH
  replace hH := Lib.hid hH
  clear h hl
  go_enter Try.func21, Try.ntmps21
  go_wp2_with (first
    | (go_at_call 27; (with_reducible refine hF.out.mono ?_); rintro e w' ⟨g, rfl, hAt, rfl⟩; replace hAt := Lib.hid hAt)
    | (go_at_call 29; (with_reducible refine (hH.out _ _ hAt.out).mono ?_); rintro e w' ⟨rfl, rfl⟩))
  go_ret2
  exact ⟨rfl, Below.refl _ _⟩
set_option maxHeartbeats 800000 in
theorem Line_ok (q n i j : Nat) (nm tx : Nat → ByteArray) (w : World) (h : Tab w q n nm tx) (hn : n ≤ 1000000) (hi : i < n) (hj : j < nOf (tx i)) (hb : (tx i).size ≤ 17592186000000) :
    Calls Try.prog 21 #[.pointer (some ⟨q, 0, none⟩), .int .i64 ((i : Int) + 1), .int .i64 ((j : Int) + 1)] w (RV w (.tuple #[.string (lineB (tx i) j), .int .i64 0])) := by
  have hF := Lib.hid (file_ok q n i nm tx w h hn hi)
  have hH := fun g w => hasLine_t g i (nm i) (tx i) ((j : Int) + 1) w
  rw [show hasB (tx i) ((j : Int) + 1) = true by unfold hasB; simp; omega] at hH
  have hB := Lib.hid (fun g w h => bounds_t g i j (nm i) (tx i) w h hj hb)
  replace hH := Lib.hid hH
  have s1 := eOf_ge (tx i) j hj
  have s2 := eOf_le (tx i) j
  clear h
  go_enter Try.func21, Try.ntmps21
  go_wp2_with (first
    | (go_at_call 27; (with_reducible refine hF.out.mono ?_); rintro e w' ⟨g, rfl, hAt, rfl⟩; replace hAt := Lib.hid hAt)
    | (go_at_call 29; (with_reducible refine (hH.out _ _ hAt.out).mono ?_); rintro e w' ⟨rfl, rfl⟩)
    | (go_at_call 30; (with_reducible refine (hB.out _ _ hAt.out).mono ?_); rintro e w1 ⟨rfl, hb1⟩; have hAt1 := hAt.out.over hb1; obtain ⟨s, cap, h0, h1, h2, h3, h4⟩ := hAt1; clear h4))
  go_ret2
  exact ⟨rfl, hb1⟩
set_option maxHeartbeats 400000 in
theorem Pos_no (q n : Nat) (m o : Int) (nm tx : Nat → ByteArray) (w : World) (h : Tab w q n nm tx) (hm : m < 1 ∨ (n : Int) < m) :
    Calls Try.prog 18 #[.pointer (some ⟨q, 0, none⟩), .int .i64 m, .int .i64 o] w (RV w (.tuple #[pv 0 0 0, .int .i64 21])) := by
  have hF := Lib.hid (fun w h => file_no q n m nm tx w h hm)
  have h2 := Lib.hid (fun o => h.over ((Below.refl _ w).alloc (Nat.le_refl _) o))
  clear h hm
  go_enter Try.func18, Try.ntmps18
  go_wp2_with (go_at_call 27; (with_reducible refine (hF.out _ (h2.out _)).mono ?_); rintro e w' ⟨rfl, rfl⟩)
  refine bodyPost_ret (v := .tuple #[pv 0 0 0, .int .i64 21]) (by simp [results, Try.results18, go_sem]) rfl ⟨rfl, by go_grown⟩
end Go.Proofs.Ytegoldihcchfdaa
