/-
  The walks of the reference's Slice and Ext.
-/
import Derived.Test.YtmgkidfikikjpaaBf
namespace Go.Proofs.Ytmgkidfikikjpaa
open Go.RowKit
theorem sub_cells {w w' : World} {bb ob l m n : Nat} {f : Nat → Bool} (hcs : ∀ j, j < n → w.cell? ⟨bb, ob + j, none⟩ = some (.bool (f j))) (h : l + m ≤ n) (hb : Below w.heap.size w w') : ∀ j u, (bcs (fun j => f (l + j)) m)[j]? = some u → w'.cell? ((⟨bb, ob + l, none⟩ : Addr).add j) = some u := by
  intro j u hj
  have hjm : j < m := by
    rcases Nat.lt_or_ge j m with h' | h'
    · exact h'
    · rw [List.getElem?_eq_none (by rw [bcs_len]; exact h')] at hj; cases hj
  rw [bcs_get (fun j => f (l + j)) m j hjm] at hj
  have hadd : (⟨bb, ob + l, none⟩ : Addr).add j = ⟨bb, ob + (l + j), none⟩ := by unfold Addr.add; split <;> simp_all [Nat.add_assoc]
  rw [hadd, ← hj]
  exact cellB (hcs (l + j) (by omega)) hb
set_option maxRecDepth 100000 in
set_option maxHeartbeats 1000000 in
theorem refSlice_ok (n l m c : Nat) (A : Option Addr) (f : Nat → Bool) (w : World) (hn : n ≤ 140) (hc : n ≤ c) (hm : 1 ≤ m) (h : l + m ≤ n) (hA : RB w A n f) :
    Calls Try.prog 13 #[.slice A n c, .int .i64 (l : Int), .int .i64 (m : Int)] w (LB w m (fun j => f (l + j)) 0) := by
  obtain ⟨i0, hi, hz0, hz1, hz2⟩ := info_parts info_bool
  obtain ⟨b, off, rfl, hb, hcs⟩ := hA (by omega)
  obtain ⟨s, hs⟩ : ∃ s, l + m = s := ⟨_, rfl⟩
  have add : IntKind.i64.wrap ((l : Int) + (m : Int)) = (s : Int) := by rw [IntWalk.i64_in _ (by omega)]; omega
  have d0 : decide ((l : Int) < 0) = false := by simp
  have d1 : decide ((m : Int) < 1) = false := by simp; omega
  have d2 : decide ((n : Int) < (l : Int)) = false := by simp; omega
  have d2' : decide (n < l) = false := by simp; omega
  have d3 : decide ((n : Int) - (l : Int) < (m : Int)) = false := by simp; omega
  have k1 : l ≤ s := by omega
  have k2 : s ≤ c := by omega
  have k3 : ¬ c = l := by omega
  have em : s - l = m := by omega
  replace em := Lib.hid em
  replace hcs := Lib.hid hcs
  replace hs := Lib.hid hs
  go_enter Try.func13, Try.ntmps13
  go_wp2_with (at_builtin; refine wpList_append_lies _ rfl _ _ 22 rfl w.heap.size 4 i0 (.bool false) 1 1 Try.underlying22 hi hz0 hz1 hz2 rfl (by decide) _ _ _ rfl (World.ownsRow_made (base := w.heap.size) w #[] 0 (Nat.le_refl _) (by decide) (by simp)) ⟨b, off + l, none⟩ (s - l) (c - l) (bcs (fun j => f (l + j)) m) rfl ?c0 ?c1 ?c2 (by have := em.out; omega) ?c3 ?c4 ?c5 (w.heap.size + 1) (by simp) ?c6)
  case c0 => rw [bcs_len, em.out, Nat.mul_one]
  case c1 => exact sub_cells hcs.out (by omega) (by go_grown)
  case c2 => exact bcs_one _ m
  case c3 => unfold maxLen; have := em.out; omega
  case c4 => have := em.out; omega
  case c5 => rw [World.size_alloc]; omega
  case c6 =>
    intro g' cap' w1 hown1 hgrow hat hlt1
    have hbw1 : Below w.heap.size w w1 := ((Below.refl _ w).alloc (Nat.le_refl _) _).grown hgrow (by simp) (fun j e => by cases e; exact Nat.le_refl _)
    rw [em.out] at hown1 ⊢
    try simp only [Nat.zero_add, List.nil_append] at hown1
    obtain ⟨g2, cap2, e2, hR⟩ := ownB_form hown1 (by omega)
    cases e2
    replace hR := Lib.hid hR
    clear hown1 hgrow hat hlt1
    go_wp2_with fail
    go_ret2
    exact ⟨_, cap', rfl, hR.out, hbw1⟩
set_option maxRecDepth 100000 in
set_option maxHeartbeats 1000000 in
theorem refSlice_bad (n c : Nat) (l m : Int) (A : Option Addr) (h : Nat → Bool) (w : World) (hn : n ≤ 140) (hb : l < 0 ∨ m < 1 ∨ (n : Int) < l ∨ (n : Int) - l < m) :
    Calls Try.prog 13 #[.slice A n c, .int .i64 l, .int .i64 m] w (LB w 0 h 3) := by
  by_cases h0 : l < 0
  · have d0 : decide (l < 0) = true := by simp; omega
    go_enter Try.func13, Try.ntmps13
    go_wp2
    go_ret2
    exact ⟨none, 0, rfl, fun h => absurd h (by omega), Below.refl _ _⟩
  have d0 : decide (l < 0) = false := by simp; omega
  have d0' : ¬ l < 0 := by omega
  by_cases h1 : m < 1
  · have d1 : decide (m < 1) = true := by simp; omega
    go_enter Try.func13, Try.ntmps13
    go_wp2
    go_ret2
    exact ⟨none, 0, rfl, fun h => absurd h (by omega), Below.refl _ _⟩
  have d1 : decide (m < 1) = false := by simp; omega
  have d1' : ¬ m < 1 := by omega
  by_cases h2 : (n : Int) < l
  · have d2 : decide ((n : Int) < l) = true := by simp; omega
    go_enter Try.func13, Try.ntmps13
    go_wp2
    go_ret2
    exact ⟨none, 0, rfl, fun h => absurd h (by omega), Below.refl _ _⟩
  have d2 : decide ((n : Int) < l) = false := by simp; omega
  have d2' : ¬ (n : Int) < l := by omega
  have sub : IntKind.i64.wrap ((n : Int) - l) = (n : Int) - l := IntWalk.i64_in _ (by omega)
  have d3 : decide ((n : Int) - l < m) = true := by simp; omega
  have d3' : (n : Int) - l < m := by omega
  go_enter Try.func13, Try.ntmps13
  go_wp2
  go_ret2
  exact ⟨none, 0, rfl, fun h => absurd h (by omega), Below.refl _ _⟩
/-- Made wider: the bits that there are, then the sign or nothing. -/
def extB (f : Nat → Bool) (n : Nat) (s : Bool) (j : Nat) : Bool := if j < n then f j else s
set_option maxRecDepth 100000 in
set_option maxHeartbeats 2000000 in
theorem refExt_ok (n m c : Nat) (A : Option Addr) (f : Nat → Bool) (b : Bool) (w : World) (h1 : 1 ≤ n) (hn : n ≤ 140) (hm : 1 ≤ m) (hm2 : m ≤ 128) (hA : RB w A n f) :
    Calls Try.prog 19 #[.slice A n c, .int .i64 (m : Int), .bool b] w (LB w m (extB f n (b && f (n - 1))) 0) := by
  have hmk := run_make_row' 22 4 (.bool false) 1 Try.underlying22 info_bool rfl .i64 .i64 m (by omega) (by omega)
  have R0 := Lib.hid (World.rowIs_made w (.bool false) m 4)
  have cT := Lib.hid (fun w (h : RB w A n f) => refTop_ok n c A f w h1 hn h)
  have d1 : decide ((m : Int) < 1) = false := by simp; omega
  have d1' : ¬ (m : Int) < 1 := by omega
  have d2 : decide ((128 : Int) < (m : Int)) = false := by simp; omega
  have d2' : ¬ (128 : Int) < (m : Int) := by omega
  have n0 : ((n : Int) == 0) = false := by simp; omega
  have n0' : ((n == 0) = false) := by simp; omega
  replace hA := Lib.hid hA
  obtain ⟨tp, htp⟩ : ∃ tp, f (n - 1) = tp := ⟨_, rfl⟩
  rw [htp] at cT ⊢
  clear htp
  go_enter Try.func19, Try.ntmps19
  go_wp2_with fail
  go_loopw [9] (fun i wr => ∃ k : Nat, k ≤ m ∧ i = .int .i64 (k : Int) ∧ wr.rowIs w.heap.size 4 m (cutC (extB f n (b && tp)) k) ∧ Below w.heap.size w wr) (fun i _ => m - (intOf i).toNat)
  case atStart => exact ⟨0, Nat.zero_le _, rfl, World.rowIs.congr R0.out fun j hj => by unfold cutC; simp, by go_grown⟩
  case round =>
    obtain ⟨k, hk, rfl, R, hbw⟩ := hrel
    clear R0 hmk n0 n0' d1 d1' d2 d2'
    by_cases hlt : k < m
    · have hcr : wr.cell? ⟨w.heap.size, k, none⟩ = some (.bool false) := by rw [World.rowIs.cell R hlt]; unfold cutC; simp
      have hf := World.rowIs.frozen R
      have st := Lib.hid (fun v (hv : v = extB f n (b && tp) k) j (hj : j < m) => (show (if j = k then Value.bool v else cutC (extB f n (b && tp)) k j) = cutC (extB f n (b && tp)) (k + 1) j from by
        by_cases hj1 : j = k
        · subst hj1; rw [if_pos rfl, hv]; unfold cutC; simp
        · rw [if_neg hj1]; unfold cutC; congr 2; rw [Bool.eq_iff_iff]; simp; omega))
      by_cases hkn : k < n
      · obtain ⟨b0, off, rfl, hb, hc⟩ := (hA.out.keep hbw) (by omega)
        have hck := hc k hkn
        have hv : f k = extB f n (b && tp) k := by unfold extB; rw [if_pos hkn]
        have hd : decide ((k : Int) < (n : Int)) = true := by simp; omega
        clear hc
        obtain ⟨bx, hbx⟩ : ∃ bk, f k = bk := ⟨_, rfl⟩
        rw [hbx] at hck hv
        replace hv := Lib.hid hv
        clear hbx
        rcases hA.out (by omega) with ⟨b3, o3, e3, l3, _⟩
        cases e3
        have hne : ¬ b0 = w.heap.size := by omega
        have hne2 : ¬ w.heap.size = b0 := by omega
        go_wp2_with fail
        go_roundw
        case rel => exact ⟨k + 1, by omega, by go_num, World.rowIs.congr (World.rowIs.set R k _) fun j hj => st.out _ hv.out j hj, by go_grown⟩
        case measure => simp [intOf]; omega
      · have hd : decide ((k : Int) < (n : Int)) = false := by simp; omega
        have hv : (b && tp) = extB f n (b && tp) k := by unfold extB; rw [if_neg hkn]
        cases b
        · have hv2 := Lib.hid (show false = extB f n (false && tp) k from hv)
          clear hv
          go_wp2_with fail
          go_roundw
          case rel => exact ⟨k + 1, by omega, by go_num, World.rowIs.congr (World.rowIs.set R k _) fun j hj => st.out _ hv2.out j hj, by go_grown⟩
          case measure => simp [intOf]; omega
        · have hv2 := Lib.hid (show tp = extB f n (true && tp) k from hv)
          clear hv
          go_wp2_with fail
          (with_reducible refine (cT.out _ (hA.out.keep hbw)).mono ?_)
          rintro e wr ⟨rfl, rfl⟩
          go_wp2_with fail
          go_roundw
          case rel => exact ⟨k + 1, by omega, by go_num, World.rowIs.congr (World.rowIs.set R k _) fun j hj => st.out _ hv2.out j hj, by go_grown⟩
          case measure => simp [intOf]; omega
    · obtain rfl : k = m := by omega
      have R2 := RB_row (h := extB f n (b && tp)) (World.rowIs.congr R fun j hj => by unfold cutC; simp [hj])
      replace R2 := Lib.hid R2
      clear R
      go_wp2_with fail
      go_ret2
      exact ⟨_, _, rfl, R2.out, hbw⟩
set_option maxRecDepth 100000 in
set_option maxHeartbeats 1000000 in
theorem refExt_bad (n c : Nat) (m : Int) (A : Option Addr) (b : Bool) (h : Nat → Bool) (w : World) (hb : m < 1 ∨ 128 < m ∨ n = 0) :
    Calls Try.prog 19 #[.slice A n c, .int .i64 m, .bool b] w (LB w 0 h 2) := by
  by_cases h0 : m < 1
  · have d0 : decide (m < 1) = true := by simp; omega
    go_enter Try.func19, Try.ntmps19
    go_wp2
    go_ret2
    exact ⟨none, 0, rfl, fun h => absurd h (by omega), Below.refl _ _⟩
  have d0 : decide (m < 1) = false := by simp; omega
  have d0' : ¬ m < 1 := by omega
  by_cases h1 : 128 < m
  · have d1 : decide (128 < m) = true := by simp; omega
    go_enter Try.func19, Try.ntmps19
    go_wp2
    go_ret2
    exact ⟨none, 0, rfl, fun h => absurd h (by omega), Below.refl _ _⟩
  have d1 : decide (128 < m) = false := by simp; omega
  have d1' : ¬ 128 < m := by omega
  obtain rfl : n = 0 := by omega
  go_enter Try.func19, Try.ntmps19
  go_wp2
  go_ret2
  exact ⟨none, 0, rfl, fun h => absurd h (by omega), Below.refl _ _⟩
end Go.Proofs.Ytmgkidfikikjpaa
