/-
  The walk of the statement SrcLines, at every text and number.
-/
import Derived.Test.YtegoldihcchfdaaTa
namespace Go.Proofs.Ytegoldihcchfdaa
open Go.RowKit
theorem x_name : nameB ⟨#[120]⟩ = true := by decide
theorem Line_ok1 (b : ByteArray) (q k : Nat) (w : World) (h : Tab w q 1 (fun _ => ⟨#[120]⟩) (fun _ => b)) (hk : k < nOf b) (hb : b.size ≤ 17592186000000) :
    Calls Try.prog 21 #[.pointer (some ⟨q, 0, none⟩), .int .i64 1, .int .i64 ((k : Int) + 1)] w (RV w (.tuple #[.string (lineB b k), .int .i64 0])) :=
  by have h := Line_ok q 1 0 k (fun _ => ⟨#[120]⟩) (fun _ => b) w h (by omega) (by omega) hk hb; rw [show ((0 : Nat) : Int) + 1 = 1 from rfl] at h; exact h
theorem Line_bad1 (b : ByteArray) (q : Nat) (n : Int) (w : World) (h : Tab w q 1 (fun _ => ⟨#[120]⟩) (fun _ => b)) (hn : hasB b n = false) :
    Calls Try.prog 21 #[.pointer (some ⟨q, 0, none⟩), .int .i64 1, .int .i64 n] w (RV w (.tuple #[.string ⟨#[]⟩, .int .i64 3])) :=
  by have h := Line_bad q 1 0 n (fun _ => ⟨#[120]⟩) (fun _ => b) w h (by omega) (by omega) hn; rw [show ((0 : Nat) : Int) + 1 = 1 from rfl] at h; exact h
theorem Lines_ok1 (b : ByteArray) (q : Nat) (w : World) (h : Tab w q 1 (fun _ => ⟨#[120]⟩) (fun _ => b)) :
    Calls Try.prog 15 #[.pointer (some ⟨q, 0, none⟩), .int .i64 1] w fun e w' => e = .returned (.int .i64 ((nOf b : Nat) : Int)) ∧ w = w' :=
  by have h := Lines_ok q 1 0 (fun _ => ⟨#[120]⟩) (fun _ => b) w h (by omega) (by omega); rw [show ((0 : Nat) : Int) + 1 = 1 from rfl] at h; exact h
theorem cut_size (s : ByteArray) (h : 2000 < s.size) : (s.extract 0 2000).size ≤ 2000 := by
  simp; omega
set_option maxHeartbeats 1000000 in
set_option maxRecDepth 100000 in
theorem Lines_short (b : ByteArray) (n : Int) (w : World) (hb : b.size ≤ 2000) : Calls Try.prog 5 #[.string b, .int .i64 n] w (RV w (.bool true)) := by
  have hN := Lib.hid (fun (w : World) (g : Nat) (hg : g = w.heap.size) => New_one ⟨#[120]⟩ b g w hg x_name (by omega))
  have hR := Lib.hid (fun w => refLines_t b w (by omega))
  have hLk := Lib.hid (fun (w : World) (q k : Nat) (h : Tab w q 1 (fun _ => ⟨#[120]⟩) (fun _ => b)) (hk : k < nOf b) => Line_ok1 b q k w h hk (by omega))
  have hLn := Lib.hid (fun (w : World) (q : Nat) (h : Tab w q 1 (fun _ => ⟨#[120]⟩) (fun _ => b)) (hn : hasB b n = false) => Line_bad1 b q n w h hn)
  have hL2 := Lib.hid (fun (w : World) (q : Nat) (h : Tab w q 1 (fun _ => ⟨#[120]⟩) (fun _ => b)) => Line_no q 1 2 1 _ _ w h (.inr (by omega)))
  have hLs := Lib.hid (fun (w : World) (q : Nat) (h : Tab w q 1 (fun _ => ⟨#[120]⟩) (fun _ => b)) => Lines_ok1 b q w h)
  have hnb : nOf b ≤ b.size + 1 := plL_le b _
  have hn1 : 1 ≤ nOf b := plL_pos b _
  have d0 : ¬ 2000 < b.size := by omega
  go_enter Try.func5, Try.ntmps5
  go_wp2_with fail
  (with_reducible refine (awake_t _).mono ?_)
  rintro e w1 ⟨rfl, hbw1⟩
  have z1 := hbw1.size
  go_wp2_with fail
  (with_reducible refine (hN.out _ _ rfl).mono ?_)
  rintro e w2 ⟨q, rfl, T2, hb2⟩
  have hbw2 : Below w.heap.size w w2 := below_call hb2 (by go_grown)
  replace T2 := Lib.hid T2
  clear hb2 hbw1
  go_wp2_with fail
  (with_reducible refine (hR.out _).mono ?_)
  rintro e w3 ⟨g, cap, rfl, hc3, hb3⟩
  have hbw3 : Below w.heap.size w w3 := below_call hb3 hbw2
  have T3 := Lib.hid (T2.out.over hb3)
  replace hc3 := Lib.hid hc3
  clear hb3 hbw2 T2
  go_wp2_with fail
  go_loopw [33] (fun i wr => ∃ k : Nat, k ≤ nOf b ∧ i = .int .i64 (k : Int) ∧ Tab wr q 1 (fun _ => ⟨#[120]⟩) (fun _ => b) ∧ (∀ j, j < nOf b → wr.cell? ⟨g, j, none⟩ = some (.string (lineB b j))) ∧ Below w.heap.size w wr) (fun i _ => nOf b - (intOf i).toNat)
  case atStart => exact ⟨0, Nat.zero_le _, rfl, T3.out, hc3.out, hbw3⟩
  case round =>
    obtain ⟨k, hk, rfl, T, hc, hbw⟩ := hrel
    clear hc3 T3 hbw3
    replace T := Lib.hid T
    by_cases hlt : k < nOf b
    · have c0 := hc k hlt
      replace hc := Lib.hid hc
      go_wp2_with fail
      (with_reducible refine (hLk.out _ _ _ T.out hlt).mono ?_)
      rintro e w4 ⟨rfl, hb4⟩
      have hbw4 : Below w.heap.size w w4 := below_call hb4 hbw
      have T4 := Lib.hid (T.out.over hb4)
      have hc4 := Lib.hid (fun j hj => cell_over (hc.out j hj) hb4)
      clear hb4 hbw T hc c0
      go_wp2_with fail
      go_roundw
      case rel => exact ⟨k + 1, by omega, by go_num, T4.out, hc4.out, hbw4⟩
      case measure => simp [intOf]; omega
    · obtain rfl : k = nOf b := by omega
      clear hc
      by_cases hn : hasB b n = true
      · have h1 : 1 ≤ n ∧ n ≤ (nOf b : Int) := by unfold hasB at hn; simpa using hn
        obtain ⟨j, rfl⟩ : ∃ j : Nat, n = (j : Int) + 1 := ⟨(n - 1).toNat, by omega⟩
        have hj : j < nOf b := by omega
        have hj1 : (j : Int) + 1 ≤ (nOf b : Int) := by omega
        have hj2 : decide ((nOf b : Int) < (j : Int) + 1) = false := by simp; omega
        clear hn
        go_wp2_with fail
        (with_reducible refine (hLk.out _ _ _ T.out hj).mono ?_)
        rintro e w4 ⟨rfl, hb4⟩
        have hbw4 : Below w.heap.size w w4 := below_call hb4 hbw
        have T4 := Lib.hid (T.out.over hb4)
        clear hb4 hbw T
        go_wp2_with fail
        (with_reducible refine (hL2.out _ _ T4.out).mono ?_)
        rintro e w5 ⟨rfl, hb5⟩
        have hbw5 : Below w.heap.size w w5 := below_call hb5 hbw4
        have T5 := Lib.hid (T4.out.over hb5)
        clear hb5 hbw4 T4
        go_wp2_with fail
        (with_reducible refine (hLs.out _ _ T5.out).mono ?_)
        rintro e w6 ⟨rfl, rfl⟩
        go_wp2_with fail
        go_ret
        exact ⟨ret_bool (by simp), hbw5⟩
      · have hn2 : hasB b n = false := by simpa using hn
        have h1 : n < 1 ∨ (nOf b : Int) < n := by unfold hasB at hn2; simp at hn2; omega
        clear hn
        rcases h1 with h1 | h1
        all_goals
          go_wp2_with fail
          (with_reducible refine (hLn.out _ _ T.out hn2).mono ?_)
          rintro e w4 ⟨rfl, hb4⟩
          have hbw4 : Below w.heap.size w w4 := below_call hb4 hbw
          have T4 := Lib.hid (T.out.over hb4)
          clear hb4 hbw T
          try (have h0 : ¬ n < 1 := by omega)
          go_wp2_with fail
          (with_reducible refine (hL2.out _ _ T4.out).mono ?_)
          rintro e w5 ⟨rfl, hb5⟩
          have hbw5 : Below w.heap.size w w5 := below_call hb5 hbw4
          have T5 := Lib.hid (T4.out.over hb5)
          clear hb5 hbw4 T4
          go_wp2_with fail
          (with_reducible refine (hLs.out _ _ T5.out).mono ?_)
          rintro e w6 ⟨rfl, rfl⟩
          go_wp2_with fail
          go_ret
          exact ⟨ret_bool (by simp), hbw5⟩
set_option maxHeartbeats 1000000 in
set_option maxRecDepth 100000 in
theorem Lines_long (s b : ByteArray) (hl : 2000 < s.size) (hbe : s.extract 0 2000 = b) (n : Int) (w : World) (hb : b.size ≤ 2000) : Calls Try.prog 5 #[.string s, .int .i64 n] w (RV w (.bool true)) := by
  have hN := Lib.hid (fun (w : World) (g : Nat) (hg : g = w.heap.size) => New_one ⟨#[120]⟩ b g w hg x_name (by omega))
  have hR := Lib.hid (fun w => refLines_t b w (by omega))
  have hLk := Lib.hid (fun (w : World) (q k : Nat) (h : Tab w q 1 (fun _ => ⟨#[120]⟩) (fun _ => b)) (hk : k < nOf b) => Line_ok1 b q k w h hk (by omega))
  have hLn := Lib.hid (fun (w : World) (q : Nat) (h : Tab w q 1 (fun _ => ⟨#[120]⟩) (fun _ => b)) (hn : hasB b n = false) => Line_bad1 b q n w h hn)
  have hL2 := Lib.hid (fun (w : World) (q : Nat) (h : Tab w q 1 (fun _ => ⟨#[120]⟩) (fun _ => b)) => Line_no q 1 2 1 _ _ w h (.inr (by omega)))
  have hLs := Lib.hid (fun (w : World) (q : Nat) (h : Tab w q 1 (fun _ => ⟨#[120]⟩) (fun _ => b)) => Lines_ok1 b q w h)
  have hnb : nOf b ≤ b.size + 1 := plL_le b _
  have hn1 : 1 ≤ nOf b := plL_pos b _
  replace hbe := Lib.hid hbe
  go_enter Try.func5, Try.ntmps5
  go_wp2_with fail
  (with_reducible refine (awake_t _).mono ?_)
  rintro e w1 ⟨rfl, hbw1⟩
  have z1 := hbw1.size
  go_wp2_with fail
  simp only [hbe.out]
  (with_reducible refine (hN.out _ _ rfl).mono ?_)
  rintro e w2 ⟨q, rfl, T2, hb2⟩
  have hbw2 : Below w.heap.size w w2 := below_call hb2 (by go_grown)
  replace T2 := Lib.hid T2
  clear hb2 hbw1
  go_wp2_with fail
  (with_reducible refine (hR.out _).mono ?_)
  rintro e w3 ⟨g, cap, rfl, hc3, hb3⟩
  have hbw3 : Below w.heap.size w w3 := below_call hb3 hbw2
  have T3 := Lib.hid (T2.out.over hb3)
  replace hc3 := Lib.hid hc3
  clear hb3 hbw2 T2
  go_wp2_with fail
  go_loopw [33] (fun i wr => ∃ k : Nat, k ≤ nOf b ∧ i = .int .i64 (k : Int) ∧ Tab wr q 1 (fun _ => ⟨#[120]⟩) (fun _ => b) ∧ (∀ j, j < nOf b → wr.cell? ⟨g, j, none⟩ = some (.string (lineB b j))) ∧ Below w.heap.size w wr) (fun i _ => nOf b - (intOf i).toNat)
  case atStart => exact ⟨0, Nat.zero_le _, rfl, T3.out, hc3.out, hbw3⟩
  case round =>
    obtain ⟨k, hk, rfl, T, hc, hbw⟩ := hrel
    clear hc3 T3 hbw3
    replace T := Lib.hid T
    by_cases hlt : k < nOf b
    · have c0 := hc k hlt
      replace hc := Lib.hid hc
      go_wp2_with fail
      (with_reducible refine (hLk.out _ _ _ T.out hlt).mono ?_)
      rintro e w4 ⟨rfl, hb4⟩
      have hbw4 : Below w.heap.size w w4 := below_call hb4 hbw
      have T4 := Lib.hid (T.out.over hb4)
      have hc4 := Lib.hid (fun j hj => cell_over (hc.out j hj) hb4)
      clear hb4 hbw T hc c0
      go_wp2_with fail
      go_roundw
      case rel => exact ⟨k + 1, by omega, by go_num, T4.out, hc4.out, hbw4⟩
      case measure => simp [intOf]; omega
    · obtain rfl : k = nOf b := by omega
      clear hc
      by_cases hn : hasB b n = true
      · have h1 : 1 ≤ n ∧ n ≤ (nOf b : Int) := by unfold hasB at hn; simpa using hn
        obtain ⟨j, rfl⟩ : ∃ j : Nat, n = (j : Int) + 1 := ⟨(n - 1).toNat, by omega⟩
        have hj : j < nOf b := by omega
        have hj1 : (j : Int) + 1 ≤ (nOf b : Int) := by omega
        have hj2 : decide ((nOf b : Int) < (j : Int) + 1) = false := by simp; omega
        clear hn
        go_wp2_with fail
        (with_reducible refine (hLk.out _ _ _ T.out hj).mono ?_)
        rintro e w4 ⟨rfl, hb4⟩
        have hbw4 : Below w.heap.size w w4 := below_call hb4 hbw
        have T4 := Lib.hid (T.out.over hb4)
        clear hb4 hbw T
        go_wp2_with fail
        (with_reducible refine (hL2.out _ _ T4.out).mono ?_)
        rintro e w5 ⟨rfl, hb5⟩
        have hbw5 : Below w.heap.size w w5 := below_call hb5 hbw4
        have T5 := Lib.hid (T4.out.over hb5)
        clear hb5 hbw4 T4
        go_wp2_with fail
        (with_reducible refine (hLs.out _ _ T5.out).mono ?_)
        rintro e w6 ⟨rfl, rfl⟩
        go_wp2_with fail
        go_ret
        exact ⟨ret_bool (by simp), hbw5⟩
      · have hn2 : hasB b n = false := by simpa using hn
        have h1 : n < 1 ∨ (nOf b : Int) < n := by unfold hasB at hn2; simp at hn2; omega
        clear hn
        rcases h1 with h1 | h1
        all_goals
          go_wp2_with fail
          (with_reducible refine (hLn.out _ _ T.out hn2).mono ?_)
          rintro e w4 ⟨rfl, hb4⟩
          have hbw4 : Below w.heap.size w w4 := below_call hb4 hbw
          have T4 := Lib.hid (T.out.over hb4)
          clear hb4 hbw T
          try (have h0 : ¬ n < 1 := by omega)
          go_wp2_with fail
          (with_reducible refine (hL2.out _ _ T4.out).mono ?_)
          rintro e w5 ⟨rfl, hb5⟩
          have hbw5 : Below w.heap.size w w5 := below_call hb5 hbw4
          have T5 := Lib.hid (T4.out.over hb5)
          clear hb5 hbw4 T4
          go_wp2_with fail
          (with_reducible refine (hLs.out _ _ T5.out).mono ?_)
          rintro e w6 ⟨rfl, rfl⟩
          go_wp2_with fail
          go_ret
          exact ⟨ret_bool (by simp), hbw5⟩
theorem SrcLines_all (s : ByteArray) (n : Int) (w : World) : Calls Try.prog 5 #[.string s, .int .i64 n] w (RV w (.bool true)) := by
  by_cases h : 2000 < s.size
  · exact Lines_long s _ h rfl n w (cut_size s h)
  · exact Lines_short s n w (by omega)
end Go.Proofs.Ytegoldihcchfdaa
