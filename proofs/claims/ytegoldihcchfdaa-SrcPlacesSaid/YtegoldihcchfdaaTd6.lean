/-
  Walks of the statement SrcPlaces: Td6.
-/
import Derived.Test.YtegoldihcchfdaaTd0
namespace Go.Proofs.Ytegoldihcchfdaa
open Go.RowKit
set_option maxHeartbeats 2000000 in
set_option maxRecDepth 100000 in
theorem Pl_lcn (s b : ByteArray) (hl : 2000 < s.size) (hbe : s.extract 0 2000 = b) (k : Nat) (hk : k ≤ b.size) (p0 : Int) (l c : Int) (hp : hasB b l = false) (w : World) (hb : b.size ≤ 2000) : Calls Try.prog 4 #[.string s, .int .i64 (k : Int), pv p0 l c] w (RV w (.bool true)) := by
  have hN := Lib.hid (fun (w : World) (g : Nat) (hg : g = w.heap.size) => New_two b g w hg (by omega))
  have hP3 := Lib.hid (fun (w : World) (q : Nat) (h : Tab w q 2 nmx (txx b)) => Pos_no q 2 3 0 _ _ w h (.inr (by omega)))
  have hO0 := Lib.hid (fun (w : World) (q : Nat) (h : Tab w q 2 nmx (txx b)) => Offset_no q 2 0 1 1 _ _ w h (.inl (by omega)))
  have hP := Lib.hid (fun (w : World) (q : Nat) (h : Tab w q 2 nmx (txx b)) => Pos_ok2 b q k w h hk (by omega))
  have hQ := Lib.hid (fun w => place_t b k w hk (by omega))
  have hO := Lib.hid (fun (w : World) (q : Nat) (h : Tab w q 2 nmx (txx b)) => Offset_back b q k w h hk (by omega))
  have eqq := neq_pos 2 (plL b k : Nat) (plC b k : Nat) 2 (plL b k : Nat) (plC b k : Nat)
  have hks : ¬ ((b.size : Int) < (k : Int)) := by omega
  have hk0 : ¬ ((k : Int) < 0) := by omega
  have hg := guard_pos
  have hF := Lib.hid (fun (w : World) (q : Nat) (h : Tab w q 2 nmx (txx b)) => Offset_none2 b q l c w h hp)
  have hne := Lib.hid (fun (i : Nat) (hi : i ≤ b.size) => no_line b l c hp i hi)
  have hR := Lib.hid (fun i w hi => place_t b i w hi (by omega))
  clear hp
  replace hbe := Lib.hid hbe
  go_enter Try.func4, Try.ntmps4
  go_wp2_with fail
  (with_reducible refine (awake_t _).mono ?_)
  rintro e w1 ⟨rfl, hb1⟩
  have V1 : PV w1 w.heap.size p0 l c := (R3.new w 44 (.int .i64 p0) (.int .i64 l) (.int .i64 c)).over hb1
  have hbw1 : Below w.heap.size w w1 := below_call hb1 (by go_grown)
  have z1 := hbw1.size
  have zV := V1.lt
  clear hb1
  go_wp2_with fail
  simp only [hbe.out]
  have V := V1.alloc (.cells #[.string ⟨#[120]⟩, .string ⟨#[]⟩, .string ⟨#[121]⟩, .string b] 34)
  clear V1
  (with_reducible refine (hN.out _ _ rfl).mono ?_)
  rintro e w2 ⟨q, rfl, T2, hb2⟩
  have hbw2 : Below w.heap.size w w2 := below_call hb2 (by go_grown)
  have z2 := hb2.size
  simp only [World.size_alloc] at z2
  replace V := V.over hb2
  replace T2 := Lib.hid T2
  clear hb2 hbw1
  go_wp2_with fail
  (with_reducible refine (hP.out _ _ T2.out).mono ?_)
  rintro e w3 ⟨rfl, hb3⟩
  have hbw3 : Below w.heap.size w w3 := below_call hb3 (by go_grown)
  have z3 := hb3.size
  try simp only [World.size_alloc, World.size_setCell] at z3
  have T3 := Lib.hid (T2.out.over hb3)
  replace V := V.over hb3
  have v := V.all
  clear hb3
  have T3a := Lib.hid (fun o => T3.out.over ((Below.refl _ w3).alloc (Nat.le_refl _) o))
  clear T2 hbw2
  go_wp2_with fail
  (with_reducible refine (hQ.out _).mono ?_)
  rintro e w4 ⟨rfl, rfl⟩
  go_wp2_with fail
  replace V := V.alloc (.cells #[.int .i64 2, .int .i64 ((plL b k : Nat) : Int), .int .i64 ((plC b k : Nat) : Int)] 44)
  clear v
  have Q4 := R3.new w3 44 (.int .i64 2) (.int .i64 ((plL b k : Nat) : Int)) (.int .i64 ((plC b k : Nat) : Int))
  (with_reducible refine (hO.out _ _ (T3a.out _)).mono ?_)
  rintro e w5 ⟨rfl, hb5⟩
  have hbw5 : Below w.heap.size w w5 := below_call hb5 (by go_grown)
  have z5 := hb5.size
  rw [World.size_alloc] at z5
  have T5 := Lib.hid (Tab.over (T3a.out _) hb5)
  replace V := V.over hb5
  replace Q4 := Q4.over hb5
  have v := V.all
  have q4 := Q4.all
  clear hb5 T3 T3a hbw3
  go_wp2_with fail
  clear q4 Q4
  have T6 := Lib.hid (T5.out.set1 V 2)
  have V6 : PV (w5.setCell ⟨w.heap.size, 0, none⟩ (.int .i64 2)) w.heap.size 2 l c := PV.set0 V 2
  have hbw6 : Below w.heap.size w (w5.setCell ⟨w.heap.size, 0, none⟩ (.int .i64 2)) := hbw5.setCell (Nat.le_refl _) _
  clear V
  (with_reducible refine (hF.out _ _ T6.out).mono ?_)
  rintro e w7 ⟨rfl, hb7⟩
  have hbw7 : Below w.heap.size w w7 := below_call hb7 hbw6
  have T7 := Lib.hid (T6.out.over hb7)
  have V := V6.over hb7
  have z7 := V.lt
  have v := V.all
  clear hb7 T6 V6 hbw6
  go_wp2_with fail
  go_loop [15] (fun i => ∃ x : Nat, x ≤ b.size + 1 ∧ i = .int .i64 (x : Int)) (fun i => b.size + 1 - (intOf i).toNat)
  case atStart => exact ⟨0, Nat.zero_le _, rfl⟩
  case round =>
    obtain ⟨x, hx, rfl⟩ := hrel
    by_cases hlt : x ≤ b.size
    · have hnx := hne.out x hlt
      by_cases hxl : ((plL b x : Nat) : Int) = l
      · have e1 : (((plL b x : Nat) : Int) == l) = true := by simpa using hxl
        have e2 : (((plC b x : Nat) : Int) == c) = false := by simp; exact fun h => hnx ⟨hxl, h⟩
        clear hnx hxl
        go_wp2_with fail
        (with_reducible refine (hR.out _ _ hlt).mono ?_)
        rintro e w8 ⟨rfl, rfl⟩
        go_wp2_with fail
        go_round
        case rel => exact ⟨x + 1, by omega, by go_num⟩
        case measure => simp [intOf]; omega
      · have e1 : (((plL b x : Nat) : Int) == l) = false := by simpa using hxl
        clear hnx hxl
        go_wp2_with fail
        (with_reducible refine (hR.out _ _ hlt).mono ?_)
        rintro e w8 ⟨rfl, rfl⟩
        go_wp2_with fail
        go_round
        case rel => exact ⟨x + 1, by omega, by go_num⟩
        case measure => simp [intOf]; omega
    · have hlt2 : ¬ ((x : Int) ≤ (b.size : Int)) := by omega
      go_wp2_with fail
      go_ret
      exact ⟨rfl, hbw7⟩
set_option maxHeartbeats 2000000 in
set_option maxRecDepth 100000 in
theorem Pl_lcm (s b : ByteArray) (hl : 2000 < s.size) (hbe : s.extract 0 2000 = b) (k : Nat) (hk : k ≤ b.size) (p0 : Int) (j : Nat) (c : Int) (hj : j < nOf b) (hp : ¬ (1 ≤ c ∧ c ≤ (eOf b j : Int) - (sOf b j : Int) + 1)) (w : World) (hb : b.size ≤ 2000) : Calls Try.prog 4 #[.string s, .int .i64 (k : Int), pv p0 ((j : Int) + 1) c] w (RV w (.bool true)) := by
  have hN := Lib.hid (fun (w : World) (g : Nat) (hg : g = w.heap.size) => New_two b g w hg (by omega))
  have hP3 := Lib.hid (fun (w : World) (q : Nat) (h : Tab w q 2 nmx (txx b)) => Pos_no q 2 3 0 _ _ w h (.inr (by omega)))
  have hO0 := Lib.hid (fun (w : World) (q : Nat) (h : Tab w q 2 nmx (txx b)) => Offset_no q 2 0 1 1 _ _ w h (.inl (by omega)))
  have hP := Lib.hid (fun (w : World) (q : Nat) (h : Tab w q 2 nmx (txx b)) => Pos_ok2 b q k w h hk (by omega))
  have hQ := Lib.hid (fun w => place_t b k w hk (by omega))
  have hO := Lib.hid (fun (w : World) (q : Nat) (h : Tab w q 2 nmx (txx b)) => Offset_back b q k w h hk (by omega))
  have eqq := neq_pos 2 (plL b k : Nat) (plC b k : Nat) 2 (plL b k : Nat) (plC b k : Nat)
  have hks : ¬ ((b.size : Int) < (k : Int)) := by omega
  have hk0 : ¬ ((k : Int) < 0) := by omega
  have hg := guard_pos
  have hF := fun (w : World) (q : Nat) (h : Tab w q 2 nmx (txx b)) => Offset_line2 b q j c w h hj (by omega)
  simp only [if_neg hp] at hF
  replace hF := Lib.hid hF
  have hne := Lib.hid (fun (i : Nat) (hi : i ≤ b.size) => no_col b j c hj hp i hi)
  have hR := Lib.hid (fun i w hi => place_t b i w hi (by omega))
  clear hp
  replace hbe := Lib.hid hbe
  go_enter Try.func4, Try.ntmps4
  go_wp2_with fail
  (with_reducible refine (awake_t _).mono ?_)
  rintro e w1 ⟨rfl, hb1⟩
  have V1 : PV w1 w.heap.size p0 ((j : Int) + 1) c := (R3.new w 44 (.int .i64 p0) (.int .i64 ((j : Int) + 1)) (.int .i64 c)).over hb1
  have hbw1 : Below w.heap.size w w1 := below_call hb1 (by go_grown)
  have z1 := hbw1.size
  have zV := V1.lt
  clear hb1
  go_wp2_with fail
  simp only [hbe.out]
  have V := V1.alloc (.cells #[.string ⟨#[120]⟩, .string ⟨#[]⟩, .string ⟨#[121]⟩, .string b] 34)
  clear V1
  (with_reducible refine (hN.out _ _ rfl).mono ?_)
  rintro e w2 ⟨q, rfl, T2, hb2⟩
  have hbw2 : Below w.heap.size w w2 := below_call hb2 (by go_grown)
  have z2 := hb2.size
  simp only [World.size_alloc] at z2
  replace V := V.over hb2
  replace T2 := Lib.hid T2
  clear hb2 hbw1
  go_wp2_with fail
  (with_reducible refine (hP.out _ _ T2.out).mono ?_)
  rintro e w3 ⟨rfl, hb3⟩
  have hbw3 : Below w.heap.size w w3 := below_call hb3 (by go_grown)
  have z3 := hb3.size
  try simp only [World.size_alloc, World.size_setCell] at z3
  have T3 := Lib.hid (T2.out.over hb3)
  replace V := V.over hb3
  have v := V.all
  clear hb3
  have T3a := Lib.hid (fun o => T3.out.over ((Below.refl _ w3).alloc (Nat.le_refl _) o))
  clear T2 hbw2
  go_wp2_with fail
  (with_reducible refine (hQ.out _).mono ?_)
  rintro e w4 ⟨rfl, rfl⟩
  go_wp2_with fail
  replace V := V.alloc (.cells #[.int .i64 2, .int .i64 ((plL b k : Nat) : Int), .int .i64 ((plC b k : Nat) : Int)] 44)
  clear v
  have Q4 := R3.new w3 44 (.int .i64 2) (.int .i64 ((plL b k : Nat) : Int)) (.int .i64 ((plC b k : Nat) : Int))
  (with_reducible refine (hO.out _ _ (T3a.out _)).mono ?_)
  rintro e w5 ⟨rfl, hb5⟩
  have hbw5 : Below w.heap.size w w5 := below_call hb5 (by go_grown)
  have z5 := hb5.size
  rw [World.size_alloc] at z5
  have T5 := Lib.hid (Tab.over (T3a.out _) hb5)
  replace V := V.over hb5
  replace Q4 := Q4.over hb5
  have v := V.all
  have q4 := Q4.all
  clear hb5 T3 T3a hbw3
  go_wp2_with fail
  clear q4 Q4
  have T6 := Lib.hid (T5.out.set1 V 2)
  have V6 : PV (w5.setCell ⟨w.heap.size, 0, none⟩ (.int .i64 2)) w.heap.size 2 ((j : Int) + 1) c := PV.set0 V 2
  have hbw6 : Below w.heap.size w (w5.setCell ⟨w.heap.size, 0, none⟩ (.int .i64 2)) := hbw5.setCell (Nat.le_refl _) _
  clear V
  (with_reducible refine (hF.out _ _ T6.out).mono ?_)
  rintro e w7 ⟨rfl, hb7⟩
  have hbw7 : Below w.heap.size w w7 := below_call hb7 hbw6
  have T7 := Lib.hid (T6.out.over hb7)
  have V := V6.over hb7
  have z7 := V.lt
  have v := V.all
  clear hb7 T6 V6 hbw6
  go_wp2_with fail
  go_loop [15] (fun i => ∃ x : Nat, x ≤ b.size + 1 ∧ i = .int .i64 (x : Int)) (fun i => b.size + 1 - (intOf i).toNat)
  case atStart => exact ⟨0, Nat.zero_le _, rfl⟩
  case round =>
    obtain ⟨x, hx, rfl⟩ := hrel
    by_cases hlt : x ≤ b.size
    · have hnx := hne.out x hlt
      by_cases hxl : ((plL b x : Nat) : Int) = ((j : Int) + 1)
      · have e1 : (((plL b x : Nat) : Int) == ((j : Int) + 1)) = true := by simpa using hxl
        have e2 : (((plC b x : Nat) : Int) == c) = false := by simp; exact fun h => hnx ⟨hxl, h⟩
        clear hnx hxl
        go_wp2_with fail
        (with_reducible refine (hR.out _ _ hlt).mono ?_)
        rintro e w8 ⟨rfl, rfl⟩
        go_wp2_with fail
        go_round
        case rel => exact ⟨x + 1, by omega, by go_num⟩
        case measure => simp [intOf]; omega
      · have e1 : (((plL b x : Nat) : Int) == ((j : Int) + 1)) = false := by simpa using hxl
        clear hnx hxl
        go_wp2_with fail
        (with_reducible refine (hR.out _ _ hlt).mono ?_)
        rintro e w8 ⟨rfl, rfl⟩
        go_wp2_with fail
        go_round
        case rel => exact ⟨x + 1, by omega, by go_num⟩
        case measure => simp [intOf]; omega
    · have hlt2 : ¬ ((x : Int) ≤ (b.size : Int)) := by omega
      go_wp2_with fail
      go_ret
      exact ⟨rfl, hbw7⟩
set_option maxHeartbeats 2000000 in
set_option maxRecDepth 100000 in
theorem Pl_lcy (s b : ByteArray) (hl : 2000 < s.size) (hbe : s.extract 0 2000 = b) (k : Nat) (hk : k ≤ b.size) (p0 : Int) (j : Nat) (c : Int) (hj : j < nOf b) (hp : 1 ≤ c ∧ c ≤ (eOf b j : Int) - (sOf b j : Int) + 1) (w : World) (hb : b.size ≤ 2000) : Calls Try.prog 4 #[.string s, .int .i64 (k : Int), pv p0 ((j : Int) + 1) c] w (RV w (.bool true)) := by
  have hN := Lib.hid (fun (w : World) (g : Nat) (hg : g = w.heap.size) => New_two b g w hg (by omega))
  have hP3 := Lib.hid (fun (w : World) (q : Nat) (h : Tab w q 2 nmx (txx b)) => Pos_no q 2 3 0 _ _ w h (.inr (by omega)))
  have hO0 := Lib.hid (fun (w : World) (q : Nat) (h : Tab w q 2 nmx (txx b)) => Offset_no q 2 0 1 1 _ _ w h (.inl (by omega)))
  have hP := Lib.hid (fun (w : World) (q : Nat) (h : Tab w q 2 nmx (txx b)) => Pos_ok2 b q k w h hk (by omega))
  have hQ := Lib.hid (fun w => place_t b k w hk (by omega))
  have hO := Lib.hid (fun (w : World) (q : Nat) (h : Tab w q 2 nmx (txx b)) => Offset_back b q k w h hk (by omega))
  have eqq := neq_pos 2 (plL b k : Nat) (plC b k : Nat) 2 (plL b k : Nat) (plC b k : Nat)
  have hks : ¬ ((b.size : Int) < (k : Int)) := by omega
  have hk0 : ¬ ((k : Int) < 0) := by omega
  have hg := guard_pos
  have hF := fun (w : World) (q : Nat) (h : Tab w q 2 nmx (txx b)) => Offset_line2 b q j c w h hj (by omega)
  simp only [if_pos hp] at hF
  replace hF := Lib.hid hF
  obtain ⟨m, hm1, hm2, hm3, hm4⟩ := at_col b j c hj hp
  have hR := fun (x : Int) w (hx : x = (m : Int)) => (by rw [hx]; exact place_t b m w hm2 (by omega) : Calls Try.prog 19 #[.string b, .int .i64 x] w fun e w' => e = .returned (.tuple #[.int .i64 ((plL b m : Nat) : Int), .int .i64 ((plC b m : Nat) : Int)]) ∧ w = w')
  have hF1 : (sOf b j : Int) + c - 1 = (m : Int) := hm1
  have hF2 := fun (w : World) (q : Nat) (h : Tab w q 2 nmx (txx b)) => hF.out w q h
  rw [hF1] at hF2
  replace hF := Lib.hid hF2
  replace hR := Lib.hid hR
  have dm2 : ¬ ((b.size : Int) < (m : Int)) := by omega
  replace hm3 := Lib.hid hm3
  replace hm4 := Lib.hid hm4
  clear hF2 hF1 hm1
  clear hp
  replace hbe := Lib.hid hbe
  go_enter Try.func4, Try.ntmps4
  go_wp2_with fail
  (with_reducible refine (awake_t _).mono ?_)
  rintro e w1 ⟨rfl, hb1⟩
  have V1 : PV w1 w.heap.size p0 ((j : Int) + 1) c := (R3.new w 44 (.int .i64 p0) (.int .i64 ((j : Int) + 1)) (.int .i64 c)).over hb1
  have hbw1 : Below w.heap.size w w1 := below_call hb1 (by go_grown)
  have z1 := hbw1.size
  have zV := V1.lt
  clear hb1
  go_wp2_with fail
  simp only [hbe.out]
  have V := V1.alloc (.cells #[.string ⟨#[120]⟩, .string ⟨#[]⟩, .string ⟨#[121]⟩, .string b] 34)
  clear V1
  (with_reducible refine (hN.out _ _ rfl).mono ?_)
  rintro e w2 ⟨q, rfl, T2, hb2⟩
  have hbw2 : Below w.heap.size w w2 := below_call hb2 (by go_grown)
  have z2 := hb2.size
  simp only [World.size_alloc] at z2
  replace V := V.over hb2
  replace T2 := Lib.hid T2
  clear hb2 hbw1
  go_wp2_with fail
  (with_reducible refine (hP.out _ _ T2.out).mono ?_)
  rintro e w3 ⟨rfl, hb3⟩
  have hbw3 : Below w.heap.size w w3 := below_call hb3 (by go_grown)
  have z3 := hb3.size
  try simp only [World.size_alloc, World.size_setCell] at z3
  have T3 := Lib.hid (T2.out.over hb3)
  replace V := V.over hb3
  have v := V.all
  clear hb3
  have T3a := Lib.hid (fun o => T3.out.over ((Below.refl _ w3).alloc (Nat.le_refl _) o))
  clear T2 hbw2
  go_wp2_with fail
  (with_reducible refine (hQ.out _).mono ?_)
  rintro e w4 ⟨rfl, rfl⟩
  go_wp2_with fail
  replace V := V.alloc (.cells #[.int .i64 2, .int .i64 ((plL b k : Nat) : Int), .int .i64 ((plC b k : Nat) : Int)] 44)
  clear v
  have Q4 := R3.new w3 44 (.int .i64 2) (.int .i64 ((plL b k : Nat) : Int)) (.int .i64 ((plC b k : Nat) : Int))
  (with_reducible refine (hO.out _ _ (T3a.out _)).mono ?_)
  rintro e w5 ⟨rfl, hb5⟩
  have hbw5 : Below w.heap.size w w5 := below_call hb5 (by go_grown)
  have z5 := hb5.size
  rw [World.size_alloc] at z5
  have T5 := Lib.hid (Tab.over (T3a.out _) hb5)
  replace V := V.over hb5
  replace Q4 := Q4.over hb5
  have v := V.all
  have q4 := Q4.all
  clear hb5 T3 T3a hbw3
  go_wp2_with fail
  clear q4 Q4
  have T6 := Lib.hid (T5.out.set1 V 2)
  have V6 : PV (w5.setCell ⟨w.heap.size, 0, none⟩ (.int .i64 2)) w.heap.size 2 ((j : Int) + 1) c := PV.set0 V 2
  have hbw6 : Below w.heap.size w (w5.setCell ⟨w.heap.size, 0, none⟩ (.int .i64 2)) := hbw5.setCell (Nat.le_refl _) _
  clear V
  (with_reducible refine (hF.out _ _ T6.out).mono ?_)
  rintro e w7 ⟨rfl, hb7⟩
  have hbw7 : Below w.heap.size w w7 := below_call hb7 hbw6
  have T7 := Lib.hid (T6.out.over hb7)
  have V := V6.over hb7
  have z7 := V.lt
  have v := V.all
  clear hb7 T6 V6 hbw6
  have dmm : (m : Int) ≤ 0 ∨ (0 : Int) < (m : Int) := by omega
  rcases dmm with dm | dm
  all_goals
    go_wp2_with fail
    (with_reducible refine (hR.out _ _ ?_).mono ?_)
    · first | rfl | omega | (split <;> omega) | (simp; omega)
    rintro e w8 ⟨rfl, rfl⟩
    go_wp2_with fail
    (with_reducible refine (hP3.out _ _ T7.out).mono ?_)
    rintro e w9 ⟨rfl, hb9⟩
    have hbw9 : Below w.heap.size w w9 := below_call hb9 hbw7
    have z9 := hb9.size
    have T9 := Lib.hid (T7.out.over hb9)
    replace V := (V.over hb9).alloc (.cells #[.int .i64 0, .int .i64 0, .int .i64 0] 44)
    clear hb9 T7 v hbw7
    have v := V.all
    go_wp2_with fail
    refine (hO0.out _ _ (T9.out.over ((Below.refl _ _).alloc (Nat.le_refl _) _))).mono ?_
    rintro e wa ⟨rfl, hba⟩
    have hbwa : Below w.heap.size w wa := below_call hba (by go_grown)
    replace V := V.over hba
    clear v
    have v := V.all
    clear hba T9 hbw9 V
    have q1 : (((plL b m : Nat) : Int) == (j : Int) + 1) = true := by simpa using hm3.out
    have q2 : (((plC b m : Nat) : Int) == c) = true := by simpa using hm4.out
    go_wp2_with fail
    go_ret
    exact ⟨rfl, hbwa⟩
end Go.Proofs.Ytegoldihcchfdaa
