/-
  What the walk of BvBins asks of the two Bins, for every operation and every two lists; its four walks: each list has at most 128 bits or more.
-/
import Derived.Test.YtmgkidfikikjpaaBf
import Derived.Test.YtmgkidfikikjpaaYf
namespace Go.Proofs.Ytmgkidfikikjpaa
open Go.RowKit
theorem bins_one (op : Int) (n c1 c2 nk v : Nat) (A B : Option Addr) (f g : Nat → Bool) (hnk : nk ≤ 128) (hv : v < 2 ^ nk)
    (hb : ∀ w, Calls Try.prog 9 #[.int .i64 op, vv n (valB f n), vv n (valB g n)] w (RV w (.tuple #[vv nk v, .int .i64 0])))
    (hr : ∀ w, RB w A n (tb (valB f n)) → RB w B n (tb (valB g n)) → Calls Try.prog 10 #[.int .i64 op, .slice A n c1, .slice B n c2] w (LN w nk v 0)) :
    ∃ (nk : Nat) (hk : Nat → Bool) (ek : Int), nk ≤ 128 ∧ (∀ w, Calls Try.prog 9 #[.int .i64 op, vv n (valB f n), vv n (valB g n)] w (RV w (.tuple #[vv nk (valB hk nk), .int .i64 ek]))) ∧
      (∀ w, RB w A n f → RB w B n g → Calls Try.prog 10 #[.int .i64 op, .slice A n c1, .slice B n c2] w (LB w nk hk ek)) :=
  ⟨nk, tb v, 0, hnk, fun w => by rw [valB_tbl v nk hv]; exact hb w, fun w h1 h2 => hr w (h1.as fun j hj => tb_val f n j hj) (h2.as fun j hj => tb_val g n j hj)⟩
theorem boolN_lt (b : Bool) : b.toNat < 2 ^ 1 := by cases b <;> decide
theorem bins_pack (n m c1 c2 : Nat) (A B : Option Addr) (f g : Nat → Bool) (hn : n ≤ 128) (hm : m ≤ 128) : ∀ k : Nat, k < 21 → ∃ (nk : Nat) (hk : Nat → Bool) (ek : Int), nk ≤ 128 ∧ (∀ w, Calls Try.prog 9 #[.int .i64 ((k : Int) - 1), vv n (valB f n), vv m (valB g m)] w (RV w (.tuple #[vv nk (valB hk nk), .int .i64 ek]))) ∧
      (∀ w, RB w A n f → RB w B m g → Calls Try.prog 10 #[.int .i64 ((k : Int) - 1), .slice A n c1, .slice B m c2] w (LB w nk hk ek)) := by
  intro k hk
  by_cases hb : k = 0 ∨ k = 20
  · exact ⟨0, fun _ => false, 1, by omega, fun w => Bin_bad _ n m _ _ w (by omega), fun w _ _ => refBin_bad _ n m c1 c2 A B _ w (by omega)⟩
  by_cases h0 : n ≠ m ∨ n = 0
  · exact ⟨0, fun _ => false, 2, by omega, fun w => Bin_width _ n m _ _ w (by omega) (by omega) h0, fun w _ _ => refBin_width _ n m c1 c2 A B _ w (by omega) (by omega) h0⟩
  obtain rfl : n = m := by omega
  have h1 : 1 ≤ n := by omega
  have hx := valB_lt f n
  have hy := valB_lt g n
  have hp := Nat.two_pow_pos n
  obtain h | h | h | h | h | h | h | h | h | h | h | h | h | h | h | h | h | h | h : k = 1 ∨ k = 2 ∨ k = 3 ∨ k = 4 ∨ k = 5 ∨ k = 6 ∨ k = 7 ∨ k = 8 ∨ k = 9 ∨ k = 10 ∨ k = 11 ∨ k = 12 ∨ k = 13 ∨ k = 14 ∨ k = 15 ∨ k = 16 ∨ k = 17 ∨ k = 18 ∨ k = 19 := by omega
  · subst h
    exact bins_one 0 n c1 c2 n ((valB f n + valB g n) % 2 ^ n) A B f g hn (Nat.mod_lt _ hp) (fun w => Bin_0 n _ _ w h1 hn) (fun w ha hb => refBin_0 n c1 c2 _ _ A B w h1 hn ha hb hx hy)
  · subst h
    exact bins_one 1 n c1 c2 n ((valB f n + 2 ^ n - valB g n) % 2 ^ n) A B f g hn (Nat.mod_lt _ hp) (fun w => Bin_1 n _ _ w h1 hn hy) (fun w ha hb => refBin_1 n c1 c2 _ _ A B w h1 hn ha hb hx hy)
  · subst h
    exact bins_one 2 n c1 c2 n (valB f n * valB g n % 2 ^ n) A B f g hn (Nat.mod_lt _ hp) (fun w => Bin_2 n _ _ w h1 hn) (fun w ha hb => refBin_2 n c1 c2 _ _ A B w h1 hn ha hb hx hy)
  · subst h
    exact bins_one 3 n c1 c2 n (qU n (valB f n) (valB g n)) A B f g hn (qU_lt n _ _ hx) (fun w => Bin_3 n _ _ _ _ w h1 (fun w => divide_v n _ _ w hn hx hy)) (fun w ha hb => refBin_3 n c1 c2 _ _ A B w h1 hn ha hb hx hy)
  · subst h
    exact bins_one 4 n c1 c2 n (rU (valB f n) (valB g n)) A B f g hn (rU_lt n _ _ hx) (fun w => Bin_4 n _ _ _ _ w h1 (fun w => divide_v n _ _ w hn hx hy)) (fun w ha hb => refBin_4 n c1 c2 _ _ A B w h1 hn ha hb hx hy)
  · subst h
    exact bins_one 5 n c1 c2 n (qS n (valB f n) (valB g n)) A B f g hn (qS_lt n _ _ hx) (fun w => Bin_5 n _ _ _ _ w h1 (fun w => divideSigned_v n _ _ w hn hx hy)) (fun w ha hb => refBin_5 n c1 c2 _ _ A B w h1 hn ha hb hx hy)
  · subst h
    exact bins_one 6 n c1 c2 n (rS n (valB f n) (valB g n)) A B f g hn (rS_lt n _ _ hx) (fun w => Bin_6 n _ _ _ _ w h1 (fun w => divideSigned_v n _ _ w hn hx hy)) (fun w ha hb => refBin_6 n c1 c2 _ _ A B w h1 hn ha hb hx hy)
  · subst h
    exact bins_one 7 n c1 c2 n (valB f n &&& valB g n) A B f g hn (Nat.lt_of_le_of_lt Nat.and_le_left hx) (fun w => Bin_7 n _ _ w h1 hn hx hy) (fun w ha hb => refBin_7 n c1 c2 _ _ A B w h1 hn ha hb hx hy)
  · subst h
    exact bins_one 8 n c1 c2 n (valB f n ||| valB g n) A B f g hn (Nat.or_lt_two_pow hx hy) (fun w => Bin_8 n _ _ w h1 hn hx hy) (fun w ha hb => refBin_8 n c1 c2 _ _ A B w h1 hn ha hb hx hy)
  · subst h
    exact bins_one 9 n c1 c2 n (valB f n ^^^ valB g n) A B f g hn (Nat.xor_lt_two_pow hx hy) (fun w => Bin_9 n _ _ w h1 hn hx hy) (fun w ha hb => refBin_9 n c1 c2 _ _ A B w h1 hn ha hb hx hy)
  · subst h
    exact bins_one 10 n c1 c2 n (valB f n * 2 ^ min (valB g n) n % 2 ^ n) A B f g hn (Nat.mod_lt _ hp) (fun w => Bin_10 n _ _ w h1 hn) (fun w ha hb => refBin_10 n c1 c2 _ _ A B w h1 hn ha hb hx hy)
  · subst h
    exact bins_one 11 n c1 c2 n (valB f n / 2 ^ min (valB g n) n) A B f g hn (Nat.lt_of_le_of_lt (Nat.div_le_self _ _) hx) (fun w => Bin_11 n _ _ w h1 hn hx) (fun w ha hb => refBin_11 n c1 c2 _ _ A B w h1 hn ha hb hx hy)
  · subst h
    exact bins_one 12 n c1 c2 n (sarN n (valB f n) (min (valB g n) n)) A B f g hn (sarN_lt2 n _ _ hx) (fun w => Bin_12 n _ _ w h1 hn hx) (fun w ha hb => refBin_12 n c1 c2 _ _ A B w h1 hn ha hb hx hy)
  · subst h
    exact bins_one 13 n c1 c2 1 ((eqB n (valB f n) n (valB g n)).toNat) A B f g (by omega) (boolN_lt _) (fun w => Bin_13 n _ _ w h1) (fun w ha hb => refBin_13 n c1 c2 _ _ A B w h1 hn ha hb hx hy)
  · subst h
    exact bins_one 14 n c1 c2 1 ((!eqB n (valB f n) n (valB g n)).toNat) A B f g (by omega) (boolN_lt _) (fun w => Bin_14 n _ _ w h1) (fun w ha hb => refBin_14 n c1 c2 _ _ A B w h1 hn ha hb hx hy)
  · subst h
    exact bins_one 15 n c1 c2 1 ((decide (valB f n < valB g n)).toNat) A B f g (by omega) (boolN_lt _) (fun w => Bin_15 n _ _ w h1) (fun w ha hb => refBin_15 n c1 c2 _ _ A B w h1 hn ha hb hx hy)
  · subst h
    exact bins_one 16 n c1 c2 1 ((!decide (valB g n < valB f n)).toNat) A B f g (by omega) (boolN_lt _) (fun w => Bin_16 n _ _ w h1) (fun w ha hb => refBin_16 n c1 c2 _ _ A B w h1 hn ha hb hx hy)
  · subst h
    exact bins_one 17 n c1 c2 1 ((sltN n (valB f n) (valB g n)).toNat) A B f g (by omega) (boolN_lt _) (fun w => Bin_17 n _ _ w h1 hn hx hy) (fun w ha hb => refBin_17 n c1 c2 _ _ A B w h1 hn ha hb hx hy)
  · subst h
    exact bins_one 18 n c1 c2 1 ((!sltN n (valB g n) (valB f n)).toNat) A B f g (by omega) (boolN_lt _) (fun w => Bin_18 n _ _ w h1 hn hx hy) (fun w ha hb => refBin_18 n c1 c2 _ _ A B w h1 hn ha hb hx hy)
set_option maxRecDepth 1000000 in
set_option maxHeartbeats 4000000 in
theorem Bins_ss (na0 nb0 na nb ca cb nx ny x y : Nat) (A B : Option Addr) (f g : Nat → Bool) (w : World) (ha : na ≤ 128) (hb : nb ≤ 128) (hA : RB w A na f) (hB : RB w B nb g)
    (hSa : ∀ w, Calls Try.prog 7 #[.slice A na0 ca] w fun e w' => e = .returned (.slice A na ca) ∧ w' = w)
    (hSb : ∀ w, Calls Try.prog 7 #[.slice B nb0 cb] w fun e w' => e = .returned (.slice B nb cb) ∧ w' = w)
    (hOa : ∀ w, RB w A na f → Calls Try.prog 8 #[.slice A na ca] w (RV w (vv nx x)))
    (hOb : ∀ w, RB w B nb g → Calls Try.prog 8 #[.slice B nb cb] w (RV w (vv ny y)))
    (hIa : ∀ w, RB w A na f → Calls Try.prog 11 #[vv nx x, .slice A na ca] w (RV w (.bool true)))
    (hIb : ∀ w, RB w B nb g → Calls Try.prog 11 #[vv ny y, .slice B nb cb] w (RV w (.bool true)))
    (hU : ∀ k : Nat, k < 21 → ∃ (nk : Nat) (hk : Nat → Bool) (ek : Int), nk ≤ 128 ∧ (∀ w, Calls Try.prog 9 #[.int .i64 ((k : Int) - 1), vv nx x, vv ny y] w (RV w (.tuple #[vv nk (valB hk nk), .int .i64 ek]))) ∧
      (∀ w, RB w A na f → RB w B nb g → Calls Try.prog 10 #[.int .i64 ((k : Int) - 1), .slice A na ca, .slice B nb cb] w (LB w nk hk ek))) :
    Calls Try.prog 3 #[.slice A na0 ca, .slice B nb0 cb] w (RV w (.bool true)) := by
  have hA2 : RB w A na f := hA
  have hB2 : RB w B nb g := hB
  have cIk := fun nk (hk : Nat → Bool) (hn : nk ≤ 128) w c1 A1 (h : RB w A1 nk hk) => Is_ok nk c1 A1 hk w hn h
  have d1 : ¬ (128 : Int) < (na : Int) := by omega
  have d2 : ¬ (128 : Int) < (nb : Int) := by omega
  clear ha hb
  replace hA := Lib.hid hA
  replace hB := Lib.hid hB
  replace hA2 := Lib.hid hA2
  replace hB2 := Lib.hid hB2
  replace hSa := Lib.hid hSa
  replace hSb := Lib.hid hSb
  replace hOa := Lib.hid hOa
  replace hOb := Lib.hid hOb
  replace hIa := Lib.hid hIa
  replace hIb := Lib.hid hIb
  replace hU := Lib.hid hU
  replace cIk := Lib.hid cIk
  go_enter Try.func3, Try.ntmps3
  go_wp2_with fail
  (with_reducible refine (awake_t _).mono ?_)
  rintro e w1 ⟨rfl, hbw1⟩
  go_wp2_with fail
  (with_reducible refine (hSa.out _).mono ?_)
  rintro e w1 ⟨rfl, rfl⟩
  go_wp2_with fail
  (with_reducible refine (hSb.out _).mono ?_)
  rintro e w1 ⟨rfl, rfl⟩
  go_wp2_with fail
  (with_reducible refine (hOa.out _ (hA.out.keep hbw1)).mono ?_)
  rintro e w2 ⟨rfl, hb2⟩
  have hbw2 : Below w.heap.size w w2 := below_call hb2 hbw1
  clear hb2 hbw1
  go_wp2_with fail
  (with_reducible refine (hOb.out _ (hB.out.keep hbw2)).mono ?_)
  rintro e w3 ⟨rfl, hb3⟩
  have hbw3 : Below w.heap.size w w3 := below_call hb3 hbw2
  have s3 := hbw3.size
  clear hb3 hbw2
  have X0 := (HV.new w3 28 nx x).alloc (.cells (vcs ny y) 28)
  have Y0 : HV 28 ((w3.alloc (.cells (vcs nx x) 28)).alloc (.cells (vcs ny y) 28)) (w3.heap.size + 1) ny y := by
    have h := HV.new (w3.alloc (.cells (vcs nx x) 28)) 28 ny y
    rw [World.size_alloc] at h
    exact h
  have B0 : Below w.heap.size w ((w3.alloc (.cells (vcs nx x) 28)).alloc (.cells (vcs ny y) 28)) := (hbw3.alloc (by omega) _).alloc (by rw [World.size_alloc]; omega) _
  replace X0 := Lib.hid X0
  replace Y0 := Lib.hid Y0
  replace B0 := Lib.hid B0
  clear hbw3
  go_wp2_with fail
  go_loopw [7] (fun i wr => ∃ k : Nat, k ≤ 21 ∧ i = .int .i64 ((k : Int) - 1) ∧ HV 28 wr w3.heap.size nx x ∧ HV 28 wr (w3.heap.size + 1) ny y ∧ Below w.heap.size w wr) (fun i _ => (20 - intOf i).toNat)
  case atStart => exact ⟨0, by omega, rfl, X0.out, Y0.out, B0.out⟩
  case round =>
    obtain ⟨k, hk, rfl, V, U, hbw⟩ := hrel
    clear X0 Y0 B0
    by_cases hlt : k < 21
    · obtain ⟨nk, hk2, ek, hnk, cU, cR⟩ := hU.out k hlt
      have cJ := cIk.out nk hk2 hnk
      generalize valB hk2 nk = xk at cU cJ
      obtain ⟨op, hop⟩ : ∃ op : Int, (k : Int) - 1 = op := ⟨_, rfl⟩
      rw [hop] at cU cR
      rw [hop]
      have o1 : -1 ≤ op := by omega
      have o2 : op ≤ 19 := by omega
      have nx1 : Value.int .i64 (op + 1) = Value.int .i64 (((k + 1 : Nat) : Int) - 1) := by congr 1; omega
      have ee : (ek != ek) = false := by simp
      clear hop
      replace nx1 := Lib.hid nx1
      replace cU := Lib.hid cU
      replace cR := Lib.hid cR
      replace cJ := Lib.hid cJ
      have v := V.all
      have u := U.all
      go_wp2_with fail
      (with_reducible refine (cU.out _).mono ?_)
      rintro e w4 ⟨rfl, hb4⟩
      have hbw4 : Below w.heap.size w w4 := below_call hb4 hbw
      have s4 := hbw4.size
      have V4 := V.over hb4
      have U4 := U.over hb4
      clear hb4 hbw V v U u
      go_wp2_with fail
      (with_reducible refine (cR.out _ (hA2.out.keep (by go_grown)) (hB2.out.keep (by go_grown))).mono ?_)
      rintro e w5 ⟨Ak, ck, rfl, Rk, hb5⟩
      have hbw5 : Below w.heap.size w w5 := below_call hb5 (by go_grown)
      have K5 := (HV.new w4 28 nk xk).over hb5
      have V5 := (V4.alloc _).over hb5
      have U5 := (U4.alloc _).over hb5
      have k5 := K5.all
      clear hb5 hbw4 V4 U4
      go_wp2_with fail
      (with_reducible refine (cJ.out _ _ _ Rk).mono ?_)
      rintro e w6 ⟨rfl, hb6⟩
      have hbw6 : Below w.heap.size w w6 := below_call hb6 hbw5
      have V6 := V5.over hb6
      have U6 := U5.over hb6
      have v6 := V6.all
      clear hb6 hbw5 V5 U5 K5 k5 Rk
      go_wp2_with fail
      (with_reducible refine (hIa.out _ (hA2.out.keep hbw6)).mono ?_)
      rintro e w7 ⟨rfl, hb7⟩
      have hbw7 : Below w.heap.size w w7 := below_call hb7 hbw6
      have V7 := V6.over hb7
      have U7 := U6.over hb7
      have u7 := U7.all
      clear hb7 hbw6 V6 U6 v6
      go_wp2_with fail
      (with_reducible refine (hIb.out _ (hB2.out.keep hbw7)).mono ?_)
      rintro e w8 ⟨rfl, hb8⟩
      have hbw8 : Below w.heap.size w w8 := below_call hb8 hbw7
      have V8 := Lib.hid (V7.over hb8)
      have U8 := Lib.hid (U7.over hb8)
      clear hb8 hbw7 V7 U7 u7
      go_wp2_with fail
      go_roundw
      case rel => exact ⟨k + 1, by omega, nx1.out, V8.out, U8.out, hbw8⟩
      case measure => simp [intOf]; omega
    · obtain rfl : k = 21 := by omega
      clear V U hlt hk
      go_wp2_with fail
      go_ret
      exact ⟨rfl, hbw⟩
set_option maxRecDepth 1000000 in
set_option maxHeartbeats 4000000 in
theorem Bins_sl (na0 nb0 na nb ca cb nx ny x y : Nat) (A B : Option Addr) (f g : Nat → Bool) (w : World) (ha : na ≤ 128) (hb : 128 < nb) (hA : RB w A na f) (hB : RB w B nb g)
    (hSa : ∀ w, Calls Try.prog 7 #[.slice A na0 ca] w fun e w' => e = .returned (.slice A na ca) ∧ w' = w)
    (hSb : ∀ w, Calls Try.prog 7 #[.slice B nb0 cb] w fun e w' => e = .returned (.slice B nb cb) ∧ w' = w)
    (hOa : ∀ w, RB w A na f → Calls Try.prog 8 #[.slice A na ca] w (RV w (vv nx x)))
    (hOb : ∀ w, RB w B nb g → Calls Try.prog 8 #[.slice B nb cb] w (RV w (vv ny y)))
    (hIa : ∀ w, RB w A na f → Calls Try.prog 11 #[vv nx x, .slice A na ca] w (RV w (.bool true)))
    (hIb : ∀ w, RB w none 0 g → Calls Try.prog 11 #[vv ny y, .slice none 0 0] w (RV w (.bool true)))
    (hU : ∀ k : Nat, k < 21 → ∃ (nk : Nat) (hk : Nat → Bool) (ek : Int), nk ≤ 128 ∧ (∀ w, Calls Try.prog 9 #[.int .i64 ((k : Int) - 1), vv nx x, vv ny y] w (RV w (.tuple #[vv nk (valB hk nk), .int .i64 ek]))) ∧
      (∀ w, RB w A na f → RB w none 0 g → Calls Try.prog 10 #[.int .i64 ((k : Int) - 1), .slice A na ca, .slice none 0 0] w (LB w nk hk ek))) :
    Calls Try.prog 3 #[.slice A na0 ca, .slice B nb0 cb] w (RV w (.bool true)) := by
  have hA2 : RB w A na f := hA
  have hB2 : RB w none 0 g := fun h => absurd h (by omega)
  have cIk := fun nk (hk : Nat → Bool) (hn : nk ≤ 128) w c1 A1 (h : RB w A1 nk hk) => Is_ok nk c1 A1 hk w hn h
  have d1 : ¬ (128 : Int) < (na : Int) := by omega
  have d2 : (128 : Int) < (nb : Int) := by omega
  clear ha hb
  replace hA := Lib.hid hA
  replace hB := Lib.hid hB
  replace hA2 := Lib.hid hA2
  replace hB2 := Lib.hid hB2
  replace hSa := Lib.hid hSa
  replace hSb := Lib.hid hSb
  replace hOa := Lib.hid hOa
  replace hOb := Lib.hid hOb
  replace hIa := Lib.hid hIa
  replace hIb := Lib.hid hIb
  replace hU := Lib.hid hU
  replace cIk := Lib.hid cIk
  go_enter Try.func3, Try.ntmps3
  go_wp2_with fail
  (with_reducible refine (awake_t _).mono ?_)
  rintro e w1 ⟨rfl, hbw1⟩
  go_wp2_with fail
  (with_reducible refine (hSa.out _).mono ?_)
  rintro e w1 ⟨rfl, rfl⟩
  go_wp2_with fail
  (with_reducible refine (hSb.out _).mono ?_)
  rintro e w1 ⟨rfl, rfl⟩
  go_wp2_with fail
  (with_reducible refine (hOa.out _ (hA.out.keep hbw1)).mono ?_)
  rintro e w2 ⟨rfl, hb2⟩
  have hbw2 : Below w.heap.size w w2 := below_call hb2 hbw1
  clear hb2 hbw1
  go_wp2_with fail
  (with_reducible refine (hOb.out _ (hB.out.keep hbw2)).mono ?_)
  rintro e w3 ⟨rfl, hb3⟩
  have hbw3 : Below w.heap.size w w3 := below_call hb3 hbw2
  have s3 := hbw3.size
  clear hb3 hbw2
  have X0 := (HV.new w3 28 nx x).alloc (.cells (vcs ny y) 28)
  have Y0 : HV 28 ((w3.alloc (.cells (vcs nx x) 28)).alloc (.cells (vcs ny y) 28)) (w3.heap.size + 1) ny y := by
    have h := HV.new (w3.alloc (.cells (vcs nx x) 28)) 28 ny y
    rw [World.size_alloc] at h
    exact h
  have B0 : Below w.heap.size w ((w3.alloc (.cells (vcs nx x) 28)).alloc (.cells (vcs ny y) 28)) := (hbw3.alloc (by omega) _).alloc (by rw [World.size_alloc]; omega) _
  replace X0 := Lib.hid X0
  replace Y0 := Lib.hid Y0
  replace B0 := Lib.hid B0
  clear hbw3
  go_wp2_with fail
  go_loopw [7] (fun i wr => ∃ k : Nat, k ≤ 21 ∧ i = .int .i64 ((k : Int) - 1) ∧ HV 28 wr w3.heap.size nx x ∧ HV 28 wr (w3.heap.size + 1) ny y ∧ Below w.heap.size w wr) (fun i _ => (20 - intOf i).toNat)
  case atStart => exact ⟨0, by omega, rfl, X0.out, Y0.out, B0.out⟩
  case round =>
    obtain ⟨k, hk, rfl, V, U, hbw⟩ := hrel
    clear X0 Y0 B0
    by_cases hlt : k < 21
    · obtain ⟨nk, hk2, ek, hnk, cU, cR⟩ := hU.out k hlt
      have cJ := cIk.out nk hk2 hnk
      generalize valB hk2 nk = xk at cU cJ
      obtain ⟨op, hop⟩ : ∃ op : Int, (k : Int) - 1 = op := ⟨_, rfl⟩
      rw [hop] at cU cR
      rw [hop]
      have o1 : -1 ≤ op := by omega
      have o2 : op ≤ 19 := by omega
      have nx1 : Value.int .i64 (op + 1) = Value.int .i64 (((k + 1 : Nat) : Int) - 1) := by congr 1; omega
      have ee : (ek != ek) = false := by simp
      clear hop
      replace nx1 := Lib.hid nx1
      replace cU := Lib.hid cU
      replace cR := Lib.hid cR
      replace cJ := Lib.hid cJ
      have v := V.all
      have u := U.all
      go_wp2_with fail
      (with_reducible refine (cU.out _).mono ?_)
      rintro e w4 ⟨rfl, hb4⟩
      have hbw4 : Below w.heap.size w w4 := below_call hb4 hbw
      have s4 := hbw4.size
      have V4 := V.over hb4
      have U4 := U.over hb4
      clear hb4 hbw V v U u
      go_wp2_with fail
      (with_reducible refine (cR.out _ (hA2.out.keep (by go_grown)) (hB2.out.keep (by go_grown))).mono ?_)
      rintro e w5 ⟨Ak, ck, rfl, Rk, hb5⟩
      have hbw5 : Below w.heap.size w w5 := below_call hb5 (by go_grown)
      have K5 := (HV.new w4 28 nk xk).over hb5
      have V5 := (V4.alloc _).over hb5
      have U5 := (U4.alloc _).over hb5
      have k5 := K5.all
      clear hb5 hbw4 V4 U4
      go_wp2_with fail
      (with_reducible refine (cJ.out _ _ _ Rk).mono ?_)
      rintro e w6 ⟨rfl, hb6⟩
      have hbw6 : Below w.heap.size w w6 := below_call hb6 hbw5
      have V6 := V5.over hb6
      have U6 := U5.over hb6
      have v6 := V6.all
      clear hb6 hbw5 V5 U5 K5 k5 Rk
      go_wp2_with fail
      (with_reducible refine (hIa.out _ (hA2.out.keep hbw6)).mono ?_)
      rintro e w7 ⟨rfl, hb7⟩
      have hbw7 : Below w.heap.size w w7 := below_call hb7 hbw6
      have V7 := V6.over hb7
      have U7 := U6.over hb7
      have u7 := U7.all
      clear hb7 hbw6 V6 U6 v6
      go_wp2_with fail
      (with_reducible refine (hIb.out _ (hB2.out.keep hbw7)).mono ?_)
      rintro e w8 ⟨rfl, hb8⟩
      have hbw8 : Below w.heap.size w w8 := below_call hb8 hbw7
      have V8 := Lib.hid (V7.over hb8)
      have U8 := Lib.hid (U7.over hb8)
      clear hb8 hbw7 V7 U7 u7
      go_wp2_with fail
      go_roundw
      case rel => exact ⟨k + 1, by omega, nx1.out, V8.out, U8.out, hbw8⟩
      case measure => simp [intOf]; omega
    · obtain rfl : k = 21 := by omega
      clear V U hlt hk
      go_wp2_with fail
      go_ret
      exact ⟨rfl, hbw⟩
set_option maxRecDepth 1000000 in
set_option maxHeartbeats 4000000 in
theorem Bins_ls (na0 nb0 na nb ca cb nx ny x y : Nat) (A B : Option Addr) (f g : Nat → Bool) (w : World) (ha : 128 < na) (hb : nb ≤ 128) (hA : RB w A na f) (hB : RB w B nb g)
    (hSa : ∀ w, Calls Try.prog 7 #[.slice A na0 ca] w fun e w' => e = .returned (.slice A na ca) ∧ w' = w)
    (hSb : ∀ w, Calls Try.prog 7 #[.slice B nb0 cb] w fun e w' => e = .returned (.slice B nb cb) ∧ w' = w)
    (hOa : ∀ w, RB w A na f → Calls Try.prog 8 #[.slice A na ca] w (RV w (vv nx x)))
    (hOb : ∀ w, RB w B nb g → Calls Try.prog 8 #[.slice B nb cb] w (RV w (vv ny y)))
    (hIa : ∀ w, RB w none 0 f → Calls Try.prog 11 #[vv nx x, .slice none 0 0] w (RV w (.bool true)))
    (hIb : ∀ w, RB w B nb g → Calls Try.prog 11 #[vv ny y, .slice B nb cb] w (RV w (.bool true)))
    (hU : ∀ k : Nat, k < 21 → ∃ (nk : Nat) (hk : Nat → Bool) (ek : Int), nk ≤ 128 ∧ (∀ w, Calls Try.prog 9 #[.int .i64 ((k : Int) - 1), vv nx x, vv ny y] w (RV w (.tuple #[vv nk (valB hk nk), .int .i64 ek]))) ∧
      (∀ w, RB w none 0 f → RB w B nb g → Calls Try.prog 10 #[.int .i64 ((k : Int) - 1), .slice none 0 0, .slice B nb cb] w (LB w nk hk ek))) :
    Calls Try.prog 3 #[.slice A na0 ca, .slice B nb0 cb] w (RV w (.bool true)) := by
  have hA2 : RB w none 0 f := fun h => absurd h (by omega)
  have hB2 : RB w B nb g := hB
  have cIk := fun nk (hk : Nat → Bool) (hn : nk ≤ 128) w c1 A1 (h : RB w A1 nk hk) => Is_ok nk c1 A1 hk w hn h
  have d1 : (128 : Int) < (na : Int) := by omega
  have d2 : ¬ (128 : Int) < (nb : Int) := by omega
  clear ha hb
  replace hA := Lib.hid hA
  replace hB := Lib.hid hB
  replace hA2 := Lib.hid hA2
  replace hB2 := Lib.hid hB2
  replace hSa := Lib.hid hSa
  replace hSb := Lib.hid hSb
  replace hOa := Lib.hid hOa
  replace hOb := Lib.hid hOb
  replace hIa := Lib.hid hIa
  replace hIb := Lib.hid hIb
  replace hU := Lib.hid hU
  replace cIk := Lib.hid cIk
  go_enter Try.func3, Try.ntmps3
  go_wp2_with fail
  (with_reducible refine (awake_t _).mono ?_)
  rintro e w1 ⟨rfl, hbw1⟩
  go_wp2_with fail
  (with_reducible refine (hSa.out _).mono ?_)
  rintro e w1 ⟨rfl, rfl⟩
  go_wp2_with fail
  (with_reducible refine (hSb.out _).mono ?_)
  rintro e w1 ⟨rfl, rfl⟩
  go_wp2_with fail
  (with_reducible refine (hOa.out _ (hA.out.keep hbw1)).mono ?_)
  rintro e w2 ⟨rfl, hb2⟩
  have hbw2 : Below w.heap.size w w2 := below_call hb2 hbw1
  clear hb2 hbw1
  go_wp2_with fail
  (with_reducible refine (hOb.out _ (hB.out.keep hbw2)).mono ?_)
  rintro e w3 ⟨rfl, hb3⟩
  have hbw3 : Below w.heap.size w w3 := below_call hb3 hbw2
  have s3 := hbw3.size
  clear hb3 hbw2
  have X0 := (HV.new w3 28 nx x).alloc (.cells (vcs ny y) 28)
  have Y0 : HV 28 ((w3.alloc (.cells (vcs nx x) 28)).alloc (.cells (vcs ny y) 28)) (w3.heap.size + 1) ny y := by
    have h := HV.new (w3.alloc (.cells (vcs nx x) 28)) 28 ny y
    rw [World.size_alloc] at h
    exact h
  have B0 : Below w.heap.size w ((w3.alloc (.cells (vcs nx x) 28)).alloc (.cells (vcs ny y) 28)) := (hbw3.alloc (by omega) _).alloc (by rw [World.size_alloc]; omega) _
  replace X0 := Lib.hid X0
  replace Y0 := Lib.hid Y0
  replace B0 := Lib.hid B0
  clear hbw3
  go_wp2_with fail
  go_loopw [7] (fun i wr => ∃ k : Nat, k ≤ 21 ∧ i = .int .i64 ((k : Int) - 1) ∧ HV 28 wr w3.heap.size nx x ∧ HV 28 wr (w3.heap.size + 1) ny y ∧ Below w.heap.size w wr) (fun i _ => (20 - intOf i).toNat)
  case atStart => exact ⟨0, by omega, rfl, X0.out, Y0.out, B0.out⟩
  case round =>
    obtain ⟨k, hk, rfl, V, U, hbw⟩ := hrel
    clear X0 Y0 B0
    by_cases hlt : k < 21
    · obtain ⟨nk, hk2, ek, hnk, cU, cR⟩ := hU.out k hlt
      have cJ := cIk.out nk hk2 hnk
      generalize valB hk2 nk = xk at cU cJ
      obtain ⟨op, hop⟩ : ∃ op : Int, (k : Int) - 1 = op := ⟨_, rfl⟩
      rw [hop] at cU cR
      rw [hop]
      have o1 : -1 ≤ op := by omega
      have o2 : op ≤ 19 := by omega
      have nx1 : Value.int .i64 (op + 1) = Value.int .i64 (((k + 1 : Nat) : Int) - 1) := by congr 1; omega
      have ee : (ek != ek) = false := by simp
      clear hop
      replace nx1 := Lib.hid nx1
      replace cU := Lib.hid cU
      replace cR := Lib.hid cR
      replace cJ := Lib.hid cJ
      have v := V.all
      have u := U.all
      go_wp2_with fail
      (with_reducible refine (cU.out _).mono ?_)
      rintro e w4 ⟨rfl, hb4⟩
      have hbw4 : Below w.heap.size w w4 := below_call hb4 hbw
      have s4 := hbw4.size
      have V4 := V.over hb4
      have U4 := U.over hb4
      clear hb4 hbw V v U u
      go_wp2_with fail
      (with_reducible refine (cR.out _ (hA2.out.keep (by go_grown)) (hB2.out.keep (by go_grown))).mono ?_)
      rintro e w5 ⟨Ak, ck, rfl, Rk, hb5⟩
      have hbw5 : Below w.heap.size w w5 := below_call hb5 (by go_grown)
      have K5 := (HV.new w4 28 nk xk).over hb5
      have V5 := (V4.alloc _).over hb5
      have U5 := (U4.alloc _).over hb5
      have k5 := K5.all
      clear hb5 hbw4 V4 U4
      go_wp2_with fail
      (with_reducible refine (cJ.out _ _ _ Rk).mono ?_)
      rintro e w6 ⟨rfl, hb6⟩
      have hbw6 : Below w.heap.size w w6 := below_call hb6 hbw5
      have V6 := V5.over hb6
      have U6 := U5.over hb6
      have v6 := V6.all
      clear hb6 hbw5 V5 U5 K5 k5 Rk
      go_wp2_with fail
      (with_reducible refine (hIa.out _ (hA2.out.keep hbw6)).mono ?_)
      rintro e w7 ⟨rfl, hb7⟩
      have hbw7 : Below w.heap.size w w7 := below_call hb7 hbw6
      have V7 := V6.over hb7
      have U7 := U6.over hb7
      have u7 := U7.all
      clear hb7 hbw6 V6 U6 v6
      go_wp2_with fail
      (with_reducible refine (hIb.out _ (hB2.out.keep hbw7)).mono ?_)
      rintro e w8 ⟨rfl, hb8⟩
      have hbw8 : Below w.heap.size w w8 := below_call hb8 hbw7
      have V8 := Lib.hid (V7.over hb8)
      have U8 := Lib.hid (U7.over hb8)
      clear hb8 hbw7 V7 U7 u7
      go_wp2_with fail
      go_roundw
      case rel => exact ⟨k + 1, by omega, nx1.out, V8.out, U8.out, hbw8⟩
      case measure => simp [intOf]; omega
    · obtain rfl : k = 21 := by omega
      clear V U hlt hk
      go_wp2_with fail
      go_ret
      exact ⟨rfl, hbw⟩
set_option maxRecDepth 1000000 in
set_option maxHeartbeats 4000000 in
theorem Bins_ll (na0 nb0 na nb ca cb nx ny x y : Nat) (A B : Option Addr) (f g : Nat → Bool) (w : World) (ha : 128 < na) (hb : 128 < nb) (hA : RB w A na f) (hB : RB w B nb g)
    (hSa : ∀ w, Calls Try.prog 7 #[.slice A na0 ca] w fun e w' => e = .returned (.slice A na ca) ∧ w' = w)
    (hSb : ∀ w, Calls Try.prog 7 #[.slice B nb0 cb] w fun e w' => e = .returned (.slice B nb cb) ∧ w' = w)
    (hOa : ∀ w, RB w A na f → Calls Try.prog 8 #[.slice A na ca] w (RV w (vv nx x)))
    (hOb : ∀ w, RB w B nb g → Calls Try.prog 8 #[.slice B nb cb] w (RV w (vv ny y)))
    (hIa : ∀ w, RB w none 0 f → Calls Try.prog 11 #[vv nx x, .slice none 0 0] w (RV w (.bool true)))
    (hIb : ∀ w, RB w none 0 g → Calls Try.prog 11 #[vv ny y, .slice none 0 0] w (RV w (.bool true)))
    (hU : ∀ k : Nat, k < 21 → ∃ (nk : Nat) (hk : Nat → Bool) (ek : Int), nk ≤ 128 ∧ (∀ w, Calls Try.prog 9 #[.int .i64 ((k : Int) - 1), vv nx x, vv ny y] w (RV w (.tuple #[vv nk (valB hk nk), .int .i64 ek]))) ∧
      (∀ w, RB w none 0 f → RB w none 0 g → Calls Try.prog 10 #[.int .i64 ((k : Int) - 1), .slice none 0 0, .slice none 0 0] w (LB w nk hk ek))) :
    Calls Try.prog 3 #[.slice A na0 ca, .slice B nb0 cb] w (RV w (.bool true)) := by
  have hA2 : RB w none 0 f := fun h => absurd h (by omega)
  have hB2 : RB w none 0 g := fun h => absurd h (by omega)
  have cIk := fun nk (hk : Nat → Bool) (hn : nk ≤ 128) w c1 A1 (h : RB w A1 nk hk) => Is_ok nk c1 A1 hk w hn h
  have d1 : (128 : Int) < (na : Int) := by omega
  have d2 : (128 : Int) < (nb : Int) := by omega
  clear ha hb
  replace hA := Lib.hid hA
  replace hB := Lib.hid hB
  replace hA2 := Lib.hid hA2
  replace hB2 := Lib.hid hB2
  replace hSa := Lib.hid hSa
  replace hSb := Lib.hid hSb
  replace hOa := Lib.hid hOa
  replace hOb := Lib.hid hOb
  replace hIa := Lib.hid hIa
  replace hIb := Lib.hid hIb
  replace hU := Lib.hid hU
  replace cIk := Lib.hid cIk
  go_enter Try.func3, Try.ntmps3
  go_wp2_with fail
  (with_reducible refine (awake_t _).mono ?_)
  rintro e w1 ⟨rfl, hbw1⟩
  go_wp2_with fail
  (with_reducible refine (hSa.out _).mono ?_)
  rintro e w1 ⟨rfl, rfl⟩
  go_wp2_with fail
  (with_reducible refine (hSb.out _).mono ?_)
  rintro e w1 ⟨rfl, rfl⟩
  go_wp2_with fail
  (with_reducible refine (hOa.out _ (hA.out.keep hbw1)).mono ?_)
  rintro e w2 ⟨rfl, hb2⟩
  have hbw2 : Below w.heap.size w w2 := below_call hb2 hbw1
  clear hb2 hbw1
  go_wp2_with fail
  (with_reducible refine (hOb.out _ (hB.out.keep hbw2)).mono ?_)
  rintro e w3 ⟨rfl, hb3⟩
  have hbw3 : Below w.heap.size w w3 := below_call hb3 hbw2
  have s3 := hbw3.size
  clear hb3 hbw2
  have X0 := (HV.new w3 28 nx x).alloc (.cells (vcs ny y) 28)
  have Y0 : HV 28 ((w3.alloc (.cells (vcs nx x) 28)).alloc (.cells (vcs ny y) 28)) (w3.heap.size + 1) ny y := by
    have h := HV.new (w3.alloc (.cells (vcs nx x) 28)) 28 ny y
    rw [World.size_alloc] at h
    exact h
  have B0 : Below w.heap.size w ((w3.alloc (.cells (vcs nx x) 28)).alloc (.cells (vcs ny y) 28)) := (hbw3.alloc (by omega) _).alloc (by rw [World.size_alloc]; omega) _
  replace X0 := Lib.hid X0
  replace Y0 := Lib.hid Y0
  replace B0 := Lib.hid B0
  clear hbw3
  go_wp2_with fail
  go_loopw [7] (fun i wr => ∃ k : Nat, k ≤ 21 ∧ i = .int .i64 ((k : Int) - 1) ∧ HV 28 wr w3.heap.size nx x ∧ HV 28 wr (w3.heap.size + 1) ny y ∧ Below w.heap.size w wr) (fun i _ => (20 - intOf i).toNat)
  case atStart => exact ⟨0, by omega, rfl, X0.out, Y0.out, B0.out⟩
  case round =>
    obtain ⟨k, hk, rfl, V, U, hbw⟩ := hrel
    clear X0 Y0 B0
    by_cases hlt : k < 21
    · obtain ⟨nk, hk2, ek, hnk, cU, cR⟩ := hU.out k hlt
      have cJ := cIk.out nk hk2 hnk
      generalize valB hk2 nk = xk at cU cJ
      obtain ⟨op, hop⟩ : ∃ op : Int, (k : Int) - 1 = op := ⟨_, rfl⟩
      rw [hop] at cU cR
      rw [hop]
      have o1 : -1 ≤ op := by omega
      have o2 : op ≤ 19 := by omega
      have nx1 : Value.int .i64 (op + 1) = Value.int .i64 (((k + 1 : Nat) : Int) - 1) := by congr 1; omega
      have ee : (ek != ek) = false := by simp
      clear hop
      replace nx1 := Lib.hid nx1
      replace cU := Lib.hid cU
      replace cR := Lib.hid cR
      replace cJ := Lib.hid cJ
      have v := V.all
      have u := U.all
      go_wp2_with fail
      (with_reducible refine (cU.out _).mono ?_)
      rintro e w4 ⟨rfl, hb4⟩
      have hbw4 : Below w.heap.size w w4 := below_call hb4 hbw
      have s4 := hbw4.size
      have V4 := V.over hb4
      have U4 := U.over hb4
      clear hb4 hbw V v U u
      go_wp2_with fail
      (with_reducible refine (cR.out _ (hA2.out.keep (by go_grown)) (hB2.out.keep (by go_grown))).mono ?_)
      rintro e w5 ⟨Ak, ck, rfl, Rk, hb5⟩
      have hbw5 : Below w.heap.size w w5 := below_call hb5 (by go_grown)
      have K5 := (HV.new w4 28 nk xk).over hb5
      have V5 := (V4.alloc _).over hb5
      have U5 := (U4.alloc _).over hb5
      have k5 := K5.all
      clear hb5 hbw4 V4 U4
      go_wp2_with fail
      (with_reducible refine (cJ.out _ _ _ Rk).mono ?_)
      rintro e w6 ⟨rfl, hb6⟩
      have hbw6 : Below w.heap.size w w6 := below_call hb6 hbw5
      have V6 := V5.over hb6
      have U6 := U5.over hb6
      have v6 := V6.all
      clear hb6 hbw5 V5 U5 K5 k5 Rk
      go_wp2_with fail
      (with_reducible refine (hIa.out _ (hA2.out.keep hbw6)).mono ?_)
      rintro e w7 ⟨rfl, hb7⟩
      have hbw7 : Below w.heap.size w w7 := below_call hb7 hbw6
      have V7 := V6.over hb7
      have U7 := U6.over hb7
      have u7 := U7.all
      clear hb7 hbw6 V6 U6 v6
      go_wp2_with fail
      (with_reducible refine (hIb.out _ (hB2.out.keep hbw7)).mono ?_)
      rintro e w8 ⟨rfl, hb8⟩
      have hbw8 : Below w.heap.size w w8 := below_call hb8 hbw7
      have V8 := Lib.hid (V7.over hb8)
      have U8 := Lib.hid (U7.over hb8)
      clear hb8 hbw7 V7 U7 u7
      go_wp2_with fail
      go_roundw
      case rel => exact ⟨k + 1, by omega, nx1.out, V8.out, U8.out, hbw8⟩
      case measure => simp [intOf]; omega
    · obtain rfl : k = 21 := by omega
      clear V U hlt hk
      go_wp2_with fail
      go_ret
      exact ⟨rfl, hbw⟩
set_option maxHeartbeats 800000 in
theorem Own_none (n c : Nat) (A : Option Addr) (w : World) (h : n < 1 ∨ 128 < n) :
    Calls Try.prog 8 #[.slice A n c] w (RV w (vv 0 0)) := by
  have hC := Lib.hid (fun w => Of_bad n c A w h)
  clear h
  go_enter Try.func8, Try.ntmps8
  go_wp2_with (go_at_call 25; (with_reducible refine (hC.out _).mono ?_); rintro e w1 ⟨rfl, hb1⟩; have Z1 := ((HV.zero w 28).over hb1); have hbw1 : Below w.heap.size w w1 := below_call hb1 (by go_grown); have z1 := Z1.all; have l1 := Z1.lt; have s1 := hbw1.size; clear hb1)
  refine bodyPost_ret (v := vv 0 0) (by simp [results, Try.results8, go_sem, z1, l1]) rfl ⟨rfl, ?_⟩
  go_grown
theorem own_pack (n c : Nat) (A : Option Addr) (f : Nat → Bool) (hn : n ≤ 128) : ∀ w, RB w A n f → Calls Try.prog 8 #[.slice A n c] w (RV w (vv n (valB f n))) := fun w h => by
  by_cases h0 : n = 0
  · subst h0
    exact Own_none 0 c A w (by omega)
  · exact Own_ok n c A f w (by omega) hn h
theorem Bins_all (na0 nb0 ca cb : Nat) (A B : Option Addr) (f g : Nat → Bool) (w : World) (hA0 : RB w A na0 f) (hca : na0 ≤ ca) (hB0 : RB w B nb0 g) (hcb : nb0 ≤ cb) :
    Calls Try.prog 3 #[.slice A na0 ca, .slice B nb0 cb] w (RV w (.bool true)) := by
  obtain ⟨na, hA, hSa⟩ := short_pack na0 ca A f w hA0 hca
  obtain ⟨nb, hB, hSb⟩ := short_pack nb0 cb B g w hB0 hcb
  have iz : ∀ (f : Nat → Bool) w, RB w none 0 f → Calls Try.prog 11 #[vv 0 0, .slice none 0 0] w (RV w (.bool true)) := fun f w h => Is_ok 0 0 none f w (by omega) h
  by_cases ha : na ≤ 128 <;> by_cases hb : nb ≤ 128
  · exact Bins_ss na0 nb0 na nb ca cb na nb _ _ A B f g w ha hb hA hB hSa hSb (own_pack na ca A f ha) (own_pack nb cb B g hb) (fun w h => Is_ok na ca A f w ha h) (fun w h => Is_ok nb cb B g w hb h) (bins_pack na nb ca cb A B f g ha hb)
  · exact Bins_sl na0 nb0 na nb ca cb na 0 _ 0 A B f g w ha (by omega) hA hB hSa hSb (own_pack na ca A f ha) (fun w _ => Own_none nb cb B w (by omega)) (fun w h => Is_ok na ca A f w ha h) (iz g) (bins_pack na 0 ca 0 A none f g ha (by omega))
  · exact Bins_ls na0 nb0 na nb ca cb 0 nb 0 _ A B f g w (by omega) hb hA hB hSa hSb (fun w _ => Own_none na ca A w (by omega)) (own_pack nb cb B g hb) (iz f) (fun w h => Is_ok nb cb B g w hb h) (bins_pack 0 nb 0 cb none B f g (by omega) hb)
  · exact Bins_ll na0 nb0 na nb ca cb 0 0 0 0 A B f g w (by omega) (by omega) hA hB hSa hSb (fun w _ => Own_none na ca A w (by omega)) (fun w _ => Own_none nb cb B w (by omega)) (iz f) (iz g) (bins_pack 0 0 0 0 none none f g (by omega) (by omega))
end Go.Proofs.Ytmgkidfikikjpaa
