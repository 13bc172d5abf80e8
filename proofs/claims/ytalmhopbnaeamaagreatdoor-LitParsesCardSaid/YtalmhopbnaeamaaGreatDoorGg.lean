/-
  The walk of lit's Text.
  The statements' awake; the reference's Dec, Equal, Same; Told.
  The statements' Told; the reference's Same.
-/
import Derived.Test.YtalmhopbnaeamaaGreatDoorGe
import Derived.Test.YtalmhopbnaeamaaGreatDoorFg
import Derived.Test.YtalmhopbnaeamaaGreatDoorFj
import Derived.BigQuiet
import Derived.Test.YtalmhopbnaeamaaGreatDoorRt
namespace Go.Proofs.YtalmhopbnaeamaaGreatDoor
open Go.RowKit Go.Lib
theorem dec_len (k : Nat) : ∀ u, u < 10 ^ (k + 1) → (decDigits u).length ≤ k + 1 := by
  induction k with
  | zero => intro u hu; rw [decDigits_one (by simpa using hu)]; simp
  | succ k ih =>
    intro u hu
    by_cases h : u < 10
    · rw [decDigits_one h]; simp
    · rw [dec_big h]
      have := ih (u / 10) (by rw [Nat.pow_succ] at hu; omega)
      simp; omega
theorem hexR_hxs (n x : Nat) (h1 : 1 ≤ n) (hn : n ≤ 128) (hx : x < 2 ^ n) : hexR (wordN x) (wN n) = hxs x := by
  have fin : ∀ k, 1 ≤ k → x < 16 ^ k → (if trimLeftB (hxf k x) 48 = [] then [48] else trimLeftB (hxf k x) 48) = hxs x := fun k hk hxk => by
    rw [hx_trim k x hk hxk]
    by_cases h0 : x = 0
    · subst h0
      rw [hxs_small (by decide)]
      rfl
    · rw [if_neg h0, if_neg (fun e => by have := hxs_pos x; rw [e] at this; exact absurd this (by decide))]
  unfold hexR
  by_cases h64 : n ≤ 64
  · have e1 : wN n = 1 := by unfold wN; omega
    have hx64 : x < 2 ^ 64 := Nat.lt_of_lt_of_le hx (Nat.pow_le_pow_right (by decide) h64)
    have e2 : wordN x 0 = x := by unfold wordN lo; rw [if_pos rfl]; exact Nat.mod_eq_of_lt hx64
    rw [e1, show hexP (wordN x) (dn 1 1) = hxf 16 (wordN x 0) ++ [] from rfl, e2, List.append_nil]
    exact fin 16 (by decide) (Nat.lt_of_lt_of_le hx64 (by decide))
  · have e1 : wN n = 2 := by unfold wN; omega
    have hx128 : x < 2 ^ 128 := Nat.lt_of_lt_of_le hx (Nat.pow_le_pow_right (by decide) hn)
    have hl : lo x < 2 ^ 64 := lo_lt x
    have e3 : hi x * 16 ^ 16 + lo x = x := by
      have := lo_hi x
      rw [show (16 : Nat) ^ 16 = 2 ^ 64 by decide]; omega
    rw [e1, show hexP (wordN x) (dn 2 2) = hxf 16 (hi x) ++ (hxf 16 (lo x) ++ []) from rfl, List.append_nil, hxf_cat 16 16 (hi x) (lo x) (Nat.lt_of_lt_of_le hl (by decide)), e3]
    exact fin 32 (by decide) (Nat.lt_of_lt_of_le hx128 (by decide))
theorem row_RW {w : World} {g m : Nat} {x : Nat} (h : w.rowIs g 23 m (wcell x)) : RW w (some ⟨g, 0, none⟩) m (wordN x) := fun _ =>
  ⟨g, 0, rfl, World.rowIs.lt h, fun j hj => by rw [Nat.zero_add]; exact World.rowIs.cell h hj⟩
theorem wordN_lt (n x : Nat) (hn : n ≤ 128) (hx : x < 2 ^ n) (j : Nat) : wordN x j < 2 ^ 64 := by
  unfold wordN
  split
  · exact lo_lt x
  · exact hi_lt hx hn
/-- Words and hexadecimal, one behind the other. -/
theorem hexw_t (n x : Nat) (h1 : 1 ≤ n) (hn : n ≤ 128) (hx : x < 2 ^ n) (g : Nat) (w : World) (hT : LT w) (h : w.rowIs g 23 (wN n) (wcell x)) :
    Calls Tryz.prog 37 #[.slice (some ⟨g, 0, none⟩) (wN n) (wN n)] w (RV w (.string ⟨(hxs x).toArray⟩)) := by
  rw [← hexR_hxs n x h1 hn hx]
  exact hexadecimal_t (wN n) (wN n) _ (wordN x) w (wordN_lt n x hn hx) (wN_le hn) (row_RW h) hT
set_option maxRecDepth 100000 in
set_option maxHeartbeats 3200000 in
theorem Text_w0 (n x : Nat) (sg sz : Bool) (w : World) (h0 : n = 0) : Calls Tryz.prog 13 #[lv n x sg sz] w (RV w (.string ⟨#[]⟩)) := by
  have nz : ((n : Int) == 0) = true := by simp; omega
  have hW := Lib.hid (fun w => Width_v n x w)
  clear h0
  unfold lv
  go_enter Tryz.func13, Tryz.ntmps13
  go_wp2_with fail
  (with_reducible refine (hW.out _).mono ?_)
  rintro e w1 ⟨rfl, hb1⟩
  have X1 := (H5.new w 28 (.int .i64 (n : Int)) (.int .u64 ((lo x : Nat) : Int)) (.int .u64 ((hi x : Nat) : Int)) (.bool sg) (.bool sz)).over hb1
  have x1 := X1.all
  have x1l := X1.lt
  have hbw1 : Below w.heap.size w w1 := below_call hb1 (by go_grown)
  have z1 := hbw1.size
  clear hb1
  go_wp2_with fail
  refine bodyPost_ret (v := .string ⟨#[]⟩) (by simp [results, Tryz.results13, go_sem]) rfl ⟨rfl, ?_⟩
  go_grown
set_option maxRecDepth 100000 in
set_option maxHeartbeats 3200000 in
theorem Text_no (n x : Nat) (sg : Bool) (w : World) (h0 : n ≠ 0) (h32 : n ≠ 32) : Calls Tryz.prog 13 #[lv n x sg false] w (RV w (.string ⟨#[]⟩)) := by
  have nz : ((n : Int) == 0) = false := by simp; omega
  have n2 : ((n : Int) != 32) = true := by simp; omega
  have n3 : ((n : Int) == 32) = false := by simp; omega
  have hW := Lib.hid (fun w => Width_v n x w)
  clear h0 h32
  unfold lv
  go_enter Tryz.func13, Tryz.ntmps13
  go_wp2_with fail
  (with_reducible refine (hW.out _).mono ?_)
  rintro e w1 ⟨rfl, hb1⟩
  have X1 := (H5.new w 28 (.int .i64 (n : Int)) (.int .u64 ((lo x : Nat) : Int)) (.int .u64 ((hi x : Nat) : Int)) (.bool sg) (.bool false)).over hb1
  have x1 := X1.all
  have x1l := X1.lt
  have hbw1 : Below w.heap.size w w1 := below_call hb1 (by go_grown)
  have z1 := hbw1.size
  clear hb1
  go_wp2_with fail
  refine bodyPost_ret (v := .string ⟨#[]⟩) (by simp [results, Tryz.results13, go_sem]) rfl ⟨rfl, ?_⟩
  go_grown
set_option maxRecDepth 100000 in
set_option maxHeartbeats 3200000 in
theorem Text_dec (x : Nat) (w : World) (hT : LT w) (hx : x < 2 ^ 32) (hB : ∀ w, Calls Tryz.prog 34 #[vv 32 x, .int .i64 31] w (RV w (.bool false))) (hx2 : x < 2147483648) :
    Calls Tryz.prog 13 #[lv 32 x true false] w (RV w (.string ⟨(decDigits x).toArray⟩)) := by
  obtain ⟨n, hn32⟩ : ∃ n : Nat, 32 = n := ⟨_, rfl⟩
  have hM := fun w => Num_v n x 2147483648 w (by decide)
  have em : min x 2147483648 = x := by omega
  rw [em] at hM
  clear em
  change ∀ w, Calls Tryz.prog 36 #[vv n x, .int .i64 2147483648] w _ at hM
  rw [hn32] at hB ⊢
  replace hM := Lib.hid hM
  replace hB := Lib.hid hB
  have hI := Lib.hid (fun w1 (hb : Below w.heap.size w w1) => Itoa_t x (by omega) w1 (hT.on hb))
  have nz : ((n : Int) == 0) = false := by simp; omega
  have n2 : ((n : Int) != 32) = false := by simp; omega
  have n3 : ((n : Int) == 32) = true := by simp; omega
  have hW := Lib.hid (fun w => Width_v n x w)
  clear hn32 hx hx2
  unfold lv
  go_enter Tryz.func13, Tryz.ntmps13
  go_wp2_with fail
  (with_reducible refine (hW.out _).mono ?_)
  rintro e w1 ⟨rfl, hb1⟩
  have X1 := (H5.new w 28 (.int .i64 (n : Int)) (.int .u64 ((lo x : Nat) : Int)) (.int .u64 ((hi x : Nat) : Int)) (.bool true) (.bool false)).over hb1
  have x1 := X1.all
  have x1l := X1.lt
  have hbw1 : Below w.heap.size w w1 := below_call hb1 (by go_grown)
  have z1 := hbw1.size
  clear hb1
  go_wp2_with fail
  (with_reducible refine (hB.out _).mono ?_)
  rintro e w2 ⟨rfl, hb2⟩
  have X2 := X1.over hb2
  have x2 := X2.all
  have x2l := X2.lt
  have hbw2 : Below w.heap.size w w2 := below_call hb2 (by first | exact hbw1 | go_grown)
  have z2 := hbw2.size
  clear hb2
  go_wp2_with fail
  (with_reducible refine (hM.out _).mono ?_)
  rintro e w3 ⟨rfl, hb3⟩
  have X3 := X2.over hb3
  have x3 := X3.all
  have x3l := X3.lt
  have hbw3 : Below w.heap.size w w3 := below_call hb3 (by first | exact hbw2 | go_grown)
  have z3 := hbw3.size
  clear hb3
  go_wp2_with fail
  (with_reducible refine (hI.out _ hbw3).mono ?_)
  rintro e w4 ⟨rfl, hb4⟩
  have hbw4 : Below w.heap.size w w4 := below_call hb4 (by first | exact hbw3 | go_grown)
  clear hb4
  go_wp2_with fail
  refine bodyPost_ret (v := .string ⟨(decDigits x).toArray⟩) (by simp [results, Tryz.results13, go_sem]) rfl ⟨rfl, ?_⟩
  go_grown
set_option maxRecDepth 100000 in
set_option maxHeartbeats 3200000 in
theorem Text_z0 (n x : Nat) (w : World) (hT : LT w) (h1 : 1 ≤ n) (hn : n ≤ 128) (hx : x < 2 ^ n) :
    Calls Tryz.prog 13 #[lv n x false true] w (RV w (.string ⟨(decDigits n ++ 39 :: ([] ++ 104 :: hxs x)).toArray⟩)) := by
  have hWo := Lib.hid (fun w => Words_v n x w hn)
  have hH := fun g w1 (hb : Below w.heap.size w w1) h => hexw_t n x h1 hn hx g w1 (hT.on hb) h
  obtain ⟨H, hH0⟩ : ∃ H : ByteArray, (⟨(hxs x).toArray⟩ : ByteArray) = H := ⟨_, rfl⟩
  have hHs : H.size ≤ 32 := by
    rw [← hH0]
    exact (hxs_pad 32 x (by decide) (Nat.lt_of_lt_of_le hx (Nat.le_trans (Nat.pow_le_pow_right (by decide) hn) (by decide)))).1
  rw [hH0] at hH
  have hI := fun w1 (hb : Below w.heap.size w w1) => Itoa_t n (by omega) w1 (hT.on hb)
  obtain ⟨I, hI0⟩ : ∃ I : ByteArray, (⟨(decDigits n).toArray⟩ : ByteArray) = I := ⟨_, rfl⟩
  have hIs : I.size ≤ 3 := by
    rw [← hI0]
    exact dec_len 2 n (by omega)
  rw [hI0] at hI
  replace hI := Lib.hid hI
  have hfin : ((((I ++ ⟨#[39]⟩) ++ ⟨#[104]⟩) ++ H) : ByteArray) = ⟨(decDigits n ++ 39 :: ([] ++ 104 :: hxs x)).toArray⟩ := by
    rw [← hH0, ← hI0]
    apply ByteArray.ext
    simp
  rw [← hfin]
  clear hfin hH0 hI0
  replace hH := Lib.hid hH
  have nz : ((n : Int) == 0) = false := by simp; omega
  have hW := Lib.hid (fun w => Width_v n x w)
  have q1 : I.size + 1 ≤ 9223372036854775807 := by omega
  have q2 : I.size + 1 + 1 ≤ 9223372036854775807 := by omega
  have q3 : I.size + 1 + 1 + 1 ≤ 9223372036854775807 := by omega
  have q4 : I.size + 1 + 1 + H.size ≤ 9223372036854775807 := by omega
  have q5 : I.size + 1 + 1 + 1 + H.size ≤ 9223372036854775807 := by omega
  obtain ⟨m, hm⟩ : ∃ m, wN n = m := ⟨_, rfl⟩
  rw [hm] at hH
  unfold WS at hWo
  rw [hm] at hWo
  clear hm h1 hn hx hT
  unfold lv
  go_enter Tryz.func13, Tryz.ntmps13
  go_wp2_with fail
  (with_reducible refine (hW.out _).mono ?_)
  rintro e w1 ⟨rfl, hb1⟩
  have X1 := (H5.new w 28 (.int .i64 (n : Int)) (.int .u64 ((lo x : Nat) : Int)) (.int .u64 ((hi x : Nat) : Int)) (.bool false) (.bool true)).over hb1
  have x1 := X1.all
  have x1l := X1.lt
  have hbw1 : Below w.heap.size w w1 := below_call hb1 (by go_grown)
  have z1 := hbw1.size
  clear hb1
  go_wp2_with fail
  (with_reducible refine (hI.out _ hbw1).mono ?_)
  rintro e w2 ⟨rfl, hb2⟩
  have X2 := X1.over hb2
  have x2 := X2.all
  have x2l := X2.lt
  have hbw2 : Below w.heap.size w w2 := below_call hb2 (by first | exact hbw1 | go_grown)
  have z2 := hbw2.size
  clear hb2
  go_wp2_with fail
  (with_reducible refine (hWo.out _).mono ?_)
  rintro e w8 ⟨g, rfl, hrow, hb8⟩
  have hbw8 : Below w.heap.size w w8 := below_call hb8 (by first | exact hbw2 | go_grown)
  have z8 := hbw8.size
  clear hb8
  replace hrow := Lib.hid hrow
  go_wp2_with fail
  (with_reducible refine (hH.out _ _ hbw8 hrow.out).mono ?_)
  rintro e w9 ⟨rfl, hb9⟩
  have hbw9 : Below w.heap.size w w9 := below_call hb9 (by first | exact hbw8 | go_grown)
  clear hb9
  go_wp2_with fail
  refine bodyPost_ret (v := .string (((I ++ ⟨#[39]⟩) ++ ⟨#[104]⟩) ++ H)) (by simp [results, Tryz.results13, go_sem]) rfl ⟨rfl, ?_⟩
  go_grown
set_option maxRecDepth 100000 in
set_option maxHeartbeats 3200000 in
theorem Text_z1 (n x : Nat) (w : World) (hT : LT w) (h1 : 1 ≤ n) (hn : n ≤ 128) (hx : x < 2 ^ n) :
    Calls Tryz.prog 13 #[lv n x true true] w (RV w (.string ⟨(decDigits n ++ 39 :: ([115] ++ 104 :: hxs x)).toArray⟩)) := by
  have hWo := Lib.hid (fun w => Words_v n x w hn)
  have hH := fun g w1 (hb : Below w.heap.size w w1) h => hexw_t n x h1 hn hx g w1 (hT.on hb) h
  obtain ⟨H, hH0⟩ : ∃ H : ByteArray, (⟨(hxs x).toArray⟩ : ByteArray) = H := ⟨_, rfl⟩
  have hHs : H.size ≤ 32 := by
    rw [← hH0]
    exact (hxs_pad 32 x (by decide) (Nat.lt_of_lt_of_le hx (Nat.le_trans (Nat.pow_le_pow_right (by decide) hn) (by decide)))).1
  rw [hH0] at hH
  have hI := fun w1 (hb : Below w.heap.size w w1) => Itoa_t n (by omega) w1 (hT.on hb)
  obtain ⟨I, hI0⟩ : ∃ I : ByteArray, (⟨(decDigits n).toArray⟩ : ByteArray) = I := ⟨_, rfl⟩
  have hIs : I.size ≤ 3 := by
    rw [← hI0]
    exact dec_len 2 n (by omega)
  rw [hI0] at hI
  replace hI := Lib.hid hI
  have hfin : (((((I ++ ⟨#[39]⟩) ++ ⟨#[115]⟩) ++ ⟨#[104]⟩) ++ H) : ByteArray) = ⟨(decDigits n ++ 39 :: ([115] ++ 104 :: hxs x)).toArray⟩ := by
    rw [← hH0, ← hI0]
    apply ByteArray.ext
    simp
  rw [← hfin]
  clear hfin hH0 hI0
  replace hH := Lib.hid hH
  have nz : ((n : Int) == 0) = false := by simp; omega
  have hW := Lib.hid (fun w => Width_v n x w)
  have q1 : I.size + 1 ≤ 9223372036854775807 := by omega
  have q2 : I.size + 1 + 1 ≤ 9223372036854775807 := by omega
  have q3 : I.size + 1 + 1 + 1 ≤ 9223372036854775807 := by omega
  have q4 : I.size + 1 + 1 + H.size ≤ 9223372036854775807 := by omega
  have q5 : I.size + 1 + 1 + 1 + H.size ≤ 9223372036854775807 := by omega
  obtain ⟨m, hm⟩ : ∃ m, wN n = m := ⟨_, rfl⟩
  rw [hm] at hH
  unfold WS at hWo
  rw [hm] at hWo
  clear hm h1 hn hx hT
  unfold lv
  go_enter Tryz.func13, Tryz.ntmps13
  go_wp2_with fail
  (with_reducible refine (hW.out _).mono ?_)
  rintro e w1 ⟨rfl, hb1⟩
  have X1 := (H5.new w 28 (.int .i64 (n : Int)) (.int .u64 ((lo x : Nat) : Int)) (.int .u64 ((hi x : Nat) : Int)) (.bool true) (.bool true)).over hb1
  have x1 := X1.all
  have x1l := X1.lt
  have hbw1 : Below w.heap.size w w1 := below_call hb1 (by go_grown)
  have z1 := hbw1.size
  clear hb1
  go_wp2_with fail
  (with_reducible refine (hI.out _ hbw1).mono ?_)
  rintro e w2 ⟨rfl, hb2⟩
  have X2 := X1.over hb2
  have x2 := X2.all
  have x2l := X2.lt
  have hbw2 : Below w.heap.size w w2 := below_call hb2 (by first | exact hbw1 | go_grown)
  have z2 := hbw2.size
  clear hb2
  go_wp2_with fail
  (with_reducible refine (hWo.out _).mono ?_)
  rintro e w8 ⟨g, rfl, hrow, hb8⟩
  have hbw8 : Below w.heap.size w w8 := below_call hb8 (by first | exact hbw2 | go_grown)
  have z8 := hbw8.size
  clear hb8
  replace hrow := Lib.hid hrow
  go_wp2_with fail
  (with_reducible refine (hH.out _ _ hbw8 hrow.out).mono ?_)
  rintro e w9 ⟨rfl, hb9⟩
  have hbw9 : Below w.heap.size w w9 := below_call hb9 (by first | exact hbw8 | go_grown)
  clear hb9
  go_wp2_with fail
  refine bodyPost_ret (v := .string ((((I ++ ⟨#[39]⟩) ++ ⟨#[115]⟩) ++ ⟨#[104]⟩) ++ H)) (by simp [results, Tryz.results13, go_sem]) rfl ⟨rfl, ?_⟩
  go_grown
set_option maxRecDepth 100000 in
set_option maxHeartbeats 3200000 in
theorem Text_u0 (n x : Nat) (w : World) (hT : LT w) (h1 : 1 ≤ n) (hn : n ≤ 128) (hx : x < 2 ^ n) (h32 : n = 32) :
    Calls Tryz.prog 13 #[lv n x false false] w (RV w (.string ⟨([] ++ 39 :: ([] ++ 104 :: hxs x)).toArray⟩)) := by
  have hWo := Lib.hid (fun w => Words_v n x w hn)
  have hH := fun g w1 (hb : Below w.heap.size w w1) h => hexw_t n x h1 hn hx g w1 (hT.on hb) h
  obtain ⟨H, hH0⟩ : ∃ H : ByteArray, (⟨(hxs x).toArray⟩ : ByteArray) = H := ⟨_, rfl⟩
  have hHs : H.size ≤ 32 := by
    rw [← hH0]
    exact (hxs_pad 32 x (by decide) (Nat.lt_of_lt_of_le hx (Nat.le_trans (Nat.pow_le_pow_right (by decide) hn) (by decide)))).1
  rw [hH0] at hH
  have hfin : (((⟨#[39]⟩ ++ ⟨#[104]⟩) ++ H) : ByteArray) = ⟨([] ++ 39 :: ([] ++ 104 :: hxs x)).toArray⟩ := by
    rw [← hH0]
    apply ByteArray.ext
    simp
  rw [← hfin]
  clear hfin hH0
  replace hH := Lib.hid hH
  have nz : ((n : Int) == 0) = false := by simp; omega
  have hW := Lib.hid (fun w => Width_v n x w)
  have n2 : ((n : Int) != 32) = false := by simp; omega
  have n3 : ((n : Int) == 32) = true := by simp; omega
  have q4 : 1 + 1 + H.size ≤ 9223372036854775807 := by omega
  have q5 : 2 + H.size ≤ 9223372036854775807 := by omega
  have q6 : 3 + H.size ≤ 9223372036854775807 := by omega
  obtain ⟨m, hm⟩ : ∃ m, wN n = m := ⟨_, rfl⟩
  rw [hm] at hH
  unfold WS at hWo
  rw [hm] at hWo
  clear hm h1 hn hx hT h32
  unfold lv
  go_enter Tryz.func13, Tryz.ntmps13
  go_wp2_with fail
  (with_reducible refine (hW.out _).mono ?_)
  rintro e w1 ⟨rfl, hb1⟩
  have X1 := (H5.new w 28 (.int .i64 (n : Int)) (.int .u64 ((lo x : Nat) : Int)) (.int .u64 ((hi x : Nat) : Int)) (.bool false) (.bool false)).over hb1
  have x1 := X1.all
  have x1l := X1.lt
  have hbw1 : Below w.heap.size w w1 := below_call hb1 (by go_grown)
  have z1 := hbw1.size
  clear hb1
  go_wp2_with fail
  (with_reducible refine (hWo.out _).mono ?_)
  rintro e w8 ⟨g, rfl, hrow, hb8⟩
  have hbw8 : Below w.heap.size w w8 := below_call hb8 (by first | exact hbw1 | go_grown)
  have z8 := hbw8.size
  clear hb8
  replace hrow := Lib.hid hrow
  go_wp2_with fail
  (with_reducible refine (hH.out _ _ hbw8 hrow.out).mono ?_)
  rintro e w9 ⟨rfl, hb9⟩
  have hbw9 : Below w.heap.size w w9 := below_call hb9 (by first | exact hbw8 | go_grown)
  clear hb9
  go_wp2_with fail
  refine bodyPost_ret (v := .string ((⟨#[39]⟩ ++ ⟨#[104]⟩) ++ H)) (by simp [results, Tryz.results13, go_sem]) rfl ⟨rfl, ?_⟩
  go_grown
set_option maxRecDepth 100000 in
set_option maxHeartbeats 3200000 in
theorem Text_u1 (n x : Nat) (w : World) (hT : LT w) (h1 : 1 ≤ n) (hn : n ≤ 128) (hx : x < 2 ^ n) (h32 : n = 32) (hB : ∀ w, Calls Tryz.prog 34 #[vv n x, .int .i64 31] w (RV w (.bool true))) :
    Calls Tryz.prog 13 #[lv n x true false] w (RV w (.string ⟨([] ++ 39 :: ([115] ++ 104 :: hxs x)).toArray⟩)) := by
  have hWo := Lib.hid (fun w => Words_v n x w hn)
  have hH := fun g w1 (hb : Below w.heap.size w w1) h => hexw_t n x h1 hn hx g w1 (hT.on hb) h
  obtain ⟨H, hH0⟩ : ∃ H : ByteArray, (⟨(hxs x).toArray⟩ : ByteArray) = H := ⟨_, rfl⟩
  have hHs : H.size ≤ 32 := by
    rw [← hH0]
    exact (hxs_pad 32 x (by decide) (Nat.lt_of_lt_of_le hx (Nat.le_trans (Nat.pow_le_pow_right (by decide) hn) (by decide)))).1
  rw [hH0] at hH
  have hfin : ((((⟨#[39]⟩ ++ ⟨#[115]⟩) ++ ⟨#[104]⟩) ++ H) : ByteArray) = ⟨([] ++ 39 :: ([115] ++ 104 :: hxs x)).toArray⟩ := by
    rw [← hH0]
    apply ByteArray.ext
    simp
  rw [← hfin]
  clear hfin hH0
  replace hH := Lib.hid hH
  replace hB := Lib.hid hB
  have nz : ((n : Int) == 0) = false := by simp; omega
  have hW := Lib.hid (fun w => Width_v n x w)
  have n2 : ((n : Int) != 32) = false := by simp; omega
  have n3 : ((n : Int) == 32) = true := by simp; omega
  have q4 : 1 + 1 + H.size ≤ 9223372036854775807 := by omega
  have q5 : 2 + H.size ≤ 9223372036854775807 := by omega
  have q6 : 3 + H.size ≤ 9223372036854775807 := by omega
  obtain ⟨m, hm⟩ : ∃ m, wN n = m := ⟨_, rfl⟩
  rw [hm] at hH
  unfold WS at hWo
  rw [hm] at hWo
  clear hm h1 hn hx hT h32
  unfold lv
  go_enter Tryz.func13, Tryz.ntmps13
  go_wp2_with fail
  (with_reducible refine (hW.out _).mono ?_)
  rintro e w1 ⟨rfl, hb1⟩
  have X1 := (H5.new w 28 (.int .i64 (n : Int)) (.int .u64 ((lo x : Nat) : Int)) (.int .u64 ((hi x : Nat) : Int)) (.bool true) (.bool false)).over hb1
  have x1 := X1.all
  have x1l := X1.lt
  have hbw1 : Below w.heap.size w w1 := below_call hb1 (by go_grown)
  have z1 := hbw1.size
  clear hb1
  go_wp2_with fail
  (with_reducible refine (hB.out _).mono ?_)
  rintro e w2 ⟨rfl, hb2⟩
  have X2 := X1.over hb2
  have x2 := X2.all
  have x2l := X2.lt
  have hbw2 : Below w.heap.size w w2 := below_call hb2 (by first | exact hbw1 | go_grown)
  have z2 := hbw2.size
  clear hb2
  go_wp2_with fail
  (with_reducible refine (hWo.out _).mono ?_)
  rintro e w8 ⟨g, rfl, hrow, hb8⟩
  have hbw8 : Below w.heap.size w w8 := below_call hb8 (by first | exact hbw2 | go_grown)
  have z8 := hbw8.size
  clear hb8
  replace hrow := Lib.hid hrow
  go_wp2_with fail
  (with_reducible refine (hH.out _ _ hbw8 hrow.out).mono ?_)
  rintro e w9 ⟨rfl, hb9⟩
  have hbw9 : Below w.heap.size w w9 := below_call hb9 (by first | exact hbw8 | go_grown)
  clear hb9
  go_wp2_with fail
  refine bodyPost_ret (v := .string (((⟨#[39]⟩ ++ ⟨#[115]⟩) ++ ⟨#[104]⟩) ++ H)) (by simp [results, Tryz.results13, go_sem]) rfl ⟨rfl, ?_⟩
  go_grown
/-- Text, of any literal. -/
theorem Text_t (n x : Nat) (sg sz : Bool) (w : World) (hT : LT w) (hn : n ≤ 128) (hx : x < 2 ^ n) :
    Calls Tryz.prog 13 #[lv n x sg sz] w (RV w (.string ⟨(txL n x sg sz).toArray⟩)) := by
  unfold txL
  by_cases h0 : n = 0
  · rw [show txB n sz = true by unfold txB; simp [h0], if_pos rfl]
    exact Text_w0 n x sg sz w h0
  cases sz
  · by_cases h32 : n = 32
    · subst h32
      rw [show txB 32 false = false by decide, if_neg (by decide)]
      have hB := fun w => Bit_v 32 x 31 w (by decide) hx
      have eb : bitI 32 x 31 = x.testBit 31 := by unfold bitI; rfl
      rw [eb] at hB
      cases sg
      · rw [if_neg (by simp), if_neg (by decide), if_neg (by decide)]
        exact Text_u0 32 x w hT (by decide) (by decide) hx rfl
      · cases hb : x.testBit 31
        · rw [if_pos (by rfl)]
          rw [hb] at hB
          refine Text_dec x w hT hx hB ?_
          have := Nat.lt_pow_two_of_testBit (n := 31) x (fun i hi => by
            rcases Nat.lt_or_ge i 32 with h | h
            · rw [show i = 31 by omega]; exact hb
            · exact Nat.testBit_lt_two_pow (Nat.lt_of_lt_of_le hx (Nat.pow_le_pow_right (by decide) h)))
          simpa using this
        · rw [if_neg (by simp), if_neg (by decide), if_pos rfl]
          rw [hb] at hB
          exact Text_u1 32 x w hT (by decide) (by decide) hx rfl hB
    · rw [show txB n false = true by unfold txB; simp [h32], if_pos rfl]
      exact Text_no n x sg w h0 h32
  · rw [show txB n true = false by unfold txB; simp [h0], if_neg (by decide), if_neg (by simp), if_pos rfl]
    cases sg
    · rw [if_neg (by decide)]
      exact Text_z0 n x w hT (by omega) hn hx
    · rw [if_pos rfl]
      exact Text_z1 n x w hT (by omega) hn hx
end Go.Proofs.YtalmhopbnaeamaaGreatDoor
namespace Go.Proofs.YtalmhopbnaeamaaGreatDoor
open Go.RowKit Go.Lib
theorem valB_nq (f g : Nat → Bool) (n k : Nat) (hk : k < n) (h : f k ≠ g k) : valB f n ≠ valB g n := fun e => h (by
  have h1 : (valB f n).testBit k = f k := by rw [valB_testBit]; simp [hk]
  have h2 : (valB g n).testBit k = g k := by rw [valB_testBit]; simp [hk]
  rw [← h1, ← h2, e])
set_option maxRecDepth 100000 in
set_option maxHeartbeats 2000000 in
theorem refEq_ok (n c1 c2 : Nat) (A B : Option Addr) (f g : Nat → Bool) (w : World) (hn : n ≤ 140) (hA : RB w A n f) (hB : RB w B n g) :
    Calls Tryz.prog 32 #[.slice A n c1, .slice B n c2] w (RV w (.bool (decide (valB f n = valB g n)))) := by
  have n0 : ((n : Int) != (n : Int)) = false := by simp
  replace hA := Lib.hid hA
  replace hB := Lib.hid hB
  go_enter Tryz.func32, Tryz.ntmps32
  go_wp2
  go_loopw [5] (fun i wr => ∃ k : Nat, k ≤ n ∧ i = .int .i64 (k : Int) ∧ (∀ j, j < k → f j = g j) ∧ Below w.heap.size w wr) (fun i _ => n - (RowKit.intOf i).toNat)
  case atStart => exact ⟨0, Nat.zero_le _, rfl, fun j h => absurd h (by omega), by go_grown⟩
  case round =>
    obtain ⟨k, hk, rfl, hab, hbw⟩ := hrel
    replace hab := Lib.hid hab
    clear n0
    by_cases hlt : k < n
    · obtain ⟨b, off, rfl, hb, hcs⟩ := (hA.out.keep hbw) (by omega)
      obtain ⟨b2, off2, rfl, hb2, hcs2⟩ := (hB.out.keep hbw) (by omega)
      have hck := hcs k hlt
      have hck2 := hcs2 k hlt
      clear hcs hcs2
      have hne := Lib.hid (fun (h : f k ≠ g k) => valB_nq f g n k hlt h)
      have heq := Lib.hid (fun (h : f k = g k) (j : Nat) (h2 : j < k + 1) => (show f j = g j from if h3 : j = k then by rw [h3]; exact h else hab.out j (by omega)))
      clear hab
      generalize f k = bx at hck hne heq
      generalize g k = bz at hck2 hne heq
      by_cases hxz : bx = bz
      · subst hxz
        have heq2 := Lib.hid (heq.out rfl)
        have qq : (bx != bx) = false := by simp
        clear hne heq
        go_wp2_with fail
        go_quiet (fail)
        have hbn := below_drewN hbw nq
        go_wp2_with fail
        go_roundw
        case rel => exact ⟨k + 1, by omega, by go_num, heq2.out, hbn⟩
        case measure => simp [RowKit.intOf] <;> omega
      · have e := Lib.hid (show decide (valB f n = valB g n) = false from decide_eq_false (hne.out hxz))
        have qq : (bx != bz) = true := by simpa using hxz
        have qq2 : (bx == bz) = false := by simpa using hxz
        clear hne heq hxz
        go_wp2_with fail
        go_quiet (fail)
        have hbn := below_drewN hbw nq
        go_wp2_with fail
        go_ret
        exact ⟨by rw [e.out]; rfl, hbn⟩
    · obtain rfl : k = n := by omega
      have e := Lib.hid (show decide (valB f k = valB g k) = true from decide_eq_true (valB_congr k hab.out))
      clear hab
      go_wp2_with fail
      go_ret
      exact ⟨by rw [e.out]; rfl, hbw⟩
set_option maxHeartbeats 400000 in
theorem refEq_ne (n m c1 c2 : Nat) (A B : Option Addr) (w : World) (h : n ≠ m) :
    Calls Tryz.prog 32 #[.slice A n c1, .slice B m c2] w (RV w (.bool false)) := by
  have n0 : ((n : Int) != (m : Int)) = true := by simp; omega
  have n1 : ((n : Int) == (m : Int)) = false := by simp; omega
  clear h
  go_enter Tryz.func32, Tryz.ntmps32
  go_wp2
  go_ret
  exact ⟨rfl, by go_grown⟩
theorem pa_awake : paV ⟨#[52, 39, 115, 98, 49, 95, 48, 49, 48]⟩ = ⟨4, 10, true, true, 0⟩ := by kernel_rfl
theorem tx_awake : txL 4 10 true true = [52, 39, 115, 104, 97] := by
  unfold txL
  rw [show txB 4 true = false by decide, if_neg (by decide), if_neg (by decide), decDigits_one (by decide), hxs_small (by decide)]
  decide
theorem txt_4a : txt 4 10 = ⟨#[49, 48, 49, 48]⟩ := by decide
set_option maxRecDepth 100000 in
set_option maxHeartbeats 1600000 in
theorem lawake_t (w : World) (hT : LT w) : Calls Tryz.prog 8 #[] w (RV w (.bool true)) := by
  have hP := fun w => Parse_t ⟨#[52, 39, 115, 98, 49, 95, 48, 49, 48]⟩ w (by decide)
  rw [pa_awake] at hP
  have hB := fun w => Text_v 4 10 w (by decide) (by decide)
  rw [txt_4a] at hB
  have hX := fun w1 (hb : Below w.heap.size w w1) => Text_t 4 10 true true w1 (hT.on hb) (by decide) (by decide)
  rw [tx_awake] at hX
  obtain ⟨n, hn⟩ : ∃ n : Nat, 4 = n := ⟨_, rfl⟩
  obtain ⟨x, hx⟩ : ∃ x : Nat, 10 = x := ⟨_, rfl⟩
  unfold PR.val at hP
  dsimp only at hP
  rw [hn, hx] at hP hB hX
  unfold lv at hP hX
  replace hP := Lib.hid hP
  replace hB := Lib.hid hB
  replace hX := Lib.hid hX
  clear hn hx hT
  go_enter Tryz.func8, Tryz.ntmps8
  go_wp2_with fail
  (with_reducible refine (hP.out _).mono ?_)
  rintro e w1 ⟨rfl, hb1⟩
  have hbw1 : Below w.heap.size w w1 := below_call hb1 (by go_grown)
  have z1 := hbw1.size
  clear hb1
  go_wp2_with fail
  (with_reducible refine (hB.out _).mono ?_)
  rintro e w2 ⟨rfl, hb2⟩
  have X2 := (H5.new w1 28 (.int .i64 (n : Int)) (.int .u64 ((lo x : Nat) : Int)) (.int .u64 ((hi x : Nat) : Int)) (.bool true) (.bool true)).over hb2
  have x2 := X2.all
  have x2l := X2.lt
  have hbw2 : Below w.heap.size w w2 := below_call hb2 (by go_grown)
  have z2 := hbw2.size
  clear hb2
  go_wp2_with fail
  (with_reducible refine (hX.out _ (by first | exact hbw2 | go_grown)).mono ?_)
  rintro e w3 ⟨rfl, hb3⟩
  have hbw3 : Below w.heap.size w w3 := below_call hb3 (by first | exact hbw2 | go_grown)
  clear hb3
  go_wp2_with fail
  go_ret
  exact ⟨rfl, hbw3⟩
theorem conv_one (c : UInt8) (w : World) :
    (convert 74 9 (.slice (some ⟨w.heap.size, 0, none⟩) 1 1)).run Tryz.prog (w.alloc (.cells #[.int .u8 ((c.toNat : Nat) : Int)] 5)) = .ok (.string ⟨#[c]⟩) (w.alloc (.cells #[.int .u8 ((c.toNat : Nat) : Int)] 5)) := by
  rw [run_convert_bytes_string _ _ _ 5 _ _ _ Tryz.underlying74 Tryz.underlying5 Tryz.underlying9, show (⟨#[c]⟩ : ByteArray) = ⟨[c].toArray⟩ from rfl, ← push_bytes]
  refine run_bytesToString _ _ _ _ [((c.toNat : Nat) : Int)] ?_
  have hl := run_loadCells_list (P := Tryz.prog) (w.alloc (.cells #[.int .u8 ((c.toNat : Nat) : Int)] 5)) ⟨w.heap.size, 0, none⟩ [Value.int .u8 ((c.toNat : Nat) : Int)] (fun j v hv => by
    have hj : j = 0 := by
      rcases Nat.eq_zero_or_pos j with h | h
      · exact h
      · rw [List.getElem?_eq_none (by simp; omega)] at hv; cases hv
    subst hj
    cases hv
    exact World.cell?_alloc_new w _ _ 0)
  simpa using hl
theorem dec_step (n : Nat) (h : 9 < n) (hn : n < 4611686018427387904) : ∃ (d q : Nat) (c : UInt8), (n : Int) % 10 = (d : Int) ∧ (n : Int).tmod 10 = (d : Int) ∧ IntKind.u8.wrap (48 + (d : Int)) = ((c.toNat : Nat) : Int) ∧ IntKind.i64.wrap ((n : Int) / 10) = (q : Int) ∧ q < n ∧ decDigits n = decDigits q ++ [c] := by
  have hc : (UInt8.ofNat (48 + n % 10)).toNat = 48 + n % 10 := UInt8.toNat_ofNat_of_lt (by show 48 + n % 10 < 256; omega)
  refine ⟨n % 10, n / 10, UInt8.ofNat (48 + n % 10), by omega, ?_, ?_, ?_, by omega, dec_big (by omega)⟩
  · rw [Int.tmod_eq_emod_of_nonneg (by omega)]; omega
  · rw [hc, IntWalk.u8_in _ (by omega)]; omega
  · rw [IntWalk.i64_in _ (by omega)]; omega
theorem dec_last (n : Nat) (h : ¬ 9 < n) : ∃ c : UInt8, IntKind.u8.wrap (48 + (n : Int)) = ((c.toNat : Nat) : Int) ∧ decDigits n = [c] := by
  have hc : (UInt8.ofNat (48 + n)).toNat = 48 + n := UInt8.toNat_ofNat_of_lt (by show 48 + n < 256; omega)
  refine ⟨UInt8.ofNat (48 + n), ?_, decDigits_one (by omega)⟩
  rw [hc, IntWalk.u8_in _ (by omega)]; omega
set_option maxRecDepth 100000 in
set_option maxHeartbeats 1600000 in
theorem Dec_t (x : Nat) (hx : x < 4611686018427387904) (w : World) : Calls Tryz.prog 20 #[.int .i64 (x : Int)] w (RV w (.string ⟨(decDigits x).toArray⟩)) := by
  have hL : (decDigits x).length ≤ 19 := dec_len 18 x (Nat.lt_of_lt_of_le hx (by decide))
  obtain ⟨M, hM⟩ : ∃ M, (decDigits x).length = M := ⟨_, rfl⟩
  rw [hM] at hL
  replace hM := Lib.hid hM
  go_enter Tryz.func20, Tryz.ntmps20
  go_wp2
  go_loopw [0, 3] (fun vn vs wr => ∃ (n : Nat) (s : List UInt8), vn = .int .i64 (n : Int) ∧ vs = .string ⟨s.toArray⟩ ∧ decDigits x = decDigits n ++ s ∧ n ≤ x ∧ Below w.heap.size w wr) (fun vn _ _ => (RowKit.intOf vn).toNat)
  case atStart => exact ⟨x, [], rfl, rfl, by simp, Nat.le_refl _, by go_grown⟩
  case round =>
    obtain ⟨n, s, rfl, rfl, hs, hnx, hbw⟩ := hrel
    have hsl : s.length ≤ 19 := by have := hM.out; rw [hs] at this; simp at this; omega
    obtain ⟨S, hS⟩ : ∃ S : ByteArray, (⟨s.toArray⟩ : ByteArray) = S := ⟨_, rfl⟩
    have hSl : S.size ≤ 19 := by rw [← hS]; exact hsl
    have q1 : 1 + S.size ≤ 9223372036854775807 := by omega
    have hn62 : n < 4611686018427387904 := by omega
    rw [hS]
    by_cases h9 : 9 < n
    · obtain ⟨d, q, c, e1, e2, e3, e4, hqn, hds⟩ := dec_step n h9 hn62
      have hconv := conv_one c
      have hfin := Lib.hid (show decDigits x = decDigits q ++ ([c] ++ s) by rw [hs, hds, List.append_assoc])
      have happ := Lib.hid (show (⟨#[c]⟩ : ByteArray) ++ S = ⟨([c] ++ s).toArray⟩ by rw [← hS]; exact ba_app [c] s)
      have hqx : q ≤ x := by omega
      replace hqx := Lib.hid hqx
      clear hs hS hsl hL hx hSl hds hnx hn62
      go_wp2
      go_roundw
      case rel => exact ⟨q, [c] ++ s, rfl, by rw [happ.out], hfin.out, hqx.out, hbw.alloc hbw.size _⟩
      case measure => simp [RowKit.intOf]; omega
    · obtain ⟨c, e3, hds⟩ := dec_last n h9
      have hconv := conv_one c
      have hfin := Lib.hid (show (⟨#[c]⟩ : ByteArray) ++ S = ⟨(decDigits x).toArray⟩ by rw [hs, hds, ← hS]; exact ba_app [c] s)
      clear hs hS hsl hL hx hSl hds hnx hn62
      go_wp2
      go_ret
      exact ⟨by rw [hfin.out]; rfl, hbw.alloc hbw.size _⟩
end Go.Proofs.YtalmhopbnaeamaaGreatDoor
namespace Go.Proofs.YtalmhopbnaeamaaGreatDoor
open Go.RowKit Go.Lib
/-- What Told returns: the bits in a new slice. -/
def TD (w : World) (n x : Nat) (sg sz : Bool) (e : Ending) (w' : World) : Prop := ∃ g : Nat, e = .returned (.agg #[.slice (some ⟨g, 0, none⟩) n n, .bool sg, .bool sz]) ∧ RB w' (some ⟨g, 0, none⟩) n (tb x) ∧ Below w.heap.size w w'
set_option maxRecDepth 100000 in
set_option maxHeartbeats 3200000 in
theorem Told_t (n x : Nat) (sg sz : Bool) (w : World) (hn : n ≤ 128) (hx : x < 2 ^ n) : Calls Tryz.prog 12 #[lv n x sg sz] w (TD w n x sg sz) := by
  have hB := Lib.hid (fun w => Bits_v n x w hn hx)
  unfold BS at hB
  clear hn hx
  unfold lv
  go_enter Tryz.func12, Tryz.ntmps12
  go_wp2_with fail
  have X0 := ((H5.new w 28 (.int .i64 (n : Int)) (.int .u64 ((lo x : Nat) : Int)) (.int .u64 ((hi x : Nat) : Int)) (.bool sg) (.bool sz)).alloc (.cells #[.slice none 0 0, .bool false, .bool false] 34))
  have N0 := H3.new (w.alloc (.cells #[.int .i64 (n : Int), .int .u64 ((lo x : Nat) : Int), .int .u64 ((hi x : Nat) : Int), .bool sg, .bool sz] 28)) 34 (.slice none 0 0) (.bool false) (.bool false)
  rw [World.size_alloc] at N0
  have hB0 : Below w.heap.size w ((w.alloc (.cells #[.int .i64 (n : Int), .int .u64 ((lo x : Nat) : Int), .int .u64 ((hi x : Nat) : Int), .bool sg, .bool sz] 28)).alloc (.cells #[.slice none 0 0, .bool false, .bool false] 34)) := by go_grown
  obtain ⟨W, hW⟩ : ∃ W, ((w.alloc (.cells #[.int .i64 (n : Int), .int .u64 ((lo x : Nat) : Int), .int .u64 ((hi x : Nat) : Int), .bool sg, .bool sz] 28)).alloc (.cells #[.slice none 0 0, .bool false, .bool false] 34)) = W := ⟨_, rfl⟩
  rw [hW] at X0 N0 hB0 ⊢
  clear hW
  have S1 : H5 28 W.drew w.heap.size (.int .i64 (n : Int)) (.int .u64 ((lo x : Nat) : Int)) (.int .u64 ((hi x : Nat) : Int)) (.bool sg) (.bool sz) := X0
  have N1 : H3 34 W.drew (w.heap.size + 1) (.slice none 0 0) (.bool false) (.bool false) := N0
  refine region_anyT (n := 8) (S := fun w' => H5 28 w' w.heap.size (.int .i64 (n : Int)) (.int .u64 ((lo x : Nat) : Int)) (.int .u64 ((hi x : Nat) : Int)) (.bool sg) (.bool sz)) (by kernel_rfl) ?_
  refine anyT_take (i := 0) (v := .pointer (some ⟨w.heap.size, 0, none⟩)) rfl (by kernel_rfl) (by kernel_rfl) (fun _ _ _ h => h) (Or.inl ⟨by rfl, ?_⟩) S1 ?_
  · intro w' hw'
    obtain ⟨k1, k2, k3, k4, k5, k6⟩ := H5.all hw'
    go_simp
    try with_reducible rfl
  try simp only [Act.put, List.getElem_toArray, List.getElem_cons_zero, List.getElem_cons_succ, List.setIfInBounds_toArray, List.set_cons_zero, List.set_cons_succ]
  refine anyT_take (i := 1) (v := vv n x) rfl (by kernel_rfl) (by kernel_rfl) (fun _ _ _ h => h) (Or.inl ⟨by rfl, ?_⟩) S1 ?_
  · intro w' hw'
    obtain ⟨k1, k2, k3, k4, k5, k6⟩ := H5.all hw'
    go_simp
    try with_reducible rfl
  try simp only [Act.put, List.getElem_toArray, List.getElem_cons_zero, List.getElem_cons_succ, List.setIfInBounds_toArray, List.set_cons_zero, List.set_cons_succ]
  refine anyT_take (i := 3) (v := .pointer (some ⟨w.heap.size, 3, none⟩)) rfl (by kernel_rfl) (by kernel_rfl) (fun _ _ _ h => h) (Or.inl ⟨by rfl, ?_⟩) S1 ?_
  · intro w' hw'
    obtain ⟨k1, k2, k3, k4, k5, k6⟩ := H5.all hw'
    go_simp
    try with_reducible rfl
  try simp only [Act.put, List.getElem_toArray, List.getElem_cons_zero, List.getElem_cons_succ, List.setIfInBounds_toArray, List.set_cons_zero, List.set_cons_succ]
  refine anyT_take (i := 4) (v := .bool sg) rfl (by kernel_rfl) (by kernel_rfl) (fun _ _ _ h => h) (Or.inl ⟨by rfl, ?_⟩) S1 ?_
  · intro w' hw'
    obtain ⟨k1, k2, k3, k4, k5, k6⟩ := H5.all hw'
    go_simp
    try with_reducible rfl
  try simp only [Act.put, List.getElem_toArray, List.getElem_cons_zero, List.getElem_cons_succ, List.setIfInBounds_toArray, List.set_cons_zero, List.set_cons_succ]
  refine anyT_take (i := 5) (v := .pointer (some ⟨w.heap.size, 4, none⟩)) rfl (by kernel_rfl) (by kernel_rfl) (fun _ _ _ h => h) (Or.inl ⟨by rfl, ?_⟩) S1 ?_
  · intro w' hw'
    obtain ⟨k1, k2, k3, k4, k5, k6⟩ := H5.all hw'
    go_simp
    try with_reducible rfl
  try simp only [Act.put, List.getElem_toArray, List.getElem_cons_zero, List.getElem_cons_succ, List.setIfInBounds_toArray, List.set_cons_zero, List.set_cons_succ]
  refine anyT_take (i := 6) (v := .bool sz) rfl (by kernel_rfl) (by kernel_rfl) (fun _ _ _ h => h) (Or.inl ⟨by rfl, ?_⟩) S1 ?_
  · intro w' hw'
    obtain ⟨k1, k2, k3, k4, k5, k6⟩ := H5.all hw'
    go_simp
    try with_reducible rfl
  try simp only [Act.put, List.getElem_toArray, List.getElem_cons_zero, List.getElem_cons_succ, List.setIfInBounds_toArray, List.set_cons_zero, List.set_cons_succ]
  refine anyT_one (i := 2) (by kernel_rfl) ?_
  refine wpOp_step rfl (fun K hK => ?_)
  replace hK := Lib.hid hK
  go_simp
  (with_reducible refine (hB.out _).mono ?_)
  rintro e w2 ⟨g, rfl, hrow, hb2⟩
  have X2 := S1.over hb2
  have N2 := N1.over hb2
  have hgk : g ≠ w.heap.size + 1 := fun e => by
    obtain ⟨c1, h1, _⟩ := hrow
    obtain ⟨c2, h2, _⟩ := N2
    rw [e, h2] at h1
    cases h1
  have hRB : RB w2 (some ⟨g, 0, none⟩) n (tb x) := fun _ => ⟨g, 0, rfl, World.rowIs.lt hrow, fun j hj => by rw [Nat.zero_add]; exact World.rowIs.cell hrow hj⟩
  have hRB3 := Lib.hid (RB.set3 hRB (k := w.heap.size + 1) (fun d off e => by cases e; exact hgk) 0 1 2 (.slice (some ⟨g, 0, none⟩) n n) (.bool sg) (.bool sz))
  clear hRB hrow
  have hbw2 : Below w.heap.size w w2 := below_call hb2 hB0.drew
  have z2 := hbw2.size
  clear hb2
  refine hK.out _ _ ⟨fun _ => X2, ?_⟩
  clear hK K
  try simp only [Act.put, List.getElem_toArray, List.getElem_cons_zero, List.getElem_cons_succ, List.setIfInBounds_toArray, List.set_cons_zero, List.set_cons_succ]
  refine anyT_take (i := 7) (v := .agg #[.slice (some ⟨g, 0, none⟩) n n, .bool sg, .bool sz]) rfl (by kernel_rfl) (by kernel_rfl) (fun _ _ _ h => h) (Or.inl ⟨by rfl, ?_⟩) X2 ?_
  · intro w' hw'
    obtain ⟨k1, k2, k3, k4, k5, k6⟩ := H5.all hw'
    go_simp
    try with_reducible rfl
  try simp only [Act.put, List.getElem_toArray, List.getElem_cons_zero, List.getElem_cons_succ, List.setIfInBounds_toArray, List.set_cons_zero, List.set_cons_succ]
  have n2 := N2.all
  have l2 := N2.lt
  refine anyT_one (i := 8) (by kernel_rfl) ?_
  refine wpOp_step rfl (fun K hK => ?_)
  replace hK := Lib.hid hK
  go_simp
  refine hK.out _ _ ⟨fun h => absurd h (by decide), ?_⟩
  clear hK K
  try simp only [Act.put]
  refine anyT_done (by kernel_rfl) ?_ _
  go_wp2_with fail
  have hb3 : Below w.heap.size w (((w2.setCell ⟨w.heap.size + 1, 0, none⟩ (.slice (some ⟨g, 0, none⟩) n n)).setCell ⟨w.heap.size + 1, 1, none⟩ (.bool sg)).setCell ⟨w.heap.size + 1, 2, none⟩ (.bool sz)) := ((hbw2.setCell (p := ⟨w.heap.size + 1, 0, none⟩) (Nat.le_succ _) _).setCell (p := ⟨w.heap.size + 1, 1, none⟩) (Nat.le_succ _) _).setCell (p := ⟨w.heap.size + 1, 2, none⟩) (Nat.le_succ _) _
  exact bodyPost_ret (v := .agg #[.slice (some ⟨g, 0, none⟩) n n, .bool sg, .bool sz]) (by simp [results, Tryz.results12, go_sem, n2, l2]) rfl ⟨g, rfl, hRB3.out, hb3⟩
set_option maxRecDepth 100000 in
set_option maxHeartbeats 1600000 in
theorem Same_at (n m c d : Nat) (A B : Option Addr) (sg sz sg2 sz2 b : Bool) (w : World)
    (hE : ∀ w1, Below w.heap.size w w1 → Calls Tryz.prog 32 #[.slice A n c, .slice B m d] w1 (RV w1 (.bool b))) :
    Calls Tryz.prog 11 #[.agg #[.slice A n c, .bool sg, .bool sz], .agg #[.slice B m d, .bool sg2, .bool sz2]] w (RV w (.bool (b && sg == sg2 && sz == sz2))) := by
  replace hE := Lib.hid hE
  go_enter Tryz.func11, Tryz.ntmps11
  go_wp2_with fail
  (with_reducible refine (hE.out _ (by go_grown)).mono ?_)
  rintro e w1 ⟨rfl, hb1⟩
  have X0 := (H3.new w 34 (.slice A n c) (.bool sg) (.bool sz)).alloc (.cells #[.slice B m d, .bool sg2, .bool sz2] 34)
  have Y0 := H3.new (w.alloc (.cells #[.slice A n c, .bool sg, .bool sz] 34)) 34 (.slice B m d) (.bool sg2) (.bool sz2)
  rw [World.size_alloc] at Y0
  have x1 := (X0.over hb1).all
  have x1l := (X0.over hb1).lt
  have y1 := (Y0.over hb1).all
  have y1l := (Y0.over hb1).lt
  have hbw1 : Below w.heap.size w w1 := below_call hb1 (by go_grown)
  clear hb1 X0 Y0 hE
  cases b
  · go_wp2_with fail
    go_ret
    exact ⟨rfl, hbw1⟩
  · cases hs : (sg == sg2)
    · have hf := Lib.hid (show (true && sg == sg2 && sz == sz2) = false by rw [hs]; rfl)
      go_wp2_with fail
      go_ret
      exact ⟨by first | rfl | (rw [hf.out]; rfl), hbw1⟩
    · cases hz : (sz == sz2)
      · have hf := Lib.hid (show (true && sg == sg2 && sz == sz2) = false by rw [hs, hz]; rfl)
        go_wp2_with fail
        go_ret
        exact ⟨by first | rfl | (rw [hf.out]; rfl), hbw1⟩
      · have hf := Lib.hid (show (true && sg == sg2 && sz == sz2) = true by rw [hs, hz]; rfl)
        go_wp2_with fail
        go_ret
        exact ⟨by first | rfl | (rw [hf.out]; rfl), hbw1⟩
/-- The reference's Same of two literals told as numbers. -/
theorem Same_t (n m c d x y : Nat) (A B : Option Addr) (sg sz sg2 sz2 : Bool) (w : World) (hn : n ≤ 128) (hA : RB w A n (tb x)) (hB : RB w B m (tb y)) (hx : x < 2 ^ n) (hy : y < 2 ^ m) :
    Calls Tryz.prog 11 #[.agg #[.slice A n c, .bool sg, .bool sz], .agg #[.slice B m d, .bool sg2, .bool sz2]] w (RV w (.bool (decide (n = m ∧ x = y) && sg == sg2 && sz == sz2))) := by
  refine Same_at n m c d A B sg sz sg2 sz2 _ w fun w1 hb => ?_
  by_cases h : n = m
  · subst h
    have e := refEq_ok n c d A B (tb x) (tb y) w1 (by omega) (hA.keep hb) (hB.keep hb)
    rw [valB_tbl x n hx, valB_tbl y n hy] at e
    simpa using e
  · have e := refEq_ne n m c d A B w1 h
    simpa [h] using e
end Go.Proofs.YtalmhopbnaeamaaGreatDoor
