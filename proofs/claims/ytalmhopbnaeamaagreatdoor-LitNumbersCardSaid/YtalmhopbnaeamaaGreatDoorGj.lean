/-
  The walk of the statement LitNumbers.
-/
import Derived.Test.YtalmhopbnaeamaaGreatDoorGg
namespace Go.Proofs.YtalmhopbnaeamaaGreatDoor
open Go.RowKit Go.Lib
theorem int_of (n : Nat) (h : n < 2147483648) : inV 32 n true = ((n : Int), 0) := by
  unfold inV
  rw [if_neg (by decide), show n.testBit (32 - 1) = false from Nat.testBit_lt_two_pow (show n < 2 ^ 31 by omega), Bool.and_false, if_neg (by decide), if_neg (by omega)]
theorem tx_of (n : Nat) (h : n < 2147483648) : txL 32 n true false = decDigits n := by
  unfold txL
  rw [show txB 32 false = false by decide, if_neg (by decide), show n.testBit 31 = false from Nat.testBit_lt_two_pow (show n < 2 ^ 31 by omega), if_pos (by rfl)]
set_option maxRecDepth 100000 in
set_option maxHeartbeats 6400000 in
theorem numbers_bad (z : Int) (w : World) (hT : LT w) (h : z < 0 ∨ 2147483648 ≤ z) (h0 : -9223372036854775808 ≤ z) (h1 : z ≤ 9223372036854775807) : Calls Tryz.prog 5 #[.int .i64 z] w (RV w (.bool true)) := by
  have hA := Lib.hid (lawake_t w hT)
  have hO : ∀ w, Calls Tryz.prog 18 #[.int .i64 z] w (RV w (.tuple #[lv 0 0 false false, .int .i64 3])) := fun w => by
    rcases h with h | h
    · exact Of_bad1 z w h
    · exact Of_bad2 z w h
  obtain ⟨q, hq⟩ : ∃ q : Nat, 0 = q := ⟨_, rfl⟩
  rw [hq] at hO
  have hW := Lib.hid (fun w => Width_v q q w)
  have eq0 : ((q : Int) == 0) = true := by simp; omega
  unfold lv at hO
  replace hO := Lib.hid hO
  clear hq hT
  go_enter Tryz.func5, Tryz.ntmps5
  go_wp2_with fail
  (with_reducible refine hA.out.mono ?_)
  rintro e w1 ⟨rfl, hb1⟩
  have hbw1 : Below w.heap.size w w1 := hb1
  have z1 := hbw1.size
  clear hb1 hA
  go_wp2_with fail
  (with_reducible refine (hO.out _).mono ?_)
  rintro e w2 ⟨rfl, hb2⟩
  have hbw2 : Below w.heap.size w w2 := below_call hb2 hbw1
  have z2 := hbw2.size
  clear hb2
  rcases h with h | h
  · have d1 : decide (z < 0) = true := by simp; omega
    go_wp2_with fail
    (with_reducible refine (hW.out _).mono ?_)
    rintro e w3 ⟨rfl, hb3⟩
    have hbw3 : Below w.heap.size w w3 := below_call hb3 (by go_grown)
    clear hb3
    go_wp2_with fail
    go_ret
    exact ⟨rfl, hbw3⟩
  · have d1 : decide (z < 0) = false := by simp; omega
    have d2 : decide (2147483648 ≤ z) = true := by simp; omega
    go_wp2_with fail
    (with_reducible refine (hW.out _).mono ?_)
    rintro e w3 ⟨rfl, hb3⟩
    have hbw3 : Below w.heap.size w w3 := below_call hb3 (by go_grown)
    clear hb3
    go_wp2_with fail
    go_ret
    exact ⟨rfl, hbw3⟩
set_option maxRecDepth 100000 in
set_option maxHeartbeats 6400000 in
theorem numbers_good (N : Nat) (w : World) (hT : LT w) (h : N < 2147483648) : Calls Tryz.prog 5 #[.int .i64 (N : Int)] w (RV w (.bool true)) := by
  have hA := Lib.hid (lawake_t w hT)
  have hO := fun w => Of_good N w h
  have hI := fun w => Int_t 32 N true false w (by decide) (by omega)
  rw [int_of N h] at hI
  have hX := fun w1 (hb : Below w.heap.size w w1) => Text_t 32 N true false w1 (hT.on hb) (by decide) (by omega)
  rw [tx_of N h] at hX
  have hD := fun w => Dec_t N (by omega) w
  have hP := fun w => Parse_t ⟨(decDigits N).toArray⟩ w (by have := dec_len 9 N (by omega); show (decDigits N).length ≤ maxLen; unfold maxLen; omega)
  rw [pa_dec N h] at hP
  unfold PR.val at hP
  have hTd := fun w => Told_t 32 N true false w (by decide) (by omega)
  have hSm := fun (w1 : World) (ga gb : Nat) (h1 : RB w1 (some ⟨ga, 0, none⟩) 32 (tb N)) (h2 : RB w1 (some ⟨gb, 0, none⟩) 32 (tb N)) => Same_t 32 32 32 32 N N (some ⟨ga, 0, none⟩) (some ⟨gb, 0, none⟩) true false true false w1 (by decide) h1 h2 (by omega) (by omega)
  rw [show (decide (32 = 32 ∧ N = N) && true == true && false == false) = true by simp] at hSm
  obtain ⟨D, hD0⟩ : ∃ D : ByteArray, (⟨(decDigits N).toArray⟩ : ByteArray) = D := ⟨_, rfl⟩
  rw [hD0] at hX hD hP
  obtain ⟨q, hq⟩ : ∃ q : Nat, 32 = q := ⟨_, rfl⟩
  dsimp only at hP hI
  unfold TD at hTd
  rw [hq] at hO hI hX hP hTd hSm
  unfold lv at hO hI hX hP hTd
  have d1 : decide ((N : Int) < 0) = false := by simp
  have d2 : decide (2147483648 ≤ (N : Int)) = false := by simp; omega
  have d3 : ((N : Int) == (N : Int)) = true := by simp
  have d4 : (D.toList == D.toList) = true := by simp
  replace hO := Lib.hid hO
  replace hI := Lib.hid hI
  replace hX := Lib.hid hX
  replace hD := Lib.hid hD
  replace hP := Lib.hid hP
  replace hTd := Lib.hid hTd
  clear hq hT h hD0
  go_enter Tryz.func5, Tryz.ntmps5
  go_wp2_with fail
  (with_reducible refine hA.out.mono ?_)
  rintro e w1 ⟨rfl, hb1⟩
  have hbw1 : Below w.heap.size w w1 := hb1
  have z1 := hbw1.size
  clear hb1 hA
  go_wp2_with fail
  (with_reducible refine (hO.out _).mono ?_)
  rintro e w2 ⟨rfl, hb2⟩
  have hbw2 : Below w.heap.size w w2 := below_call hb2 hbw1
  have z2 := hbw2.size
  clear hb2 hO
  have X2 := H5.new w2 28 (.int .i64 (q : Int)) (.int .u64 ((lo N : Nat) : Int)) (.int .u64 ((hi N : Nat) : Int)) (.bool true) (.bool false)
  have x2 := X2.all
  have x2l := X2.lt
  go_wp2_with fail
  (with_reducible refine (hI.out _).mono ?_)
  rintro e w3 ⟨rfl, hb3⟩
  have X3 := X2.over hb3
  have x3 := X3.all
  have x3l := X3.lt
  have hbw3 : Below w.heap.size w w3 := below_call hb3 (hbw2.alloc z2 _)
  have z3 := hbw3.size
  clear hb3 hI x2 X2 x2l
  go_wp2_with fail
  (with_reducible refine (hD.out _).mono ?_)
  rintro e w4 ⟨rfl, hb4⟩
  have X4 := X3.over hb4
  have hbw4 : Below w.heap.size w w4 := below_call hb4 hbw3
  have z4 := hbw4.size
  clear hb4 x3 X3 x3l
  go_wp2_with fail
  (with_reducible refine (hP.out _).mono ?_)
  rintro e w5 ⟨rfl, hb5⟩
  have X5 := (X4.over hb5).alloc (.cells #[.int .i64 (q : Int), .int .u64 ((lo N : Nat) : Int), .int .u64 ((hi N : Nat) : Int), .bool true, .bool false] 28)
  have Y5 := H5.new w5 28 (.int .i64 (q : Int)) (.int .u64 ((lo N : Nat) : Int)) (.int .u64 ((hi N : Nat) : Int)) (.bool true) (.bool false)
  have hbw5 : Below w.heap.size w w5 := below_call hb5 hbw4
  have hbw6 : Below w.heap.size w (w5.alloc (.cells #[.int .i64 (q : Int), .int .u64 ((lo N : Nat) : Int), .int .u64 ((hi N : Nat) : Int), .bool true, .bool false] 28)) := hbw5.alloc hbw5.size _
  clear hb5 X4 hP
  obtain ⟨kl, hkl⟩ : ∃ kl, w2.heap.size = kl := ⟨_, rfl⟩
  obtain ⟨kb, hkb⟩ : ∃ kb, w5.heap.size = kb := ⟨_, rfl⟩
  go_wp2_with fail
  simp only [hkl, hkb] at X5 Y5 ⊢
  obtain ⟨W, hW⟩ : ∃ W, (w5.alloc (.cells #[.int .i64 (q : Int), .int .u64 ((lo N : Nat) : Int), .int .u64 ((hi N : Nat) : Int), .bool true, .bool false] 28)) = W := ⟨_, rfl⟩
  rw [hW] at X5 Y5 hbw6 ⊢
  clear hW hkl hkb hbw5 hbw4 hbw3 hbw2 hbw1 z1 z2 z3 z4
  have X4 : H5 28 W.drew kl (.int .i64 (q : Int)) (.int .u64 ((lo N : Nat) : Int)) (.int .u64 ((hi N : Nat) : Int)) (.bool true) (.bool false) := X5
  have Y4 : H5 28 W.drew kb (.int .i64 (q : Int)) (.int .u64 ((lo N : Nat) : Int)) (.int .u64 ((hi N : Nat) : Int)) (.bool true) (.bool false) := Y5
  have hbw4 : Below w.heap.size w W.drew := hbw6.drew
  clear X5 Y5 hbw6
  refine region_anyT (n := 29) (S := fun w' => H5 28 w' kl (.int .i64 (q : Int)) (.int .u64 ((lo N : Nat) : Int)) (.int .u64 ((hi N : Nat) : Int)) (.bool true) (.bool false) ∧ H5 28 w' kb (.int .i64 (q : Int)) (.int .u64 ((lo N : Nat) : Int)) (.int .u64 ((hi N : Nat) : Int)) (.bool true) (.bool false)) (by kernel_rfl) ?_
  refine anyT_take (i := 0) (v := .int .i64 0) rfl (by kernel_rfl) (by kernel_rfl) (fun _ _ _ h => h) (Or.inl ⟨by rfl, ?_⟩) ⟨X4, Y4⟩ ?_
  · intro w' hw'
    obtain ⟨⟨k1, k2, k3, k4, k5, k6⟩, ⟨j1, j2, j3, j4, j5, j6⟩⟩ := And.intro (H5.all hw'.1) (H5.all hw'.2)
    go_simp
    try with_reducible rfl
  try simp only [Act.put, List.getElem_toArray, List.getElem_cons_zero, List.getElem_cons_succ, List.setIfInBounds_toArray, List.set_cons_zero, List.set_cons_succ]
  refine anyT_take (i := 1) (v := .bool true) rfl (by kernel_rfl) (by kernel_rfl) (fun _ _ _ h => h) (Or.inl ⟨by rfl, ?_⟩) ⟨X4, Y4⟩ ?_
  · intro w' hw'
    obtain ⟨⟨k1, k2, k3, k4, k5, k6⟩, ⟨j1, j2, j3, j4, j5, j6⟩⟩ := And.intro (H5.all hw'.1) (H5.all hw'.2)
    go_simp
    try with_reducible rfl
  try simp only [Act.put, List.getElem_toArray, List.getElem_cons_zero, List.getElem_cons_succ, List.setIfInBounds_toArray, List.set_cons_zero, List.set_cons_succ]
  refine anyT_take (i := 2) (v := .bool true) rfl (by kernel_rfl) (by kernel_rfl) (fun _ _ _ h => h) (Or.inl ⟨by rfl, ?_⟩) ⟨X4, Y4⟩ ?_
  · intro w' hw'
    obtain ⟨⟨k1, k2, k3, k4, k5, k6⟩, ⟨j1, j2, j3, j4, j5, j6⟩⟩ := And.intro (H5.all hw'.1) (H5.all hw'.2)
    go_simp
    try with_reducible rfl
  try simp only [Act.put, List.getElem_toArray, List.getElem_cons_zero, List.getElem_cons_succ, List.setIfInBounds_toArray, List.set_cons_zero, List.set_cons_succ]
  refine anyT_take (i := 3) (v := .int .i64 0) rfl (by kernel_rfl) (by kernel_rfl) (fun _ _ _ h => h) (Or.inl ⟨by rfl, ?_⟩) ⟨X4, Y4⟩ ?_
  · intro w' hw'
    obtain ⟨⟨k1, k2, k3, k4, k5, k6⟩, ⟨j1, j2, j3, j4, j5, j6⟩⟩ := And.intro (H5.all hw'.1) (H5.all hw'.2)
    go_simp
    try with_reducible rfl
  try simp only [Act.put, List.getElem_toArray, List.getElem_cons_zero, List.getElem_cons_succ, List.setIfInBounds_toArray, List.set_cons_zero, List.set_cons_succ]
  refine anyT_take (i := 4) (v := .bool true) rfl (by kernel_rfl) (by kernel_rfl) (fun _ _ _ h => h) (Or.inl ⟨by rfl, ?_⟩) ⟨X4, Y4⟩ ?_
  · intro w' hw'
    obtain ⟨⟨k1, k2, k3, k4, k5, k6⟩, ⟨j1, j2, j3, j4, j5, j6⟩⟩ := And.intro (H5.all hw'.1) (H5.all hw'.2)
    go_simp
    try with_reducible rfl
  try simp only [Act.put, List.getElem_toArray, List.getElem_cons_zero, List.getElem_cons_succ, List.setIfInBounds_toArray, List.set_cons_zero, List.set_cons_succ]
  refine anyT_take (i := 5) (v := .bool true) rfl (by kernel_rfl) (by kernel_rfl) (fun _ _ _ h => h) (Or.inl ⟨by rfl, ?_⟩) ⟨X4, Y4⟩ ?_
  · intro w' hw'
    obtain ⟨⟨k1, k2, k3, k4, k5, k6⟩, ⟨j1, j2, j3, j4, j5, j6⟩⟩ := And.intro (H5.all hw'.1) (H5.all hw'.2)
    go_simp
    try with_reducible rfl
  try simp only [Act.put, List.getElem_toArray, List.getElem_cons_zero, List.getElem_cons_succ, List.setIfInBounds_toArray, List.set_cons_zero, List.set_cons_succ]
  refine anyT_take (i := 6) (v := .bool true) rfl (by kernel_rfl) (by kernel_rfl) (fun _ _ _ h => h) (Or.inl ⟨by rfl, ?_⟩) ⟨X4, Y4⟩ ?_
  · intro w' hw'
    obtain ⟨⟨k1, k2, k3, k4, k5, k6⟩, ⟨j1, j2, j3, j4, j5, j6⟩⟩ := And.intro (H5.all hw'.1) (H5.all hw'.2)
    go_simp
    try with_reducible rfl
  try simp only [Act.put, List.getElem_toArray, List.getElem_cons_zero, List.getElem_cons_succ, List.setIfInBounds_toArray, List.set_cons_zero, List.set_cons_succ]
  refine anyT_take (i := 7) (v := .int .i64 0) rfl (by kernel_rfl) (by kernel_rfl) (fun _ _ _ h => h) (Or.inl ⟨by rfl, ?_⟩) ⟨X4, Y4⟩ ?_
  · intro w' hw'
    obtain ⟨⟨k1, k2, k3, k4, k5, k6⟩, ⟨j1, j2, j3, j4, j5, j6⟩⟩ := And.intro (H5.all hw'.1) (H5.all hw'.2)
    go_simp
    try with_reducible rfl
  try simp only [Act.put, List.getElem_toArray, List.getElem_cons_zero, List.getElem_cons_succ, List.setIfInBounds_toArray, List.set_cons_zero, List.set_cons_succ]
  refine anyT_take (i := 8) (v := .bool true) rfl (by kernel_rfl) (by kernel_rfl) (fun _ _ _ h => h) (Or.inl ⟨by rfl, ?_⟩) ⟨X4, Y4⟩ ?_
  · intro w' hw'
    obtain ⟨⟨k1, k2, k3, k4, k5, k6⟩, ⟨j1, j2, j3, j4, j5, j6⟩⟩ := And.intro (H5.all hw'.1) (H5.all hw'.2)
    go_simp
    try with_reducible rfl
  try simp only [Act.put, List.getElem_toArray, List.getElem_cons_zero, List.getElem_cons_succ, List.setIfInBounds_toArray, List.set_cons_zero, List.set_cons_succ]
  refine anyT_take (i := 9) (v := .bool true) rfl (by kernel_rfl) (by kernel_rfl) (fun _ _ _ h => h) (Or.inl ⟨by rfl, ?_⟩) ⟨X4, Y4⟩ ?_
  · intro w' hw'
    obtain ⟨⟨k1, k2, k3, k4, k5, k6⟩, ⟨j1, j2, j3, j4, j5, j6⟩⟩ := And.intro (H5.all hw'.1) (H5.all hw'.2)
    go_simp
    try with_reducible rfl
  try simp only [Act.put, List.getElem_toArray, List.getElem_cons_zero, List.getElem_cons_succ, List.setIfInBounds_toArray, List.set_cons_zero, List.set_cons_succ]
  refine anyT_take (i := 10) (v := .bool true) rfl (by kernel_rfl) (by kernel_rfl) (fun _ _ _ h => h) (Or.inl ⟨by rfl, ?_⟩) ⟨X4, Y4⟩ ?_
  · intro w' hw'
    obtain ⟨⟨k1, k2, k3, k4, k5, k6⟩, ⟨j1, j2, j3, j4, j5, j6⟩⟩ := And.intro (H5.all hw'.1) (H5.all hw'.2)
    go_simp
    try with_reducible rfl
  try simp only [Act.put, List.getElem_toArray, List.getElem_cons_zero, List.getElem_cons_succ, List.setIfInBounds_toArray, List.set_cons_zero, List.set_cons_succ]
  refine anyT_take (i := 11) (v := .int .i64 (N : Int)) rfl (by kernel_rfl) (by kernel_rfl) (fun _ _ _ h => h) (Or.inl ⟨by rfl, ?_⟩) ⟨X4, Y4⟩ ?_
  · intro w' hw'
    obtain ⟨⟨k1, k2, k3, k4, k5, k6⟩, ⟨j1, j2, j3, j4, j5, j6⟩⟩ := And.intro (H5.all hw'.1) (H5.all hw'.2)
    go_simp
    try with_reducible rfl
  try simp only [Act.put, List.getElem_toArray, List.getElem_cons_zero, List.getElem_cons_succ, List.setIfInBounds_toArray, List.set_cons_zero, List.set_cons_succ]
  refine anyT_take (i := 12) (v := .int .i64 (N : Int)) rfl (by kernel_rfl) (by kernel_rfl) (fun _ _ _ h => h) (Or.inl ⟨by rfl, ?_⟩) ⟨X4, Y4⟩ ?_
  · intro w' hw'
    obtain ⟨⟨k1, k2, k3, k4, k5, k6⟩, ⟨j1, j2, j3, j4, j5, j6⟩⟩ := And.intro (H5.all hw'.1) (H5.all hw'.2)
    go_simp
    try with_reducible rfl
  try simp only [Act.put, List.getElem_toArray, List.getElem_cons_zero, List.getElem_cons_succ, List.setIfInBounds_toArray, List.set_cons_zero, List.set_cons_succ]
  refine anyT_take (i := 13) (v := .bool true) rfl (by kernel_rfl) (by kernel_rfl) (fun _ _ _ h => h) (Or.inl ⟨by rfl, ?_⟩) ⟨X4, Y4⟩ ?_
  · intro w' hw'
    obtain ⟨⟨k1, k2, k3, k4, k5, k6⟩, ⟨j1, j2, j3, j4, j5, j6⟩⟩ := And.intro (H5.all hw'.1) (H5.all hw'.2)
    go_simp
    try with_reducible rfl
  try simp only [Act.put, List.getElem_toArray, List.getElem_cons_zero, List.getElem_cons_succ, List.setIfInBounds_toArray, List.set_cons_zero, List.set_cons_succ]
  refine anyT_take (i := 14) (v := .bool true) rfl (by kernel_rfl) (by kernel_rfl) (fun _ _ _ h => h) (Or.inl ⟨by rfl, ?_⟩) ⟨X4, Y4⟩ ?_
  · intro w' hw'
    obtain ⟨⟨k1, k2, k3, k4, k5, k6⟩, ⟨j1, j2, j3, j4, j5, j6⟩⟩ := And.intro (H5.all hw'.1) (H5.all hw'.2)
    go_simp
    try with_reducible rfl
  try simp only [Act.put, List.getElem_toArray, List.getElem_cons_zero, List.getElem_cons_succ, List.setIfInBounds_toArray, List.set_cons_zero, List.set_cons_succ]
  refine anyT_take (i := 15) (v := .bool true) rfl (by kernel_rfl) (by kernel_rfl) (fun _ _ _ h => h) (Or.inl ⟨by rfl, ?_⟩) ⟨X4, Y4⟩ ?_
  · intro w' hw'
    obtain ⟨⟨k1, k2, k3, k4, k5, k6⟩, ⟨j1, j2, j3, j4, j5, j6⟩⟩ := And.intro (H5.all hw'.1) (H5.all hw'.2)
    go_simp
    try with_reducible rfl
  try simp only [Act.put, List.getElem_toArray, List.getElem_cons_zero, List.getElem_cons_succ, List.setIfInBounds_toArray, List.set_cons_zero, List.set_cons_succ]
  refine anyT_take (i := 16) (v := .agg #[.int .i64 (q : Int), .int .u64 ((lo N : Nat) : Int), .int .u64 ((hi N : Nat) : Int), .bool true, .bool false]) rfl (by kernel_rfl) (by kernel_rfl) (fun _ _ _ h => h) (Or.inl ⟨by rfl, ?_⟩) ⟨X4, Y4⟩ ?_
  · intro w' hw'
    obtain ⟨⟨k1, k2, k3, k4, k5, k6⟩, ⟨j1, j2, j3, j4, j5, j6⟩⟩ := And.intro (H5.all hw'.1) (H5.all hw'.2)
    go_simp
    try with_reducible rfl
  try simp only [Act.put, List.getElem_toArray, List.getElem_cons_zero, List.getElem_cons_succ, List.setIfInBounds_toArray, List.set_cons_zero, List.set_cons_succ]
  refine anyT_take (i := 18) (v := .int .i64 (N : Int)) rfl (by kernel_rfl) (by kernel_rfl) (fun _ _ _ h => h) (Or.inl ⟨by rfl, ?_⟩) ⟨X4, Y4⟩ ?_
  · intro w' hw'
    obtain ⟨⟨k1, k2, k3, k4, k5, k6⟩, ⟨j1, j2, j3, j4, j5, j6⟩⟩ := And.intro (H5.all hw'.1) (H5.all hw'.2)
    go_simp
    try with_reducible rfl
  try simp only [Act.put, List.getElem_toArray, List.getElem_cons_zero, List.getElem_cons_succ, List.setIfInBounds_toArray, List.set_cons_zero, List.set_cons_succ]
  refine anyT_one (i := 17) (by kernel_rfl) ?_
  refine wpOp_step rfl (fun K hK => ?_)
  replace hK := Lib.hid hK
  go_simp
  (with_reducible refine (hX.out _ (by first | exact hbw4 | exact hbw4.drew)).mono ?_)
  rintro e w5 ⟨rfl, hb5⟩
  have X5 := X4.over hb5
  have Y5 := Y4.over hb5
  have hbw5 : Below w.heap.size w w5 := below_call hb5 (by first | exact hbw4 | exact hbw4.drew)
  clear hb5
  refine hK.out _ _ ⟨fun _ => ⟨X5, Y5⟩, ?_⟩
  clear hK K
  try simp only [Act.put, List.getElem_toArray, List.getElem_cons_zero, List.getElem_cons_succ, List.setIfInBounds_toArray, List.set_cons_zero, List.set_cons_succ]
  refine anyT_one (i := 19) (by kernel_rfl) ?_
  refine wpOp_step rfl (fun K hK => ?_)
  replace hK := Lib.hid hK
  go_simp
  (with_reducible refine (hD.out _).mono ?_)
  rintro e w6 ⟨rfl, hb6⟩
  have X6 := X5.over hb6
  have Y6 := Y5.over hb6
  have hbw6 : Below w.heap.size w w6 := below_call hb6 (by first | exact hbw5 | exact hbw5.drew)
  clear hb6
  refine hK.out _ _ ⟨fun _ => ⟨X6, Y6⟩, ?_⟩
  clear hK K
  try simp only [Act.put, List.getElem_toArray, List.getElem_cons_zero, List.getElem_cons_succ, List.setIfInBounds_toArray, List.set_cons_zero, List.set_cons_succ]
  refine anyT_take (i := 20) (v := .bool true) rfl (by kernel_rfl) (by kernel_rfl) (fun _ _ _ h => h) (Or.inl ⟨by rfl, ?_⟩) ⟨X6, Y6⟩ ?_
  · intro w' hw'
    obtain ⟨⟨k1, k2, k3, k4, k5, k6⟩, ⟨j1, j2, j3, j4, j5, j6⟩⟩ := And.intro (H5.all hw'.1) (H5.all hw'.2)
    go_simp
    try with_reducible rfl
  try simp only [Act.put, List.getElem_toArray, List.getElem_cons_zero, List.getElem_cons_succ, List.setIfInBounds_toArray, List.set_cons_zero, List.set_cons_succ]
  refine anyT_take (i := 21) (v := .bool true) rfl (by kernel_rfl) (by kernel_rfl) (fun _ _ _ h => h) (Or.inl ⟨by rfl, ?_⟩) ⟨X6, Y6⟩ ?_
  · intro w' hw'
    obtain ⟨⟨k1, k2, k3, k4, k5, k6⟩, ⟨j1, j2, j3, j4, j5, j6⟩⟩ := And.intro (H5.all hw'.1) (H5.all hw'.2)
    go_simp
    try with_reducible rfl
  try simp only [Act.put, List.getElem_toArray, List.getElem_cons_zero, List.getElem_cons_succ, List.setIfInBounds_toArray, List.set_cons_zero, List.set_cons_succ]
  refine anyT_take (i := 22) (v := .bool true) rfl (by kernel_rfl) (by kernel_rfl) (fun _ _ _ h => h) (Or.inl ⟨by rfl, ?_⟩) ⟨X6, Y6⟩ ?_
  · intro w' hw'
    obtain ⟨⟨k1, k2, k3, k4, k5, k6⟩, ⟨j1, j2, j3, j4, j5, j6⟩⟩ := And.intro (H5.all hw'.1) (H5.all hw'.2)
    go_simp
    try with_reducible rfl
  try simp only [Act.put, List.getElem_toArray, List.getElem_cons_zero, List.getElem_cons_succ, List.setIfInBounds_toArray, List.set_cons_zero, List.set_cons_succ]
  refine anyT_take (i := 23) (v := .agg #[.int .i64 (q : Int), .int .u64 ((lo N : Nat) : Int), .int .u64 ((hi N : Nat) : Int), .bool true, .bool false]) rfl (by kernel_rfl) (by kernel_rfl) (fun _ _ _ h => h) (Or.inl ⟨by rfl, ?_⟩) ⟨X6, Y6⟩ ?_
  · intro w' hw'
    obtain ⟨⟨k1, k2, k3, k4, k5, k6⟩, ⟨j1, j2, j3, j4, j5, j6⟩⟩ := And.intro (H5.all hw'.1) (H5.all hw'.2)
    go_simp
    try with_reducible rfl
  try simp only [Act.put, List.getElem_toArray, List.getElem_cons_zero, List.getElem_cons_succ, List.setIfInBounds_toArray, List.set_cons_zero, List.set_cons_succ]
  refine anyT_take (i := 25) (v := .agg #[.int .i64 (q : Int), .int .u64 ((lo N : Nat) : Int), .int .u64 ((hi N : Nat) : Int), .bool true, .bool false]) rfl (by kernel_rfl) (by kernel_rfl) (fun _ _ _ h => h) (Or.inl ⟨by rfl, ?_⟩) ⟨X6, Y6⟩ ?_
  · intro w' hw'
    obtain ⟨⟨k1, k2, k3, k4, k5, k6⟩, ⟨j1, j2, j3, j4, j5, j6⟩⟩ := And.intro (H5.all hw'.1) (H5.all hw'.2)
    go_simp
    try with_reducible rfl
  try simp only [Act.put, List.getElem_toArray, List.getElem_cons_zero, List.getElem_cons_succ, List.setIfInBounds_toArray, List.set_cons_zero, List.set_cons_succ]
  refine anyT_one (i := 24) (by kernel_rfl) ?_
  refine wpOp_step rfl (fun K hK => ?_)
  replace hK := Lib.hid hK
  go_simp
  (with_reducible refine (hTd.out _).mono ?_)
  rintro e w7 ⟨ga, rfl, RBga, hb7⟩
  have X7 := X6.over hb7
  have Y7 := Y6.over hb7
  have hbw7 : Below w.heap.size w w7 := below_call hb7 (by first | exact hbw6 | exact hbw6.drew)
  clear hb7
  refine hK.out _ _ ⟨fun _ => ⟨X7, Y7⟩, ?_⟩
  clear hK K
  try simp only [Act.put, List.getElem_toArray, List.getElem_cons_zero, List.getElem_cons_succ, List.setIfInBounds_toArray, List.set_cons_zero, List.set_cons_succ]
  refine anyT_one (i := 26) (by kernel_rfl) ?_
  refine wpOp_step rfl (fun K hK => ?_)
  replace hK := Lib.hid hK
  go_simp
  (with_reducible refine (hTd.out _).mono ?_)
  rintro e w8 ⟨gb, rfl, RBgb, hb8⟩
  have X8 := X7.over hb8
  have Y8 := Y7.over hb8
  have hbw8 : Below w.heap.size w w8 := below_call hb8 (by first | exact hbw7 | exact hbw7.drew)
  replace RBga := RBga.keep hb8
  clear hb8
  refine hK.out _ _ ⟨fun _ => ⟨X8, Y8⟩, ?_⟩
  clear hK K
  try simp only [Act.put, List.getElem_toArray, List.getElem_cons_zero, List.getElem_cons_succ, List.setIfInBounds_toArray, List.set_cons_zero, List.set_cons_succ]
  have hS := hSm w8 ga gb RBga RBgb
  replace hS := Lib.hid hS
  clear RBga RBgb
  refine anyT_one (i := 27) (by kernel_rfl) ?_
  refine wpOp_step rfl (fun K hK => ?_)
  replace hK := Lib.hid hK
  go_simp
  (with_reducible refine (hS.out).mono ?_)
  rintro e w9 ⟨rfl, hb9⟩
  have X9 := X8.over hb9
  have Y9 := Y8.over hb9
  have hbw9 : Below w.heap.size w w9 := below_call hb9 (by first | exact hbw8 | exact hbw8.drew)
  clear hb9
  refine hK.out _ _ ⟨fun _ => ⟨X9, Y9⟩, ?_⟩
  clear hK K
  try simp only [Act.put, List.getElem_toArray, List.getElem_cons_zero, List.getElem_cons_succ, List.setIfInBounds_toArray, List.set_cons_zero, List.set_cons_succ]
  refine anyT_take (i := 28) (v := .bool true) rfl (by kernel_rfl) (by kernel_rfl) (fun _ _ _ h => h) (Or.inl ⟨by rfl, ?_⟩) ⟨X9, Y9⟩ ?_
  · intro w' hw'
    obtain ⟨⟨k1, k2, k3, k4, k5, k6⟩, ⟨j1, j2, j3, j4, j5, j6⟩⟩ := And.intro (H5.all hw'.1) (H5.all hw'.2)
    go_simp
    try with_reducible rfl
  try simp only [Act.put, List.getElem_toArray, List.getElem_cons_zero, List.getElem_cons_succ, List.setIfInBounds_toArray, List.set_cons_zero, List.set_cons_succ]
  refine anyT_one (i := 29) (by kernel_rfl) ?_
  refine wpOp_step rfl (fun K hK => ?_)
  replace hK := Lib.hid hK
  go_simp
  refine hK.out _ _ ⟨fun h => absurd h (by decide), ?_⟩
  clear hK K
  try simp only [Act.put]
  refine anyT_done (by kernel_rfl) ?_ _
  go_wp2_with fail
  go_ret
  exact ⟨rfl, hbw9⟩
/-- LitNumbers returns true. -/
theorem numbers_t (z : Int) (w : World) (hT : LT w) (h0 : -9223372036854775808 ≤ z) (h1 : z ≤ 9223372036854775807) : Calls Tryz.prog 5 #[.int .i64 z] w (RV w (.bool true)) := by
  by_cases h : z < 0 ∨ 2147483648 ≤ z
  · exact numbers_bad z w hT h h0 h1
  · obtain ⟨N, rfl⟩ := Int.eq_ofNat_of_zero_le (show 0 ≤ z by omega)
    exact numbers_good N w hT (by omega)
end Go.Proofs.YtalmhopbnaeamaaGreatDoor
