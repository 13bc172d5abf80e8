/-
  The walk of the statement LitParses.
-/
import Derived.Test.YtalmhopbnaeamaaGreatDoorFq
namespace Go.Proofs.YtalmhopbnaeamaaGreatDoor
open Go.RowKit Go.Lib
set_option maxRecDepth 100000 in
set_option maxHeartbeats 12800000 in
theorem parses_se (s u : ByteArray) (n x : Nat) (sg sz : Bool) (e : Int) (w : World) (hs : s.size ≤ 9223372036854775807) (hz : s.size ≤ 200) (hu : s = u) (he : e ≠ 0)
    (hA : ∀ w1, Below w.heap.size w w1 → Calls Tryz.prog 8 #[] w1 (RV w1 (.bool true)))
    (hP : ∀ w1, Calls Tryz.prog 9 #[.string u] w1 (RV w1 (.tuple #[.agg #[.int .i64 (n : Int), .int .u64 ((lo x : Nat) : Int), .int .u64 ((hi x : Nat) : Int), .bool sg, .bool sz], .int .i64 e])))
    (hR : ∀ w1, Calls Tryz.prog 10 #[.string u] w1 (PL w1 ⟨n, x, sg, sz, e⟩))
    (hT : ∀ w1, Calls Tryz.prog 12 #[.agg #[.int .i64 (n : Int), .int .u64 ((lo x : Nat) : Int), .int .u64 ((hi x : Nat) : Int), .bool sg, .bool sz]] w1 (TD w1 n x sg sz))
    (hS : ∀ (w1 : World) (g c : Nat) (A : Option Addr), RB w1 (some ⟨g, 0, none⟩) n (tb x) → RB w1 A n (tb x) → Calls Tryz.prog 11 #[.agg #[.slice (some ⟨g, 0, none⟩) n n, .bool sg, .bool sz], .agg #[.slice A n c, .bool sg, .bool sz]] w1 (RV w1 (.bool true))) :
    Calls Tryz.prog 3 #[.string s] w (RV w (.bool true)) := by
  unfold PL at hR
  unfold TD at hT
  dsimp only at hR
  have ee : (e != e) = false := by simp
  have ee2 : (e == e) = true := by simp
  subst hu
  have z1 : decide ((200 : Int) < (s.size : Int)) = false := by simp; omega
  have z2 : decide (200 < s.size) = false := by simp; omega
  have e1 : (e != 0) = true := by simp [he]
  have e2 : (e == 0) = false := by simp [he]
  clear he
  replace hA := Lib.hid hA
  replace hP := Lib.hid hP
  replace hR := Lib.hid hR
  replace hT := Lib.hid hT
  replace hS := Lib.hid hS
  clear hz
  go_enter Tryz.func3, Tryz.ntmps3
  go_wp2_with fail
  (with_reducible refine (hA.out _ (Below.refl _ _)).mono ?_)
  rintro e' w1 ⟨rfl, hb1⟩
  have q1 : Below w.heap.size w w1 := hb1
  clear hb1
  go_wp2_with fail
  (with_reducible refine (hP.out _).mono ?_)
  rintro e' w2 ⟨rfl, hb2⟩
  have q2' : Below w.heap.size w w2 := below_call hb2 q1
  have q2 : Below w.heap.size w (w2.alloc (.cells #[.int .i64 (n : Int), .int .u64 ((lo x : Nat) : Int), .int .u64 ((hi x : Nat) : Int), .bool sg, .bool sz] 28)) := q2'.alloc q2'.size _
  have kh := H5.new w2 28 (.int .i64 (n : Int)) (.int .u64 ((lo x : Nat) : Int)) (.int .u64 ((hi x : Nat) : Int)) (.bool sg) (.bool sz)
  clear hb2
  go_wp2_with fail
  (with_reducible refine (hR.out _).mono ?_)
  rintro e' w3 ⟨A, c, rfl, RA3, hb3⟩
  have q3' : Below w.heap.size w w3 := below_call hb3 q2
  have q3 : Below w.heap.size w (w3.alloc (.cells #[.slice A n c, .bool sg, .bool sz] 34)) := q3'.alloc q3'.size _
  have kh3 := (kh.over hb3).alloc (.cells #[.slice A n c, .bool sg, .bool sz] 34)
  have bh3 := H3.new w3 34 (.slice A n c) (.bool sg) (.bool sz)
  have RA4 := RB.keep RA3 ((Below.refl w3.heap.size w3).alloc (Nat.le_refl _) (.cells #[.slice A n c, .bool sg, .bool sz] 34))
  clear hb3 kh RA3
  go_wp2_with fail
  obtain ⟨ka, hka⟩ : ∃ ka, w2.heap.size = ka := ⟨_, rfl⟩
  obtain ⟨kb, hkb⟩ : ∃ kb, w3.heap.size = kb := ⟨_, rfl⟩
  simp only [hka, hkb] at kh3 bh3 ⊢
  obtain ⟨V0, hV0⟩ : ∃ V0, (w3.alloc (.cells #[.slice A n c, .bool sg, .bool sz] 34)) = V0 := ⟨_, rfl⟩
  rw [hV0] at kh3 bh3 q3 RA4 ⊢
  have K4 : H5 28 V0.drew ka (.int .i64 (n : Int)) (.int .u64 ((lo x : Nat) : Int)) (.int .u64 ((hi x : Nat) : Int)) (.bool sg) (.bool sz) := kh3
  have B4 : H3 34 V0.drew kb (.slice A n c) (.bool sg) (.bool sz) := bh3
  have R4 : RB V0.drew A n (tb x) := RA4
  have q4 : Below w.heap.size w V0.drew := q3.drew
  clear hV0 hka hkb kh3 bh3 q3 q3' RA4 q1 q2 q2'
  refine region_anyT (n := 9) (S := fun w' => H5 28 w' ka (.int .i64 (n : Int)) (.int .u64 ((lo x : Nat) : Int)) (.int .u64 ((hi x : Nat) : Int)) (.bool sg) (.bool sz) ∧ H3 34 w' kb (.slice A n c) (.bool sg) (.bool sz)) (by kernel_rfl) ?_
  refine anyT_take (i := 0) (v := .int .i64 e) rfl (by kernel_rfl) (by kernel_rfl) (fun _ _ _ h => h) (Or.inl ⟨by rfl, ?_⟩) ⟨K4, B4⟩ ?_
  · intro w' hw'
    obtain ⟨⟨k1, k2, k3, k4, k5, k6⟩, ⟨g1, g2, g3, g4⟩⟩ := And.intro (H5.all hw'.1) (H3.all hw'.2)
    go_simp
    try with_reducible rfl
  try simp only [Act.put, List.getElem_toArray, List.getElem_cons_zero, List.getElem_cons_succ, List.setIfInBounds_toArray, List.set_cons_zero, List.set_cons_succ]
  refine anyT_take (i := 1) (v := .int .i64 e) rfl (by kernel_rfl) (by kernel_rfl) (fun _ _ _ h => h) (Or.inl ⟨by rfl, ?_⟩) ⟨K4, B4⟩ ?_
  · intro w' hw'
    obtain ⟨⟨k1, k2, k3, k4, k5, k6⟩, ⟨g1, g2, g3, g4⟩⟩ := And.intro (H5.all hw'.1) (H3.all hw'.2)
    go_simp
    try with_reducible rfl
  try simp only [Act.put, List.getElem_toArray, List.getElem_cons_zero, List.getElem_cons_succ, List.setIfInBounds_toArray, List.set_cons_zero, List.set_cons_succ]
  refine anyT_take (i := 2) (v := .bool false) rfl (by kernel_rfl) (by kernel_rfl) (fun _ _ _ h => h) (Or.inl ⟨by rfl, ?_⟩) ⟨K4, B4⟩ ?_
  · intro w' hw'
    obtain ⟨⟨k1, k2, k3, k4, k5, k6⟩, ⟨g1, g2, g3, g4⟩⟩ := And.intro (H5.all hw'.1) (H3.all hw'.2)
    go_simp
    try with_reducible rfl
  try simp only [Act.put, List.getElem_toArray, List.getElem_cons_zero, List.getElem_cons_succ, List.setIfInBounds_toArray, List.set_cons_zero, List.set_cons_succ]
  refine anyT_take (i := 3) (v := .bool false) rfl (by kernel_rfl) (by kernel_rfl) (fun _ _ _ h => h) (Or.inl ⟨by rfl, ?_⟩) ⟨K4, B4⟩ ?_
  · intro w' hw'
    obtain ⟨⟨k1, k2, k3, k4, k5, k6⟩, ⟨g1, g2, g3, g4⟩⟩ := And.intro (H5.all hw'.1) (H3.all hw'.2)
    go_simp
    try with_reducible rfl
  try simp only [Act.put, List.getElem_toArray, List.getElem_cons_zero, List.getElem_cons_succ, List.setIfInBounds_toArray, List.set_cons_zero, List.set_cons_succ]
  refine anyT_take (i := 4) (v := .agg #[.int .i64 (n : Int), .int .u64 ((lo x : Nat) : Int), .int .u64 ((hi x : Nat) : Int), .bool sg, .bool sz]) rfl (by kernel_rfl) (by kernel_rfl) (fun _ _ _ h => h) (Or.inl ⟨by rfl, ?_⟩) ⟨K4, B4⟩ ?_
  · intro w' hw'
    obtain ⟨⟨k1, k2, k3, k4, k5, k6⟩, ⟨g1, g2, g3, g4⟩⟩ := And.intro (H5.all hw'.1) (H3.all hw'.2)
    go_simp
    try with_reducible rfl
  try simp only [Act.put, List.getElem_toArray, List.getElem_cons_zero, List.getElem_cons_succ, List.setIfInBounds_toArray, List.set_cons_zero, List.set_cons_succ]
  refine anyT_take (i := 6) (v := .agg #[.slice A n c, .bool sg, .bool sz]) rfl (by kernel_rfl) (by kernel_rfl) (fun _ _ _ h => h) (Or.inl ⟨by rfl, ?_⟩) ⟨K4, B4⟩ ?_
  · intro w' hw'
    obtain ⟨⟨k1, k2, k3, k4, k5, k6⟩, ⟨g1, g2, g3, g4⟩⟩ := And.intro (H5.all hw'.1) (H3.all hw'.2)
    go_simp
    try with_reducible rfl
  try simp only [Act.put, List.getElem_toArray, List.getElem_cons_zero, List.getElem_cons_succ, List.setIfInBounds_toArray, List.set_cons_zero, List.set_cons_succ]
  refine anyT_one (i := 5) (by kernel_rfl) ?_
  refine wpOp_step rfl (fun K hK => ?_)
  replace hK := Lib.hid hK
  go_simp
  (with_reducible refine (hT.out _).mono ?_)
  rintro e w5 ⟨g, rfl, RBg, hb5⟩
  have K5 := K4.over hb5
  have B5 := B4.over hb5
  have R5 := R4.keep hb5
  have q5 : Below w.heap.size w w5 := below_call hb5 q4
  clear hb5
  have hS2 := Lib.hid (hS.out w5 g c A RBg R5)
  clear RBg
  refine hK.out _ _ ⟨fun _ => ⟨K5, B5⟩, ?_⟩
  clear hK K
  try simp only [Act.put, List.getElem_toArray, List.getElem_cons_zero, List.getElem_cons_succ, List.setIfInBounds_toArray, List.set_cons_zero, List.set_cons_succ]
  refine anyT_one (i := 7) (by kernel_rfl) ?_
  refine wpOp_step rfl (fun K hK => ?_)
  replace hK := Lib.hid hK
  go_simp
  (with_reducible refine (hS2.out).mono ?_)
  rintro e w6 ⟨rfl, hb6⟩
  have K6 := K5.over hb6
  have B6 := B5.over hb6
  have R6 := R5.keep hb6
  have q6 : Below w.heap.size w w6 := below_call hb6 q5
  clear hb6 hS2
  refine hK.out _ _ ⟨fun _ => ⟨K6, B6⟩, ?_⟩
  clear hK K
  try simp only [Act.put, List.getElem_toArray, List.getElem_cons_zero, List.getElem_cons_succ, List.setIfInBounds_toArray, List.set_cons_zero, List.set_cons_succ]
  refine anyT_take (i := 8) (v := .bool false) rfl (by kernel_rfl) (by kernel_rfl) (fun _ _ _ h => h) (Or.inl ⟨by rfl, ?_⟩) ⟨K6, B6⟩ ?_
  · intro w' hw'
    obtain ⟨⟨k1, k2, k3, k4, k5, k6⟩, ⟨g1, g2, g3, g4⟩⟩ := And.intro (H5.all hw'.1) (H3.all hw'.2)
    go_simp
    try with_reducible rfl
  try simp only [Act.put, List.getElem_toArray, List.getElem_cons_zero, List.getElem_cons_succ, List.setIfInBounds_toArray, List.set_cons_zero, List.set_cons_succ]
  refine anyT_one (i := 9) (by kernel_rfl) ?_
  refine wpOp_step rfl (fun K hK => ?_)
  replace hK := Lib.hid hK
  go_simp
  refine hK.out _ _ ⟨fun h => absurd h (by decide), ?_⟩
  clear hK K
  try simp only [Act.put]
  refine anyT_done (by kernel_rfl) ?_ _
  clear K4 B4 R4 q4 K5 B5 R5 q5
  have k6 := K6.all
  have k6l := K6.lt
  have b6 := B6.all
  have b6l := B6.lt
  go_wp2_with fail
  go_ret
  exact ⟨rfl, q6⟩
set_option maxRecDepth 100000 in
set_option maxHeartbeats 12800000 in
theorem parses_so (s u : ByteArray) (n x : Nat) (sg sz : Bool) (e : Int) (w : World) (hs : s.size ≤ 9223372036854775807) (hz : s.size ≤ 200) (hu : s = u) (he : e = 0)
    (hA : ∀ w1, Below w.heap.size w w1 → Calls Tryz.prog 8 #[] w1 (RV w1 (.bool true)))
    (hP : ∀ w1, Calls Tryz.prog 9 #[.string u] w1 (RV w1 (.tuple #[.agg #[.int .i64 (n : Int), .int .u64 ((lo x : Nat) : Int), .int .u64 ((hi x : Nat) : Int), .bool sg, .bool sz], .int .i64 e])))
    (hR : ∀ w1, Calls Tryz.prog 10 #[.string u] w1 (PL w1 ⟨n, x, sg, sz, e⟩))
    (hT : ∀ w1, Calls Tryz.prog 12 #[.agg #[.int .i64 (n : Int), .int .u64 ((lo x : Nat) : Int), .int .u64 ((hi x : Nat) : Int), .bool sg, .bool sz]] w1 (TD w1 n x sg sz))
    (hS : ∀ (w1 : World) (g c : Nat) (A : Option Addr), RB w1 (some ⟨g, 0, none⟩) n (tb x) → RB w1 A n (tb x) → Calls Tryz.prog 11 #[.agg #[.slice (some ⟨g, 0, none⟩) n n, .bool sg, .bool sz], .agg #[.slice A n c, .bool sg, .bool sz]] w1 (RV w1 (.bool true)))
    (D : ByteArray) (hX : ∀ w1, Below w.heap.size w w1 → Calls Tryz.prog 13 #[.agg #[.int .i64 (n : Int), .int .u64 ((lo x : Nat) : Int), .int .u64 ((hi x : Nat) : Int), .bool sg, .bool sz]] w1 (RV w1 (.string D)))
    (hQ : ∀ w1, Calls Tryz.prog 9 #[.string D] w1 (RV w1 (.tuple #[.agg #[.int .i64 (n : Int), .int .u64 ((lo x : Nat) : Int), .int .u64 ((hi x : Nat) : Int), .bool sg, .bool sz], .int .i64 0])))
    (hY : ∀ (w1 : World) (c : Nat) (A : Option Addr), RB w1 A n (tb x) → Calls Tryz.prog 14 #[.agg #[.slice A n c, .bool sg, .bool sz]] w1 (RV w1 (.string D))) :
    Calls Tryz.prog 3 #[.string s] w (RV w (.bool true)) := by
  unfold PL at hR
  unfold TD at hT
  dsimp only at hR
  have ee : (e != e) = false := by simp
  have ee2 : (e == e) = true := by simp
  subst hu
  have z1 : decide ((200 : Int) < (s.size : Int)) = false := by simp; omega
  have z2 : decide (200 < s.size) = false := by simp; omega
  subst he
  have dd : (D.toList == D.toList) = true := by simp
  replace hA := Lib.hid hA
  replace hP := Lib.hid hP
  replace hR := Lib.hid hR
  replace hT := Lib.hid hT
  replace hS := Lib.hid hS
  replace hX := Lib.hid hX
  replace hQ := Lib.hid hQ
  replace hY := Lib.hid hY
  clear hz
  go_enter Tryz.func3, Tryz.ntmps3
  go_wp2_with fail
  (with_reducible refine (hA.out _ (Below.refl _ _)).mono ?_)
  rintro e' w1 ⟨rfl, hb1⟩
  have q1 : Below w.heap.size w w1 := hb1
  clear hb1
  go_wp2_with fail
  (with_reducible refine (hP.out _).mono ?_)
  rintro e' w2 ⟨rfl, hb2⟩
  have q2' : Below w.heap.size w w2 := below_call hb2 q1
  have q2 : Below w.heap.size w (w2.alloc (.cells #[.int .i64 (n : Int), .int .u64 ((lo x : Nat) : Int), .int .u64 ((hi x : Nat) : Int), .bool sg, .bool sz] 28)) := q2'.alloc q2'.size _
  have kh := H5.new w2 28 (.int .i64 (n : Int)) (.int .u64 ((lo x : Nat) : Int)) (.int .u64 ((hi x : Nat) : Int)) (.bool sg) (.bool sz)
  clear hb2
  go_wp2_with fail
  (with_reducible refine (hR.out _).mono ?_)
  rintro e' w3 ⟨A, c, rfl, RA3, hb3⟩
  have q3' : Below w.heap.size w w3 := below_call hb3 q2
  have q3 : Below w.heap.size w (w3.alloc (.cells #[.slice A n c, .bool sg, .bool sz] 34)) := q3'.alloc q3'.size _
  have kh3 := (kh.over hb3).alloc (.cells #[.slice A n c, .bool sg, .bool sz] 34)
  have bh3 := H3.new w3 34 (.slice A n c) (.bool sg) (.bool sz)
  have RA4 := RB.keep RA3 ((Below.refl w3.heap.size w3).alloc (Nat.le_refl _) (.cells #[.slice A n c, .bool sg, .bool sz] 34))
  clear hb3 kh RA3
  go_wp2_with fail
  obtain ⟨ka, hka⟩ : ∃ ka, w2.heap.size = ka := ⟨_, rfl⟩
  obtain ⟨kb, hkb⟩ : ∃ kb, w3.heap.size = kb := ⟨_, rfl⟩
  simp only [hka, hkb] at kh3 bh3 ⊢
  obtain ⟨V0, hV0⟩ : ∃ V0, (w3.alloc (.cells #[.slice A n c, .bool sg, .bool sz] 34)) = V0 := ⟨_, rfl⟩
  rw [hV0] at kh3 bh3 q3 RA4 ⊢
  have K4 : H5 28 V0.drew ka (.int .i64 (n : Int)) (.int .u64 ((lo x : Nat) : Int)) (.int .u64 ((hi x : Nat) : Int)) (.bool sg) (.bool sz) := kh3
  have B4 : H3 34 V0.drew kb (.slice A n c) (.bool sg) (.bool sz) := bh3
  have R4 : RB V0.drew A n (tb x) := RA4
  have q4 : Below w.heap.size w V0.drew := q3.drew
  clear hV0 hka hkb kh3 bh3 q3 q3' RA4 q1 q2 q2'
  refine region_anyT (n := 9) (S := fun w' => H5 28 w' ka (.int .i64 (n : Int)) (.int .u64 ((lo x : Nat) : Int)) (.int .u64 ((hi x : Nat) : Int)) (.bool sg) (.bool sz) ∧ H3 34 w' kb (.slice A n c) (.bool sg) (.bool sz)) (by kernel_rfl) ?_
  refine anyT_take (i := 0) (v := .int .i64 0) rfl (by kernel_rfl) (by kernel_rfl) (fun _ _ _ h => h) (Or.inl ⟨by rfl, ?_⟩) ⟨K4, B4⟩ ?_
  · intro w' hw'
    obtain ⟨⟨k1, k2, k3, k4, k5, k6⟩, ⟨g1, g2, g3, g4⟩⟩ := And.intro (H5.all hw'.1) (H3.all hw'.2)
    go_simp
    try with_reducible rfl
  try simp only [Act.put, List.getElem_toArray, List.getElem_cons_zero, List.getElem_cons_succ, List.setIfInBounds_toArray, List.set_cons_zero, List.set_cons_succ]
  refine anyT_take (i := 1) (v := .int .i64 0) rfl (by kernel_rfl) (by kernel_rfl) (fun _ _ _ h => h) (Or.inl ⟨by rfl, ?_⟩) ⟨K4, B4⟩ ?_
  · intro w' hw'
    obtain ⟨⟨k1, k2, k3, k4, k5, k6⟩, ⟨g1, g2, g3, g4⟩⟩ := And.intro (H5.all hw'.1) (H3.all hw'.2)
    go_simp
    try with_reducible rfl
  try simp only [Act.put, List.getElem_toArray, List.getElem_cons_zero, List.getElem_cons_succ, List.setIfInBounds_toArray, List.set_cons_zero, List.set_cons_succ]
  refine anyT_take (i := 2) (v := .bool false) rfl (by kernel_rfl) (by kernel_rfl) (fun _ _ _ h => h) (Or.inl ⟨by rfl, ?_⟩) ⟨K4, B4⟩ ?_
  · intro w' hw'
    obtain ⟨⟨k1, k2, k3, k4, k5, k6⟩, ⟨g1, g2, g3, g4⟩⟩ := And.intro (H5.all hw'.1) (H3.all hw'.2)
    go_simp
    try with_reducible rfl
  try simp only [Act.put, List.getElem_toArray, List.getElem_cons_zero, List.getElem_cons_succ, List.setIfInBounds_toArray, List.set_cons_zero, List.set_cons_succ]
  refine anyT_take (i := 3) (v := .bool false) rfl (by kernel_rfl) (by kernel_rfl) (fun _ _ _ h => h) (Or.inl ⟨by rfl, ?_⟩) ⟨K4, B4⟩ ?_
  · intro w' hw'
    obtain ⟨⟨k1, k2, k3, k4, k5, k6⟩, ⟨g1, g2, g3, g4⟩⟩ := And.intro (H5.all hw'.1) (H3.all hw'.2)
    go_simp
    try with_reducible rfl
  try simp only [Act.put, List.getElem_toArray, List.getElem_cons_zero, List.getElem_cons_succ, List.setIfInBounds_toArray, List.set_cons_zero, List.set_cons_succ]
  refine anyT_take (i := 4) (v := .agg #[.int .i64 (n : Int), .int .u64 ((lo x : Nat) : Int), .int .u64 ((hi x : Nat) : Int), .bool sg, .bool sz]) rfl (by kernel_rfl) (by kernel_rfl) (fun _ _ _ h => h) (Or.inl ⟨by rfl, ?_⟩) ⟨K4, B4⟩ ?_
  · intro w' hw'
    obtain ⟨⟨k1, k2, k3, k4, k5, k6⟩, ⟨g1, g2, g3, g4⟩⟩ := And.intro (H5.all hw'.1) (H3.all hw'.2)
    go_simp
    try with_reducible rfl
  try simp only [Act.put, List.getElem_toArray, List.getElem_cons_zero, List.getElem_cons_succ, List.setIfInBounds_toArray, List.set_cons_zero, List.set_cons_succ]
  refine anyT_take (i := 6) (v := .agg #[.slice A n c, .bool sg, .bool sz]) rfl (by kernel_rfl) (by kernel_rfl) (fun _ _ _ h => h) (Or.inl ⟨by rfl, ?_⟩) ⟨K4, B4⟩ ?_
  · intro w' hw'
    obtain ⟨⟨k1, k2, k3, k4, k5, k6⟩, ⟨g1, g2, g3, g4⟩⟩ := And.intro (H5.all hw'.1) (H3.all hw'.2)
    go_simp
    try with_reducible rfl
  try simp only [Act.put, List.getElem_toArray, List.getElem_cons_zero, List.getElem_cons_succ, List.setIfInBounds_toArray, List.set_cons_zero, List.set_cons_succ]
  refine anyT_one (i := 5) (by kernel_rfl) ?_
  refine wpOp_step rfl (fun K hK => ?_)
  replace hK := Lib.hid hK
  go_simp
  (with_reducible refine (hT.out _).mono ?_)
  rintro e w5 ⟨g, rfl, RBg, hb5⟩
  have K5 := K4.over hb5
  have B5 := B4.over hb5
  have R5 := R4.keep hb5
  have q5 : Below w.heap.size w w5 := below_call hb5 q4
  clear hb5
  have hS2 := Lib.hid (hS.out w5 g c A RBg R5)
  clear RBg
  refine hK.out _ _ ⟨fun _ => ⟨K5, B5⟩, ?_⟩
  clear hK K
  try simp only [Act.put, List.getElem_toArray, List.getElem_cons_zero, List.getElem_cons_succ, List.setIfInBounds_toArray, List.set_cons_zero, List.set_cons_succ]
  refine anyT_one (i := 7) (by kernel_rfl) ?_
  refine wpOp_step rfl (fun K hK => ?_)
  replace hK := Lib.hid hK
  go_simp
  (with_reducible refine (hS2.out).mono ?_)
  rintro e w6 ⟨rfl, hb6⟩
  have K6 := K5.over hb6
  have B6 := B5.over hb6
  have R6 := R5.keep hb6
  have q6 : Below w.heap.size w w6 := below_call hb6 q5
  clear hb6 hS2
  refine hK.out _ _ ⟨fun _ => ⟨K6, B6⟩, ?_⟩
  clear hK K
  try simp only [Act.put, List.getElem_toArray, List.getElem_cons_zero, List.getElem_cons_succ, List.setIfInBounds_toArray, List.set_cons_zero, List.set_cons_succ]
  refine anyT_take (i := 8) (v := .bool false) rfl (by kernel_rfl) (by kernel_rfl) (fun _ _ _ h => h) (Or.inl ⟨by rfl, ?_⟩) ⟨K6, B6⟩ ?_
  · intro w' hw'
    obtain ⟨⟨k1, k2, k3, k4, k5, k6⟩, ⟨g1, g2, g3, g4⟩⟩ := And.intro (H5.all hw'.1) (H3.all hw'.2)
    go_simp
    try with_reducible rfl
  try simp only [Act.put, List.getElem_toArray, List.getElem_cons_zero, List.getElem_cons_succ, List.setIfInBounds_toArray, List.set_cons_zero, List.set_cons_succ]
  refine anyT_one (i := 9) (by kernel_rfl) ?_
  refine wpOp_step rfl (fun K hK => ?_)
  replace hK := Lib.hid hK
  go_simp
  refine hK.out _ _ ⟨fun h => absurd h (by decide), ?_⟩
  clear hK K
  try simp only [Act.put]
  refine anyT_done (by kernel_rfl) ?_ _
  clear K4 B4 R4 q4 K5 B5 R5 q5
  have k6 := K6.all
  have k6l := K6.lt
  have b6 := B6.all
  have b6l := B6.lt
  go_wp2_with fail
  (with_reducible refine (hX.out _ q6).mono ?_)
  rintro e' w7 ⟨rfl, hb7⟩
  have K7 := K6.over hb7
  have B7 := B6.over hb7
  have R7 := R6.keep hb7
  have q7 : Below w.heap.size w w7 := below_call hb7 q6
  clear hb7 k6 k6l b6 b6l K6 B6 R6
  go_wp2_with fail
  (with_reducible refine (hQ.out _).mono ?_)
  rintro e' w8 ⟨rfl, hb8⟩
  have B8 := (B7.over hb8).alloc (.cells #[.int .i64 (n : Int), .int .u64 ((lo x : Nat) : Int), .int .u64 ((hi x : Nat) : Int), .bool sg, .bool sz] 28)
  have R8 := RB.keep (R7.keep hb8) ((Below.refl w8.heap.size w8).alloc (Nat.le_refl _) (.cells #[.int .i64 (n : Int), .int .u64 ((lo x : Nat) : Int), .int .u64 ((hi x : Nat) : Int), .bool sg, .bool sz] 28))
  have G8 := H5.new w8 28 (.int .i64 (n : Int)) (.int .u64 ((lo x : Nat) : Int)) (.int .u64 ((hi x : Nat) : Int)) (.bool sg) (.bool sz)
  have q8' : Below w.heap.size w w8 := below_call hb8 q7
  have q8 : Below w.heap.size w (w8.alloc (.cells #[.int .i64 (n : Int), .int .u64 ((lo x : Nat) : Int), .int .u64 ((hi x : Nat) : Int), .bool sg, .bool sz] 28)) := q8'.alloc q8'.size _
  clear hb8 K7 B7 R7 q7
  go_wp2_with fail
  obtain ⟨kc, hkc⟩ : ∃ kc, w8.heap.size = kc := ⟨_, rfl⟩
  simp only [hkc] at G8 ⊢
  obtain ⟨V1, hV1⟩ : ∃ V1, (w8.alloc (.cells #[.int .i64 (n : Int), .int .u64 ((lo x : Nat) : Int), .int .u64 ((hi x : Nat) : Int), .bool sg, .bool sz] 28)) = V1 := ⟨_, rfl⟩
  rw [hV1] at B8 R8 G8 q8 ⊢
  have K9 : H5 28 V1.drew kc (.int .i64 (n : Int)) (.int .u64 ((lo x : Nat) : Int)) (.int .u64 ((hi x : Nat) : Int)) (.bool sg) (.bool sz) := G8
  have B9 : H3 34 V1.drew kb (.slice A n c) (.bool sg) (.bool sz) := B8
  have R9 : RB V1.drew A n (tb x) := R8
  have q9 : Below w.heap.size w V1.drew := q8.drew
  clear hV1 hkc B8 R8 G8 q8 q8' q6
  refine region_anyT (n := 20) (S := fun w' => H5 28 w' kc (.int .i64 (n : Int)) (.int .u64 ((lo x : Nat) : Int)) (.int .u64 ((hi x : Nat) : Int)) (.bool sg) (.bool sz) ∧ H3 34 w' kb (.slice A n c) (.bool sg) (.bool sz)) (by kernel_rfl) ?_
  refine anyT_take (i := 0) (v := .string D) rfl (by kernel_rfl) (by kernel_rfl) (fun _ _ _ h => h) (Or.inl ⟨by rfl, ?_⟩) ⟨K9, B9⟩ ?_
  · intro w' hw'
    obtain ⟨⟨k1, k2, k3, k4, k5, k6⟩, ⟨g1, g2, g3, g4⟩⟩ := And.intro (H5.all hw'.1) (H3.all hw'.2)
    go_simp
    try with_reducible rfl
  try simp only [Act.put, List.getElem_toArray, List.getElem_cons_zero, List.getElem_cons_succ, List.setIfInBounds_toArray, List.set_cons_zero, List.set_cons_succ]
  refine anyT_take (i := 1) (v := .agg #[.slice A n c, .bool sg, .bool sz]) rfl (by kernel_rfl) (by kernel_rfl) (fun _ _ _ h => h) (Or.inl ⟨by rfl, ?_⟩) ⟨K9, B9⟩ ?_
  · intro w' hw'
    obtain ⟨⟨k1, k2, k3, k4, k5, k6⟩, ⟨g1, g2, g3, g4⟩⟩ := And.intro (H5.all hw'.1) (H3.all hw'.2)
    go_simp
    try with_reducible rfl
  try simp only [Act.put, List.getElem_toArray, List.getElem_cons_zero, List.getElem_cons_succ, List.setIfInBounds_toArray, List.set_cons_zero, List.set_cons_succ]
  have hY2 := Lib.hid (hY.out _ c A R9)
  refine anyT_one (i := 2) (by kernel_rfl) ?_
  refine wpOp_step rfl (fun K hK => ?_)
  replace hK := Lib.hid hK
  go_simp
  (with_reducible refine (hY2.out).mono ?_)
  rintro e w10 ⟨rfl, hb10⟩
  have K10 := K9.over hb10
  have B10 := B9.over hb10
  have R10 := R9.keep hb10
  have q10 : Below w.heap.size w w10 := below_call hb10 q9
  clear hb10 hY2
  refine hK.out _ _ ⟨fun _ => ⟨K10, B10⟩, ?_⟩
  clear hK K
  try simp only [Act.put, List.getElem_toArray, List.getElem_cons_zero, List.getElem_cons_succ, List.setIfInBounds_toArray, List.set_cons_zero, List.set_cons_succ]
  refine anyT_take (i := 3) (v := .bool true) rfl (by kernel_rfl) (by kernel_rfl) (fun _ _ _ h => h) (Or.inl ⟨by rfl, ?_⟩) ⟨K10, B10⟩ ?_
  · intro w' hw'
    obtain ⟨⟨k1, k2, k3, k4, k5, k6⟩, ⟨g1, g2, g3, g4⟩⟩ := And.intro (H5.all hw'.1) (H3.all hw'.2)
    go_simp
    try with_reducible rfl
  try simp only [Act.put, List.getElem_toArray, List.getElem_cons_zero, List.getElem_cons_succ, List.setIfInBounds_toArray, List.set_cons_zero, List.set_cons_succ]
  refine anyT_take (i := 4) (v := .bool true) rfl (by kernel_rfl) (by kernel_rfl) (fun _ _ _ h => h) (Or.inl ⟨by rfl, ?_⟩) ⟨K10, B10⟩ ?_
  · intro w' hw'
    obtain ⟨⟨k1, k2, k3, k4, k5, k6⟩, ⟨g1, g2, g3, g4⟩⟩ := And.intro (H5.all hw'.1) (H3.all hw'.2)
    go_simp
    try with_reducible rfl
  try simp only [Act.put, List.getElem_toArray, List.getElem_cons_zero, List.getElem_cons_succ, List.setIfInBounds_toArray, List.set_cons_zero, List.set_cons_succ]
  refine anyT_take (i := 5) (v := .int .i64 0) rfl (by kernel_rfl) (by kernel_rfl) (fun _ _ _ h => h) (Or.inl ⟨by rfl, ?_⟩) ⟨K10, B10⟩ ?_
  · intro w' hw'
    obtain ⟨⟨k1, k2, k3, k4, k5, k6⟩, ⟨g1, g2, g3, g4⟩⟩ := And.intro (H5.all hw'.1) (H3.all hw'.2)
    go_simp
    try with_reducible rfl
  try simp only [Act.put, List.getElem_toArray, List.getElem_cons_zero, List.getElem_cons_succ, List.setIfInBounds_toArray, List.set_cons_zero, List.set_cons_succ]
  refine anyT_take (i := 6) (v := .bool true) rfl (by kernel_rfl) (by kernel_rfl) (fun _ _ _ h => h) (Or.inl ⟨by rfl, ?_⟩) ⟨K10, B10⟩ ?_
  · intro w' hw'
    obtain ⟨⟨k1, k2, k3, k4, k5, k6⟩, ⟨g1, g2, g3, g4⟩⟩ := And.intro (H5.all hw'.1) (H3.all hw'.2)
    go_simp
    try with_reducible rfl
  try simp only [Act.put, List.getElem_toArray, List.getElem_cons_zero, List.getElem_cons_succ, List.setIfInBounds_toArray, List.set_cons_zero, List.set_cons_succ]
  refine anyT_take (i := 7) (v := .bool true) rfl (by kernel_rfl) (by kernel_rfl) (fun _ _ _ h => h) (Or.inl ⟨by rfl, ?_⟩) ⟨K10, B10⟩ ?_
  · intro w' hw'
    obtain ⟨⟨k1, k2, k3, k4, k5, k6⟩, ⟨g1, g2, g3, g4⟩⟩ := And.intro (H5.all hw'.1) (H3.all hw'.2)
    go_simp
    try with_reducible rfl
  try simp only [Act.put, List.getElem_toArray, List.getElem_cons_zero, List.getElem_cons_succ, List.setIfInBounds_toArray, List.set_cons_zero, List.set_cons_succ]
  refine anyT_take (i := 8) (v := .bool true) rfl (by kernel_rfl) (by kernel_rfl) (fun _ _ _ h => h) (Or.inl ⟨by rfl, ?_⟩) ⟨K10, B10⟩ ?_
  · intro w' hw'
    obtain ⟨⟨k1, k2, k3, k4, k5, k6⟩, ⟨g1, g2, g3, g4⟩⟩ := And.intro (H5.all hw'.1) (H3.all hw'.2)
    go_simp
    try with_reducible rfl
  try simp only [Act.put, List.getElem_toArray, List.getElem_cons_zero, List.getElem_cons_succ, List.setIfInBounds_toArray, List.set_cons_zero, List.set_cons_succ]
  refine anyT_take (i := 9) (v := .agg #[.int .i64 (n : Int), .int .u64 ((lo x : Nat) : Int), .int .u64 ((hi x : Nat) : Int), .bool sg, .bool sz]) rfl (by kernel_rfl) (by kernel_rfl) (fun _ _ _ h => h) (Or.inl ⟨by rfl, ?_⟩) ⟨K10, B10⟩ ?_
  · intro w' hw'
    obtain ⟨⟨k1, k2, k3, k4, k5, k6⟩, ⟨g1, g2, g3, g4⟩⟩ := And.intro (H5.all hw'.1) (H3.all hw'.2)
    go_simp
    try with_reducible rfl
  try simp only [Act.put, List.getElem_toArray, List.getElem_cons_zero, List.getElem_cons_succ, List.setIfInBounds_toArray, List.set_cons_zero, List.set_cons_succ]
  refine anyT_take (i := 11) (v := .agg #[.slice A n c, .bool sg, .bool sz]) rfl (by kernel_rfl) (by kernel_rfl) (fun _ _ _ h => h) (Or.inl ⟨by rfl, ?_⟩) ⟨K10, B10⟩ ?_
  · intro w' hw'
    obtain ⟨⟨k1, k2, k3, k4, k5, k6⟩, ⟨g1, g2, g3, g4⟩⟩ := And.intro (H5.all hw'.1) (H3.all hw'.2)
    go_simp
    try with_reducible rfl
  try simp only [Act.put, List.getElem_toArray, List.getElem_cons_zero, List.getElem_cons_succ, List.setIfInBounds_toArray, List.set_cons_zero, List.set_cons_succ]
  refine anyT_one (i := 10) (by kernel_rfl) ?_
  refine wpOp_step rfl (fun K hK => ?_)
  replace hK := Lib.hid hK
  go_simp
  (with_reducible refine (hT.out _).mono ?_)
  rintro e w11 ⟨g2, rfl, RBg, hb11⟩
  have K11 := K10.over hb11
  have B11 := B10.over hb11
  have R11 := R10.keep hb11
  have q11 : Below w.heap.size w w11 := below_call hb11 q10
  clear hb11
  have hS2 := Lib.hid (hS.out w11 g2 c A RBg R11)
  clear RBg
  refine hK.out _ _ ⟨fun _ => ⟨K11, B11⟩, ?_⟩
  clear hK K
  try simp only [Act.put, List.getElem_toArray, List.getElem_cons_zero, List.getElem_cons_succ, List.setIfInBounds_toArray, List.set_cons_zero, List.set_cons_succ]
  refine anyT_one (i := 12) (by kernel_rfl) ?_
  refine wpOp_step rfl (fun K hK => ?_)
  replace hK := Lib.hid hK
  go_simp
  (with_reducible refine (hS2.out).mono ?_)
  rintro e w12 ⟨rfl, hb12⟩
  have K12 := K11.over hb12
  have B12 := B11.over hb12
  have R12 := R11.keep hb12
  have q12 : Below w.heap.size w w12 := below_call hb12 q11
  clear hb12 hS2
  refine hK.out _ _ ⟨fun _ => ⟨K12, B12⟩, ?_⟩
  clear hK K
  try simp only [Act.put, List.getElem_toArray, List.getElem_cons_zero, List.getElem_cons_succ, List.setIfInBounds_toArray, List.set_cons_zero, List.set_cons_succ]
  refine anyT_take (i := 13) (v := .bool true) rfl (by kernel_rfl) (by kernel_rfl) (fun _ _ _ h => h) (Or.inl ⟨by rfl, ?_⟩) ⟨K12, B12⟩ ?_
  · intro w' hw'
    obtain ⟨⟨k1, k2, k3, k4, k5, k6⟩, ⟨g1, g2, g3, g4⟩⟩ := And.intro (H5.all hw'.1) (H3.all hw'.2)
    go_simp
    try with_reducible rfl
  try simp only [Act.put, List.getElem_toArray, List.getElem_cons_zero, List.getElem_cons_succ, List.setIfInBounds_toArray, List.set_cons_zero, List.set_cons_succ]
  refine anyT_take (i := 14) (v := .bool true) rfl (by kernel_rfl) (by kernel_rfl) (fun _ _ _ h => h) (Or.inl ⟨by rfl, ?_⟩) ⟨K12, B12⟩ ?_
  · intro w' hw'
    obtain ⟨⟨k1, k2, k3, k4, k5, k6⟩, ⟨g1, g2, g3, g4⟩⟩ := And.intro (H5.all hw'.1) (H3.all hw'.2)
    go_simp
    try with_reducible rfl
  try simp only [Act.put, List.getElem_toArray, List.getElem_cons_zero, List.getElem_cons_succ, List.setIfInBounds_toArray, List.set_cons_zero, List.set_cons_succ]
  refine anyT_take (i := 15) (v := .agg #[.int .i64 (n : Int), .int .u64 ((lo x : Nat) : Int), .int .u64 ((hi x : Nat) : Int), .bool sg, .bool sz]) rfl (by kernel_rfl) (by kernel_rfl) (fun _ _ _ h => h) (Or.inl ⟨by rfl, ?_⟩) ⟨K12, B12⟩ ?_
  · intro w' hw'
    obtain ⟨⟨k1, k2, k3, k4, k5, k6⟩, ⟨g1, g2, g3, g4⟩⟩ := And.intro (H5.all hw'.1) (H3.all hw'.2)
    go_simp
    try with_reducible rfl
  try simp only [Act.put, List.getElem_toArray, List.getElem_cons_zero, List.getElem_cons_succ, List.setIfInBounds_toArray, List.set_cons_zero, List.set_cons_succ]
  refine anyT_take (i := 17) (v := .string D) rfl (by kernel_rfl) (by kernel_rfl) (fun _ _ _ h => h) (Or.inl ⟨by rfl, ?_⟩) ⟨K12, B12⟩ ?_
  · intro w' hw'
    obtain ⟨⟨k1, k2, k3, k4, k5, k6⟩, ⟨g1, g2, g3, g4⟩⟩ := And.intro (H5.all hw'.1) (H3.all hw'.2)
    go_simp
    try with_reducible rfl
  try simp only [Act.put, List.getElem_toArray, List.getElem_cons_zero, List.getElem_cons_succ, List.setIfInBounds_toArray, List.set_cons_zero, List.set_cons_succ]
  refine anyT_one (i := 16) (by kernel_rfl) ?_
  refine wpOp_step rfl (fun K hK => ?_)
  replace hK := Lib.hid hK
  go_simp
  (with_reducible refine (hX.out _ q12).mono ?_)
  rintro e w13 ⟨rfl, hb13⟩
  have K13 := K12.over hb13
  have B13 := B12.over hb13
  have R13 := R12.keep hb13
  have q13 : Below w.heap.size w w13 := below_call hb13 q12
  clear hb13
  refine hK.out _ _ ⟨fun _ => ⟨K13, B13⟩, ?_⟩
  clear hK K
  try simp only [Act.put, List.getElem_toArray, List.getElem_cons_zero, List.getElem_cons_succ, List.setIfInBounds_toArray, List.set_cons_zero, List.set_cons_succ]
  refine anyT_take (i := 18) (v := .bool true) rfl (by kernel_rfl) (by kernel_rfl) (fun _ _ _ h => h) (Or.inl ⟨by rfl, ?_⟩) ⟨K13, B13⟩ ?_
  · intro w' hw'
    obtain ⟨⟨k1, k2, k3, k4, k5, k6⟩, ⟨g1, g2, g3, g4⟩⟩ := And.intro (H5.all hw'.1) (H3.all hw'.2)
    go_simp
    try with_reducible rfl
  try simp only [Act.put, List.getElem_toArray, List.getElem_cons_zero, List.getElem_cons_succ, List.setIfInBounds_toArray, List.set_cons_zero, List.set_cons_succ]
  refine anyT_take (i := 19) (v := .bool true) rfl (by kernel_rfl) (by kernel_rfl) (fun _ _ _ h => h) (Or.inl ⟨by rfl, ?_⟩) ⟨K13, B13⟩ ?_
  · intro w' hw'
    obtain ⟨⟨k1, k2, k3, k4, k5, k6⟩, ⟨g1, g2, g3, g4⟩⟩ := And.intro (H5.all hw'.1) (H3.all hw'.2)
    go_simp
    try with_reducible rfl
  try simp only [Act.put, List.getElem_toArray, List.getElem_cons_zero, List.getElem_cons_succ, List.setIfInBounds_toArray, List.set_cons_zero, List.set_cons_succ]
  refine anyT_one (i := 20) (by kernel_rfl) ?_
  refine wpOp_step rfl (fun K hK => ?_)
  replace hK := Lib.hid hK
  go_simp
  refine hK.out _ _ ⟨fun h => absurd h (by decide), ?_⟩
  clear hK K
  try simp only [Act.put]
  refine anyT_done (by kernel_rfl) ?_ _
  go_wp2_with fail
  go_ret
  exact ⟨rfl, q13⟩
set_option maxRecDepth 100000 in
set_option maxHeartbeats 12800000 in
theorem parses_le (s u : ByteArray) (n x : Nat) (sg sz : Bool) (e : Int) (w : World) (hs : s.size ≤ 9223372036854775807) (hz : 200 < s.size) (hu : (s.extract 0 200) = u) (he : e ≠ 0)
    (hA : ∀ w1, Below w.heap.size w w1 → Calls Tryz.prog 8 #[] w1 (RV w1 (.bool true)))
    (hP : ∀ w1, Calls Tryz.prog 9 #[.string u] w1 (RV w1 (.tuple #[.agg #[.int .i64 (n : Int), .int .u64 ((lo x : Nat) : Int), .int .u64 ((hi x : Nat) : Int), .bool sg, .bool sz], .int .i64 e])))
    (hR : ∀ w1, Calls Tryz.prog 10 #[.string u] w1 (PL w1 ⟨n, x, sg, sz, e⟩))
    (hT : ∀ w1, Calls Tryz.prog 12 #[.agg #[.int .i64 (n : Int), .int .u64 ((lo x : Nat) : Int), .int .u64 ((hi x : Nat) : Int), .bool sg, .bool sz]] w1 (TD w1 n x sg sz))
    (hS : ∀ (w1 : World) (g c : Nat) (A : Option Addr), RB w1 (some ⟨g, 0, none⟩) n (tb x) → RB w1 A n (tb x) → Calls Tryz.prog 11 #[.agg #[.slice (some ⟨g, 0, none⟩) n n, .bool sg, .bool sz], .agg #[.slice A n c, .bool sg, .bool sz]] w1 (RV w1 (.bool true))) :
    Calls Tryz.prog 3 #[.string s] w (RV w (.bool true)) := by
  unfold PL at hR
  unfold TD at hT
  dsimp only at hR
  have ee : (e != e) = false := by simp
  have ee2 : (e == e) = true := by simp
  have z1 : decide ((200 : Int) < (s.size : Int)) = true := by simp; omega
  have z2 : decide (200 < s.size) = true := by simp; omega
  have z3 : 200 ≤ s.size := by omega
  have z4 : (200 : Int) ≤ (s.size : Int) := by omega
  have e1 : (e != 0) = true := by simp [he]
  have e2 : (e == 0) = false := by simp [he]
  clear he
  replace hA := Lib.hid hA
  replace hP := Lib.hid hP
  replace hR := Lib.hid hR
  replace hT := Lib.hid hT
  replace hS := Lib.hid hS
  clear hz
  go_enter Tryz.func3, Tryz.ntmps3
  go_wp2_with fail
  (with_reducible refine (hA.out _ (Below.refl _ _)).mono ?_)
  rintro e' w1 ⟨rfl, hb1⟩
  have q1 : Below w.heap.size w w1 := hb1
  clear hb1
  go_wp2_with fail
  (with_reducible refine (hP.out _).mono ?_)
  rintro e' w2 ⟨rfl, hb2⟩
  have q2' : Below w.heap.size w w2 := below_call hb2 q1
  have q2 : Below w.heap.size w (w2.alloc (.cells #[.int .i64 (n : Int), .int .u64 ((lo x : Nat) : Int), .int .u64 ((hi x : Nat) : Int), .bool sg, .bool sz] 28)) := q2'.alloc q2'.size _
  have kh := H5.new w2 28 (.int .i64 (n : Int)) (.int .u64 ((lo x : Nat) : Int)) (.int .u64 ((hi x : Nat) : Int)) (.bool sg) (.bool sz)
  clear hb2
  go_wp2_with fail
  (with_reducible refine (hR.out _).mono ?_)
  rintro e' w3 ⟨A, c, rfl, RA3, hb3⟩
  have q3' : Below w.heap.size w w3 := below_call hb3 q2
  have q3 : Below w.heap.size w (w3.alloc (.cells #[.slice A n c, .bool sg, .bool sz] 34)) := q3'.alloc q3'.size _
  have kh3 := (kh.over hb3).alloc (.cells #[.slice A n c, .bool sg, .bool sz] 34)
  have bh3 := H3.new w3 34 (.slice A n c) (.bool sg) (.bool sz)
  have RA4 := RB.keep RA3 ((Below.refl w3.heap.size w3).alloc (Nat.le_refl _) (.cells #[.slice A n c, .bool sg, .bool sz] 34))
  clear hb3 kh RA3
  go_wp2_with fail
  obtain ⟨ka, hka⟩ : ∃ ka, w2.heap.size = ka := ⟨_, rfl⟩
  obtain ⟨kb, hkb⟩ : ∃ kb, w3.heap.size = kb := ⟨_, rfl⟩
  simp only [hka, hkb] at kh3 bh3 ⊢
  obtain ⟨V0, hV0⟩ : ∃ V0, (w3.alloc (.cells #[.slice A n c, .bool sg, .bool sz] 34)) = V0 := ⟨_, rfl⟩
  rw [hV0] at kh3 bh3 q3 RA4 ⊢
  have K4 : H5 28 V0.drew ka (.int .i64 (n : Int)) (.int .u64 ((lo x : Nat) : Int)) (.int .u64 ((hi x : Nat) : Int)) (.bool sg) (.bool sz) := kh3
  have B4 : H3 34 V0.drew kb (.slice A n c) (.bool sg) (.bool sz) := bh3
  have R4 : RB V0.drew A n (tb x) := RA4
  have q4 : Below w.heap.size w V0.drew := q3.drew
  clear hV0 hka hkb kh3 bh3 q3 q3' RA4 q1 q2 q2'
  refine region_anyT (n := 9) (S := fun w' => H5 28 w' ka (.int .i64 (n : Int)) (.int .u64 ((lo x : Nat) : Int)) (.int .u64 ((hi x : Nat) : Int)) (.bool sg) (.bool sz) ∧ H3 34 w' kb (.slice A n c) (.bool sg) (.bool sz)) (by kernel_rfl) ?_
  refine anyT_take (i := 0) (v := .int .i64 e) rfl (by kernel_rfl) (by kernel_rfl) (fun _ _ _ h => h) (Or.inl ⟨by rfl, ?_⟩) ⟨K4, B4⟩ ?_
  · intro w' hw'
    obtain ⟨⟨k1, k2, k3, k4, k5, k6⟩, ⟨g1, g2, g3, g4⟩⟩ := And.intro (H5.all hw'.1) (H3.all hw'.2)
    go_simp
    try with_reducible rfl
  try simp only [Act.put, List.getElem_toArray, List.getElem_cons_zero, List.getElem_cons_succ, List.setIfInBounds_toArray, List.set_cons_zero, List.set_cons_succ]
  refine anyT_take (i := 1) (v := .int .i64 e) rfl (by kernel_rfl) (by kernel_rfl) (fun _ _ _ h => h) (Or.inl ⟨by rfl, ?_⟩) ⟨K4, B4⟩ ?_
  · intro w' hw'
    obtain ⟨⟨k1, k2, k3, k4, k5, k6⟩, ⟨g1, g2, g3, g4⟩⟩ := And.intro (H5.all hw'.1) (H3.all hw'.2)
    go_simp
    try with_reducible rfl
  try simp only [Act.put, List.getElem_toArray, List.getElem_cons_zero, List.getElem_cons_succ, List.setIfInBounds_toArray, List.set_cons_zero, List.set_cons_succ]
  refine anyT_take (i := 2) (v := .bool false) rfl (by kernel_rfl) (by kernel_rfl) (fun _ _ _ h => h) (Or.inl ⟨by rfl, ?_⟩) ⟨K4, B4⟩ ?_
  · intro w' hw'
    obtain ⟨⟨k1, k2, k3, k4, k5, k6⟩, ⟨g1, g2, g3, g4⟩⟩ := And.intro (H5.all hw'.1) (H3.all hw'.2)
    go_simp
    try with_reducible rfl
  try simp only [Act.put, List.getElem_toArray, List.getElem_cons_zero, List.getElem_cons_succ, List.setIfInBounds_toArray, List.set_cons_zero, List.set_cons_succ]
  refine anyT_take (i := 3) (v := .bool false) rfl (by kernel_rfl) (by kernel_rfl) (fun _ _ _ h => h) (Or.inl ⟨by rfl, ?_⟩) ⟨K4, B4⟩ ?_
  · intro w' hw'
    obtain ⟨⟨k1, k2, k3, k4, k5, k6⟩, ⟨g1, g2, g3, g4⟩⟩ := And.intro (H5.all hw'.1) (H3.all hw'.2)
    go_simp
    try with_reducible rfl
  try simp only [Act.put, List.getElem_toArray, List.getElem_cons_zero, List.getElem_cons_succ, List.setIfInBounds_toArray, List.set_cons_zero, List.set_cons_succ]
  refine anyT_take (i := 4) (v := .agg #[.int .i64 (n : Int), .int .u64 ((lo x : Nat) : Int), .int .u64 ((hi x : Nat) : Int), .bool sg, .bool sz]) rfl (by kernel_rfl) (by kernel_rfl) (fun _ _ _ h => h) (Or.inl ⟨by rfl, ?_⟩) ⟨K4, B4⟩ ?_
  · intro w' hw'
    obtain ⟨⟨k1, k2, k3, k4, k5, k6⟩, ⟨g1, g2, g3, g4⟩⟩ := And.intro (H5.all hw'.1) (H3.all hw'.2)
    go_simp
    try with_reducible rfl
  try simp only [Act.put, List.getElem_toArray, List.getElem_cons_zero, List.getElem_cons_succ, List.setIfInBounds_toArray, List.set_cons_zero, List.set_cons_succ]
  refine anyT_take (i := 6) (v := .agg #[.slice A n c, .bool sg, .bool sz]) rfl (by kernel_rfl) (by kernel_rfl) (fun _ _ _ h => h) (Or.inl ⟨by rfl, ?_⟩) ⟨K4, B4⟩ ?_
  · intro w' hw'
    obtain ⟨⟨k1, k2, k3, k4, k5, k6⟩, ⟨g1, g2, g3, g4⟩⟩ := And.intro (H5.all hw'.1) (H3.all hw'.2)
    go_simp
    try with_reducible rfl
  try simp only [Act.put, List.getElem_toArray, List.getElem_cons_zero, List.getElem_cons_succ, List.setIfInBounds_toArray, List.set_cons_zero, List.set_cons_succ]
  refine anyT_one (i := 5) (by kernel_rfl) ?_
  refine wpOp_step rfl (fun K hK => ?_)
  replace hK := Lib.hid hK
  go_simp
  (with_reducible refine (hT.out _).mono ?_)
  rintro e w5 ⟨g, rfl, RBg, hb5⟩
  have K5 := K4.over hb5
  have B5 := B4.over hb5
  have R5 := R4.keep hb5
  have q5 : Below w.heap.size w w5 := below_call hb5 q4
  clear hb5
  have hS2 := Lib.hid (hS.out w5 g c A RBg R5)
  clear RBg
  refine hK.out _ _ ⟨fun _ => ⟨K5, B5⟩, ?_⟩
  clear hK K
  try simp only [Act.put, List.getElem_toArray, List.getElem_cons_zero, List.getElem_cons_succ, List.setIfInBounds_toArray, List.set_cons_zero, List.set_cons_succ]
  refine anyT_one (i := 7) (by kernel_rfl) ?_
  refine wpOp_step rfl (fun K hK => ?_)
  replace hK := Lib.hid hK
  go_simp
  (with_reducible refine (hS2.out).mono ?_)
  rintro e w6 ⟨rfl, hb6⟩
  have K6 := K5.over hb6
  have B6 := B5.over hb6
  have R6 := R5.keep hb6
  have q6 : Below w.heap.size w w6 := below_call hb6 q5
  clear hb6 hS2
  refine hK.out _ _ ⟨fun _ => ⟨K6, B6⟩, ?_⟩
  clear hK K
  try simp only [Act.put, List.getElem_toArray, List.getElem_cons_zero, List.getElem_cons_succ, List.setIfInBounds_toArray, List.set_cons_zero, List.set_cons_succ]
  refine anyT_take (i := 8) (v := .bool false) rfl (by kernel_rfl) (by kernel_rfl) (fun _ _ _ h => h) (Or.inl ⟨by rfl, ?_⟩) ⟨K6, B6⟩ ?_
  · intro w' hw'
    obtain ⟨⟨k1, k2, k3, k4, k5, k6⟩, ⟨g1, g2, g3, g4⟩⟩ := And.intro (H5.all hw'.1) (H3.all hw'.2)
    go_simp
    try with_reducible rfl
  try simp only [Act.put, List.getElem_toArray, List.getElem_cons_zero, List.getElem_cons_succ, List.setIfInBounds_toArray, List.set_cons_zero, List.set_cons_succ]
  refine anyT_one (i := 9) (by kernel_rfl) ?_
  refine wpOp_step rfl (fun K hK => ?_)
  replace hK := Lib.hid hK
  go_simp
  refine hK.out _ _ ⟨fun h => absurd h (by decide), ?_⟩
  clear hK K
  try simp only [Act.put]
  refine anyT_done (by kernel_rfl) ?_ _
  clear K4 B4 R4 q4 K5 B5 R5 q5
  have k6 := K6.all
  have k6l := K6.lt
  have b6 := B6.all
  have b6l := B6.lt
  go_wp2_with fail
  go_ret
  exact ⟨rfl, q6⟩
set_option maxRecDepth 100000 in
set_option maxHeartbeats 12800000 in
theorem parses_lo (s u : ByteArray) (n x : Nat) (sg sz : Bool) (e : Int) (w : World) (hs : s.size ≤ 9223372036854775807) (hz : 200 < s.size) (hu : (s.extract 0 200) = u) (he : e = 0)
    (hA : ∀ w1, Below w.heap.size w w1 → Calls Tryz.prog 8 #[] w1 (RV w1 (.bool true)))
    (hP : ∀ w1, Calls Tryz.prog 9 #[.string u] w1 (RV w1 (.tuple #[.agg #[.int .i64 (n : Int), .int .u64 ((lo x : Nat) : Int), .int .u64 ((hi x : Nat) : Int), .bool sg, .bool sz], .int .i64 e])))
    (hR : ∀ w1, Calls Tryz.prog 10 #[.string u] w1 (PL w1 ⟨n, x, sg, sz, e⟩))
    (hT : ∀ w1, Calls Tryz.prog 12 #[.agg #[.int .i64 (n : Int), .int .u64 ((lo x : Nat) : Int), .int .u64 ((hi x : Nat) : Int), .bool sg, .bool sz]] w1 (TD w1 n x sg sz))
    (hS : ∀ (w1 : World) (g c : Nat) (A : Option Addr), RB w1 (some ⟨g, 0, none⟩) n (tb x) → RB w1 A n (tb x) → Calls Tryz.prog 11 #[.agg #[.slice (some ⟨g, 0, none⟩) n n, .bool sg, .bool sz], .agg #[.slice A n c, .bool sg, .bool sz]] w1 (RV w1 (.bool true)))
    (D : ByteArray) (hX : ∀ w1, Below w.heap.size w w1 → Calls Tryz.prog 13 #[.agg #[.int .i64 (n : Int), .int .u64 ((lo x : Nat) : Int), .int .u64 ((hi x : Nat) : Int), .bool sg, .bool sz]] w1 (RV w1 (.string D)))
    (hQ : ∀ w1, Calls Tryz.prog 9 #[.string D] w1 (RV w1 (.tuple #[.agg #[.int .i64 (n : Int), .int .u64 ((lo x : Nat) : Int), .int .u64 ((hi x : Nat) : Int), .bool sg, .bool sz], .int .i64 0])))
    (hY : ∀ (w1 : World) (c : Nat) (A : Option Addr), RB w1 A n (tb x) → Calls Tryz.prog 14 #[.agg #[.slice A n c, .bool sg, .bool sz]] w1 (RV w1 (.string D))) :
    Calls Tryz.prog 3 #[.string s] w (RV w (.bool true)) := by
  unfold PL at hR
  unfold TD at hT
  dsimp only at hR
  have ee : (e != e) = false := by simp
  have ee2 : (e == e) = true := by simp
  have z1 : decide ((200 : Int) < (s.size : Int)) = true := by simp; omega
  have z2 : decide (200 < s.size) = true := by simp; omega
  have z3 : 200 ≤ s.size := by omega
  have z4 : (200 : Int) ≤ (s.size : Int) := by omega
  subst he
  have dd : (D.toList == D.toList) = true := by simp
  replace hA := Lib.hid hA
  replace hP := Lib.hid hP
  replace hR := Lib.hid hR
  replace hT := Lib.hid hT
  replace hS := Lib.hid hS
  replace hX := Lib.hid hX
  replace hQ := Lib.hid hQ
  replace hY := Lib.hid hY
  clear hz
  go_enter Tryz.func3, Tryz.ntmps3
  go_wp2_with fail
  (with_reducible refine (hA.out _ (Below.refl _ _)).mono ?_)
  rintro e' w1 ⟨rfl, hb1⟩
  have q1 : Below w.heap.size w w1 := hb1
  clear hb1
  go_wp2_with fail
  (with_reducible refine (hP.out _).mono ?_)
  rintro e' w2 ⟨rfl, hb2⟩
  have q2' : Below w.heap.size w w2 := below_call hb2 q1
  have q2 : Below w.heap.size w (w2.alloc (.cells #[.int .i64 (n : Int), .int .u64 ((lo x : Nat) : Int), .int .u64 ((hi x : Nat) : Int), .bool sg, .bool sz] 28)) := q2'.alloc q2'.size _
  have kh := H5.new w2 28 (.int .i64 (n : Int)) (.int .u64 ((lo x : Nat) : Int)) (.int .u64 ((hi x : Nat) : Int)) (.bool sg) (.bool sz)
  clear hb2
  go_wp2_with fail
  (with_reducible refine (hR.out _).mono ?_)
  rintro e' w3 ⟨A, c, rfl, RA3, hb3⟩
  have q3' : Below w.heap.size w w3 := below_call hb3 q2
  have q3 : Below w.heap.size w (w3.alloc (.cells #[.slice A n c, .bool sg, .bool sz] 34)) := q3'.alloc q3'.size _
  have kh3 := (kh.over hb3).alloc (.cells #[.slice A n c, .bool sg, .bool sz] 34)
  have bh3 := H3.new w3 34 (.slice A n c) (.bool sg) (.bool sz)
  have RA4 := RB.keep RA3 ((Below.refl w3.heap.size w3).alloc (Nat.le_refl _) (.cells #[.slice A n c, .bool sg, .bool sz] 34))
  clear hb3 kh RA3
  go_wp2_with fail
  obtain ⟨ka, hka⟩ : ∃ ka, w2.heap.size = ka := ⟨_, rfl⟩
  obtain ⟨kb, hkb⟩ : ∃ kb, w3.heap.size = kb := ⟨_, rfl⟩
  simp only [hka, hkb] at kh3 bh3 ⊢
  obtain ⟨V0, hV0⟩ : ∃ V0, (w3.alloc (.cells #[.slice A n c, .bool sg, .bool sz] 34)) = V0 := ⟨_, rfl⟩
  rw [hV0] at kh3 bh3 q3 RA4 ⊢
  have K4 : H5 28 V0.drew ka (.int .i64 (n : Int)) (.int .u64 ((lo x : Nat) : Int)) (.int .u64 ((hi x : Nat) : Int)) (.bool sg) (.bool sz) := kh3
  have B4 : H3 34 V0.drew kb (.slice A n c) (.bool sg) (.bool sz) := bh3
  have R4 : RB V0.drew A n (tb x) := RA4
  have q4 : Below w.heap.size w V0.drew := q3.drew
  clear hV0 hka hkb kh3 bh3 q3 q3' RA4 q1 q2 q2'
  refine region_anyT (n := 9) (S := fun w' => H5 28 w' ka (.int .i64 (n : Int)) (.int .u64 ((lo x : Nat) : Int)) (.int .u64 ((hi x : Nat) : Int)) (.bool sg) (.bool sz) ∧ H3 34 w' kb (.slice A n c) (.bool sg) (.bool sz)) (by kernel_rfl) ?_
  refine anyT_take (i := 0) (v := .int .i64 0) rfl (by kernel_rfl) (by kernel_rfl) (fun _ _ _ h => h) (Or.inl ⟨by rfl, ?_⟩) ⟨K4, B4⟩ ?_
  · intro w' hw'
    obtain ⟨⟨k1, k2, k3, k4, k5, k6⟩, ⟨g1, g2, g3, g4⟩⟩ := And.intro (H5.all hw'.1) (H3.all hw'.2)
    go_simp
    try with_reducible rfl
  try simp only [Act.put, List.getElem_toArray, List.getElem_cons_zero, List.getElem_cons_succ, List.setIfInBounds_toArray, List.set_cons_zero, List.set_cons_succ]
  refine anyT_take (i := 1) (v := .int .i64 0) rfl (by kernel_rfl) (by kernel_rfl) (fun _ _ _ h => h) (Or.inl ⟨by rfl, ?_⟩) ⟨K4, B4⟩ ?_
  · intro w' hw'
    obtain ⟨⟨k1, k2, k3, k4, k5, k6⟩, ⟨g1, g2, g3, g4⟩⟩ := And.intro (H5.all hw'.1) (H3.all hw'.2)
    go_simp
    try with_reducible rfl
  try simp only [Act.put, List.getElem_toArray, List.getElem_cons_zero, List.getElem_cons_succ, List.setIfInBounds_toArray, List.set_cons_zero, List.set_cons_succ]
  refine anyT_take (i := 2) (v := .bool false) rfl (by kernel_rfl) (by kernel_rfl) (fun _ _ _ h => h) (Or.inl ⟨by rfl, ?_⟩) ⟨K4, B4⟩ ?_
  · intro w' hw'
    obtain ⟨⟨k1, k2, k3, k4, k5, k6⟩, ⟨g1, g2, g3, g4⟩⟩ := And.intro (H5.all hw'.1) (H3.all hw'.2)
    go_simp
    try with_reducible rfl
  try simp only [Act.put, List.getElem_toArray, List.getElem_cons_zero, List.getElem_cons_succ, List.setIfInBounds_toArray, List.set_cons_zero, List.set_cons_succ]
  refine anyT_take (i := 3) (v := .bool false) rfl (by kernel_rfl) (by kernel_rfl) (fun _ _ _ h => h) (Or.inl ⟨by rfl, ?_⟩) ⟨K4, B4⟩ ?_
  · intro w' hw'
    obtain ⟨⟨k1, k2, k3, k4, k5, k6⟩, ⟨g1, g2, g3, g4⟩⟩ := And.intro (H5.all hw'.1) (H3.all hw'.2)
    go_simp
    try with_reducible rfl
  try simp only [Act.put, List.getElem_toArray, List.getElem_cons_zero, List.getElem_cons_succ, List.setIfInBounds_toArray, List.set_cons_zero, List.set_cons_succ]
  refine anyT_take (i := 4) (v := .agg #[.int .i64 (n : Int), .int .u64 ((lo x : Nat) : Int), .int .u64 ((hi x : Nat) : Int), .bool sg, .bool sz]) rfl (by kernel_rfl) (by kernel_rfl) (fun _ _ _ h => h) (Or.inl ⟨by rfl, ?_⟩) ⟨K4, B4⟩ ?_
  · intro w' hw'
    obtain ⟨⟨k1, k2, k3, k4, k5, k6⟩, ⟨g1, g2, g3, g4⟩⟩ := And.intro (H5.all hw'.1) (H3.all hw'.2)
    go_simp
    try with_reducible rfl
  try simp only [Act.put, List.getElem_toArray, List.getElem_cons_zero, List.getElem_cons_succ, List.setIfInBounds_toArray, List.set_cons_zero, List.set_cons_succ]
  refine anyT_take (i := 6) (v := .agg #[.slice A n c, .bool sg, .bool sz]) rfl (by kernel_rfl) (by kernel_rfl) (fun _ _ _ h => h) (Or.inl ⟨by rfl, ?_⟩) ⟨K4, B4⟩ ?_
  · intro w' hw'
    obtain ⟨⟨k1, k2, k3, k4, k5, k6⟩, ⟨g1, g2, g3, g4⟩⟩ := And.intro (H5.all hw'.1) (H3.all hw'.2)
    go_simp
    try with_reducible rfl
  try simp only [Act.put, List.getElem_toArray, List.getElem_cons_zero, List.getElem_cons_succ, List.setIfInBounds_toArray, List.set_cons_zero, List.set_cons_succ]
  refine anyT_one (i := 5) (by kernel_rfl) ?_
  refine wpOp_step rfl (fun K hK => ?_)
  replace hK := Lib.hid hK
  go_simp
  (with_reducible refine (hT.out _).mono ?_)
  rintro e w5 ⟨g, rfl, RBg, hb5⟩
  have K5 := K4.over hb5
  have B5 := B4.over hb5
  have R5 := R4.keep hb5
  have q5 : Below w.heap.size w w5 := below_call hb5 q4
  clear hb5
  have hS2 := Lib.hid (hS.out w5 g c A RBg R5)
  clear RBg
  refine hK.out _ _ ⟨fun _ => ⟨K5, B5⟩, ?_⟩
  clear hK K
  try simp only [Act.put, List.getElem_toArray, List.getElem_cons_zero, List.getElem_cons_succ, List.setIfInBounds_toArray, List.set_cons_zero, List.set_cons_succ]
  refine anyT_one (i := 7) (by kernel_rfl) ?_
  refine wpOp_step rfl (fun K hK => ?_)
  replace hK := Lib.hid hK
  go_simp
  (with_reducible refine (hS2.out).mono ?_)
  rintro e w6 ⟨rfl, hb6⟩
  have K6 := K5.over hb6
  have B6 := B5.over hb6
  have R6 := R5.keep hb6
  have q6 : Below w.heap.size w w6 := below_call hb6 q5
  clear hb6 hS2
  refine hK.out _ _ ⟨fun _ => ⟨K6, B6⟩, ?_⟩
  clear hK K
  try simp only [Act.put, List.getElem_toArray, List.getElem_cons_zero, List.getElem_cons_succ, List.setIfInBounds_toArray, List.set_cons_zero, List.set_cons_succ]
  refine anyT_take (i := 8) (v := .bool false) rfl (by kernel_rfl) (by kernel_rfl) (fun _ _ _ h => h) (Or.inl ⟨by rfl, ?_⟩) ⟨K6, B6⟩ ?_
  · intro w' hw'
    obtain ⟨⟨k1, k2, k3, k4, k5, k6⟩, ⟨g1, g2, g3, g4⟩⟩ := And.intro (H5.all hw'.1) (H3.all hw'.2)
    go_simp
    try with_reducible rfl
  try simp only [Act.put, List.getElem_toArray, List.getElem_cons_zero, List.getElem_cons_succ, List.setIfInBounds_toArray, List.set_cons_zero, List.set_cons_succ]
  refine anyT_one (i := 9) (by kernel_rfl) ?_
  refine wpOp_step rfl (fun K hK => ?_)
  replace hK := Lib.hid hK
  go_simp
  refine hK.out _ _ ⟨fun h => absurd h (by decide), ?_⟩
  clear hK K
  try simp only [Act.put]
  refine anyT_done (by kernel_rfl) ?_ _
  clear K4 B4 R4 q4 K5 B5 R5 q5
  have k6 := K6.all
  have k6l := K6.lt
  have b6 := B6.all
  have b6l := B6.lt
  go_wp2_with fail
  (with_reducible refine (hX.out _ q6).mono ?_)
  rintro e' w7 ⟨rfl, hb7⟩
  have K7 := K6.over hb7
  have B7 := B6.over hb7
  have R7 := R6.keep hb7
  have q7 : Below w.heap.size w w7 := below_call hb7 q6
  clear hb7 k6 k6l b6 b6l K6 B6 R6
  go_wp2_with fail
  (with_reducible refine (hQ.out _).mono ?_)
  rintro e' w8 ⟨rfl, hb8⟩
  have B8 := (B7.over hb8).alloc (.cells #[.int .i64 (n : Int), .int .u64 ((lo x : Nat) : Int), .int .u64 ((hi x : Nat) : Int), .bool sg, .bool sz] 28)
  have R8 := RB.keep (R7.keep hb8) ((Below.refl w8.heap.size w8).alloc (Nat.le_refl _) (.cells #[.int .i64 (n : Int), .int .u64 ((lo x : Nat) : Int), .int .u64 ((hi x : Nat) : Int), .bool sg, .bool sz] 28))
  have G8 := H5.new w8 28 (.int .i64 (n : Int)) (.int .u64 ((lo x : Nat) : Int)) (.int .u64 ((hi x : Nat) : Int)) (.bool sg) (.bool sz)
  have q8' : Below w.heap.size w w8 := below_call hb8 q7
  have q8 : Below w.heap.size w (w8.alloc (.cells #[.int .i64 (n : Int), .int .u64 ((lo x : Nat) : Int), .int .u64 ((hi x : Nat) : Int), .bool sg, .bool sz] 28)) := q8'.alloc q8'.size _
  clear hb8 K7 B7 R7 q7
  go_wp2_with fail
  obtain ⟨kc, hkc⟩ : ∃ kc, w8.heap.size = kc := ⟨_, rfl⟩
  simp only [hkc] at G8 ⊢
  obtain ⟨V1, hV1⟩ : ∃ V1, (w8.alloc (.cells #[.int .i64 (n : Int), .int .u64 ((lo x : Nat) : Int), .int .u64 ((hi x : Nat) : Int), .bool sg, .bool sz] 28)) = V1 := ⟨_, rfl⟩
  rw [hV1] at B8 R8 G8 q8 ⊢
  have K9 : H5 28 V1.drew kc (.int .i64 (n : Int)) (.int .u64 ((lo x : Nat) : Int)) (.int .u64 ((hi x : Nat) : Int)) (.bool sg) (.bool sz) := G8
  have B9 : H3 34 V1.drew kb (.slice A n c) (.bool sg) (.bool sz) := B8
  have R9 : RB V1.drew A n (tb x) := R8
  have q9 : Below w.heap.size w V1.drew := q8.drew
  clear hV1 hkc B8 R8 G8 q8 q8' q6
  refine region_anyT (n := 20) (S := fun w' => H5 28 w' kc (.int .i64 (n : Int)) (.int .u64 ((lo x : Nat) : Int)) (.int .u64 ((hi x : Nat) : Int)) (.bool sg) (.bool sz) ∧ H3 34 w' kb (.slice A n c) (.bool sg) (.bool sz)) (by kernel_rfl) ?_
  refine anyT_take (i := 0) (v := .string D) rfl (by kernel_rfl) (by kernel_rfl) (fun _ _ _ h => h) (Or.inl ⟨by rfl, ?_⟩) ⟨K9, B9⟩ ?_
  · intro w' hw'
    obtain ⟨⟨k1, k2, k3, k4, k5, k6⟩, ⟨g1, g2, g3, g4⟩⟩ := And.intro (H5.all hw'.1) (H3.all hw'.2)
    go_simp
    try with_reducible rfl
  try simp only [Act.put, List.getElem_toArray, List.getElem_cons_zero, List.getElem_cons_succ, List.setIfInBounds_toArray, List.set_cons_zero, List.set_cons_succ]
  refine anyT_take (i := 1) (v := .agg #[.slice A n c, .bool sg, .bool sz]) rfl (by kernel_rfl) (by kernel_rfl) (fun _ _ _ h => h) (Or.inl ⟨by rfl, ?_⟩) ⟨K9, B9⟩ ?_
  · intro w' hw'
    obtain ⟨⟨k1, k2, k3, k4, k5, k6⟩, ⟨g1, g2, g3, g4⟩⟩ := And.intro (H5.all hw'.1) (H3.all hw'.2)
    go_simp
    try with_reducible rfl
  try simp only [Act.put, List.getElem_toArray, List.getElem_cons_zero, List.getElem_cons_succ, List.setIfInBounds_toArray, List.set_cons_zero, List.set_cons_succ]
  have hY2 := Lib.hid (hY.out _ c A R9)
  refine anyT_one (i := 2) (by kernel_rfl) ?_
  refine wpOp_step rfl (fun K hK => ?_)
  replace hK := Lib.hid hK
  go_simp
  (with_reducible refine (hY2.out).mono ?_)
  rintro e w10 ⟨rfl, hb10⟩
  have K10 := K9.over hb10
  have B10 := B9.over hb10
  have R10 := R9.keep hb10
  have q10 : Below w.heap.size w w10 := below_call hb10 q9
  clear hb10 hY2
  refine hK.out _ _ ⟨fun _ => ⟨K10, B10⟩, ?_⟩
  clear hK K
  try simp only [Act.put, List.getElem_toArray, List.getElem_cons_zero, List.getElem_cons_succ, List.setIfInBounds_toArray, List.set_cons_zero, List.set_cons_succ]
  refine anyT_take (i := 3) (v := .bool true) rfl (by kernel_rfl) (by kernel_rfl) (fun _ _ _ h => h) (Or.inl ⟨by rfl, ?_⟩) ⟨K10, B10⟩ ?_
  · intro w' hw'
    obtain ⟨⟨k1, k2, k3, k4, k5, k6⟩, ⟨g1, g2, g3, g4⟩⟩ := And.intro (H5.all hw'.1) (H3.all hw'.2)
    go_simp
    try with_reducible rfl
  try simp only [Act.put, List.getElem_toArray, List.getElem_cons_zero, List.getElem_cons_succ, List.setIfInBounds_toArray, List.set_cons_zero, List.set_cons_succ]
  refine anyT_take (i := 4) (v := .bool true) rfl (by kernel_rfl) (by kernel_rfl) (fun _ _ _ h => h) (Or.inl ⟨by rfl, ?_⟩) ⟨K10, B10⟩ ?_
  · intro w' hw'
    obtain ⟨⟨k1, k2, k3, k4, k5, k6⟩, ⟨g1, g2, g3, g4⟩⟩ := And.intro (H5.all hw'.1) (H3.all hw'.2)
    go_simp
    try with_reducible rfl
  try simp only [Act.put, List.getElem_toArray, List.getElem_cons_zero, List.getElem_cons_succ, List.setIfInBounds_toArray, List.set_cons_zero, List.set_cons_succ]
  refine anyT_take (i := 5) (v := .int .i64 0) rfl (by kernel_rfl) (by kernel_rfl) (fun _ _ _ h => h) (Or.inl ⟨by rfl, ?_⟩) ⟨K10, B10⟩ ?_
  · intro w' hw'
    obtain ⟨⟨k1, k2, k3, k4, k5, k6⟩, ⟨g1, g2, g3, g4⟩⟩ := And.intro (H5.all hw'.1) (H3.all hw'.2)
    go_simp
    try with_reducible rfl
  try simp only [Act.put, List.getElem_toArray, List.getElem_cons_zero, List.getElem_cons_succ, List.setIfInBounds_toArray, List.set_cons_zero, List.set_cons_succ]
  refine anyT_take (i := 6) (v := .bool true) rfl (by kernel_rfl) (by kernel_rfl) (fun _ _ _ h => h) (Or.inl ⟨by rfl, ?_⟩) ⟨K10, B10⟩ ?_
  · intro w' hw'
    obtain ⟨⟨k1, k2, k3, k4, k5, k6⟩, ⟨g1, g2, g3, g4⟩⟩ := And.intro (H5.all hw'.1) (H3.all hw'.2)
    go_simp
    try with_reducible rfl
  try simp only [Act.put, List.getElem_toArray, List.getElem_cons_zero, List.getElem_cons_succ, List.setIfInBounds_toArray, List.set_cons_zero, List.set_cons_succ]
  refine anyT_take (i := 7) (v := .bool true) rfl (by kernel_rfl) (by kernel_rfl) (fun _ _ _ h => h) (Or.inl ⟨by rfl, ?_⟩) ⟨K10, B10⟩ ?_
  · intro w' hw'
    obtain ⟨⟨k1, k2, k3, k4, k5, k6⟩, ⟨g1, g2, g3, g4⟩⟩ := And.intro (H5.all hw'.1) (H3.all hw'.2)
    go_simp
    try with_reducible rfl
  try simp only [Act.put, List.getElem_toArray, List.getElem_cons_zero, List.getElem_cons_succ, List.setIfInBounds_toArray, List.set_cons_zero, List.set_cons_succ]
  refine anyT_take (i := 8) (v := .bool true) rfl (by kernel_rfl) (by kernel_rfl) (fun _ _ _ h => h) (Or.inl ⟨by rfl, ?_⟩) ⟨K10, B10⟩ ?_
  · intro w' hw'
    obtain ⟨⟨k1, k2, k3, k4, k5, k6⟩, ⟨g1, g2, g3, g4⟩⟩ := And.intro (H5.all hw'.1) (H3.all hw'.2)
    go_simp
    try with_reducible rfl
  try simp only [Act.put, List.getElem_toArray, List.getElem_cons_zero, List.getElem_cons_succ, List.setIfInBounds_toArray, List.set_cons_zero, List.set_cons_succ]
  refine anyT_take (i := 9) (v := .agg #[.int .i64 (n : Int), .int .u64 ((lo x : Nat) : Int), .int .u64 ((hi x : Nat) : Int), .bool sg, .bool sz]) rfl (by kernel_rfl) (by kernel_rfl) (fun _ _ _ h => h) (Or.inl ⟨by rfl, ?_⟩) ⟨K10, B10⟩ ?_
  · intro w' hw'
    obtain ⟨⟨k1, k2, k3, k4, k5, k6⟩, ⟨g1, g2, g3, g4⟩⟩ := And.intro (H5.all hw'.1) (H3.all hw'.2)
    go_simp
    try with_reducible rfl
  try simp only [Act.put, List.getElem_toArray, List.getElem_cons_zero, List.getElem_cons_succ, List.setIfInBounds_toArray, List.set_cons_zero, List.set_cons_succ]
  refine anyT_take (i := 11) (v := .agg #[.slice A n c, .bool sg, .bool sz]) rfl (by kernel_rfl) (by kernel_rfl) (fun _ _ _ h => h) (Or.inl ⟨by rfl, ?_⟩) ⟨K10, B10⟩ ?_
  · intro w' hw'
    obtain ⟨⟨k1, k2, k3, k4, k5, k6⟩, ⟨g1, g2, g3, g4⟩⟩ := And.intro (H5.all hw'.1) (H3.all hw'.2)
    go_simp
    try with_reducible rfl
  try simp only [Act.put, List.getElem_toArray, List.getElem_cons_zero, List.getElem_cons_succ, List.setIfInBounds_toArray, List.set_cons_zero, List.set_cons_succ]
  refine anyT_one (i := 10) (by kernel_rfl) ?_
  refine wpOp_step rfl (fun K hK => ?_)
  replace hK := Lib.hid hK
  go_simp
  (with_reducible refine (hT.out _).mono ?_)
  rintro e w11 ⟨g2, rfl, RBg, hb11⟩
  have K11 := K10.over hb11
  have B11 := B10.over hb11
  have R11 := R10.keep hb11
  have q11 : Below w.heap.size w w11 := below_call hb11 q10
  clear hb11
  have hS2 := Lib.hid (hS.out w11 g2 c A RBg R11)
  clear RBg
  refine hK.out _ _ ⟨fun _ => ⟨K11, B11⟩, ?_⟩
  clear hK K
  try simp only [Act.put, List.getElem_toArray, List.getElem_cons_zero, List.getElem_cons_succ, List.setIfInBounds_toArray, List.set_cons_zero, List.set_cons_succ]
  refine anyT_one (i := 12) (by kernel_rfl) ?_
  refine wpOp_step rfl (fun K hK => ?_)
  replace hK := Lib.hid hK
  go_simp
  (with_reducible refine (hS2.out).mono ?_)
  rintro e w12 ⟨rfl, hb12⟩
  have K12 := K11.over hb12
  have B12 := B11.over hb12
  have R12 := R11.keep hb12
  have q12 : Below w.heap.size w w12 := below_call hb12 q11
  clear hb12 hS2
  refine hK.out _ _ ⟨fun _ => ⟨K12, B12⟩, ?_⟩
  clear hK K
  try simp only [Act.put, List.getElem_toArray, List.getElem_cons_zero, List.getElem_cons_succ, List.setIfInBounds_toArray, List.set_cons_zero, List.set_cons_succ]
  refine anyT_take (i := 13) (v := .bool true) rfl (by kernel_rfl) (by kernel_rfl) (fun _ _ _ h => h) (Or.inl ⟨by rfl, ?_⟩) ⟨K12, B12⟩ ?_
  · intro w' hw'
    obtain ⟨⟨k1, k2, k3, k4, k5, k6⟩, ⟨g1, g2, g3, g4⟩⟩ := And.intro (H5.all hw'.1) (H3.all hw'.2)
    go_simp
    try with_reducible rfl
  try simp only [Act.put, List.getElem_toArray, List.getElem_cons_zero, List.getElem_cons_succ, List.setIfInBounds_toArray, List.set_cons_zero, List.set_cons_succ]
  refine anyT_take (i := 14) (v := .bool true) rfl (by kernel_rfl) (by kernel_rfl) (fun _ _ _ h => h) (Or.inl ⟨by rfl, ?_⟩) ⟨K12, B12⟩ ?_
  · intro w' hw'
    obtain ⟨⟨k1, k2, k3, k4, k5, k6⟩, ⟨g1, g2, g3, g4⟩⟩ := And.intro (H5.all hw'.1) (H3.all hw'.2)
    go_simp
    try with_reducible rfl
  try simp only [Act.put, List.getElem_toArray, List.getElem_cons_zero, List.getElem_cons_succ, List.setIfInBounds_toArray, List.set_cons_zero, List.set_cons_succ]
  refine anyT_take (i := 15) (v := .agg #[.int .i64 (n : Int), .int .u64 ((lo x : Nat) : Int), .int .u64 ((hi x : Nat) : Int), .bool sg, .bool sz]) rfl (by kernel_rfl) (by kernel_rfl) (fun _ _ _ h => h) (Or.inl ⟨by rfl, ?_⟩) ⟨K12, B12⟩ ?_
  · intro w' hw'
    obtain ⟨⟨k1, k2, k3, k4, k5, k6⟩, ⟨g1, g2, g3, g4⟩⟩ := And.intro (H5.all hw'.1) (H3.all hw'.2)
    go_simp
    try with_reducible rfl
  try simp only [Act.put, List.getElem_toArray, List.getElem_cons_zero, List.getElem_cons_succ, List.setIfInBounds_toArray, List.set_cons_zero, List.set_cons_succ]
  refine anyT_take (i := 17) (v := .string D) rfl (by kernel_rfl) (by kernel_rfl) (fun _ _ _ h => h) (Or.inl ⟨by rfl, ?_⟩) ⟨K12, B12⟩ ?_
  · intro w' hw'
    obtain ⟨⟨k1, k2, k3, k4, k5, k6⟩, ⟨g1, g2, g3, g4⟩⟩ := And.intro (H5.all hw'.1) (H3.all hw'.2)
    go_simp
    try with_reducible rfl
  try simp only [Act.put, List.getElem_toArray, List.getElem_cons_zero, List.getElem_cons_succ, List.setIfInBounds_toArray, List.set_cons_zero, List.set_cons_succ]
  refine anyT_one (i := 16) (by kernel_rfl) ?_
  refine wpOp_step rfl (fun K hK => ?_)
  replace hK := Lib.hid hK
  go_simp
  (with_reducible refine (hX.out _ q12).mono ?_)
  rintro e w13 ⟨rfl, hb13⟩
  have K13 := K12.over hb13
  have B13 := B12.over hb13
  have R13 := R12.keep hb13
  have q13 : Below w.heap.size w w13 := below_call hb13 q12
  clear hb13
  refine hK.out _ _ ⟨fun _ => ⟨K13, B13⟩, ?_⟩
  clear hK K
  try simp only [Act.put, List.getElem_toArray, List.getElem_cons_zero, List.getElem_cons_succ, List.setIfInBounds_toArray, List.set_cons_zero, List.set_cons_succ]
  refine anyT_take (i := 18) (v := .bool true) rfl (by kernel_rfl) (by kernel_rfl) (fun _ _ _ h => h) (Or.inl ⟨by rfl, ?_⟩) ⟨K13, B13⟩ ?_
  · intro w' hw'
    obtain ⟨⟨k1, k2, k3, k4, k5, k6⟩, ⟨g1, g2, g3, g4⟩⟩ := And.intro (H5.all hw'.1) (H3.all hw'.2)
    go_simp
    try with_reducible rfl
  try simp only [Act.put, List.getElem_toArray, List.getElem_cons_zero, List.getElem_cons_succ, List.setIfInBounds_toArray, List.set_cons_zero, List.set_cons_succ]
  refine anyT_take (i := 19) (v := .bool true) rfl (by kernel_rfl) (by kernel_rfl) (fun _ _ _ h => h) (Or.inl ⟨by rfl, ?_⟩) ⟨K13, B13⟩ ?_
  · intro w' hw'
    obtain ⟨⟨k1, k2, k3, k4, k5, k6⟩, ⟨g1, g2, g3, g4⟩⟩ := And.intro (H5.all hw'.1) (H3.all hw'.2)
    go_simp
    try with_reducible rfl
  try simp only [Act.put, List.getElem_toArray, List.getElem_cons_zero, List.getElem_cons_succ, List.setIfInBounds_toArray, List.set_cons_zero, List.set_cons_succ]
  refine anyT_one (i := 20) (by kernel_rfl) ?_
  refine wpOp_step rfl (fun K hK => ?_)
  replace hK := Lib.hid hK
  go_simp
  refine hK.out _ _ ⟨fun h => absurd h (by decide), ?_⟩
  clear hK K
  try simp only [Act.put]
  refine anyT_done (by kernel_rfl) ?_ _
  go_wp2_with fail
  go_ret
  exact ⟨rfl, q13⟩
end Go.Proofs.YtalmhopbnaeamaaGreatDoor
