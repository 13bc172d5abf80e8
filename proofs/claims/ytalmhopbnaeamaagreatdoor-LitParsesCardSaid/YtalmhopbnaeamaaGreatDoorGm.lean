/-
  The statements' Own (a literal of the program told by bits); the walk of LitUnlike.
-/
import Derived.Test.YtalmhopbnaeamaaGreatDoorGg
namespace Go.Proofs.YtalmhopbnaeamaaGreatDoor
open Go.RowKit Go.Lib
set_option maxHeartbeats 400000 in
theorem Of_no (n c : Nat) (A : Option Addr) (w : World) (h : n < 1 ∨ 128 < n) :
    Calls Tryz.prog 65 #[.slice A n c] w (RV w (.tuple #[vv 0 0, .int .i64 2])) := by
  have hF := fun w => fits_t (n : Int) w
  have e : fitsB (n : Int) = false := by unfold fitsB; simp; omega
  rw [e] at hF
  clear e h
  replace hF := Lib.hid hF
  go_enter Tryz.func65, Tryz.ntmps65
  go_wp2_with (go_at_call 45; (with_reducible refine (hF.out _).mono ?_); rintro e w0 ⟨rfl, rfl⟩)
  refine bodyPost_ret (v := .tuple #[.agg #[.int .i64 0, .int .u64 0, .int .u64 0], .int .i64 2]) (by simp [results, Tryz.results65, go_sem]) rfl ⟨rfl, ?_⟩
  go_grown
set_option maxHeartbeats 800000 in
theorem Own_no (n c : Nat) (A : Option Addr) (w : World) (h : n < 1 ∨ 128 < n) :
    Calls Tryz.prog 41 #[.slice A n c] w (RV w (vv 0 0)) := by
  have hC := Lib.hid (fun w => Of_no n c A w h)
  clear h
  go_enter Tryz.func41, Tryz.ntmps41
  go_wp2_with (go_at_call 65; (with_reducible refine (hC.out _).mono ?_); rintro e w1 ⟨rfl, hb1⟩; have Z1 := ((HV.zero w 26).over hb1); have hbw1 : Below w.heap.size w w1 := below_call hb1 (by go_grown); have z1 := Z1.all; have l1 := Z1.lt; have s1 := hbw1.size; clear hb1)
  refine bodyPost_ret (v := vv 0 0) (by simp [results, Tryz.results41, go_sem, z1, l1]) rfl ⟨rfl, ?_⟩
  go_grown
theorem H3.set5 {t : TypeId} {w : World} {k d : Nat} {a b c : Value} (h : H3 t w k a b c) (hk : k ≠ d) (v0 v1 v2 v3 v4 : Value) :
    H3 t (((((w.setCell ⟨d, 0, none⟩ v0).setCell ⟨d, 1, none⟩ v1).setCell ⟨d, 2, none⟩ v2).setCell ⟨d, 3, none⟩ v3).setCell ⟨d, 4, none⟩ v4) k a b c :=
  World.rowIs.setOther (World.rowIs.setOther (World.rowIs.setOther (World.rowIs.setOther (World.rowIs.setOther h hk v0) hk v1) hk v2) hk v3) hk v4
theorem below_set5 {n₀ : Nat} {w w' : World} {d : Nat} (h : Below n₀ w w') (hk : n₀ ≤ d) (v0 v1 v2 v3 v4 : Value) :
    Below n₀ w (((((w'.setCell ⟨d, 0, none⟩ v0).setCell ⟨d, 1, none⟩ v1).setCell ⟨d, 2, none⟩ v2).setCell ⟨d, 3, none⟩ v3).setCell ⟨d, 4, none⟩ v4) :=
  ((((h.setCell (p := ⟨d, 0, none⟩) hk _).setCell (p := ⟨d, 1, none⟩) hk _).setCell (p := ⟨d, 2, none⟩) hk _).setCell (p := ⟨d, 3, none⟩) hk _).setCell (p := ⟨d, 4, none⟩) hk _
set_option maxRecDepth 100000 in
set_option maxHeartbeats 6400000 in
theorem LOwn_at (n c m x : Nat) (A : Option Addr) (sg sz b : Bool) (w : World) (hO : ∀ w1, Below w.heap.size w w1 → Calls Tryz.prog 41 #[.slice A n c] w1 (RV w1 (vv m x))) (hb : decide ((n : Int) ≤ 128) = b) :
    Calls Tryz.prog 15 #[.agg #[.slice A n c, .bool sg, .bool sz]] w (RV w (.tuple #[lv m x sg sz, .bool b])) := by
  have hb2 : decide (n ≤ 128) = b := by rw [← hb]; congr 1; apply propext; omega
  unfold vv at hO
  replace hO := Lib.hid hO
  go_enter Tryz.func15, Tryz.ntmps15
  go_wp2_with fail
  have X0 := (H3.new w 34 (.slice A n c) (.bool sg) (.bool sz)).alloc (.cells #[.int .i64 0, .int .u64 0, .int .u64 0, .bool false, .bool false] 28)
  have N0 := H5.new (w.alloc (.cells #[.slice A n c, .bool sg, .bool sz] 34)) 28 (.int .i64 0) (.int .u64 0) (.int .u64 0) (.bool false) (.bool false)
  rw [World.size_alloc] at N0
  have hB0 : Below w.heap.size w ((w.alloc (.cells #[.slice A n c, .bool sg, .bool sz] 34)).alloc (.cells #[.int .i64 0, .int .u64 0, .int .u64 0, .bool false, .bool false] 28)) := by go_grown
  obtain ⟨W, hW⟩ : ∃ W, ((w.alloc (.cells #[.slice A n c, .bool sg, .bool sz] 34)).alloc (.cells #[.int .i64 0, .int .u64 0, .int .u64 0, .bool false, .bool false] 28)) = W := ⟨_, rfl⟩
  rw [hW] at X0 N0 hB0 ⊢
  clear hW
  have S1 : H3 34 W.drew w.heap.size (.slice A n c) (.bool sg) (.bool sz) := X0
  have N1 : H5 28 W.drew (w.heap.size + 1) (.int .i64 0) (.int .u64 0) (.int .u64 0) (.bool false) (.bool false) := N0
  have hB1 : Below w.heap.size w W.drew := hB0.drew
  refine region_anyT (n := 13) (S := fun w' => H3 34 w' w.heap.size (.slice A n c) (.bool sg) (.bool sz)) (by kernel_rfl) ?_
  refine anyT_take (i := 0) (v := .pointer (some ⟨w.heap.size, 0, none⟩)) rfl (by kernel_rfl) (by kernel_rfl) (fun _ _ _ h => h) (Or.inl ⟨by rfl, ?_⟩) S1 ?_
  · intro w' hw'
    obtain ⟨k1, k2, k3, k4⟩ := H3.all hw'
    go_simp
    try with_reducible rfl
  try simp only [Act.put, List.getElem_toArray, List.getElem_cons_zero, List.getElem_cons_succ, List.setIfInBounds_toArray, List.set_cons_zero, List.set_cons_succ]
  refine anyT_take (i := 1) (v := .slice A n c) rfl (by kernel_rfl) (by kernel_rfl) (fun _ _ _ h => h) (Or.inl ⟨by rfl, ?_⟩) S1 ?_
  · intro w' hw'
    obtain ⟨k1, k2, k3, k4⟩ := H3.all hw'
    go_simp
    try with_reducible rfl
  try simp only [Act.put, List.getElem_toArray, List.getElem_cons_zero, List.getElem_cons_succ, List.setIfInBounds_toArray, List.set_cons_zero, List.set_cons_succ]
  refine anyT_take (i := 3) (v := .pointer (some ⟨w.heap.size, 1, none⟩)) rfl (by kernel_rfl) (by kernel_rfl) (fun _ _ _ h => h) (Or.inl ⟨by rfl, ?_⟩) S1 ?_
  · intro w' hw'
    obtain ⟨k1, k2, k3, k4⟩ := H3.all hw'
    go_simp
    try with_reducible rfl
  try simp only [Act.put, List.getElem_toArray, List.getElem_cons_zero, List.getElem_cons_succ, List.setIfInBounds_toArray, List.set_cons_zero, List.set_cons_succ]
  refine anyT_take (i := 4) (v := .bool sg) rfl (by kernel_rfl) (by kernel_rfl) (fun _ _ _ h => h) (Or.inl ⟨by rfl, ?_⟩) S1 ?_
  · intro w' hw'
    obtain ⟨k1, k2, k3, k4⟩ := H3.all hw'
    go_simp
    try with_reducible rfl
  try simp only [Act.put, List.getElem_toArray, List.getElem_cons_zero, List.getElem_cons_succ, List.setIfInBounds_toArray, List.set_cons_zero, List.set_cons_succ]
  refine anyT_take (i := 5) (v := .pointer (some ⟨w.heap.size, 2, none⟩)) rfl (by kernel_rfl) (by kernel_rfl) (fun _ _ _ h => h) (Or.inl ⟨by rfl, ?_⟩) S1 ?_
  · intro w' hw'
    obtain ⟨k1, k2, k3, k4⟩ := H3.all hw'
    go_simp
    try with_reducible rfl
  try simp only [Act.put, List.getElem_toArray, List.getElem_cons_zero, List.getElem_cons_succ, List.setIfInBounds_toArray, List.set_cons_zero, List.set_cons_succ]
  refine anyT_take (i := 6) (v := .bool sz) rfl (by kernel_rfl) (by kernel_rfl) (fun _ _ _ h => h) (Or.inl ⟨by rfl, ?_⟩) S1 ?_
  · intro w' hw'
    obtain ⟨k1, k2, k3, k4⟩ := H3.all hw'
    go_simp
    try with_reducible rfl
  try simp only [Act.put, List.getElem_toArray, List.getElem_cons_zero, List.getElem_cons_succ, List.setIfInBounds_toArray, List.set_cons_zero, List.set_cons_succ]
  refine anyT_take (i := 8) (v := .pointer (some ⟨w.heap.size, 0, none⟩)) rfl (by kernel_rfl) (by kernel_rfl) (fun _ _ _ h => h) (Or.inl ⟨by rfl, ?_⟩) S1 ?_
  · intro w' hw'
    obtain ⟨k1, k2, k3, k4⟩ := H3.all hw'
    go_simp
    try with_reducible rfl
  try simp only [Act.put, List.getElem_toArray, List.getElem_cons_zero, List.getElem_cons_succ, List.setIfInBounds_toArray, List.set_cons_zero, List.set_cons_succ]
  refine anyT_take (i := 9) (v := .slice A n c) rfl (by kernel_rfl) (by kernel_rfl) (fun _ _ _ h => h) (Or.inl ⟨by rfl, ?_⟩) S1 ?_
  · intro w' hw'
    obtain ⟨k1, k2, k3, k4⟩ := H3.all hw'
    go_simp
    try with_reducible rfl
  try simp only [Act.put, List.getElem_toArray, List.getElem_cons_zero, List.getElem_cons_succ, List.setIfInBounds_toArray, List.set_cons_zero, List.set_cons_succ]
  refine anyT_take (i := 10) (v := .int .i64 (n : Int)) rfl (by kernel_rfl) (by kernel_rfl) (fun _ _ _ h => h) (Or.inl ⟨by rfl, ?_⟩) S1 ?_
  · intro w' hw'
    obtain ⟨k1, k2, k3, k4⟩ := H3.all hw'
    go_simp
    try with_reducible rfl
  try simp only [Act.put, List.getElem_toArray, List.getElem_cons_zero, List.getElem_cons_succ, List.setIfInBounds_toArray, List.set_cons_zero, List.set_cons_succ]
  refine anyT_take (i := 11) (v := .bool b) rfl (by kernel_rfl) (by kernel_rfl) (fun _ _ _ h => h) (Or.inl ⟨by rfl, ?_⟩) S1 ?_
  · intro w' hw'
    obtain ⟨k1, k2, k3, k4⟩ := H3.all hw'
    go_simp
    try with_reducible rfl
  try simp only [Act.put, List.getElem_toArray, List.getElem_cons_zero, List.getElem_cons_succ, List.setIfInBounds_toArray, List.set_cons_zero, List.set_cons_succ]
  refine anyT_one (i := 2) (by kernel_rfl) ?_
  refine wpOp_step rfl (fun K hK => ?_)
  replace hK := Lib.hid hK
  go_simp
  (with_reducible refine (hO.out _ hB1).mono ?_)
  rintro e w2 ⟨rfl, hb2⟩
  have X2 := S1.over hb2
  have N2 := N1.over hb2
  have hbw2 : Below w.heap.size w w2 := below_call hb2 hB1
  clear hb2
  refine hK.out _ _ ⟨fun _ => X2, ?_⟩
  clear hK K
  try simp only [Act.put, List.getElem_toArray, List.getElem_cons_zero, List.getElem_cons_succ, List.setIfInBounds_toArray, List.set_cons_zero, List.set_cons_succ]
  refine anyT_take (i := 7) (v := .agg #[.int .i64 (m : Int), .int .u64 ((lo x : Nat) : Int), .int .u64 ((hi x : Nat) : Int), .bool sg, .bool sz]) rfl (by kernel_rfl) (by kernel_rfl) (fun _ _ _ h => h) (Or.inl ⟨by rfl, ?_⟩) X2 ?_
  · intro w' hw'
    obtain ⟨k1, k2, k3, k4⟩ := H3.all hw'
    go_simp
    try with_reducible rfl
  try simp only [Act.put, List.getElem_toArray, List.getElem_cons_zero, List.getElem_cons_succ, List.setIfInBounds_toArray, List.set_cons_zero, List.set_cons_succ]
  have n2 := N2.all
  have l2 := N2.lt
  have X3 := H3.set5 X2 (d := w.heap.size + 1) (by omega) (.int .i64 (m : Int)) (.int .u64 ((lo x : Nat) : Int)) (.int .u64 ((hi x : Nat) : Int)) (.bool sg) (.bool sz)
  refine anyT_one (i := 12) (by kernel_rfl) ?_
  refine wpOp_step rfl (fun K hK => ?_)
  replace hK := Lib.hid hK
  go_simp
  refine hK.out _ _ ⟨fun _ => X3, ?_⟩
  clear hK K
  try simp only [Act.put]
  refine anyT_one (i := 13) (by kernel_rfl) ?_
  refine wpOp_step rfl (fun K hK => ?_)
  replace hK := Lib.hid hK
  go_simp
  refine hK.out _ _ ⟨fun h => absurd h (by decide), ?_⟩
  clear hK K
  try simp only [Act.put]
  refine anyT_done (by kernel_rfl) ?_ _
  go_wp2_with fail
  have hb3 := below_set5 hbw2 (d := w.heap.size + 1) (Nat.le_succ _) (.int .i64 (m : Int)) (.int .u64 ((lo x : Nat) : Int)) (.int .u64 ((hi x : Nat) : Int)) (.bool sg) (.bool sz)
  exact bodyPost_ret (v := .tuple #[lv m x sg sz, .bool b]) (by simp [results, Tryz.results15, go_sem, n2, l2, lv]) rfl ⟨rfl, hb3⟩
/-- Own, of a literal told by bits: of at most 128 bits, and of more. -/
theorem LOwn_t (n c : Nat) (A : Option Addr) (f : Nat → Bool) (sg sz : Bool) (w : World) (hn : n ≤ 128) (hA : RB w A n f) :
    Calls Tryz.prog 15 #[.agg #[.slice A n c, .bool sg, .bool sz]] w (RV w (.tuple #[lv n (valB f n) sg sz, .bool true])) := by
  refine LOwn_at n c n (valB f n) A sg sz true w (fun w1 hb => ?_) (by simp; omega)
  by_cases h0 : n = 0
  · subst h0
    exact Own_no 0 c A w1 (by omega)
  · exact Own_ok n c A f w1 (by omega) hn (hA.keep hb)
theorem LOwn_f (n c : Nat) (A : Option Addr) (sg sz : Bool) (w : World) (hn : 128 < n) :
    Calls Tryz.prog 15 #[.agg #[.slice A n c, .bool sg, .bool sz]] w (RV w (.tuple #[lv 0 0 sg sz, .bool false])) :=
  LOwn_at n c 0 0 A sg sz false w (fun w1 _ => Own_no n c A w1 (by omega)) (by simp; omega)
end Go.Proofs.YtalmhopbnaeamaaGreatDoor
