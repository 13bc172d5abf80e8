/-
  The walk of lit's scan: what a literal consists of, or the first error.
-/
import Derived.Test.YtdjaikglkgabdaaGreatDoorFa
import Derived.Test.YtdjaikglkgabdaaGreatDoorRt
import Derived.WalkSmall
import Derived.StillTailTactics
import Derived.Lib.Strings
namespace Go.Proofs.YtdjaikglkgabdaaGreatDoor
open Go.RowKit
/-- What scan returns: width, digits, base, based, signed, the error. -/
def pv (wd dg : ByteArray) (b : Nat) (ba sg : Bool) (e : Int) : Value := .tuple #[.agg #[.string wd, .string dg, .int .i64 (b : Int), .bool ba, .bool sg], .int .i64 e]
theorem emp (r : ByteArray) (h : r.size = 0) : r.toList.isEmpty = true ∧ r.toList = [] := by
  have e : r = ByteArray.empty := by simpa using h
  have : r.toList = [] := by rw [e]; simp
  exact ⟨by rw [this]; rfl, this⟩
theorem nemp (r : ByteArray) (h : 0 < r.size) : r.toList.isEmpty = false ∧ ¬ r.toList = [] := by
  have : ¬ r.toList = [] := fun e => by
    rw [Go.Lib.toList_data] at e
    have e2 : r.data.toList.length = 0 := by rw [e]; rfl
    have : r.data.toList.length = r.size := by simp
    omega
  exact ⟨by cases hh : r.toList with | nil => exact absurd hh this | cons a l => rfl, this⟩
set_option maxRecDepth 100000 in
set_option maxHeartbeats 3200000 in
theorem scan_end (s : ByteArray) (w : World) (hs : s.size ≤ maxLen) (h : s.size = 0) :
    Calls Tryz.prog 68 #[.string s] w (RV w (pv ⟨#[]⟩ ⟨#[]⟩ 0 false false 6)) := by
  have cA : ∀ w, Calls Tryz.prog 96 #[.string s, .int .i64 10] w fun e w' => e = .returned (.int .i64 (dA s 10 : Int)) ∧ w' = w := fun w => digitsAhead_t s 10 w hs (by omega)
  have hd : dA s 10 = s.size := by have := dA_le s 10; omega
  rw [hd] at cA
  replace cA := Lib.hid cA
  obtain ⟨e1, e2⟩ := emp s h
  clear hd h
  unfold maxLen at hs
  go_enter Tryz.func68, Tryz.ntmps68
  go_wp2_with (go_at_call 96; (with_reducible refine (cA.out _).mono ?_); rintro e w' ⟨rfl, rfl⟩)
  refine bodyPost_ret (v := .tuple #[.agg #[.string ⟨#[]⟩, .string ⟨#[]⟩, .int .i64 0, .bool false, .bool false], .int .i64 6]) (by simp [results, Tryz.results68, go_sem]) rfl ⟨rfl, ?_⟩
  go_grown
set_option maxRecDepth 100000 in
set_option maxHeartbeats 3200000 in
theorem scan_plain (s : ByteArray) (w : World) (hs : s.size ≤ maxLen) (h : 0 < s.size) (hd : dA s 10 = s.size) :
    Calls Tryz.prog 68 #[.string s] w (RV w (pv ⟨#[]⟩ s 0 false false 0)) := by
  have cA : ∀ w, Calls Tryz.prog 96 #[.string s, .int .i64 10] w fun e w' => e = .returned (.int .i64 (dA s 10 : Int)) ∧ w' = w := fun w => digitsAhead_t s 10 w hs (by omega)
  rw [hd] at cA
  replace cA := Lib.hid cA
  obtain ⟨e1, e2⟩ := nemp s h
  clear hd h
  unfold maxLen at hs
  go_enter Tryz.func68, Tryz.ntmps68
  go_wp2_with (go_at_call 96; (with_reducible refine (cA.out _).mono ?_); rintro e w' ⟨rfl, rfl⟩)
  refine bodyPost_ret (v := .tuple #[.agg #[.string ⟨#[]⟩, .string s, .int .i64 0, .bool false, .bool false], .int .i64 0]) (by simp [results, Tryz.results68, go_sem]) rfl ⟨rfl, ?_⟩
  go_grown
set_option maxRecDepth 100000 in
set_option maxHeartbeats 3200000 in
theorem scan_form (s : ByteArray) (w : World) (hs : s.size ≤ maxLen) (h : Nat) (hh : dA s 10 = h) (hl : h < s.size) (hq : bt s h ≠ 39) :
    Calls Tryz.prog 68 #[.string s] w (RV w (pv ⟨#[]⟩ ⟨#[]⟩ 0 false false 5)) := by
  have cA : ∀ w, Calls Tryz.prog 96 #[.string s, .int .i64 10] w fun e w' => e = .returned (.int .i64 (dA s 10 : Int)) ∧ w' = w := fun w => digitsAhead_t s 10 w hs (by omega)
  rw [hh] at cA
  replace cA := Lib.hid cA
  unfold maxLen at hs
  have hbt := bt_at s h hl
  have hb2 := bt_lt s h
  have n0 : ((h : Int) == (s.size : Int)) = false := by simp; omega
  have n0' : (h == s.size) = false := by simp; omega
  clear hh
  have u1 : (((bt s h : Nat) : Int) != 39) = true := by simp; omega
  have u2 : ((bt s h) != 39) = true := by simp; omega
  clear hq
  generalize bt s h = c at *
  go_enter Tryz.func68, Tryz.ntmps68
  go_wp2_with (go_at_call 96; (with_reducible refine (cA.out _).mono ?_); rintro e w' ⟨rfl, rfl⟩)
  refine bodyPost_ret (v := .tuple #[.agg #[.string ⟨#[]⟩, .string ⟨#[]⟩, .int .i64 0, .bool false, .bool false], .int .i64 5]) (by simp [results, Tryz.results68, go_sem]) rfl ⟨rfl, ?_⟩
  go_grown
set_option maxRecDepth 100000 in
set_option maxHeartbeats 3200000 in
theorem scan_none_end (s : ByteArray) (w : World) (hs : s.size ≤ maxLen) (h : Nat) (hh : dA s 10 = h) (hl : h < s.size) (hq : bt s h = 39) (r : ByteArray) (hr : s.extract (h + 1) s.size = r) (h0 : r.size = 0) :
    Calls Tryz.prog 68 #[.string s] w (RV w (pv ⟨#[]⟩ ⟨#[]⟩ 0 false false 6)) := by
  have cA : ∀ w, Calls Tryz.prog 96 #[.string s, .int .i64 10] w fun e w' => e = .returned (.int .i64 (dA s 10 : Int)) ∧ w' = w := fun w => digitsAhead_t s 10 w hs (by omega)
  rw [hh] at cA
  replace cA := Lib.hid cA
  unfold maxLen at hs
  have hbt := bt_at s h hl
  have hb2 := bt_lt s h
  have n0 : ((h : Int) == (s.size : Int)) = false := by simp; omega
  have n0' : (h == s.size) = false := by simp; omega
  clear hh
  rw [hq] at hbt
  clear hq hb2
  obtain ⟨r1, r2⟩ := emp r h0
  clear h0
  have hrs : r.size ≤ 9223372036854775807 := by rw [← hr]; simp; omega
  go_enter Tryz.func68, Tryz.ntmps68
  go_wp2_with (go_at_call 96; (with_reducible refine (cA.out _).mono ?_); rintro e w' ⟨rfl, rfl⟩)
  refine bodyPost_ret (v := .tuple #[.agg #[.string ⟨#[]⟩, .string ⟨#[]⟩, .int .i64 0, .bool false, .bool false], .int .i64 6]) (by simp [results, Tryz.results68, go_sem]) rfl ⟨rfl, ?_⟩
  go_grown
set_option maxRecDepth 100000 in
set_option maxHeartbeats 3200000 in
theorem scan_other_base (s : ByteArray) (w : World) (hs : s.size ≤ maxLen) (h : Nat) (hh : dA s 10 = h) (hl : h < s.size) (hq : bt s h = 39) (r : ByteArray) (hr : s.extract (h + 1) s.size = r) (h0 : 0 < r.size) (h1 : bt r 0 ≠ 115) (h2 : bt r 0 ≠ 83) (hb : baseV (bt r 0) = 0) :
    Calls Tryz.prog 68 #[.string s] w (RV w (pv ⟨#[]⟩ ⟨#[]⟩ 0 false false 5)) := by
  have cA : ∀ w, Calls Tryz.prog 96 #[.string s, .int .i64 10] w fun e w' => e = .returned (.int .i64 (dA s 10 : Int)) ∧ w' = w := fun w => digitsAhead_t s 10 w hs (by omega)
  rw [hh] at cA
  replace cA := Lib.hid cA
  unfold maxLen at hs
  have hbt := bt_at s h hl
  have hb2 := bt_lt s h
  have n0 : ((h : Int) == (s.size : Int)) = false := by simp; omega
  have n0' : (h == s.size) = false := by simp; omega
  clear hh
  rw [hq] at hbt
  clear hq hb2
  obtain ⟨r1, r2⟩ := nemp r h0
  have hb0 := bt_at r 0 h0
  have hl0 := bt_lt r 0
  have v1 : (((bt r 0 : Nat) : Int) == 115) = false := by simp; omega
  have v2 : (((bt r 0 : Nat) : Int) == 83) = false := by simp; omega
  clear h1 h2
  have hrs : r.size ≤ 9223372036854775807 := by rw [← hr]; simp; omega
  have cB := fun w => baseOf_t (bt r 0) w hl0
  rw [hb] at cB
  clear hb
  replace cB := Lib.hid cB
  generalize bt r 0 = c0 at *
  go_enter Tryz.func68, Tryz.ntmps68
  go_wp2_with (go_at_call 96; (with_reducible refine (cA.out _).mono ?_); rintro e w' ⟨rfl, rfl⟩)
  refine region_anyT (n := 8) (S := fun _ => True) (by kernel_rfl) ?_
  refine anyT_take (i := 0) (v := .string r) rfl (by kernel_rfl) (by kernel_rfl) (fun _ _ _ h => h) (Or.inl ⟨by rfl, ?_⟩) trivial ?_
  · intro w1 _
    go_simp
    first | with_reducible rfl | exact fun hc => absurd hc (by omega) | skip
  try simp only [Act.put, List.getElem_toArray, List.getElem_cons_zero, List.setIfInBounds_toArray, List.set_cons_zero, List.set_cons_succ]
  refine anyT_take (i := 1) (v := .int .u8 (c0 : Int)) rfl (by kernel_rfl) (by kernel_rfl) (fun _ _ _ h => h) (Or.inl ⟨by rfl, ?_⟩) trivial ?_
  · intro w1 _
    go_simp
    first | with_reducible rfl | exact fun hc => absurd hc (by omega) | skip
  try simp only [Act.put, List.getElem_toArray, List.getElem_cons_zero, List.getElem_cons_succ, List.setIfInBounds_toArray, List.set_cons_zero, List.set_cons_succ]
  refine anyT_take (i := 3) (v := .string r) rfl (by kernel_rfl) (by kernel_rfl) (fun _ _ _ h => h) (Or.inl ⟨by rfl, ?_⟩) trivial ?_
  · intro w1 _
    go_simp
    first | with_reducible rfl | exact fun hc => absurd hc (by omega) | skip
  try simp only [Act.put, List.getElem_toArray, List.getElem_cons_zero, List.getElem_cons_succ, List.setIfInBounds_toArray, List.set_cons_zero, List.set_cons_succ]
  refine anyT_take (i := 4) (v := .string (r.extract 1 r.size)) rfl (by kernel_rfl) (by kernel_rfl) (fun _ _ _ h => h) (Or.inl ⟨by rfl, ?_⟩) trivial ?_
  · intro w1 _
    go_simp
    first | with_reducible rfl | exact fun hc => absurd hc (by omega) | skip
  try simp only [Act.put, List.getElem_toArray, List.getElem_cons_zero, List.getElem_cons_succ, List.setIfInBounds_toArray, List.set_cons_zero, List.set_cons_succ]
  refine anyT_one (i := 2) (by kernel_rfl) ?_
  refine wpOp_step rfl (fun K hK => ?_)
  replace hK := Lib.hid hK
  go_simp
  (with_reducible refine (cB.out _).mono ?_)
  rintro e w2 ⟨rfl, hw2⟩
  subst hw2
  refine hK.out _ _ ⟨fun _ => trivial, ?_⟩
  clear hK K
  try simp only [Act.put, List.getElem_toArray, List.getElem_cons_zero, List.getElem_cons_succ, List.setIfInBounds_toArray, List.set_cons_zero, List.set_cons_succ]
  refine anyT_take (i := 5) (v := .pointer (some ⟨w.heap.size + 1, 2, none⟩)) rfl (by kernel_rfl) (by kernel_rfl) (fun _ _ _ h => h) (Or.inl ⟨by rfl, ?_⟩) trivial ?_
  · intro w1 _
    go_simp
    first | with_reducible rfl | exact fun hc => absurd hc (by omega) | skip
  try simp only [Act.put, List.getElem_toArray, List.getElem_cons_zero, List.getElem_cons_succ, List.setIfInBounds_toArray, List.set_cons_zero, List.set_cons_succ]
  refine anyT_one (i := 6) (by kernel_rfl) ?_
  refine wpOp_step rfl (fun K hK => ?_)
  replace hK := Lib.hid hK
  go_simp
  refine hK.out _ _ ⟨fun _ => trivial, ?_⟩
  clear hK K
  try simp only [Act.put, List.getElem_toArray, List.getElem_cons_zero, List.getElem_cons_succ, List.setIfInBounds_toArray, List.set_cons_zero, List.set_cons_succ]
  refine anyT_take (i := 7) (v := .pointer (some ⟨w.heap.size + 1, 1, none⟩)) rfl (by kernel_rfl) (by kernel_rfl) (fun _ _ _ h => h) (Or.inl ⟨by rfl, ?_⟩) trivial ?_
  · intro w1 _
    go_simp
    first | with_reducible rfl | exact fun hc => absurd hc (by omega) | skip
  try simp only [Act.put, List.getElem_toArray, List.getElem_cons_zero, List.getElem_cons_succ, List.setIfInBounds_toArray, List.set_cons_zero, List.set_cons_succ]
  refine anyT_one (i := 8) (by kernel_rfl) ?_
  refine wpOp_step rfl (fun K hK => ?_)
  replace hK := Lib.hid hK
  go_simp
  refine hK.out _ _ ⟨fun _ => trivial, ?_⟩
  clear hK K
  try simp only [Act.put, List.getElem_toArray, List.getElem_cons_zero, List.getElem_cons_succ, List.setIfInBounds_toArray, List.set_cons_zero, List.set_cons_succ]
  refine anyT_done (by kernel_rfl) ?_ _
  all_goals
    go_wp2_with fail
    refine bodyPost_ret (v := .tuple #[.agg #[.string ⟨#[]⟩, .string ⟨#[]⟩, .int .i64 0, .bool false, .bool false], .int .i64 5]) (by simp [results, Tryz.results68, go_sem]) rfl ⟨rfl, ?_⟩
    go_grown
set_option maxRecDepth 100000 in
set_option maxHeartbeats 3200000 in
theorem scan_other_dend (s : ByteArray) (w : World) (hs : s.size ≤ maxLen) (h : Nat) (hh : dA s 10 = h) (hl : h < s.size) (hq : bt s h = 39) (r : ByteArray) (hr : s.extract (h + 1) s.size = r) (h0 : 0 < r.size) (h1 : bt r 0 ≠ 115) (h2 : bt r 0 ≠ 83) (b : Nat) (hb : baseV (bt r 0) = b) (hbp : 0 < b) (hb16 : b ≤ 16) (d : ByteArray) (hd : r.extract 1 r.size = d) (d0 : d.size = 0) :
    Calls Tryz.prog 68 #[.string s] w (RV w (pv ⟨#[]⟩ ⟨#[]⟩ 0 false false 6)) := by
  have cA : ∀ w, Calls Tryz.prog 96 #[.string s, .int .i64 10] w fun e w' => e = .returned (.int .i64 (dA s 10 : Int)) ∧ w' = w := fun w => digitsAhead_t s 10 w hs (by omega)
  rw [hh] at cA
  replace cA := Lib.hid cA
  unfold maxLen at hs
  have hbt := bt_at s h hl
  have hb2 := bt_lt s h
  have n0 : ((h : Int) == (s.size : Int)) = false := by simp; omega
  have n0' : (h == s.size) = false := by simp; omega
  clear hh
  rw [hq] at hbt
  clear hq hb2
  obtain ⟨r1, r2⟩ := nemp r h0
  have hb0 := bt_at r 0 h0
  have hl0 := bt_lt r 0
  have v1 : (((bt r 0 : Nat) : Int) == 115) = false := by simp; omega
  have v2 : (((bt r 0 : Nat) : Int) == 83) = false := by simp; omega
  clear h1 h2
  have hrs : r.size ≤ 9223372036854775807 := by rw [← hr]; simp; omega
  have cB := fun w => baseOf_t (bt r 0) w hl0
  rw [hb] at cB
  clear hb
  have nb : ((b : Int) == 0) = false := by simp; omega
  have hds : d.size ≤ maxLen := by rw [← hd]; unfold maxLen; simp; omega
  obtain ⟨d1, d2⟩ := emp d d0
  clear d0
  clear hbp hb16
  replace cB := Lib.hid cB
  generalize bt r 0 = c0 at *
  go_enter Tryz.func68, Tryz.ntmps68
  go_wp2_with (go_at_call 96; (with_reducible refine (cA.out _).mono ?_); rintro e w' ⟨rfl, rfl⟩)
  refine region_anyT (n := 8) (S := fun _ => True) (by kernel_rfl) ?_
  refine anyT_take (i := 0) (v := .string r) rfl (by kernel_rfl) (by kernel_rfl) (fun _ _ _ h => h) (Or.inl ⟨by rfl, ?_⟩) trivial ?_
  · intro w1 _
    go_simp
    first | with_reducible rfl | exact fun hc => absurd hc (by omega) | skip
  try simp only [Act.put, List.getElem_toArray, List.getElem_cons_zero, List.setIfInBounds_toArray, List.set_cons_zero, List.set_cons_succ]
  refine anyT_take (i := 1) (v := .int .u8 (c0 : Int)) rfl (by kernel_rfl) (by kernel_rfl) (fun _ _ _ h => h) (Or.inl ⟨by rfl, ?_⟩) trivial ?_
  · intro w1 _
    go_simp
    first | with_reducible rfl | exact fun hc => absurd hc (by omega) | skip
  try simp only [Act.put, List.getElem_toArray, List.getElem_cons_zero, List.getElem_cons_succ, List.setIfInBounds_toArray, List.set_cons_zero, List.set_cons_succ]
  refine anyT_take (i := 3) (v := .string r) rfl (by kernel_rfl) (by kernel_rfl) (fun _ _ _ h => h) (Or.inl ⟨by rfl, ?_⟩) trivial ?_
  · intro w1 _
    go_simp
    first | with_reducible rfl | exact fun hc => absurd hc (by omega) | skip
  try simp only [Act.put, List.getElem_toArray, List.getElem_cons_zero, List.getElem_cons_succ, List.setIfInBounds_toArray, List.set_cons_zero, List.set_cons_succ]
  refine anyT_take (i := 4) (v := .string d) rfl (by kernel_rfl) (by kernel_rfl) (fun _ _ _ h => h) (Or.inl ⟨by rfl, ?_⟩) trivial ?_
  · intro w1 _
    go_simp
    first | with_reducible rfl | exact fun hc => absurd hc (by omega) | skip
  try simp only [Act.put, List.getElem_toArray, List.getElem_cons_zero, List.getElem_cons_succ, List.setIfInBounds_toArray, List.set_cons_zero, List.set_cons_succ]
  refine anyT_one (i := 2) (by kernel_rfl) ?_
  refine wpOp_step rfl (fun K hK => ?_)
  replace hK := Lib.hid hK
  go_simp
  (with_reducible refine (cB.out _).mono ?_)
  rintro e w2 ⟨rfl, hw2⟩
  subst hw2
  refine hK.out _ _ ⟨fun _ => trivial, ?_⟩
  clear hK K
  try simp only [Act.put, List.getElem_toArray, List.getElem_cons_zero, List.getElem_cons_succ, List.setIfInBounds_toArray, List.set_cons_zero, List.set_cons_succ]
  refine anyT_take (i := 5) (v := .pointer (some ⟨w.heap.size + 1, 2, none⟩)) rfl (by kernel_rfl) (by kernel_rfl) (fun _ _ _ h => h) (Or.inl ⟨by rfl, ?_⟩) trivial ?_
  · intro w1 _
    go_simp
    first | with_reducible rfl | exact fun hc => absurd hc (by omega) | skip
  try simp only [Act.put, List.getElem_toArray, List.getElem_cons_zero, List.getElem_cons_succ, List.setIfInBounds_toArray, List.set_cons_zero, List.set_cons_succ]
  refine anyT_one (i := 6) (by kernel_rfl) ?_
  refine wpOp_step rfl (fun K hK => ?_)
  replace hK := Lib.hid hK
  go_simp
  refine hK.out _ _ ⟨fun _ => trivial, ?_⟩
  clear hK K
  try simp only [Act.put, List.getElem_toArray, List.getElem_cons_zero, List.getElem_cons_succ, List.setIfInBounds_toArray, List.set_cons_zero, List.set_cons_succ]
  refine anyT_take (i := 7) (v := .pointer (some ⟨w.heap.size + 1, 1, none⟩)) rfl (by kernel_rfl) (by kernel_rfl) (fun _ _ _ h => h) (Or.inl ⟨by rfl, ?_⟩) trivial ?_
  · intro w1 _
    go_simp
    first | with_reducible rfl | exact fun hc => absurd hc (by omega) | skip
  try simp only [Act.put, List.getElem_toArray, List.getElem_cons_zero, List.getElem_cons_succ, List.setIfInBounds_toArray, List.set_cons_zero, List.set_cons_succ]
  refine anyT_one (i := 8) (by kernel_rfl) ?_
  refine wpOp_step rfl (fun K hK => ?_)
  replace hK := Lib.hid hK
  go_simp
  refine hK.out _ _ ⟨fun _ => trivial, ?_⟩
  clear hK K
  try simp only [Act.put, List.getElem_toArray, List.getElem_cons_zero, List.getElem_cons_succ, List.setIfInBounds_toArray, List.set_cons_zero, List.set_cons_succ]
  refine anyT_done (by kernel_rfl) ?_ _
  all_goals
    go_wp2_with fail
    refine bodyPost_ret (v := .tuple #[.agg #[.string ⟨#[]⟩, .string ⟨#[]⟩, .int .i64 0, .bool false, .bool false], .int .i64 6]) (by simp [results, Tryz.results68, go_sem]) rfl ⟨rfl, ?_⟩
    go_grown
set_option maxRecDepth 100000 in
set_option maxHeartbeats 3200000 in
theorem scan_other_dform (s : ByteArray) (w : World) (hs : s.size ≤ maxLen) (h : Nat) (hh : dA s 10 = h) (hl : h < s.size) (hq : bt s h = 39) (r : ByteArray) (hr : s.extract (h + 1) s.size = r) (h0 : 0 < r.size) (h1 : bt r 0 ≠ 115) (h2 : bt r 0 ≠ 83) (b : Nat) (hb : baseV (bt r 0) = b) (hbp : 0 < b) (hb16 : b ≤ 16) (d : ByteArray) (hd : r.extract 1 r.size = d) (d0 : 0 < d.size) (hf : dA d b < d.size) :
    Calls Tryz.prog 68 #[.string s] w (RV w (pv ⟨#[]⟩ ⟨#[]⟩ 0 false false 5)) := by
  have cA : ∀ w, Calls Tryz.prog 96 #[.string s, .int .i64 10] w fun e w' => e = .returned (.int .i64 (dA s 10 : Int)) ∧ w' = w := fun w => digitsAhead_t s 10 w hs (by omega)
  rw [hh] at cA
  replace cA := Lib.hid cA
  unfold maxLen at hs
  have hbt := bt_at s h hl
  have hb2 := bt_lt s h
  have n0 : ((h : Int) == (s.size : Int)) = false := by simp; omega
  have n0' : (h == s.size) = false := by simp; omega
  clear hh
  rw [hq] at hbt
  clear hq hb2
  obtain ⟨r1, r2⟩ := nemp r h0
  have hb0 := bt_at r 0 h0
  have hl0 := bt_lt r 0
  have v1 : (((bt r 0 : Nat) : Int) == 115) = false := by simp; omega
  have v2 : (((bt r 0 : Nat) : Int) == 83) = false := by simp; omega
  clear h1 h2
  have hrs : r.size ≤ 9223372036854775807 := by rw [← hr]; simp; omega
  have cB := fun w => baseOf_t (bt r 0) w hl0
  rw [hb] at cB
  clear hb
  have nb : ((b : Int) == 0) = false := by simp; omega
  have hds : d.size ≤ maxLen := by rw [← hd]; unfold maxLen; simp; omega
  obtain ⟨d1, d2⟩ := nemp d d0
  have cD := fun w => digitsAhead_t d b w hds hb16
  have f1 : decide (((dA d b : Nat) : Int) < (d.size : Int)) = true := by simp; omega
  have f2 : decide (dA d b < d.size) = true := by simp; omega
  generalize dA d b = db at *
  replace cD := Lib.hid cD
  clear hf
  clear hbp hb16
  replace cB := Lib.hid cB
  generalize bt r 0 = c0 at *
  go_enter Tryz.func68, Tryz.ntmps68
  go_wp2_with (go_at_call 96; (with_reducible refine (cA.out _).mono ?_); rintro e w' ⟨rfl, rfl⟩)
  refine region_anyT (n := 8) (S := fun _ => True) (by kernel_rfl) ?_
  refine anyT_take (i := 0) (v := .string r) rfl (by kernel_rfl) (by kernel_rfl) (fun _ _ _ h => h) (Or.inl ⟨by rfl, ?_⟩) trivial ?_
  · intro w1 _
    go_simp
    first | with_reducible rfl | exact fun hc => absurd hc (by omega) | skip
  try simp only [Act.put, List.getElem_toArray, List.getElem_cons_zero, List.setIfInBounds_toArray, List.set_cons_zero, List.set_cons_succ]
  refine anyT_take (i := 1) (v := .int .u8 (c0 : Int)) rfl (by kernel_rfl) (by kernel_rfl) (fun _ _ _ h => h) (Or.inl ⟨by rfl, ?_⟩) trivial ?_
  · intro w1 _
    go_simp
    first | with_reducible rfl | exact fun hc => absurd hc (by omega) | skip
  try simp only [Act.put, List.getElem_toArray, List.getElem_cons_zero, List.getElem_cons_succ, List.setIfInBounds_toArray, List.set_cons_zero, List.set_cons_succ]
  refine anyT_take (i := 3) (v := .string r) rfl (by kernel_rfl) (by kernel_rfl) (fun _ _ _ h => h) (Or.inl ⟨by rfl, ?_⟩) trivial ?_
  · intro w1 _
    go_simp
    first | with_reducible rfl | exact fun hc => absurd hc (by omega) | skip
  try simp only [Act.put, List.getElem_toArray, List.getElem_cons_zero, List.getElem_cons_succ, List.setIfInBounds_toArray, List.set_cons_zero, List.set_cons_succ]
  refine anyT_take (i := 4) (v := .string d) rfl (by kernel_rfl) (by kernel_rfl) (fun _ _ _ h => h) (Or.inl ⟨by rfl, ?_⟩) trivial ?_
  · intro w1 _
    go_simp
    first | with_reducible rfl | exact fun hc => absurd hc (by omega) | skip
  try simp only [Act.put, List.getElem_toArray, List.getElem_cons_zero, List.getElem_cons_succ, List.setIfInBounds_toArray, List.set_cons_zero, List.set_cons_succ]
  refine anyT_one (i := 2) (by kernel_rfl) ?_
  refine wpOp_step rfl (fun K hK => ?_)
  replace hK := Lib.hid hK
  go_simp
  (with_reducible refine (cB.out _).mono ?_)
  rintro e w2 ⟨rfl, hw2⟩
  subst hw2
  refine hK.out _ _ ⟨fun _ => trivial, ?_⟩
  clear hK K
  try simp only [Act.put, List.getElem_toArray, List.getElem_cons_zero, List.getElem_cons_succ, List.setIfInBounds_toArray, List.set_cons_zero, List.set_cons_succ]
  refine anyT_take (i := 5) (v := .pointer (some ⟨w.heap.size + 1, 2, none⟩)) rfl (by kernel_rfl) (by kernel_rfl) (fun _ _ _ h => h) (Or.inl ⟨by rfl, ?_⟩) trivial ?_
  · intro w1 _
    go_simp
    first | with_reducible rfl | exact fun hc => absurd hc (by omega) | skip
  try simp only [Act.put, List.getElem_toArray, List.getElem_cons_zero, List.getElem_cons_succ, List.setIfInBounds_toArray, List.set_cons_zero, List.set_cons_succ]
  refine anyT_one (i := 6) (by kernel_rfl) ?_
  refine wpOp_step rfl (fun K hK => ?_)
  replace hK := Lib.hid hK
  go_simp
  refine hK.out _ _ ⟨fun _ => trivial, ?_⟩
  clear hK K
  try simp only [Act.put, List.getElem_toArray, List.getElem_cons_zero, List.getElem_cons_succ, List.setIfInBounds_toArray, List.set_cons_zero, List.set_cons_succ]
  refine anyT_take (i := 7) (v := .pointer (some ⟨w.heap.size + 1, 1, none⟩)) rfl (by kernel_rfl) (by kernel_rfl) (fun _ _ _ h => h) (Or.inl ⟨by rfl, ?_⟩) trivial ?_
  · intro w1 _
    go_simp
    first | with_reducible rfl | exact fun hc => absurd hc (by omega) | skip
  try simp only [Act.put, List.getElem_toArray, List.getElem_cons_zero, List.getElem_cons_succ, List.setIfInBounds_toArray, List.set_cons_zero, List.set_cons_succ]
  refine anyT_one (i := 8) (by kernel_rfl) ?_
  refine wpOp_step rfl (fun K hK => ?_)
  replace hK := Lib.hid hK
  go_simp
  refine hK.out _ _ ⟨fun _ => trivial, ?_⟩
  clear hK K
  try simp only [Act.put, List.getElem_toArray, List.getElem_cons_zero, List.getElem_cons_succ, List.setIfInBounds_toArray, List.set_cons_zero, List.set_cons_succ]
  refine anyT_done (by kernel_rfl) ?_ _
  all_goals
    go_wp2_with fail
    go_quiet ((go_at_call 96; exact (cD.out _).mono fun e w1 ⟨he, hw1⟩ => ⟨he, _, hw1⟩))
    go_wp2_with fail
    refine bodyPost_ret (v := .tuple #[.agg #[.string ⟨#[]⟩, .string ⟨#[]⟩, .int .i64 0, .bool false, .bool false], .int .i64 5]) (by simp [results, Tryz.results68, go_sem]) rfl ⟨rfl, ?_⟩
    go_grown
    all_goals exact below_drewN (by go_grown) _
set_option maxRecDepth 100000 in
set_option maxHeartbeats 3200000 in
theorem scan_other_ok (s : ByteArray) (w : World) (hs : s.size ≤ maxLen) (h : Nat) (hh : dA s 10 = h) (hl : h < s.size) (hq : bt s h = 39) (r : ByteArray) (hr : s.extract (h + 1) s.size = r) (h0 : 0 < r.size) (h1 : bt r 0 ≠ 115) (h2 : bt r 0 ≠ 83) (b : Nat) (hb : baseV (bt r 0) = b) (hbp : 0 < b) (hb16 : b ≤ 16) (d : ByteArray) (hd : r.extract 1 r.size = d) (d0 : 0 < d.size) (hf : dA d b = d.size) :
    Calls Tryz.prog 68 #[.string s] w (RV w (pv (s.extract 0 h) d b true false 0)) := by
  have cA : ∀ w, Calls Tryz.prog 96 #[.string s, .int .i64 10] w fun e w' => e = .returned (.int .i64 (dA s 10 : Int)) ∧ w' = w := fun w => digitsAhead_t s 10 w hs (by omega)
  rw [hh] at cA
  replace cA := Lib.hid cA
  unfold maxLen at hs
  have hbt := bt_at s h hl
  have hb2 := bt_lt s h
  have n0 : ((h : Int) == (s.size : Int)) = false := by simp; omega
  have n0' : (h == s.size) = false := by simp; omega
  clear hh
  rw [hq] at hbt
  clear hq hb2
  obtain ⟨r1, r2⟩ := nemp r h0
  have hb0 := bt_at r 0 h0
  have hl0 := bt_lt r 0
  have v1 : (((bt r 0 : Nat) : Int) == 115) = false := by simp; omega
  have v2 : (((bt r 0 : Nat) : Int) == 83) = false := by simp; omega
  clear h1 h2
  have hrs : r.size ≤ 9223372036854775807 := by rw [← hr]; simp; omega
  have cB := fun w => baseOf_t (bt r 0) w hl0
  rw [hb] at cB
  clear hb
  have nb : ((b : Int) == 0) = false := by simp; omega
  have hds : d.size ≤ maxLen := by rw [← hd]; unfold maxLen; simp; omega
  obtain ⟨d1, d2⟩ := nemp d d0
  have cD := fun w => digitsAhead_t d b w hds hb16
  rw [hf] at cD
  generalize dA d b = db at *
  replace cD := Lib.hid cD
  clear hf
  clear hbp hb16
  replace cB := Lib.hid cB
  generalize bt r 0 = c0 at *
  go_enter Tryz.func68, Tryz.ntmps68
  go_wp2_with (go_at_call 96; (with_reducible refine (cA.out _).mono ?_); rintro e w' ⟨rfl, rfl⟩)
  refine region_anyT (n := 8) (S := fun _ => True) (by kernel_rfl) ?_
  refine anyT_take (i := 0) (v := .string r) rfl (by kernel_rfl) (by kernel_rfl) (fun _ _ _ h => h) (Or.inl ⟨by rfl, ?_⟩) trivial ?_
  · intro w1 _
    go_simp
    first | with_reducible rfl | exact fun hc => absurd hc (by omega) | skip
  try simp only [Act.put, List.getElem_toArray, List.getElem_cons_zero, List.setIfInBounds_toArray, List.set_cons_zero, List.set_cons_succ]
  refine anyT_take (i := 1) (v := .int .u8 (c0 : Int)) rfl (by kernel_rfl) (by kernel_rfl) (fun _ _ _ h => h) (Or.inl ⟨by rfl, ?_⟩) trivial ?_
  · intro w1 _
    go_simp
    first | with_reducible rfl | exact fun hc => absurd hc (by omega) | skip
  try simp only [Act.put, List.getElem_toArray, List.getElem_cons_zero, List.getElem_cons_succ, List.setIfInBounds_toArray, List.set_cons_zero, List.set_cons_succ]
  refine anyT_take (i := 3) (v := .string r) rfl (by kernel_rfl) (by kernel_rfl) (fun _ _ _ h => h) (Or.inl ⟨by rfl, ?_⟩) trivial ?_
  · intro w1 _
    go_simp
    first | with_reducible rfl | exact fun hc => absurd hc (by omega) | skip
  try simp only [Act.put, List.getElem_toArray, List.getElem_cons_zero, List.getElem_cons_succ, List.setIfInBounds_toArray, List.set_cons_zero, List.set_cons_succ]
  refine anyT_take (i := 4) (v := .string d) rfl (by kernel_rfl) (by kernel_rfl) (fun _ _ _ h => h) (Or.inl ⟨by rfl, ?_⟩) trivial ?_
  · intro w1 _
    go_simp
    first | with_reducible rfl | exact fun hc => absurd hc (by omega) | skip
  try simp only [Act.put, List.getElem_toArray, List.getElem_cons_zero, List.getElem_cons_succ, List.setIfInBounds_toArray, List.set_cons_zero, List.set_cons_succ]
  refine anyT_one (i := 2) (by kernel_rfl) ?_
  refine wpOp_step rfl (fun K hK => ?_)
  replace hK := Lib.hid hK
  go_simp
  (with_reducible refine (cB.out _).mono ?_)
  rintro e w2 ⟨rfl, hw2⟩
  subst hw2
  refine hK.out _ _ ⟨fun _ => trivial, ?_⟩
  clear hK K
  try simp only [Act.put, List.getElem_toArray, List.getElem_cons_zero, List.getElem_cons_succ, List.setIfInBounds_toArray, List.set_cons_zero, List.set_cons_succ]
  refine anyT_take (i := 5) (v := .pointer (some ⟨w.heap.size + 1, 2, none⟩)) rfl (by kernel_rfl) (by kernel_rfl) (fun _ _ _ h => h) (Or.inl ⟨by rfl, ?_⟩) trivial ?_
  · intro w1 _
    go_simp
    first | with_reducible rfl | exact fun hc => absurd hc (by omega) | skip
  try simp only [Act.put, List.getElem_toArray, List.getElem_cons_zero, List.getElem_cons_succ, List.setIfInBounds_toArray, List.set_cons_zero, List.set_cons_succ]
  refine anyT_one (i := 6) (by kernel_rfl) ?_
  refine wpOp_step rfl (fun K hK => ?_)
  replace hK := Lib.hid hK
  go_simp
  refine hK.out _ _ ⟨fun _ => trivial, ?_⟩
  clear hK K
  try simp only [Act.put, List.getElem_toArray, List.getElem_cons_zero, List.getElem_cons_succ, List.setIfInBounds_toArray, List.set_cons_zero, List.set_cons_succ]
  refine anyT_take (i := 7) (v := .pointer (some ⟨w.heap.size + 1, 1, none⟩)) rfl (by kernel_rfl) (by kernel_rfl) (fun _ _ _ h => h) (Or.inl ⟨by rfl, ?_⟩) trivial ?_
  · intro w1 _
    go_simp
    first | with_reducible rfl | exact fun hc => absurd hc (by omega) | skip
  try simp only [Act.put, List.getElem_toArray, List.getElem_cons_zero, List.getElem_cons_succ, List.setIfInBounds_toArray, List.set_cons_zero, List.set_cons_succ]
  refine anyT_one (i := 8) (by kernel_rfl) ?_
  refine wpOp_step rfl (fun K hK => ?_)
  replace hK := Lib.hid hK
  go_simp
  refine hK.out _ _ ⟨fun _ => trivial, ?_⟩
  clear hK K
  try simp only [Act.put, List.getElem_toArray, List.getElem_cons_zero, List.getElem_cons_succ, List.setIfInBounds_toArray, List.set_cons_zero, List.set_cons_succ]
  refine anyT_done (by kernel_rfl) ?_ _
  all_goals
    go_wp2_with fail
    go_quiet ((go_at_call 96; exact (cD.out _).mono fun e w1 ⟨he, hw1⟩ => ⟨he, _, hw1⟩))
    go_wp2_with fail
    refine bodyPost_ret (v := .tuple #[.agg #[.string (s.extract 0 h), .string d, .int .i64 (b : Int), .bool true, .bool false], .int .i64 0]) (by simp [results, Tryz.results68, go_sem]) rfl ⟨rfl, ?_⟩
    go_grown
    all_goals exact below_drewN (by go_grown) _
set_option maxRecDepth 100000 in
set_option maxHeartbeats 3200000 in
theorem scan_s_end (s : ByteArray) (w : World) (hs : s.size ≤ maxLen) (h : Nat) (hh : dA s 10 = h) (hl : h < s.size) (hq : bt s h = 39) (r : ByteArray) (hr : s.extract (h + 1) s.size = r) (h0 : 0 < r.size) (h1 : bt r 0 = 115) (t : ByteArray) (ht : r.extract 1 r.size = t) (k0 : t.size = 0) :
    Calls Tryz.prog 68 #[.string s] w (RV w (pv ⟨#[]⟩ ⟨#[]⟩ 0 false false 6)) := by
  have cA : ∀ w, Calls Tryz.prog 96 #[.string s, .int .i64 10] w fun e w' => e = .returned (.int .i64 (dA s 10 : Int)) ∧ w' = w := fun w => digitsAhead_t s 10 w hs (by omega)
  rw [hh] at cA
  replace cA := Lib.hid cA
  unfold maxLen at hs
  have hbt := bt_at s h hl
  have hb2 := bt_lt s h
  have n0 : ((h : Int) == (s.size : Int)) = false := by simp; omega
  have n0' : (h == s.size) = false := by simp; omega
  clear hh
  rw [hq] at hbt
  clear hq hb2
  obtain ⟨r1, r2⟩ := nemp r h0
  have hb0 := bt_at r 0 h0
  have hl0 := bt_lt r 0
  rw [h1] at hb0
  clear h1 hl0
  have hrs : r.size ≤ 9223372036854775807 := by rw [← hr]; simp; omega
  have hts : t.size ≤ 9223372036854775807 := by rw [← ht]; simp; omega
  obtain ⟨t1, t2⟩ := emp t k0
  clear k0
  go_enter Tryz.func68, Tryz.ntmps68
  go_wp2_with (go_at_call 96; (with_reducible refine (cA.out _).mono ?_); rintro e w' ⟨rfl, rfl⟩)
  refine bodyPost_ret (v := .tuple #[.agg #[.string ⟨#[]⟩, .string ⟨#[]⟩, .int .i64 0, .bool false, .bool false], .int .i64 6]) (by simp [results, Tryz.results68, go_sem]) rfl ⟨rfl, ?_⟩
  go_grown
set_option maxRecDepth 100000 in
set_option maxHeartbeats 3200000 in
theorem scan_s_base (s : ByteArray) (w : World) (hs : s.size ≤ maxLen) (h : Nat) (hh : dA s 10 = h) (hl : h < s.size) (hq : bt s h = 39) (r : ByteArray) (hr : s.extract (h + 1) s.size = r) (h0 : 0 < r.size) (h1 : bt r 0 = 115) (t : ByteArray) (ht : r.extract 1 r.size = t) (k0 : 0 < t.size) (hb : baseV (bt t 0) = 0) :
    Calls Tryz.prog 68 #[.string s] w (RV w (pv ⟨#[]⟩ ⟨#[]⟩ 0 false false 5)) := by
  have cA : ∀ w, Calls Tryz.prog 96 #[.string s, .int .i64 10] w fun e w' => e = .returned (.int .i64 (dA s 10 : Int)) ∧ w' = w := fun w => digitsAhead_t s 10 w hs (by omega)
  rw [hh] at cA
  replace cA := Lib.hid cA
  unfold maxLen at hs
  have hbt := bt_at s h hl
  have hb2 := bt_lt s h
  have n0 : ((h : Int) == (s.size : Int)) = false := by simp; omega
  have n0' : (h == s.size) = false := by simp; omega
  clear hh
  rw [hq] at hbt
  clear hq hb2
  obtain ⟨r1, r2⟩ := nemp r h0
  have hb0 := bt_at r 0 h0
  have hl0 := bt_lt r 0
  rw [h1] at hb0
  clear h1 hl0
  have hrs : r.size ≤ 9223372036854775807 := by rw [← hr]; simp; omega
  have hts : t.size ≤ 9223372036854775807 := by rw [← ht]; simp; omega
  obtain ⟨t1, t2⟩ := nemp t k0
  have hbk := bt_at t 0 k0
  have hlk := bt_lt t 0
  have cB := fun w => baseOf_t (bt t 0) w hlk
  rw [hb] at cB
  clear hb
  replace cB := Lib.hid cB
  generalize bt t 0 = c0 at *
  go_enter Tryz.func68, Tryz.ntmps68
  go_wp2_with (go_at_call 96; (with_reducible refine (cA.out _).mono ?_); rintro e w' ⟨rfl, rfl⟩)
  refine region_anyT (n := 8) (S := fun _ => True) (by kernel_rfl) ?_
  refine anyT_take (i := 0) (v := .string t) rfl (by kernel_rfl) (by kernel_rfl) (fun _ _ _ h => h) (Or.inl ⟨by rfl, ?_⟩) trivial ?_
  · intro w1 _
    go_simp
    first | with_reducible rfl | exact fun hc => absurd hc (by omega) | skip
  try simp only [Act.put, List.getElem_toArray, List.getElem_cons_zero, List.setIfInBounds_toArray, List.set_cons_zero, List.set_cons_succ]
  refine anyT_take (i := 1) (v := .int .u8 (c0 : Int)) rfl (by kernel_rfl) (by kernel_rfl) (fun _ _ _ h => h) (Or.inl ⟨by rfl, ?_⟩) trivial ?_
  · intro w1 _
    go_simp
    first | with_reducible rfl | exact fun hc => absurd hc (by omega) | skip
  try simp only [Act.put, List.getElem_toArray, List.getElem_cons_zero, List.getElem_cons_succ, List.setIfInBounds_toArray, List.set_cons_zero, List.set_cons_succ]
  refine anyT_take (i := 3) (v := .string t) rfl (by kernel_rfl) (by kernel_rfl) (fun _ _ _ h => h) (Or.inl ⟨by rfl, ?_⟩) trivial ?_
  · intro w1 _
    go_simp
    first | with_reducible rfl | exact fun hc => absurd hc (by omega) | skip
  try simp only [Act.put, List.getElem_toArray, List.getElem_cons_zero, List.getElem_cons_succ, List.setIfInBounds_toArray, List.set_cons_zero, List.set_cons_succ]
  refine anyT_take (i := 4) (v := .string (t.extract 1 t.size)) rfl (by kernel_rfl) (by kernel_rfl) (fun _ _ _ h => h) (Or.inl ⟨by rfl, ?_⟩) trivial ?_
  · intro w1 _
    go_simp
    first | with_reducible rfl | exact fun hc => absurd hc (by omega) | skip
  try simp only [Act.put, List.getElem_toArray, List.getElem_cons_zero, List.getElem_cons_succ, List.setIfInBounds_toArray, List.set_cons_zero, List.set_cons_succ]
  refine anyT_one (i := 2) (by kernel_rfl) ?_
  refine wpOp_step rfl (fun K hK => ?_)
  replace hK := Lib.hid hK
  go_simp
  (with_reducible refine (cB.out _).mono ?_)
  rintro e w2 ⟨rfl, hw2⟩
  subst hw2
  refine hK.out _ _ ⟨fun _ => trivial, ?_⟩
  clear hK K
  try simp only [Act.put, List.getElem_toArray, List.getElem_cons_zero, List.getElem_cons_succ, List.setIfInBounds_toArray, List.set_cons_zero, List.set_cons_succ]
  refine anyT_take (i := 5) (v := .pointer (some ⟨w.heap.size + 1, 2, none⟩)) rfl (by kernel_rfl) (by kernel_rfl) (fun _ _ _ h => h) (Or.inl ⟨by rfl, ?_⟩) trivial ?_
  · intro w1 _
    go_simp
    first | with_reducible rfl | exact fun hc => absurd hc (by omega) | skip
  try simp only [Act.put, List.getElem_toArray, List.getElem_cons_zero, List.getElem_cons_succ, List.setIfInBounds_toArray, List.set_cons_zero, List.set_cons_succ]
  refine anyT_one (i := 6) (by kernel_rfl) ?_
  refine wpOp_step rfl (fun K hK => ?_)
  replace hK := Lib.hid hK
  go_simp
  refine hK.out _ _ ⟨fun _ => trivial, ?_⟩
  clear hK K
  try simp only [Act.put, List.getElem_toArray, List.getElem_cons_zero, List.getElem_cons_succ, List.setIfInBounds_toArray, List.set_cons_zero, List.set_cons_succ]
  refine anyT_take (i := 7) (v := .pointer (some ⟨w.heap.size + 1, 1, none⟩)) rfl (by kernel_rfl) (by kernel_rfl) (fun _ _ _ h => h) (Or.inl ⟨by rfl, ?_⟩) trivial ?_
  · intro w1 _
    go_simp
    first | with_reducible rfl | exact fun hc => absurd hc (by omega) | skip
  try simp only [Act.put, List.getElem_toArray, List.getElem_cons_zero, List.getElem_cons_succ, List.setIfInBounds_toArray, List.set_cons_zero, List.set_cons_succ]
  refine anyT_one (i := 8) (by kernel_rfl) ?_
  refine wpOp_step rfl (fun K hK => ?_)
  replace hK := Lib.hid hK
  go_simp
  refine hK.out _ _ ⟨fun _ => trivial, ?_⟩
  clear hK K
  try simp only [Act.put, List.getElem_toArray, List.getElem_cons_zero, List.getElem_cons_succ, List.setIfInBounds_toArray, List.set_cons_zero, List.set_cons_succ]
  refine anyT_done (by kernel_rfl) ?_ _
  all_goals
    go_wp2_with fail
    refine bodyPost_ret (v := .tuple #[.agg #[.string ⟨#[]⟩, .string ⟨#[]⟩, .int .i64 0, .bool false, .bool false], .int .i64 5]) (by simp [results, Tryz.results68, go_sem]) rfl ⟨rfl, ?_⟩
    go_grown
set_option maxRecDepth 100000 in
set_option maxHeartbeats 3200000 in
theorem scan_s_dend (s : ByteArray) (w : World) (hs : s.size ≤ maxLen) (h : Nat) (hh : dA s 10 = h) (hl : h < s.size) (hq : bt s h = 39) (r : ByteArray) (hr : s.extract (h + 1) s.size = r) (h0 : 0 < r.size) (h1 : bt r 0 = 115) (t : ByteArray) (ht : r.extract 1 r.size = t) (k0 : 0 < t.size) (b : Nat) (hb : baseV (bt t 0) = b) (hbp : 0 < b) (hb16 : b ≤ 16) (d : ByteArray) (hd : t.extract 1 t.size = d) (d0 : d.size = 0) :
    Calls Tryz.prog 68 #[.string s] w (RV w (pv ⟨#[]⟩ ⟨#[]⟩ 0 false false 6)) := by
  have cA : ∀ w, Calls Tryz.prog 96 #[.string s, .int .i64 10] w fun e w' => e = .returned (.int .i64 (dA s 10 : Int)) ∧ w' = w := fun w => digitsAhead_t s 10 w hs (by omega)
  rw [hh] at cA
  replace cA := Lib.hid cA
  unfold maxLen at hs
  have hbt := bt_at s h hl
  have hb2 := bt_lt s h
  have n0 : ((h : Int) == (s.size : Int)) = false := by simp; omega
  have n0' : (h == s.size) = false := by simp; omega
  clear hh
  rw [hq] at hbt
  clear hq hb2
  obtain ⟨r1, r2⟩ := nemp r h0
  have hb0 := bt_at r 0 h0
  have hl0 := bt_lt r 0
  rw [h1] at hb0
  clear h1 hl0
  have hrs : r.size ≤ 9223372036854775807 := by rw [← hr]; simp; omega
  have hts : t.size ≤ 9223372036854775807 := by rw [← ht]; simp; omega
  obtain ⟨t1, t2⟩ := nemp t k0
  have hbk := bt_at t 0 k0
  have hlk := bt_lt t 0
  have cB := fun w => baseOf_t (bt t 0) w hlk
  rw [hb] at cB
  clear hb
  have nb : ((b : Int) == 0) = false := by simp; omega
  have hds : d.size ≤ maxLen := by rw [← hd]; unfold maxLen; simp; omega
  obtain ⟨d1, d2⟩ := emp d d0
  clear d0
  clear hbp hb16
  replace cB := Lib.hid cB
  generalize bt t 0 = c0 at *
  go_enter Tryz.func68, Tryz.ntmps68
  go_wp2_with (go_at_call 96; (with_reducible refine (cA.out _).mono ?_); rintro e w' ⟨rfl, rfl⟩)
  refine region_anyT (n := 8) (S := fun _ => True) (by kernel_rfl) ?_
  refine anyT_take (i := 0) (v := .string t) rfl (by kernel_rfl) (by kernel_rfl) (fun _ _ _ h => h) (Or.inl ⟨by rfl, ?_⟩) trivial ?_
  · intro w1 _
    go_simp
    first | with_reducible rfl | exact fun hc => absurd hc (by omega) | skip
  try simp only [Act.put, List.getElem_toArray, List.getElem_cons_zero, List.setIfInBounds_toArray, List.set_cons_zero, List.set_cons_succ]
  refine anyT_take (i := 1) (v := .int .u8 (c0 : Int)) rfl (by kernel_rfl) (by kernel_rfl) (fun _ _ _ h => h) (Or.inl ⟨by rfl, ?_⟩) trivial ?_
  · intro w1 _
    go_simp
    first | with_reducible rfl | exact fun hc => absurd hc (by omega) | skip
  try simp only [Act.put, List.getElem_toArray, List.getElem_cons_zero, List.getElem_cons_succ, List.setIfInBounds_toArray, List.set_cons_zero, List.set_cons_succ]
  refine anyT_take (i := 3) (v := .string t) rfl (by kernel_rfl) (by kernel_rfl) (fun _ _ _ h => h) (Or.inl ⟨by rfl, ?_⟩) trivial ?_
  · intro w1 _
    go_simp
    first | with_reducible rfl | exact fun hc => absurd hc (by omega) | skip
  try simp only [Act.put, List.getElem_toArray, List.getElem_cons_zero, List.getElem_cons_succ, List.setIfInBounds_toArray, List.set_cons_zero, List.set_cons_succ]
  refine anyT_take (i := 4) (v := .string d) rfl (by kernel_rfl) (by kernel_rfl) (fun _ _ _ h => h) (Or.inl ⟨by rfl, ?_⟩) trivial ?_
  · intro w1 _
    go_simp
    first | with_reducible rfl | exact fun hc => absurd hc (by omega) | skip
  try simp only [Act.put, List.getElem_toArray, List.getElem_cons_zero, List.getElem_cons_succ, List.setIfInBounds_toArray, List.set_cons_zero, List.set_cons_succ]
  refine anyT_one (i := 2) (by kernel_rfl) ?_
  refine wpOp_step rfl (fun K hK => ?_)
  replace hK := Lib.hid hK
  go_simp
  (with_reducible refine (cB.out _).mono ?_)
  rintro e w2 ⟨rfl, hw2⟩
  subst hw2
  refine hK.out _ _ ⟨fun _ => trivial, ?_⟩
  clear hK K
  try simp only [Act.put, List.getElem_toArray, List.getElem_cons_zero, List.getElem_cons_succ, List.setIfInBounds_toArray, List.set_cons_zero, List.set_cons_succ]
  refine anyT_take (i := 5) (v := .pointer (some ⟨w.heap.size + 1, 2, none⟩)) rfl (by kernel_rfl) (by kernel_rfl) (fun _ _ _ h => h) (Or.inl ⟨by rfl, ?_⟩) trivial ?_
  · intro w1 _
    go_simp
    first | with_reducible rfl | exact fun hc => absurd hc (by omega) | skip
  try simp only [Act.put, List.getElem_toArray, List.getElem_cons_zero, List.getElem_cons_succ, List.setIfInBounds_toArray, List.set_cons_zero, List.set_cons_succ]
  refine anyT_one (i := 6) (by kernel_rfl) ?_
  refine wpOp_step rfl (fun K hK => ?_)
  replace hK := Lib.hid hK
  go_simp
  refine hK.out _ _ ⟨fun _ => trivial, ?_⟩
  clear hK K
  try simp only [Act.put, List.getElem_toArray, List.getElem_cons_zero, List.getElem_cons_succ, List.setIfInBounds_toArray, List.set_cons_zero, List.set_cons_succ]
  refine anyT_take (i := 7) (v := .pointer (some ⟨w.heap.size + 1, 1, none⟩)) rfl (by kernel_rfl) (by kernel_rfl) (fun _ _ _ h => h) (Or.inl ⟨by rfl, ?_⟩) trivial ?_
  · intro w1 _
    go_simp
    first | with_reducible rfl | exact fun hc => absurd hc (by omega) | skip
  try simp only [Act.put, List.getElem_toArray, List.getElem_cons_zero, List.getElem_cons_succ, List.setIfInBounds_toArray, List.set_cons_zero, List.set_cons_succ]
  refine anyT_one (i := 8) (by kernel_rfl) ?_
  refine wpOp_step rfl (fun K hK => ?_)
  replace hK := Lib.hid hK
  go_simp
  refine hK.out _ _ ⟨fun _ => trivial, ?_⟩
  clear hK K
  try simp only [Act.put, List.getElem_toArray, List.getElem_cons_zero, List.getElem_cons_succ, List.setIfInBounds_toArray, List.set_cons_zero, List.set_cons_succ]
  refine anyT_done (by kernel_rfl) ?_ _
  all_goals
    go_wp2_with fail
    refine bodyPost_ret (v := .tuple #[.agg #[.string ⟨#[]⟩, .string ⟨#[]⟩, .int .i64 0, .bool false, .bool false], .int .i64 6]) (by simp [results, Tryz.results68, go_sem]) rfl ⟨rfl, ?_⟩
    go_grown
set_option maxRecDepth 100000 in
set_option maxHeartbeats 3200000 in
theorem scan_s_dform (s : ByteArray) (w : World) (hs : s.size ≤ maxLen) (h : Nat) (hh : dA s 10 = h) (hl : h < s.size) (hq : bt s h = 39) (r : ByteArray) (hr : s.extract (h + 1) s.size = r) (h0 : 0 < r.size) (h1 : bt r 0 = 115) (t : ByteArray) (ht : r.extract 1 r.size = t) (k0 : 0 < t.size) (b : Nat) (hb : baseV (bt t 0) = b) (hbp : 0 < b) (hb16 : b ≤ 16) (d : ByteArray) (hd : t.extract 1 t.size = d) (d0 : 0 < d.size) (hf : dA d b < d.size) :
    Calls Tryz.prog 68 #[.string s] w (RV w (pv ⟨#[]⟩ ⟨#[]⟩ 0 false false 5)) := by
  have cA : ∀ w, Calls Tryz.prog 96 #[.string s, .int .i64 10] w fun e w' => e = .returned (.int .i64 (dA s 10 : Int)) ∧ w' = w := fun w => digitsAhead_t s 10 w hs (by omega)
  rw [hh] at cA
  replace cA := Lib.hid cA
  unfold maxLen at hs
  have hbt := bt_at s h hl
  have hb2 := bt_lt s h
  have n0 : ((h : Int) == (s.size : Int)) = false := by simp; omega
  have n0' : (h == s.size) = false := by simp; omega
  clear hh
  rw [hq] at hbt
  clear hq hb2
  obtain ⟨r1, r2⟩ := nemp r h0
  have hb0 := bt_at r 0 h0
  have hl0 := bt_lt r 0
  rw [h1] at hb0
  clear h1 hl0
  have hrs : r.size ≤ 9223372036854775807 := by rw [← hr]; simp; omega
  have hts : t.size ≤ 9223372036854775807 := by rw [← ht]; simp; omega
  obtain ⟨t1, t2⟩ := nemp t k0
  have hbk := bt_at t 0 k0
  have hlk := bt_lt t 0
  have cB := fun w => baseOf_t (bt t 0) w hlk
  rw [hb] at cB
  clear hb
  have nb : ((b : Int) == 0) = false := by simp; omega
  have hds : d.size ≤ maxLen := by rw [← hd]; unfold maxLen; simp; omega
  obtain ⟨d1, d2⟩ := nemp d d0
  have cD := fun w => digitsAhead_t d b w hds hb16
  have f1 : decide (((dA d b : Nat) : Int) < (d.size : Int)) = true := by simp; omega
  have f2 : decide (dA d b < d.size) = true := by simp; omega
  generalize dA d b = db at *
  replace cD := Lib.hid cD
  clear hf
  clear hbp hb16
  replace cB := Lib.hid cB
  generalize bt t 0 = c0 at *
  go_enter Tryz.func68, Tryz.ntmps68
  go_wp2_with (go_at_call 96; (with_reducible refine (cA.out _).mono ?_); rintro e w' ⟨rfl, rfl⟩)
  refine region_anyT (n := 8) (S := fun _ => True) (by kernel_rfl) ?_
  refine anyT_take (i := 0) (v := .string t) rfl (by kernel_rfl) (by kernel_rfl) (fun _ _ _ h => h) (Or.inl ⟨by rfl, ?_⟩) trivial ?_
  · intro w1 _
    go_simp
    first | with_reducible rfl | exact fun hc => absurd hc (by omega) | skip
  try simp only [Act.put, List.getElem_toArray, List.getElem_cons_zero, List.setIfInBounds_toArray, List.set_cons_zero, List.set_cons_succ]
  refine anyT_take (i := 1) (v := .int .u8 (c0 : Int)) rfl (by kernel_rfl) (by kernel_rfl) (fun _ _ _ h => h) (Or.inl ⟨by rfl, ?_⟩) trivial ?_
  · intro w1 _
    go_simp
    first | with_reducible rfl | exact fun hc => absurd hc (by omega) | skip
  try simp only [Act.put, List.getElem_toArray, List.getElem_cons_zero, List.getElem_cons_succ, List.setIfInBounds_toArray, List.set_cons_zero, List.set_cons_succ]
  refine anyT_take (i := 3) (v := .string t) rfl (by kernel_rfl) (by kernel_rfl) (fun _ _ _ h => h) (Or.inl ⟨by rfl, ?_⟩) trivial ?_
  · intro w1 _
    go_simp
    first | with_reducible rfl | exact fun hc => absurd hc (by omega) | skip
  try simp only [Act.put, List.getElem_toArray, List.getElem_cons_zero, List.getElem_cons_succ, List.setIfInBounds_toArray, List.set_cons_zero, List.set_cons_succ]
  refine anyT_take (i := 4) (v := .string d) rfl (by kernel_rfl) (by kernel_rfl) (fun _ _ _ h => h) (Or.inl ⟨by rfl, ?_⟩) trivial ?_
  · intro w1 _
    go_simp
    first | with_reducible rfl | exact fun hc => absurd hc (by omega) | skip
  try simp only [Act.put, List.getElem_toArray, List.getElem_cons_zero, List.getElem_cons_succ, List.setIfInBounds_toArray, List.set_cons_zero, List.set_cons_succ]
  refine anyT_one (i := 2) (by kernel_rfl) ?_
  refine wpOp_step rfl (fun K hK => ?_)
  replace hK := Lib.hid hK
  go_simp
  (with_reducible refine (cB.out _).mono ?_)
  rintro e w2 ⟨rfl, hw2⟩
  subst hw2
  refine hK.out _ _ ⟨fun _ => trivial, ?_⟩
  clear hK K
  try simp only [Act.put, List.getElem_toArray, List.getElem_cons_zero, List.getElem_cons_succ, List.setIfInBounds_toArray, List.set_cons_zero, List.set_cons_succ]
  refine anyT_take (i := 5) (v := .pointer (some ⟨w.heap.size + 1, 2, none⟩)) rfl (by kernel_rfl) (by kernel_rfl) (fun _ _ _ h => h) (Or.inl ⟨by rfl, ?_⟩) trivial ?_
  · intro w1 _
    go_simp
    first | with_reducible rfl | exact fun hc => absurd hc (by omega) | skip
  try simp only [Act.put, List.getElem_toArray, List.getElem_cons_zero, List.getElem_cons_succ, List.setIfInBounds_toArray, List.set_cons_zero, List.set_cons_succ]
  refine anyT_one (i := 6) (by kernel_rfl) ?_
  refine wpOp_step rfl (fun K hK => ?_)
  replace hK := Lib.hid hK
  go_simp
  refine hK.out _ _ ⟨fun _ => trivial, ?_⟩
  clear hK K
  try simp only [Act.put, List.getElem_toArray, List.getElem_cons_zero, List.getElem_cons_succ, List.setIfInBounds_toArray, List.set_cons_zero, List.set_cons_succ]
  refine anyT_take (i := 7) (v := .pointer (some ⟨w.heap.size + 1, 1, none⟩)) rfl (by kernel_rfl) (by kernel_rfl) (fun _ _ _ h => h) (Or.inl ⟨by rfl, ?_⟩) trivial ?_
  · intro w1 _
    go_simp
    first | with_reducible rfl | exact fun hc => absurd hc (by omega) | skip
  try simp only [Act.put, List.getElem_toArray, List.getElem_cons_zero, List.getElem_cons_succ, List.setIfInBounds_toArray, List.set_cons_zero, List.set_cons_succ]
  refine anyT_one (i := 8) (by kernel_rfl) ?_
  refine wpOp_step rfl (fun K hK => ?_)
  replace hK := Lib.hid hK
  go_simp
  refine hK.out _ _ ⟨fun _ => trivial, ?_⟩
  clear hK K
  try simp only [Act.put, List.getElem_toArray, List.getElem_cons_zero, List.getElem_cons_succ, List.setIfInBounds_toArray, List.set_cons_zero, List.set_cons_succ]
  refine anyT_done (by kernel_rfl) ?_ _
  all_goals
    go_wp2_with fail
    go_quiet ((go_at_call 96; exact (cD.out _).mono fun e w1 ⟨he, hw1⟩ => ⟨he, _, hw1⟩))
    go_wp2_with fail
    refine bodyPost_ret (v := .tuple #[.agg #[.string ⟨#[]⟩, .string ⟨#[]⟩, .int .i64 0, .bool false, .bool false], .int .i64 5]) (by simp [results, Tryz.results68, go_sem]) rfl ⟨rfl, ?_⟩
    go_grown
    all_goals exact below_drewN (by go_grown) _
set_option maxRecDepth 100000 in
set_option maxHeartbeats 3200000 in
theorem scan_s_ok (s : ByteArray) (w : World) (hs : s.size ≤ maxLen) (h : Nat) (hh : dA s 10 = h) (hl : h < s.size) (hq : bt s h = 39) (r : ByteArray) (hr : s.extract (h + 1) s.size = r) (h0 : 0 < r.size) (h1 : bt r 0 = 115) (t : ByteArray) (ht : r.extract 1 r.size = t) (k0 : 0 < t.size) (b : Nat) (hb : baseV (bt t 0) = b) (hbp : 0 < b) (hb16 : b ≤ 16) (d : ByteArray) (hd : t.extract 1 t.size = d) (d0 : 0 < d.size) (hf : dA d b = d.size) :
    Calls Tryz.prog 68 #[.string s] w (RV w (pv (s.extract 0 h) d b true true 0)) := by
  have cA : ∀ w, Calls Tryz.prog 96 #[.string s, .int .i64 10] w fun e w' => e = .returned (.int .i64 (dA s 10 : Int)) ∧ w' = w := fun w => digitsAhead_t s 10 w hs (by omega)
  rw [hh] at cA
  replace cA := Lib.hid cA
  unfold maxLen at hs
  have hbt := bt_at s h hl
  have hb2 := bt_lt s h
  have n0 : ((h : Int) == (s.size : Int)) = false := by simp; omega
  have n0' : (h == s.size) = false := by simp; omega
  clear hh
  rw [hq] at hbt
  clear hq hb2
  obtain ⟨r1, r2⟩ := nemp r h0
  have hb0 := bt_at r 0 h0
  have hl0 := bt_lt r 0
  rw [h1] at hb0
  clear h1 hl0
  have hrs : r.size ≤ 9223372036854775807 := by rw [← hr]; simp; omega
  have hts : t.size ≤ 9223372036854775807 := by rw [← ht]; simp; omega
  obtain ⟨t1, t2⟩ := nemp t k0
  have hbk := bt_at t 0 k0
  have hlk := bt_lt t 0
  have cB := fun w => baseOf_t (bt t 0) w hlk
  rw [hb] at cB
  clear hb
  have nb : ((b : Int) == 0) = false := by simp; omega
  have hds : d.size ≤ maxLen := by rw [← hd]; unfold maxLen; simp; omega
  obtain ⟨d1, d2⟩ := nemp d d0
  have cD := fun w => digitsAhead_t d b w hds hb16
  rw [hf] at cD
  generalize dA d b = db at *
  replace cD := Lib.hid cD
  clear hf
  clear hbp hb16
  replace cB := Lib.hid cB
  generalize bt t 0 = c0 at *
  go_enter Tryz.func68, Tryz.ntmps68
  go_wp2_with (go_at_call 96; (with_reducible refine (cA.out _).mono ?_); rintro e w' ⟨rfl, rfl⟩)
  refine region_anyT (n := 8) (S := fun _ => True) (by kernel_rfl) ?_
  refine anyT_take (i := 0) (v := .string t) rfl (by kernel_rfl) (by kernel_rfl) (fun _ _ _ h => h) (Or.inl ⟨by rfl, ?_⟩) trivial ?_
  · intro w1 _
    go_simp
    first | with_reducible rfl | exact fun hc => absurd hc (by omega) | skip
  try simp only [Act.put, List.getElem_toArray, List.getElem_cons_zero, List.setIfInBounds_toArray, List.set_cons_zero, List.set_cons_succ]
  refine anyT_take (i := 1) (v := .int .u8 (c0 : Int)) rfl (by kernel_rfl) (by kernel_rfl) (fun _ _ _ h => h) (Or.inl ⟨by rfl, ?_⟩) trivial ?_
  · intro w1 _
    go_simp
    first | with_reducible rfl | exact fun hc => absurd hc (by omega) | skip
  try simp only [Act.put, List.getElem_toArray, List.getElem_cons_zero, List.getElem_cons_succ, List.setIfInBounds_toArray, List.set_cons_zero, List.set_cons_succ]
  refine anyT_take (i := 3) (v := .string t) rfl (by kernel_rfl) (by kernel_rfl) (fun _ _ _ h => h) (Or.inl ⟨by rfl, ?_⟩) trivial ?_
  · intro w1 _
    go_simp
    first | with_reducible rfl | exact fun hc => absurd hc (by omega) | skip
  try simp only [Act.put, List.getElem_toArray, List.getElem_cons_zero, List.getElem_cons_succ, List.setIfInBounds_toArray, List.set_cons_zero, List.set_cons_succ]
  refine anyT_take (i := 4) (v := .string d) rfl (by kernel_rfl) (by kernel_rfl) (fun _ _ _ h => h) (Or.inl ⟨by rfl, ?_⟩) trivial ?_
  · intro w1 _
    go_simp
    first | with_reducible rfl | exact fun hc => absurd hc (by omega) | skip
  try simp only [Act.put, List.getElem_toArray, List.getElem_cons_zero, List.getElem_cons_succ, List.setIfInBounds_toArray, List.set_cons_zero, List.set_cons_succ]
  refine anyT_one (i := 2) (by kernel_rfl) ?_
  refine wpOp_step rfl (fun K hK => ?_)
  replace hK := Lib.hid hK
  go_simp
  (with_reducible refine (cB.out _).mono ?_)
  rintro e w2 ⟨rfl, hw2⟩
  subst hw2
  refine hK.out _ _ ⟨fun _ => trivial, ?_⟩
  clear hK K
  try simp only [Act.put, List.getElem_toArray, List.getElem_cons_zero, List.getElem_cons_succ, List.setIfInBounds_toArray, List.set_cons_zero, List.set_cons_succ]
  refine anyT_take (i := 5) (v := .pointer (some ⟨w.heap.size + 1, 2, none⟩)) rfl (by kernel_rfl) (by kernel_rfl) (fun _ _ _ h => h) (Or.inl ⟨by rfl, ?_⟩) trivial ?_
  · intro w1 _
    go_simp
    first | with_reducible rfl | exact fun hc => absurd hc (by omega) | skip
  try simp only [Act.put, List.getElem_toArray, List.getElem_cons_zero, List.getElem_cons_succ, List.setIfInBounds_toArray, List.set_cons_zero, List.set_cons_succ]
  refine anyT_one (i := 6) (by kernel_rfl) ?_
  refine wpOp_step rfl (fun K hK => ?_)
  replace hK := Lib.hid hK
  go_simp
  refine hK.out _ _ ⟨fun _ => trivial, ?_⟩
  clear hK K
  try simp only [Act.put, List.getElem_toArray, List.getElem_cons_zero, List.getElem_cons_succ, List.setIfInBounds_toArray, List.set_cons_zero, List.set_cons_succ]
  refine anyT_take (i := 7) (v := .pointer (some ⟨w.heap.size + 1, 1, none⟩)) rfl (by kernel_rfl) (by kernel_rfl) (fun _ _ _ h => h) (Or.inl ⟨by rfl, ?_⟩) trivial ?_
  · intro w1 _
    go_simp
    first | with_reducible rfl | exact fun hc => absurd hc (by omega) | skip
  try simp only [Act.put, List.getElem_toArray, List.getElem_cons_zero, List.getElem_cons_succ, List.setIfInBounds_toArray, List.set_cons_zero, List.set_cons_succ]
  refine anyT_one (i := 8) (by kernel_rfl) ?_
  refine wpOp_step rfl (fun K hK => ?_)
  replace hK := Lib.hid hK
  go_simp
  refine hK.out _ _ ⟨fun _ => trivial, ?_⟩
  clear hK K
  try simp only [Act.put, List.getElem_toArray, List.getElem_cons_zero, List.getElem_cons_succ, List.setIfInBounds_toArray, List.set_cons_zero, List.set_cons_succ]
  refine anyT_done (by kernel_rfl) ?_ _
  all_goals
    go_wp2_with fail
    go_quiet ((go_at_call 96; exact (cD.out _).mono fun e w1 ⟨he, hw1⟩ => ⟨he, _, hw1⟩))
    go_wp2_with fail
    refine bodyPost_ret (v := .tuple #[.agg #[.string (s.extract 0 h), .string d, .int .i64 (b : Int), .bool true, .bool true], .int .i64 0]) (by simp [results, Tryz.results68, go_sem]) rfl ⟨rfl, ?_⟩
    go_grown
    all_goals exact below_drewN (by go_grown) _
set_option maxRecDepth 100000 in
set_option maxHeartbeats 3200000 in
theorem scan_S_end (s : ByteArray) (w : World) (hs : s.size ≤ maxLen) (h : Nat) (hh : dA s 10 = h) (hl : h < s.size) (hq : bt s h = 39) (r : ByteArray) (hr : s.extract (h + 1) s.size = r) (h0 : 0 < r.size) (h1 : bt r 0 = 83) (t : ByteArray) (ht : r.extract 1 r.size = t) (k0 : t.size = 0) :
    Calls Tryz.prog 68 #[.string s] w (RV w (pv ⟨#[]⟩ ⟨#[]⟩ 0 false false 6)) := by
  have cA : ∀ w, Calls Tryz.prog 96 #[.string s, .int .i64 10] w fun e w' => e = .returned (.int .i64 (dA s 10 : Int)) ∧ w' = w := fun w => digitsAhead_t s 10 w hs (by omega)
  rw [hh] at cA
  replace cA := Lib.hid cA
  unfold maxLen at hs
  have hbt := bt_at s h hl
  have hb2 := bt_lt s h
  have n0 : ((h : Int) == (s.size : Int)) = false := by simp; omega
  have n0' : (h == s.size) = false := by simp; omega
  clear hh
  rw [hq] at hbt
  clear hq hb2
  obtain ⟨r1, r2⟩ := nemp r h0
  have hb0 := bt_at r 0 h0
  have hl0 := bt_lt r 0
  rw [h1] at hb0
  clear h1 hl0
  have hrs : r.size ≤ 9223372036854775807 := by rw [← hr]; simp; omega
  have hts : t.size ≤ 9223372036854775807 := by rw [← ht]; simp; omega
  obtain ⟨t1, t2⟩ := emp t k0
  clear k0
  go_enter Tryz.func68, Tryz.ntmps68
  go_wp2_with (go_at_call 96; (with_reducible refine (cA.out _).mono ?_); rintro e w' ⟨rfl, rfl⟩)
  refine bodyPost_ret (v := .tuple #[.agg #[.string ⟨#[]⟩, .string ⟨#[]⟩, .int .i64 0, .bool false, .bool false], .int .i64 6]) (by simp [results, Tryz.results68, go_sem]) rfl ⟨rfl, ?_⟩
  go_grown
set_option maxRecDepth 100000 in
set_option maxHeartbeats 3200000 in
theorem scan_S_base (s : ByteArray) (w : World) (hs : s.size ≤ maxLen) (h : Nat) (hh : dA s 10 = h) (hl : h < s.size) (hq : bt s h = 39) (r : ByteArray) (hr : s.extract (h + 1) s.size = r) (h0 : 0 < r.size) (h1 : bt r 0 = 83) (t : ByteArray) (ht : r.extract 1 r.size = t) (k0 : 0 < t.size) (hb : baseV (bt t 0) = 0) :
    Calls Tryz.prog 68 #[.string s] w (RV w (pv ⟨#[]⟩ ⟨#[]⟩ 0 false false 5)) := by
  have cA : ∀ w, Calls Tryz.prog 96 #[.string s, .int .i64 10] w fun e w' => e = .returned (.int .i64 (dA s 10 : Int)) ∧ w' = w := fun w => digitsAhead_t s 10 w hs (by omega)
  rw [hh] at cA
  replace cA := Lib.hid cA
  unfold maxLen at hs
  have hbt := bt_at s h hl
  have hb2 := bt_lt s h
  have n0 : ((h : Int) == (s.size : Int)) = false := by simp; omega
  have n0' : (h == s.size) = false := by simp; omega
  clear hh
  rw [hq] at hbt
  clear hq hb2
  obtain ⟨r1, r2⟩ := nemp r h0
  have hb0 := bt_at r 0 h0
  have hl0 := bt_lt r 0
  rw [h1] at hb0
  clear h1 hl0
  have hrs : r.size ≤ 9223372036854775807 := by rw [← hr]; simp; omega
  have hts : t.size ≤ 9223372036854775807 := by rw [← ht]; simp; omega
  obtain ⟨t1, t2⟩ := nemp t k0
  have hbk := bt_at t 0 k0
  have hlk := bt_lt t 0
  have cB := fun w => baseOf_t (bt t 0) w hlk
  rw [hb] at cB
  clear hb
  replace cB := Lib.hid cB
  generalize bt t 0 = c0 at *
  go_enter Tryz.func68, Tryz.ntmps68
  go_wp2_with (go_at_call 96; (with_reducible refine (cA.out _).mono ?_); rintro e w' ⟨rfl, rfl⟩)
  refine region_anyT (n := 8) (S := fun _ => True) (by kernel_rfl) ?_
  refine anyT_take (i := 0) (v := .string t) rfl (by kernel_rfl) (by kernel_rfl) (fun _ _ _ h => h) (Or.inl ⟨by rfl, ?_⟩) trivial ?_
  · intro w1 _
    go_simp
    first | with_reducible rfl | exact fun hc => absurd hc (by omega) | skip
  try simp only [Act.put, List.getElem_toArray, List.getElem_cons_zero, List.setIfInBounds_toArray, List.set_cons_zero, List.set_cons_succ]
  refine anyT_take (i := 1) (v := .int .u8 (c0 : Int)) rfl (by kernel_rfl) (by kernel_rfl) (fun _ _ _ h => h) (Or.inl ⟨by rfl, ?_⟩) trivial ?_
  · intro w1 _
    go_simp
    first | with_reducible rfl | exact fun hc => absurd hc (by omega) | skip
  try simp only [Act.put, List.getElem_toArray, List.getElem_cons_zero, List.getElem_cons_succ, List.setIfInBounds_toArray, List.set_cons_zero, List.set_cons_succ]
  refine anyT_take (i := 3) (v := .string t) rfl (by kernel_rfl) (by kernel_rfl) (fun _ _ _ h => h) (Or.inl ⟨by rfl, ?_⟩) trivial ?_
  · intro w1 _
    go_simp
    first | with_reducible rfl | exact fun hc => absurd hc (by omega) | skip
  try simp only [Act.put, List.getElem_toArray, List.getElem_cons_zero, List.getElem_cons_succ, List.setIfInBounds_toArray, List.set_cons_zero, List.set_cons_succ]
  refine anyT_take (i := 4) (v := .string (t.extract 1 t.size)) rfl (by kernel_rfl) (by kernel_rfl) (fun _ _ _ h => h) (Or.inl ⟨by rfl, ?_⟩) trivial ?_
  · intro w1 _
    go_simp
    first | with_reducible rfl | exact fun hc => absurd hc (by omega) | skip
  try simp only [Act.put, List.getElem_toArray, List.getElem_cons_zero, List.getElem_cons_succ, List.setIfInBounds_toArray, List.set_cons_zero, List.set_cons_succ]
  refine anyT_one (i := 2) (by kernel_rfl) ?_
  refine wpOp_step rfl (fun K hK => ?_)
  replace hK := Lib.hid hK
  go_simp
  (with_reducible refine (cB.out _).mono ?_)
  rintro e w2 ⟨rfl, hw2⟩
  subst hw2
  refine hK.out _ _ ⟨fun _ => trivial, ?_⟩
  clear hK K
  try simp only [Act.put, List.getElem_toArray, List.getElem_cons_zero, List.getElem_cons_succ, List.setIfInBounds_toArray, List.set_cons_zero, List.set_cons_succ]
  refine anyT_take (i := 5) (v := .pointer (some ⟨w.heap.size + 1, 2, none⟩)) rfl (by kernel_rfl) (by kernel_rfl) (fun _ _ _ h => h) (Or.inl ⟨by rfl, ?_⟩) trivial ?_
  · intro w1 _
    go_simp
    first | with_reducible rfl | exact fun hc => absurd hc (by omega) | skip
  try simp only [Act.put, List.getElem_toArray, List.getElem_cons_zero, List.getElem_cons_succ, List.setIfInBounds_toArray, List.set_cons_zero, List.set_cons_succ]
  refine anyT_one (i := 6) (by kernel_rfl) ?_
  refine wpOp_step rfl (fun K hK => ?_)
  replace hK := Lib.hid hK
  go_simp
  refine hK.out _ _ ⟨fun _ => trivial, ?_⟩
  clear hK K
  try simp only [Act.put, List.getElem_toArray, List.getElem_cons_zero, List.getElem_cons_succ, List.setIfInBounds_toArray, List.set_cons_zero, List.set_cons_succ]
  refine anyT_take (i := 7) (v := .pointer (some ⟨w.heap.size + 1, 1, none⟩)) rfl (by kernel_rfl) (by kernel_rfl) (fun _ _ _ h => h) (Or.inl ⟨by rfl, ?_⟩) trivial ?_
  · intro w1 _
    go_simp
    first | with_reducible rfl | exact fun hc => absurd hc (by omega) | skip
  try simp only [Act.put, List.getElem_toArray, List.getElem_cons_zero, List.getElem_cons_succ, List.setIfInBounds_toArray, List.set_cons_zero, List.set_cons_succ]
  refine anyT_one (i := 8) (by kernel_rfl) ?_
  refine wpOp_step rfl (fun K hK => ?_)
  replace hK := Lib.hid hK
  go_simp
  refine hK.out _ _ ⟨fun _ => trivial, ?_⟩
  clear hK K
  try simp only [Act.put, List.getElem_toArray, List.getElem_cons_zero, List.getElem_cons_succ, List.setIfInBounds_toArray, List.set_cons_zero, List.set_cons_succ]
  refine anyT_done (by kernel_rfl) ?_ _
  all_goals
    go_wp2_with fail
    refine bodyPost_ret (v := .tuple #[.agg #[.string ⟨#[]⟩, .string ⟨#[]⟩, .int .i64 0, .bool false, .bool false], .int .i64 5]) (by simp [results, Tryz.results68, go_sem]) rfl ⟨rfl, ?_⟩
    go_grown
set_option maxRecDepth 100000 in
set_option maxHeartbeats 3200000 in
theorem scan_S_dend (s : ByteArray) (w : World) (hs : s.size ≤ maxLen) (h : Nat) (hh : dA s 10 = h) (hl : h < s.size) (hq : bt s h = 39) (r : ByteArray) (hr : s.extract (h + 1) s.size = r) (h0 : 0 < r.size) (h1 : bt r 0 = 83) (t : ByteArray) (ht : r.extract 1 r.size = t) (k0 : 0 < t.size) (b : Nat) (hb : baseV (bt t 0) = b) (hbp : 0 < b) (hb16 : b ≤ 16) (d : ByteArray) (hd : t.extract 1 t.size = d) (d0 : d.size = 0) :
    Calls Tryz.prog 68 #[.string s] w (RV w (pv ⟨#[]⟩ ⟨#[]⟩ 0 false false 6)) := by
  have cA : ∀ w, Calls Tryz.prog 96 #[.string s, .int .i64 10] w fun e w' => e = .returned (.int .i64 (dA s 10 : Int)) ∧ w' = w := fun w => digitsAhead_t s 10 w hs (by omega)
  rw [hh] at cA
  replace cA := Lib.hid cA
  unfold maxLen at hs
  have hbt := bt_at s h hl
  have hb2 := bt_lt s h
  have n0 : ((h : Int) == (s.size : Int)) = false := by simp; omega
  have n0' : (h == s.size) = false := by simp; omega
  clear hh
  rw [hq] at hbt
  clear hq hb2
  obtain ⟨r1, r2⟩ := nemp r h0
  have hb0 := bt_at r 0 h0
  have hl0 := bt_lt r 0
  rw [h1] at hb0
  clear h1 hl0
  have hrs : r.size ≤ 9223372036854775807 := by rw [← hr]; simp; omega
  have hts : t.size ≤ 9223372036854775807 := by rw [← ht]; simp; omega
  obtain ⟨t1, t2⟩ := nemp t k0
  have hbk := bt_at t 0 k0
  have hlk := bt_lt t 0
  have cB := fun w => baseOf_t (bt t 0) w hlk
  rw [hb] at cB
  clear hb
  have nb : ((b : Int) == 0) = false := by simp; omega
  have hds : d.size ≤ maxLen := by rw [← hd]; unfold maxLen; simp; omega
  obtain ⟨d1, d2⟩ := emp d d0
  clear d0
  clear hbp hb16
  replace cB := Lib.hid cB
  generalize bt t 0 = c0 at *
  go_enter Tryz.func68, Tryz.ntmps68
  go_wp2_with (go_at_call 96; (with_reducible refine (cA.out _).mono ?_); rintro e w' ⟨rfl, rfl⟩)
  refine region_anyT (n := 8) (S := fun _ => True) (by kernel_rfl) ?_
  refine anyT_take (i := 0) (v := .string t) rfl (by kernel_rfl) (by kernel_rfl) (fun _ _ _ h => h) (Or.inl ⟨by rfl, ?_⟩) trivial ?_
  · intro w1 _
    go_simp
    first | with_reducible rfl | exact fun hc => absurd hc (by omega) | skip
  try simp only [Act.put, List.getElem_toArray, List.getElem_cons_zero, List.setIfInBounds_toArray, List.set_cons_zero, List.set_cons_succ]
  refine anyT_take (i := 1) (v := .int .u8 (c0 : Int)) rfl (by kernel_rfl) (by kernel_rfl) (fun _ _ _ h => h) (Or.inl ⟨by rfl, ?_⟩) trivial ?_
  · intro w1 _
    go_simp
    first | with_reducible rfl | exact fun hc => absurd hc (by omega) | skip
  try simp only [Act.put, List.getElem_toArray, List.getElem_cons_zero, List.getElem_cons_succ, List.setIfInBounds_toArray, List.set_cons_zero, List.set_cons_succ]
  refine anyT_take (i := 3) (v := .string t) rfl (by kernel_rfl) (by kernel_rfl) (fun _ _ _ h => h) (Or.inl ⟨by rfl, ?_⟩) trivial ?_
  · intro w1 _
    go_simp
    first | with_reducible rfl | exact fun hc => absurd hc (by omega) | skip
  try simp only [Act.put, List.getElem_toArray, List.getElem_cons_zero, List.getElem_cons_succ, List.setIfInBounds_toArray, List.set_cons_zero, List.set_cons_succ]
  refine anyT_take (i := 4) (v := .string d) rfl (by kernel_rfl) (by kernel_rfl) (fun _ _ _ h => h) (Or.inl ⟨by rfl, ?_⟩) trivial ?_
  · intro w1 _
    go_simp
    first | with_reducible rfl | exact fun hc => absurd hc (by omega) | skip
  try simp only [Act.put, List.getElem_toArray, List.getElem_cons_zero, List.getElem_cons_succ, List.setIfInBounds_toArray, List.set_cons_zero, List.set_cons_succ]
  refine anyT_one (i := 2) (by kernel_rfl) ?_
  refine wpOp_step rfl (fun K hK => ?_)
  replace hK := Lib.hid hK
  go_simp
  (with_reducible refine (cB.out _).mono ?_)
  rintro e w2 ⟨rfl, hw2⟩
  subst hw2
  refine hK.out _ _ ⟨fun _ => trivial, ?_⟩
  clear hK K
  try simp only [Act.put, List.getElem_toArray, List.getElem_cons_zero, List.getElem_cons_succ, List.setIfInBounds_toArray, List.set_cons_zero, List.set_cons_succ]
  refine anyT_take (i := 5) (v := .pointer (some ⟨w.heap.size + 1, 2, none⟩)) rfl (by kernel_rfl) (by kernel_rfl) (fun _ _ _ h => h) (Or.inl ⟨by rfl, ?_⟩) trivial ?_
  · intro w1 _
    go_simp
    first | with_reducible rfl | exact fun hc => absurd hc (by omega) | skip
  try simp only [Act.put, List.getElem_toArray, List.getElem_cons_zero, List.getElem_cons_succ, List.setIfInBounds_toArray, List.set_cons_zero, List.set_cons_succ]
  refine anyT_one (i := 6) (by kernel_rfl) ?_
  refine wpOp_step rfl (fun K hK => ?_)
  replace hK := Lib.hid hK
  go_simp
  refine hK.out _ _ ⟨fun _ => trivial, ?_⟩
  clear hK K
  try simp only [Act.put, List.getElem_toArray, List.getElem_cons_zero, List.getElem_cons_succ, List.setIfInBounds_toArray, List.set_cons_zero, List.set_cons_succ]
  refine anyT_take (i := 7) (v := .pointer (some ⟨w.heap.size + 1, 1, none⟩)) rfl (by kernel_rfl) (by kernel_rfl) (fun _ _ _ h => h) (Or.inl ⟨by rfl, ?_⟩) trivial ?_
  · intro w1 _
    go_simp
    first | with_reducible rfl | exact fun hc => absurd hc (by omega) | skip
  try simp only [Act.put, List.getElem_toArray, List.getElem_cons_zero, List.getElem_cons_succ, List.setIfInBounds_toArray, List.set_cons_zero, List.set_cons_succ]
  refine anyT_one (i := 8) (by kernel_rfl) ?_
  refine wpOp_step rfl (fun K hK => ?_)
  replace hK := Lib.hid hK
  go_simp
  refine hK.out _ _ ⟨fun _ => trivial, ?_⟩
  clear hK K
  try simp only [Act.put, List.getElem_toArray, List.getElem_cons_zero, List.getElem_cons_succ, List.setIfInBounds_toArray, List.set_cons_zero, List.set_cons_succ]
  refine anyT_done (by kernel_rfl) ?_ _
  all_goals
    go_wp2_with fail
    refine bodyPost_ret (v := .tuple #[.agg #[.string ⟨#[]⟩, .string ⟨#[]⟩, .int .i64 0, .bool false, .bool false], .int .i64 6]) (by simp [results, Tryz.results68, go_sem]) rfl ⟨rfl, ?_⟩
    go_grown
set_option maxRecDepth 100000 in
set_option maxHeartbeats 3200000 in
theorem scan_S_dform (s : ByteArray) (w : World) (hs : s.size ≤ maxLen) (h : Nat) (hh : dA s 10 = h) (hl : h < s.size) (hq : bt s h = 39) (r : ByteArray) (hr : s.extract (h + 1) s.size = r) (h0 : 0 < r.size) (h1 : bt r 0 = 83) (t : ByteArray) (ht : r.extract 1 r.size = t) (k0 : 0 < t.size) (b : Nat) (hb : baseV (bt t 0) = b) (hbp : 0 < b) (hb16 : b ≤ 16) (d : ByteArray) (hd : t.extract 1 t.size = d) (d0 : 0 < d.size) (hf : dA d b < d.size) :
    Calls Tryz.prog 68 #[.string s] w (RV w (pv ⟨#[]⟩ ⟨#[]⟩ 0 false false 5)) := by
  have cA : ∀ w, Calls Tryz.prog 96 #[.string s, .int .i64 10] w fun e w' => e = .returned (.int .i64 (dA s 10 : Int)) ∧ w' = w := fun w => digitsAhead_t s 10 w hs (by omega)
  rw [hh] at cA
  replace cA := Lib.hid cA
  unfold maxLen at hs
  have hbt := bt_at s h hl
  have hb2 := bt_lt s h
  have n0 : ((h : Int) == (s.size : Int)) = false := by simp; omega
  have n0' : (h == s.size) = false := by simp; omega
  clear hh
  rw [hq] at hbt
  clear hq hb2
  obtain ⟨r1, r2⟩ := nemp r h0
  have hb0 := bt_at r 0 h0
  have hl0 := bt_lt r 0
  rw [h1] at hb0
  clear h1 hl0
  have hrs : r.size ≤ 9223372036854775807 := by rw [← hr]; simp; omega
  have hts : t.size ≤ 9223372036854775807 := by rw [← ht]; simp; omega
  obtain ⟨t1, t2⟩ := nemp t k0
  have hbk := bt_at t 0 k0
  have hlk := bt_lt t 0
  have cB := fun w => baseOf_t (bt t 0) w hlk
  rw [hb] at cB
  clear hb
  have nb : ((b : Int) == 0) = false := by simp; omega
  have hds : d.size ≤ maxLen := by rw [← hd]; unfold maxLen; simp; omega
  obtain ⟨d1, d2⟩ := nemp d d0
  have cD := fun w => digitsAhead_t d b w hds hb16
  have f1 : decide (((dA d b : Nat) : Int) < (d.size : Int)) = true := by simp; omega
  have f2 : decide (dA d b < d.size) = true := by simp; omega
  generalize dA d b = db at *
  replace cD := Lib.hid cD
  clear hf
  clear hbp hb16
  replace cB := Lib.hid cB
  generalize bt t 0 = c0 at *
  go_enter Tryz.func68, Tryz.ntmps68
  go_wp2_with (go_at_call 96; (with_reducible refine (cA.out _).mono ?_); rintro e w' ⟨rfl, rfl⟩)
  refine region_anyT (n := 8) (S := fun _ => True) (by kernel_rfl) ?_
  refine anyT_take (i := 0) (v := .string t) rfl (by kernel_rfl) (by kernel_rfl) (fun _ _ _ h => h) (Or.inl ⟨by rfl, ?_⟩) trivial ?_
  · intro w1 _
    go_simp
    first | with_reducible rfl | exact fun hc => absurd hc (by omega) | skip
  try simp only [Act.put, List.getElem_toArray, List.getElem_cons_zero, List.setIfInBounds_toArray, List.set_cons_zero, List.set_cons_succ]
  refine anyT_take (i := 1) (v := .int .u8 (c0 : Int)) rfl (by kernel_rfl) (by kernel_rfl) (fun _ _ _ h => h) (Or.inl ⟨by rfl, ?_⟩) trivial ?_
  · intro w1 _
    go_simp
    first | with_reducible rfl | exact fun hc => absurd hc (by omega) | skip
  try simp only [Act.put, List.getElem_toArray, List.getElem_cons_zero, List.getElem_cons_succ, List.setIfInBounds_toArray, List.set_cons_zero, List.set_cons_succ]
  refine anyT_take (i := 3) (v := .string t) rfl (by kernel_rfl) (by kernel_rfl) (fun _ _ _ h => h) (Or.inl ⟨by rfl, ?_⟩) trivial ?_
  · intro w1 _
    go_simp
    first | with_reducible rfl | exact fun hc => absurd hc (by omega) | skip
  try simp only [Act.put, List.getElem_toArray, List.getElem_cons_zero, List.getElem_cons_succ, List.setIfInBounds_toArray, List.set_cons_zero, List.set_cons_succ]
  refine anyT_take (i := 4) (v := .string d) rfl (by kernel_rfl) (by kernel_rfl) (fun _ _ _ h => h) (Or.inl ⟨by rfl, ?_⟩) trivial ?_
  · intro w1 _
    go_simp
    first | with_reducible rfl | exact fun hc => absurd hc (by omega) | skip
  try simp only [Act.put, List.getElem_toArray, List.getElem_cons_zero, List.getElem_cons_succ, List.setIfInBounds_toArray, List.set_cons_zero, List.set_cons_succ]
  refine anyT_one (i := 2) (by kernel_rfl) ?_
  refine wpOp_step rfl (fun K hK => ?_)
  replace hK := Lib.hid hK
  go_simp
  (with_reducible refine (cB.out _).mono ?_)
  rintro e w2 ⟨rfl, hw2⟩
  subst hw2
  refine hK.out _ _ ⟨fun _ => trivial, ?_⟩
  clear hK K
  try simp only [Act.put, List.getElem_toArray, List.getElem_cons_zero, List.getElem_cons_succ, List.setIfInBounds_toArray, List.set_cons_zero, List.set_cons_succ]
  refine anyT_take (i := 5) (v := .pointer (some ⟨w.heap.size + 1, 2, none⟩)) rfl (by kernel_rfl) (by kernel_rfl) (fun _ _ _ h => h) (Or.inl ⟨by rfl, ?_⟩) trivial ?_
  · intro w1 _
    go_simp
    first | with_reducible rfl | exact fun hc => absurd hc (by omega) | skip
  try simp only [Act.put, List.getElem_toArray, List.getElem_cons_zero, List.getElem_cons_succ, List.setIfInBounds_toArray, List.set_cons_zero, List.set_cons_succ]
  refine anyT_one (i := 6) (by kernel_rfl) ?_
  refine wpOp_step rfl (fun K hK => ?_)
  replace hK := Lib.hid hK
  go_simp
  refine hK.out _ _ ⟨fun _ => trivial, ?_⟩
  clear hK K
  try simp only [Act.put, List.getElem_toArray, List.getElem_cons_zero, List.getElem_cons_succ, List.setIfInBounds_toArray, List.set_cons_zero, List.set_cons_succ]
  refine anyT_take (i := 7) (v := .pointer (some ⟨w.heap.size + 1, 1, none⟩)) rfl (by kernel_rfl) (by kernel_rfl) (fun _ _ _ h => h) (Or.inl ⟨by rfl, ?_⟩) trivial ?_
  · intro w1 _
    go_simp
    first | with_reducible rfl | exact fun hc => absurd hc (by omega) | skip
  try simp only [Act.put, List.getElem_toArray, List.getElem_cons_zero, List.getElem_cons_succ, List.setIfInBounds_toArray, List.set_cons_zero, List.set_cons_succ]
  refine anyT_one (i := 8) (by kernel_rfl) ?_
  refine wpOp_step rfl (fun K hK => ?_)
  replace hK := Lib.hid hK
  go_simp
  refine hK.out _ _ ⟨fun _ => trivial, ?_⟩
  clear hK K
  try simp only [Act.put, List.getElem_toArray, List.getElem_cons_zero, List.getElem_cons_succ, List.setIfInBounds_toArray, List.set_cons_zero, List.set_cons_succ]
  refine anyT_done (by kernel_rfl) ?_ _
  all_goals
    go_wp2_with fail
    go_quiet ((go_at_call 96; exact (cD.out _).mono fun e w1 ⟨he, hw1⟩ => ⟨he, _, hw1⟩))
    go_wp2_with fail
    refine bodyPost_ret (v := .tuple #[.agg #[.string ⟨#[]⟩, .string ⟨#[]⟩, .int .i64 0, .bool false, .bool false], .int .i64 5]) (by simp [results, Tryz.results68, go_sem]) rfl ⟨rfl, ?_⟩
    go_grown
    all_goals exact below_drewN (by go_grown) _
set_option maxRecDepth 100000 in
set_option maxHeartbeats 3200000 in
theorem scan_S_ok (s : ByteArray) (w : World) (hs : s.size ≤ maxLen) (h : Nat) (hh : dA s 10 = h) (hl : h < s.size) (hq : bt s h = 39) (r : ByteArray) (hr : s.extract (h + 1) s.size = r) (h0 : 0 < r.size) (h1 : bt r 0 = 83) (t : ByteArray) (ht : r.extract 1 r.size = t) (k0 : 0 < t.size) (b : Nat) (hb : baseV (bt t 0) = b) (hbp : 0 < b) (hb16 : b ≤ 16) (d : ByteArray) (hd : t.extract 1 t.size = d) (d0 : 0 < d.size) (hf : dA d b = d.size) :
    Calls Tryz.prog 68 #[.string s] w (RV w (pv (s.extract 0 h) d b true true 0)) := by
  have cA : ∀ w, Calls Tryz.prog 96 #[.string s, .int .i64 10] w fun e w' => e = .returned (.int .i64 (dA s 10 : Int)) ∧ w' = w := fun w => digitsAhead_t s 10 w hs (by omega)
  rw [hh] at cA
  replace cA := Lib.hid cA
  unfold maxLen at hs
  have hbt := bt_at s h hl
  have hb2 := bt_lt s h
  have n0 : ((h : Int) == (s.size : Int)) = false := by simp; omega
  have n0' : (h == s.size) = false := by simp; omega
  clear hh
  rw [hq] at hbt
  clear hq hb2
  obtain ⟨r1, r2⟩ := nemp r h0
  have hb0 := bt_at r 0 h0
  have hl0 := bt_lt r 0
  rw [h1] at hb0
  clear h1 hl0
  have hrs : r.size ≤ 9223372036854775807 := by rw [← hr]; simp; omega
  have hts : t.size ≤ 9223372036854775807 := by rw [← ht]; simp; omega
  obtain ⟨t1, t2⟩ := nemp t k0
  have hbk := bt_at t 0 k0
  have hlk := bt_lt t 0
  have cB := fun w => baseOf_t (bt t 0) w hlk
  rw [hb] at cB
  clear hb
  have nb : ((b : Int) == 0) = false := by simp; omega
  have hds : d.size ≤ maxLen := by rw [← hd]; unfold maxLen; simp; omega
  obtain ⟨d1, d2⟩ := nemp d d0
  have cD := fun w => digitsAhead_t d b w hds hb16
  rw [hf] at cD
  generalize dA d b = db at *
  replace cD := Lib.hid cD
  clear hf
  clear hbp hb16
  replace cB := Lib.hid cB
  generalize bt t 0 = c0 at *
  go_enter Tryz.func68, Tryz.ntmps68
  go_wp2_with (go_at_call 96; (with_reducible refine (cA.out _).mono ?_); rintro e w' ⟨rfl, rfl⟩)
  refine region_anyT (n := 8) (S := fun _ => True) (by kernel_rfl) ?_
  refine anyT_take (i := 0) (v := .string t) rfl (by kernel_rfl) (by kernel_rfl) (fun _ _ _ h => h) (Or.inl ⟨by rfl, ?_⟩) trivial ?_
  · intro w1 _
    go_simp
    first | with_reducible rfl | exact fun hc => absurd hc (by omega) | skip
  try simp only [Act.put, List.getElem_toArray, List.getElem_cons_zero, List.setIfInBounds_toArray, List.set_cons_zero, List.set_cons_succ]
  refine anyT_take (i := 1) (v := .int .u8 (c0 : Int)) rfl (by kernel_rfl) (by kernel_rfl) (fun _ _ _ h => h) (Or.inl ⟨by rfl, ?_⟩) trivial ?_
  · intro w1 _
    go_simp
    first | with_reducible rfl | exact fun hc => absurd hc (by omega) | skip
  try simp only [Act.put, List.getElem_toArray, List.getElem_cons_zero, List.getElem_cons_succ, List.setIfInBounds_toArray, List.set_cons_zero, List.set_cons_succ]
  refine anyT_take (i := 3) (v := .string t) rfl (by kernel_rfl) (by kernel_rfl) (fun _ _ _ h => h) (Or.inl ⟨by rfl, ?_⟩) trivial ?_
  · intro w1 _
    go_simp
    first | with_reducible rfl | exact fun hc => absurd hc (by omega) | skip
  try simp only [Act.put, List.getElem_toArray, List.getElem_cons_zero, List.getElem_cons_succ, List.setIfInBounds_toArray, List.set_cons_zero, List.set_cons_succ]
  refine anyT_take (i := 4) (v := .string d) rfl (by kernel_rfl) (by kernel_rfl) (fun _ _ _ h => h) (Or.inl ⟨by rfl, ?_⟩) trivial ?_
  · intro w1 _
    go_simp
    first | with_reducible rfl | exact fun hc => absurd hc (by omega) | skip
  try simp only [Act.put, List.getElem_toArray, List.getElem_cons_zero, List.getElem_cons_succ, List.setIfInBounds_toArray, List.set_cons_zero, List.set_cons_succ]
  refine anyT_one (i := 2) (by kernel_rfl) ?_
  refine wpOp_step rfl (fun K hK => ?_)
  replace hK := Lib.hid hK
  go_simp
  (with_reducible refine (cB.out _).mono ?_)
  rintro e w2 ⟨rfl, hw2⟩
  subst hw2
  refine hK.out _ _ ⟨fun _ => trivial, ?_⟩
  clear hK K
  try simp only [Act.put, List.getElem_toArray, List.getElem_cons_zero, List.getElem_cons_succ, List.setIfInBounds_toArray, List.set_cons_zero, List.set_cons_succ]
  refine anyT_take (i := 5) (v := .pointer (some ⟨w.heap.size + 1, 2, none⟩)) rfl (by kernel_rfl) (by kernel_rfl) (fun _ _ _ h => h) (Or.inl ⟨by rfl, ?_⟩) trivial ?_
  · intro w1 _
    go_simp
    first | with_reducible rfl | exact fun hc => absurd hc (by omega) | skip
  try simp only [Act.put, List.getElem_toArray, List.getElem_cons_zero, List.getElem_cons_succ, List.setIfInBounds_toArray, List.set_cons_zero, List.set_cons_succ]
  refine anyT_one (i := 6) (by kernel_rfl) ?_
  refine wpOp_step rfl (fun K hK => ?_)
  replace hK := Lib.hid hK
  go_simp
  refine hK.out _ _ ⟨fun _ => trivial, ?_⟩
  clear hK K
  try simp only [Act.put, List.getElem_toArray, List.getElem_cons_zero, List.getElem_cons_succ, List.setIfInBounds_toArray, List.set_cons_zero, List.set_cons_succ]
  refine anyT_take (i := 7) (v := .pointer (some ⟨w.heap.size + 1, 1, none⟩)) rfl (by kernel_rfl) (by kernel_rfl) (fun _ _ _ h => h) (Or.inl ⟨by rfl, ?_⟩) trivial ?_
  · intro w1 _
    go_simp
    first | with_reducible rfl | exact fun hc => absurd hc (by omega) | skip
  try simp only [Act.put, List.getElem_toArray, List.getElem_cons_zero, List.getElem_cons_succ, List.setIfInBounds_toArray, List.set_cons_zero, List.set_cons_succ]
  refine anyT_one (i := 8) (by kernel_rfl) ?_
  refine wpOp_step rfl (fun K hK => ?_)
  replace hK := Lib.hid hK
  go_simp
  refine hK.out _ _ ⟨fun _ => trivial, ?_⟩
  clear hK K
  try simp only [Act.put, List.getElem_toArray, List.getElem_cons_zero, List.getElem_cons_succ, List.setIfInBounds_toArray, List.set_cons_zero, List.set_cons_succ]
  refine anyT_done (by kernel_rfl) ?_ _
  all_goals
    go_wp2_with fail
    go_quiet ((go_at_call 96; exact (cD.out _).mono fun e w1 ⟨he, hw1⟩ => ⟨he, _, hw1⟩))
    go_wp2_with fail
    refine bodyPost_ret (v := .tuple #[.agg #[.string (s.extract 0 h), .string d, .int .i64 (b : Int), .bool true, .bool true], .int .i64 0]) (by simp [results, Tryz.results68, go_sem]) rfl ⟨rfl, ?_⟩
    go_grown
    all_goals exact below_drewN (by go_grown) _
end Go.Proofs.YtdjaikglkgabdaaGreatDoor
