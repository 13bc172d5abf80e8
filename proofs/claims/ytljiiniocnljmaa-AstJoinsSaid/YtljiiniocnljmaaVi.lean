/-
  MakeExpr: a call.
-/
import Derived.Test.YtljiiniocnljmaaVg
namespace Go.Proofs.Ytljiiniocnljmaa
open Go.RowKit Go.Lib
set_option maxRecDepth 100000 in
set_option maxHeartbeats 6400000 in
theorem MakeExpr_11 (p B D : Nat) (d : Int) (w : World) (hM : MKm w p B) (hd1 : 1 < d) (hd2 : d ≤ 1000)
    (hNx : ∀ (n : Nat) W, 0 < n → n ≤ 1000 → MKm W p B → Calls Try.prog 13 #[.pointer (some ⟨p, 0, none⟩), .int .i64 (n : Int)] W (NX n p B W))
    (hEs : 1 < d → ∀ (n : Nat) W, n ≤ 3 → MKm W p B → Calls Try.prog 16 #[.pointer (some ⟨p, 0, none⟩), .int .i64 (d - 1), .int .i64 (n : Int)] W (MXms D p B n W))
    (h12 : Calls Try.prog 13 #[.pointer (some ⟨p, 0, none⟩), .int .i64 12] (w.alloc (.cells #[.int .i64 0, .int .i64 0, .int .i64 0, .int .i64 0, .string ⟨#[]⟩, .slice none 0 0] 32)) fun e w' => e = .returned (.int .i64 11) ∧ MKm w' p B ∧ Keep (· = p) (w.alloc (.cells #[.int .i64 0, .int .i64 0, .int .i64 0, .int .i64 0, .string ⟨#[]⟩, .slice none 0 0] 32)) w') :
    Calls Try.prog 7 #[.pointer (some ⟨p, 0, none⟩), .int .i64 d] w (MXm (D + 1) p B w) := by
  have hpB := hM.1
  have hBw := hM.2.1
  have hZ1 : EZ (w.alloc (.cells #[.int .i64 0, .int .i64 0, .int .i64 0, .int .i64 0, .string ⟨#[]⟩, .slice none 0 0] 32)) w.heap.size := heap_alloc_new w _
  have hM1 := hM.alloc (.cells #[.int .i64 0, .int .i64 0, .int .i64 0, .int .i64 0, .string ⟨#[]⟩, .slice none 0 0] 32)
  have hK1 := Keep.al0 (· = p) w (.cells #[.int .i64 0, .int .i64 0, .int .i64 0, .int .i64 0, .string ⟨#[]⟩, .slice none 0 0] 32)
  have hs1 : (w.alloc (.cells #[.int .i64 0, .int .i64 0, .int .i64 0, .int .i64 0, .string ⟨#[]⟩, .slice none 0 0] 32)).heap.size = w.heap.size + 1 := by simp
  obtain ⟨g, hg⟩ : ∃ g, w.heap.size = g := ⟨_, rfl⟩
  rw [hg] at hZ1 hs1 hBw
  replace h12 := Lib.hid h12
  replace hNx := Lib.hid hNx
  replace hEs := Lib.hid hEs
  replace hZ1 := Lib.hid hZ1
  replace hM1 := Lib.hid hM1
  replace hK1 := Lib.hid hK1
  replace hs1 := Lib.hid hs1
  replace hM := Lib.hid hM
  go_enter Try.func7, Try.ntmps7
  go_wp2_with fail
  (with_reducible refine h12.out.mono ?_)
  rintro e w1 ⟨rfl, hM2, hk2⟩
  have hst : STm w p B g w1 := ⟨hZ1.out.keep hk2 (by omega), hM2, hK1.out.then hk2, by have := hk2.size; have := hs1.out; omega⟩
  clear hk2 hZ1 hM1 hK1 hs1 hM2 hM
  replace hst := Lib.hid hst
  have hnd : ¬ d ≤ 1 := by omega
  have hw1 : IntKind.i64.wrap (d - 1) = d - 1 := IntWalk.i64_in _ (by omega)
  have hes := hEs.out hd1
  have hes1 : ∀ W, MKm W p B → Calls Try.prog 16 #[.pointer (some ⟨p, 0, none⟩), .int .i64 (d - 1), .int .i64 1] W (MXms D p B 1 W) := fun W q => hes 1 W (by decide) q
  have hes2 : ∀ W, MKm W p B → Calls Try.prog 16 #[.pointer (some ⟨p, 0, none⟩), .int .i64 (d - 1), .int .i64 2] W (MXms D p B 2 W) := fun W q => hes 2 W (by decide) q
  have hes3 : ∀ W, MKm W p B → Calls Try.prog 16 #[.pointer (some ⟨p, 0, none⟩), .int .i64 (d - 1), .int .i64 3] W (MXms D p B 3 W) := fun W q => hes 3 W (by decide) q
  have hop := fun W => mops_t W
  have hnm := fun W (q : MKm W p B) => mname_t p B W q
  unfold NS at hnm
  replace hop := Lib.hid hop
  replace hnm := Lib.hid hnm
  have hn2 : ∀ W, MKm W p B → Calls Try.prog 13 #[.pointer (some ⟨p, 0, none⟩), .int .i64 2] W (NX 2 p B W) := fun W q => hNx.out 2 W (by decide) (by decide) q
  unfold NX at hn2
  replace hn2 := Lib.hid hn2
  have hn3 : ∀ W, MKm W p B → Calls Try.prog 13 #[.pointer (some ⟨p, 0, none⟩), .int .i64 3] W (NX 3 p B W) := fun W q => hNx.out 3 W (by decide) (by decide) q
  unfold NX at hn3
  replace hn3 := Lib.hid hn3
  have hn4 : ∀ W, MKm W p B → Calls Try.prog 13 #[.pointer (some ⟨p, 0, none⟩), .int .i64 4] W (NX 4 p B W) := fun W q => hNx.out 4 W (by decide) (by decide) q
  unfold NX at hn4
  replace hn4 := Lib.hid hn4
  have hn9 : ∀ W, MKm W p B → Calls Try.prog 13 #[.pointer (some ⟨p, 0, none⟩), .int .i64 9] W (NX 9 p B W) := fun W q => hNx.out 9 W (by decide) (by decide) q
  unfold NX at hn9
  replace hn9 := Lib.hid hn9
  have hn21 : ∀ W, MKm W p B → Calls Try.prog 13 #[.pointer (some ⟨p, 0, none⟩), .int .i64 21] W (NX 21 p B W) := fun W q => hNx.out 21 W (by decide) (by decide) q
  unfold NX at hn21
  replace hn21 := Lib.hid hn21
  unfold MXms at hes hes1 hes2 hes3
  replace hes := Lib.hid hes
  replace hes1 := Lib.hid hes1
  replace hes2 := Lib.hid hes2
  replace hes3 := Lib.hid hes3
  go_wp2_with fail
  refine region_anyT (n := 13) (S := fun _ => True) (by kernel_rfl) ?_
  obtain ⟨w2, hw2⟩ : ∃ W, w1.drew = W := ⟨_, rfl⟩
  have hS2 := hst.out.drew
  rw [hw2] at hS2 ⊢
  replace hS2 := Lib.hid hS2
  clear hst
  refine anyT_take (i := 1) (v := .pointer (some ⟨p, 0, none⟩)) rfl (by kernel_rfl) (by kernel_rfl) (fun _ _ _ h => h) (Or.inl ⟨by rfl, ?_⟩) trivial ?_
  · intro w' _
    go_simp
    try with_reducible rfl
    try (intro h9; exfalso; omega)
  try simp only [Act.put, List.getElem_toArray, List.getElem_cons_zero, List.getElem_cons_succ, List.setIfInBounds_toArray, List.set_cons_zero, List.set_cons_succ]
  refine anyT_take (i := 5) (v := .pointer (some ⟨p, 0, none⟩)) rfl (by kernel_rfl) (by kernel_rfl) (fun _ _ _ h => h) (Or.inl ⟨by rfl, ?_⟩) trivial ?_
  · intro w' _
    go_simp
    try with_reducible rfl
    try (intro h9; exfalso; omega)
  try simp only [Act.put, List.getElem_toArray, List.getElem_cons_zero, List.getElem_cons_succ, List.setIfInBounds_toArray, List.set_cons_zero, List.set_cons_succ]
  refine anyT_take (i := 6) (v := .int .i64 d) rfl (by kernel_rfl) (by kernel_rfl) (fun _ _ _ h => h) (Or.inl ⟨by rfl, ?_⟩) trivial ?_
  · intro w' _
    go_simp
    try with_reducible rfl
    try (intro h9; exfalso; omega)
  try simp only [Act.put, List.getElem_toArray, List.getElem_cons_zero, List.getElem_cons_succ, List.setIfInBounds_toArray, List.set_cons_zero, List.set_cons_succ]
  refine anyT_take (i := 7) (v := .int .i64 (d - 1)) rfl (by kernel_rfl) (by kernel_rfl) (fun _ _ _ h => h) (Or.inl ⟨by rfl, ?_⟩) trivial ?_
  · intro w' _
    go_simp
    try with_reducible rfl
    try (intro h9; exfalso; omega)
  try simp only [Act.put, List.getElem_toArray, List.getElem_cons_zero, List.getElem_cons_succ, List.setIfInBounds_toArray, List.set_cons_zero, List.set_cons_succ]
  refine anyT_take (i := 8) (v := .pointer (some ⟨p, 0, none⟩)) rfl (by kernel_rfl) (by kernel_rfl) (fun _ _ _ h => h) (Or.inl ⟨by rfl, ?_⟩) trivial ?_
  · intro w' _
    go_simp
    try with_reducible rfl
    try (intro h9; exfalso; omega)
  try simp only [Act.put, List.getElem_toArray, List.getElem_cons_zero, List.getElem_cons_succ, List.setIfInBounds_toArray, List.set_cons_zero, List.set_cons_succ]
  refine anyT_pair (i := 0) (j := 2) (by kernel_rfl) ?_ ?_
  ·
    refine wpOp_step rfl (fun K hK => ?_)
    replace hK := Lib.hid hK
    have hRa := heap_alloc_new w2 (.cells #[.string ⟨#[102]⟩, .string ⟨#[103]⟩, .string ⟨#[36, 115, 105, 103, 110, 101, 100]⟩, .string ⟨#[36, 117, 110, 115, 105, 103, 110, 101, 100]⟩] 9)
    obtain ⟨a0, ha0⟩ : ∃ a, w2.heap.size = a := ⟨_, rfl⟩
    have hR3 : RWm (tabS cl4) 9 g (w2.alloc (.cells #[.string ⟨#[102]⟩, .string ⟨#[103]⟩, .string ⟨#[36, 115, 105, 103, 110, 101, 100]⟩, .string ⟨#[36, 117, 110, 115, 105, 103, 110, 101, 100]⟩] 9)) a0 := by
      rw [← ha0]; exact ⟨hS2.out.s, hRa⟩
    have hS3 := hS2.out.alloc (.cells #[.string ⟨#[102]⟩, .string ⟨#[103]⟩, .string ⟨#[36, 115, 105, 103, 110, 101, 100]⟩, .string ⟨#[36, 117, 110, 115, 105, 103, 110, 101, 100]⟩] 9)
    obtain ⟨w3, hw3⟩ : ∃ W, w2.alloc (.cells #[.string ⟨#[102]⟩, .string ⟨#[103]⟩, .string ⟨#[36, 115, 105, 103, 110, 101, 100]⟩, .string ⟨#[36, 117, 110, 115, 105, 103, 110, 101, 100]⟩] 9) = W := ⟨_, rfl⟩
    rw [hw3] at hR3 hS3
    replace hR3 := Lib.hid hR3
    replace hS3 := Lib.hid hS3
    go_simp
    refine hK.out _ _ ⟨fun _ => trivial, ?_⟩
    clear hK K hRa hS2
    try simp only [Act.put, List.getElem_toArray, List.getElem_cons_zero, List.getElem_cons_succ, List.setIfInBounds_toArray, List.set_cons_zero, List.set_cons_succ]
    refine anyT_one (i := 2) (by kernel_rfl) ?_
    refine wpOp_step rfl (fun K hK => ?_)
    replace hK := Lib.hid hK
    go_simp
    (with_reducible refine (hn4.out _ hS3.out.m).mono ?_)
    rintro e w4 ⟨r2, hr2, rfl, hm, hk⟩
    have hS4 := hS3.out.call hBw hm hk
    have hR4 := hR3.out.call (by omega) hk
    refine hK.out _ _ ⟨fun _ => trivial, ?_⟩
    clear hK K hm hk hS3 hR3 
    replace hS4 := Lib.hid hS4
    replace hR4 := Lib.hid hR4
    try simp only [Act.put, List.getElem_toArray, List.getElem_cons_zero, List.getElem_cons_succ, List.setIfInBounds_toArray, List.set_cons_zero, List.set_cons_succ]
    refine anyT_take (i := 3) (v := .pointer (some ⟨a0, r2, none⟩)) rfl (by kernel_rfl) (by kernel_rfl) (fun _ _ _ h => h) (Or.inl ⟨by rfl, ?_⟩) trivial ?_
    · intro w' _
      go_simp
      try with_reducible rfl
      try (intro h9; exfalso; omega)
    try simp only [Act.put, List.getElem_toArray, List.getElem_cons_zero, List.getElem_cons_succ, List.setIfInBounds_toArray, List.set_cons_zero, List.set_cons_succ]
    refine anyT_pair (i := 4) (j := 9) (by kernel_rfl) ?_ ?_
    ·
      refine wpOp_step rfl (fun K hK => ?_)
      replace hK := Lib.hid hK
      have cr := tab_cell hR4.out.2 r2 hr2
      have hs : (⟨(cl4[r2]'hr2).toArray⟩ : ByteArray).toList ∈ cl4 := by rw [tab_list]; exact List.getElem_mem hr2
      have hl1 := lt_of_get hR4.out.2
      obtain ⟨s, hsq⟩ : ∃ s, (⟨(cl4[r2]'hr2).toArray⟩ : ByteArray) = s := ⟨_, rfl⟩
      rw [hsq] at cr hs
      clear hsq
      replace hs := Lib.hid hs
      go_simp
      refine hK.out _ _ ⟨fun _ => trivial, ?_⟩
      clear hK K cr hl1
      try simp only [Act.put, List.getElem_toArray, List.getElem_cons_zero, List.getElem_cons_succ, List.setIfInBounds_toArray, List.set_cons_zero, List.set_cons_succ]
      refine anyT_one (i := 9) (by kernel_rfl) ?_
      refine wpOp_step rfl (fun K hK => ?_)
      replace hK := Lib.hid hK
      go_simp
      (with_reducible refine (hn2.out _ hS4.out.m).mono ?_)
      rintro e w5 ⟨r3, hr3, rfl, hm, hk⟩
      have hS5 := hS4.out.call hBw hm hk
      have hR5 := hR4.out.call (by omega) hk
      obtain ⟨n, hn⟩ : ∃ n, 1 + r3 = n := ⟨_, rfl⟩
      have hwn : IntKind.i64.wrap (1 + (r3 : Int)) = (n : Int) := by rw [IntWalk.i64_in _ (by omega)]; omega
      have hn1 : 1 ≤ n ∧ n < 1 + 2 := by omega
      clear hn hr3
      refine hK.out _ _ ⟨fun _ => trivial, ?_⟩
      clear hK K hm hk hS4 hR4 
      replace hS5 := Lib.hid hS5
      replace hR5 := Lib.hid hR5
      try simp only [Act.put, List.getElem_toArray, List.getElem_cons_zero, List.getElem_cons_succ, List.setIfInBounds_toArray, List.set_cons_zero, List.set_cons_succ]
      refine anyT_take (i := 10) (v := .int .i64 (n : Int)) rfl (by kernel_rfl) (by kernel_rfl) (fun _ _ _ h => h) (Or.inl ⟨by rfl, ?_⟩) trivial ?_
      · intro w' _
        go_simp
        try with_reducible rfl
        try (intro h9; exfalso; omega)
      try simp only [Act.put, List.getElem_toArray, List.getElem_cons_zero, List.getElem_cons_succ, List.setIfInBounds_toArray, List.set_cons_zero, List.set_cons_succ]
      refine anyT_one (i := 11) (by kernel_rfl) ?_
      refine wpOp_step rfl (fun K hK => ?_)
      replace hK := Lib.hid hK
      go_simp
      (with_reducible refine (hes.out n _ (by omega) hS5.out.m).mono ?_)
      rintro e w6 ⟨ts, A2, c2, hl, rfl, hts, hX, hm, hk⟩
      have hS6 := hS5.out.call hBw hm hk
      have hR6 := hR5.out.call (by omega) hk
      have hX6 := XM.of hX hS5.out.s
      replace hX6 := Lib.hid hX6
      replace hts := Lib.hid hts
      replace hl := Lib.hid hl
      refine hK.out _ _ ⟨fun _ => trivial, ?_⟩
      clear hK K hm hk hS5 hR5 hX
      replace hS6 := Lib.hid hS6
      replace hR6 := Lib.hid hR6
      try simp only [Act.put, List.getElem_toArray, List.getElem_cons_zero, List.getElem_cons_succ, List.setIfInBounds_toArray, List.set_cons_zero, List.set_cons_succ]
      refine anyT_take (i := 12) (v := .agg #[.int .i64 10, .int .i64 0, .int .i64 0, .int .i64 0, .string s, .slice A2 n c2]) rfl (by kernel_rfl) (by kernel_rfl) (fun _ _ _ h => h) (Or.inl ⟨by rfl, ?_⟩) trivial ?_
      · intro w' _
        go_simp
        try with_reducible rfl
      try simp only [Act.put, List.getElem_toArray, List.getElem_cons_zero, List.getElem_cons_succ, List.setIfInBounds_toArray, List.set_cons_zero, List.set_cons_succ]
      obtain ⟨zf, zl, z0, z1, z2, z3, z4, z5⟩ := hS6.out.z.all
      have six := hS6.out.z.six (.int .i64 10) (.int .i64 0) (.int .i64 0) (.int .i64 0) (.string s) (.slice A2 n c2)
      replace six := Lib.hid six
      refine anyT_one (i := 13) (by kernel_rfl) ?_
      refine wpOp_step rfl (fun K hK => ?_)
      replace hK := Lib.hid hK
      go_simp
      refine hK.out _ _ ⟨fun h => absurd h (by decide), ?_⟩
      clear hK K zf zl z0 z1 z2 z3 z4 z5
      try simp only [Act.put, List.getElem_toArray, List.getElem_cons_zero, List.getElem_cons_succ, List.setIfInBounds_toArray, List.set_cons_zero, List.set_cons_succ]
      refine anyT_done (by kernel_rfl) ?_ _
      go_wp2_with fail
      refine bodyPost_ret (v := .agg #[.int .i64 10, .int .i64 0, .int .i64 0, .int .i64 0, .string s, .slice A2 n c2]) (by simp [results, Try.results7, go_sem, six.out]) rfl ?_
      have hl0 := hl.out
      obtain ⟨hW, hd⟩ := WM_of (h := ⟨10, 0, 0, 0, s⟩) (ts := ts) (D := D) ⟨rfl, rfl, rfl, fun h => by simp at h, fun h => by simp at h, fun h => by simp at h, fun h => by simp at h, fun h => by simp at h, fun _ => hs.out⟩ (by simp; omega) hts.out
      exact MXm_fin (h := ⟨10, 0, 0, 0, s⟩) (ts := ts) (c := c2) hg hS6.out.k hS6.out.m hBw (hX6.out _) hl0 (by omega) hW hd _ _ _ _ _ _
    ·
      refine wpOp_step rfl (fun K hK => ?_)
      replace hK := Lib.hid hK
      go_simp
      (with_reducible refine (hn2.out _ hS4.out.m).mono ?_)
      rintro e w5 ⟨r3, hr3, rfl, hm, hk⟩
      have hS5 := hS4.out.call hBw hm hk
      have hR5 := hR4.out.call (by omega) hk
      obtain ⟨n, hn⟩ : ∃ n, 1 + r3 = n := ⟨_, rfl⟩
      have hwn : IntKind.i64.wrap (1 + (r3 : Int)) = (n : Int) := by rw [IntWalk.i64_in _ (by omega)]; omega
      have hn1 : 1 ≤ n ∧ n < 1 + 2 := by omega
      clear hn hr3
      refine hK.out _ _ ⟨fun _ => trivial, ?_⟩
      clear hK K hm hk hS4 hR4 
      replace hS5 := Lib.hid hS5
      replace hR5 := Lib.hid hR5
      try simp only [Act.put, List.getElem_toArray, List.getElem_cons_zero, List.getElem_cons_succ, List.setIfInBounds_toArray, List.set_cons_zero, List.set_cons_succ]
      refine anyT_take (i := 10) (v := .int .i64 (n : Int)) rfl (by kernel_rfl) (by kernel_rfl) (fun _ _ _ h => h) (Or.inl ⟨by rfl, ?_⟩) trivial ?_
      · intro w' _
        go_simp
        try with_reducible rfl
        try (intro h9; exfalso; omega)
      try simp only [Act.put, List.getElem_toArray, List.getElem_cons_zero, List.getElem_cons_succ, List.setIfInBounds_toArray, List.set_cons_zero, List.set_cons_succ]
      refine anyT_pair (i := 4) (j := 11) (by kernel_rfl) ?_ ?_
      ·
        refine wpOp_step rfl (fun K hK => ?_)
        replace hK := Lib.hid hK
        have cr := tab_cell hR5.out.2 r2 hr2
        have hs : (⟨(cl4[r2]'hr2).toArray⟩ : ByteArray).toList ∈ cl4 := by rw [tab_list]; exact List.getElem_mem hr2
        have hl1 := lt_of_get hR5.out.2
        obtain ⟨s, hsq⟩ : ∃ s, (⟨(cl4[r2]'hr2).toArray⟩ : ByteArray) = s := ⟨_, rfl⟩
        rw [hsq] at cr hs
        clear hsq
        replace hs := Lib.hid hs
        go_simp
        refine hK.out _ _ ⟨fun _ => trivial, ?_⟩
        clear hK K cr hl1
        try simp only [Act.put, List.getElem_toArray, List.getElem_cons_zero, List.getElem_cons_succ, List.setIfInBounds_toArray, List.set_cons_zero, List.set_cons_succ]
        refine anyT_one (i := 11) (by kernel_rfl) ?_
        refine wpOp_step rfl (fun K hK => ?_)
        replace hK := Lib.hid hK
        go_simp
        (with_reducible refine (hes.out n _ (by omega) hS5.out.m).mono ?_)
        rintro e w6 ⟨ts, A2, c2, hl, rfl, hts, hX, hm, hk⟩
        have hS6 := hS5.out.call hBw hm hk
        have hR6 := hR5.out.call (by omega) hk
        have hX6 := XM.of hX hS5.out.s
        replace hX6 := Lib.hid hX6
        replace hts := Lib.hid hts
        replace hl := Lib.hid hl
        refine hK.out _ _ ⟨fun _ => trivial, ?_⟩
        clear hK K hm hk hS5 hR5 hX
        replace hS6 := Lib.hid hS6
        replace hR6 := Lib.hid hR6
        try simp only [Act.put, List.getElem_toArray, List.getElem_cons_zero, List.getElem_cons_succ, List.setIfInBounds_toArray, List.set_cons_zero, List.set_cons_succ]
        refine anyT_take (i := 12) (v := .agg #[.int .i64 10, .int .i64 0, .int .i64 0, .int .i64 0, .string s, .slice A2 n c2]) rfl (by kernel_rfl) (by kernel_rfl) (fun _ _ _ h => h) (Or.inl ⟨by rfl, ?_⟩) trivial ?_
        · intro w' _
          go_simp
          try with_reducible rfl
        try simp only [Act.put, List.getElem_toArray, List.getElem_cons_zero, List.getElem_cons_succ, List.setIfInBounds_toArray, List.set_cons_zero, List.set_cons_succ]
        obtain ⟨zf, zl, z0, z1, z2, z3, z4, z5⟩ := hS6.out.z.all
        have six := hS6.out.z.six (.int .i64 10) (.int .i64 0) (.int .i64 0) (.int .i64 0) (.string s) (.slice A2 n c2)
        replace six := Lib.hid six
        refine anyT_one (i := 13) (by kernel_rfl) ?_
        refine wpOp_step rfl (fun K hK => ?_)
        replace hK := Lib.hid hK
        go_simp
        refine hK.out _ _ ⟨fun h => absurd h (by decide), ?_⟩
        clear hK K zf zl z0 z1 z2 z3 z4 z5
        try simp only [Act.put, List.getElem_toArray, List.getElem_cons_zero, List.getElem_cons_succ, List.setIfInBounds_toArray, List.set_cons_zero, List.set_cons_succ]
        refine anyT_done (by kernel_rfl) ?_ _
        go_wp2_with fail
        refine bodyPost_ret (v := .agg #[.int .i64 10, .int .i64 0, .int .i64 0, .int .i64 0, .string s, .slice A2 n c2]) (by simp [results, Try.results7, go_sem, six.out]) rfl ?_
        have hl0 := hl.out
        obtain ⟨hW, hd⟩ := WM_of (h := ⟨10, 0, 0, 0, s⟩) (ts := ts) (D := D) ⟨rfl, rfl, rfl, fun h => by simp at h, fun h => by simp at h, fun h => by simp at h, fun h => by simp at h, fun h => by simp at h, fun _ => hs.out⟩ (by simp; omega) hts.out
        exact MXm_fin (h := ⟨10, 0, 0, 0, s⟩) (ts := ts) (c := c2) hg hS6.out.k hS6.out.m hBw (hX6.out _) hl0 (by omega) hW hd _ _ _ _ _ _
      ·
        refine wpOp_step rfl (fun K hK => ?_)
        replace hK := Lib.hid hK
        go_simp
        (with_reducible refine (hes.out n _ (by omega) hS5.out.m).mono ?_)
        rintro e w6 ⟨ts, A2, c2, hl, rfl, hts, hX, hm, hk⟩
        have hS6 := hS5.out.call hBw hm hk
        have hR6 := hR5.out.call (by omega) hk
        have hX6 := XM.of hX hS5.out.s
        replace hX6 := Lib.hid hX6
        replace hts := Lib.hid hts
        replace hl := Lib.hid hl
        refine hK.out _ _ ⟨fun _ => trivial, ?_⟩
        clear hK K hm hk hS5 hR5 hX
        replace hS6 := Lib.hid hS6
        replace hR6 := Lib.hid hR6
        try simp only [Act.put, List.getElem_toArray, List.getElem_cons_zero, List.getElem_cons_succ, List.setIfInBounds_toArray, List.set_cons_zero, List.set_cons_succ]
        refine anyT_one (i := 4) (by kernel_rfl) ?_
        refine wpOp_step rfl (fun K hK => ?_)
        replace hK := Lib.hid hK
        have cr := tab_cell hR6.out.2 r2 hr2
        have hs : (⟨(cl4[r2]'hr2).toArray⟩ : ByteArray).toList ∈ cl4 := by rw [tab_list]; exact List.getElem_mem hr2
        have hl1 := lt_of_get hR6.out.2
        obtain ⟨s, hsq⟩ : ∃ s, (⟨(cl4[r2]'hr2).toArray⟩ : ByteArray) = s := ⟨_, rfl⟩
        rw [hsq] at cr hs
        clear hsq
        replace hs := Lib.hid hs
        go_simp
        refine hK.out _ _ ⟨fun _ => trivial, ?_⟩
        clear hK K cr hl1
        try simp only [Act.put, List.getElem_toArray, List.getElem_cons_zero, List.getElem_cons_succ, List.setIfInBounds_toArray, List.set_cons_zero, List.set_cons_succ]
        refine anyT_take (i := 12) (v := .agg #[.int .i64 10, .int .i64 0, .int .i64 0, .int .i64 0, .string s, .slice A2 n c2]) rfl (by kernel_rfl) (by kernel_rfl) (fun _ _ _ h => h) (Or.inl ⟨by rfl, ?_⟩) trivial ?_
        · intro w' _
          go_simp
          try with_reducible rfl
        try simp only [Act.put, List.getElem_toArray, List.getElem_cons_zero, List.getElem_cons_succ, List.setIfInBounds_toArray, List.set_cons_zero, List.set_cons_succ]
        obtain ⟨zf, zl, z0, z1, z2, z3, z4, z5⟩ := hS6.out.z.all
        have six := hS6.out.z.six (.int .i64 10) (.int .i64 0) (.int .i64 0) (.int .i64 0) (.string s) (.slice A2 n c2)
        replace six := Lib.hid six
        refine anyT_one (i := 13) (by kernel_rfl) ?_
        refine wpOp_step rfl (fun K hK => ?_)
        replace hK := Lib.hid hK
        go_simp
        refine hK.out _ _ ⟨fun h => absurd h (by decide), ?_⟩
        clear hK K zf zl z0 z1 z2 z3 z4 z5
        try simp only [Act.put, List.getElem_toArray, List.getElem_cons_zero, List.getElem_cons_succ, List.setIfInBounds_toArray, List.set_cons_zero, List.set_cons_succ]
        refine anyT_done (by kernel_rfl) ?_ _
        go_wp2_with fail
        refine bodyPost_ret (v := .agg #[.int .i64 10, .int .i64 0, .int .i64 0, .int .i64 0, .string s, .slice A2 n c2]) (by simp [results, Try.results7, go_sem, six.out]) rfl ?_
        have hl0 := hl.out
        obtain ⟨hW, hd⟩ := WM_of (h := ⟨10, 0, 0, 0, s⟩) (ts := ts) (D := D) ⟨rfl, rfl, rfl, fun h => by simp at h, fun h => by simp at h, fun h => by simp at h, fun h => by simp at h, fun h => by simp at h, fun _ => hs.out⟩ (by simp; omega) hts.out
        exact MXm_fin (h := ⟨10, 0, 0, 0, s⟩) (ts := ts) (c := c2) hg hS6.out.k hS6.out.m hBw (hX6.out _) hl0 (by omega) hW hd _ _ _ _ _ _
  ·
    refine wpOp_step rfl (fun K hK => ?_)
    replace hK := Lib.hid hK
    go_simp
    (with_reducible refine (hn4.out _ hS2.out.m).mono ?_)
    rintro e w3 ⟨r2, hr2, rfl, hm, hk⟩
    have hS3 := hS2.out.call hBw hm hk
    refine hK.out _ _ ⟨fun _ => trivial, ?_⟩
    clear hK K hm hk hS2 
    replace hS3 := Lib.hid hS3
    try simp only [Act.put, List.getElem_toArray, List.getElem_cons_zero, List.getElem_cons_succ, List.setIfInBounds_toArray, List.set_cons_zero, List.set_cons_succ]
    refine anyT_pair (i := 0) (j := 9) (by kernel_rfl) ?_ ?_
    ·
      refine wpOp_step rfl (fun K hK => ?_)
      replace hK := Lib.hid hK
      have hRa := heap_alloc_new w3 (.cells #[.string ⟨#[102]⟩, .string ⟨#[103]⟩, .string ⟨#[36, 115, 105, 103, 110, 101, 100]⟩, .string ⟨#[36, 117, 110, 115, 105, 103, 110, 101, 100]⟩] 9)
      obtain ⟨a0, ha0⟩ : ∃ a, w3.heap.size = a := ⟨_, rfl⟩
      have hR4 : RWm (tabS cl4) 9 g (w3.alloc (.cells #[.string ⟨#[102]⟩, .string ⟨#[103]⟩, .string ⟨#[36, 115, 105, 103, 110, 101, 100]⟩, .string ⟨#[36, 117, 110, 115, 105, 103, 110, 101, 100]⟩] 9)) a0 := by
        rw [← ha0]; exact ⟨hS3.out.s, hRa⟩
      have hS4 := hS3.out.alloc (.cells #[.string ⟨#[102]⟩, .string ⟨#[103]⟩, .string ⟨#[36, 115, 105, 103, 110, 101, 100]⟩, .string ⟨#[36, 117, 110, 115, 105, 103, 110, 101, 100]⟩] 9)
      obtain ⟨w4, hw4⟩ : ∃ W, w3.alloc (.cells #[.string ⟨#[102]⟩, .string ⟨#[103]⟩, .string ⟨#[36, 115, 105, 103, 110, 101, 100]⟩, .string ⟨#[36, 117, 110, 115, 105, 103, 110, 101, 100]⟩] 9) = W := ⟨_, rfl⟩
      rw [hw4] at hR4 hS4
      replace hR4 := Lib.hid hR4
      replace hS4 := Lib.hid hS4
      go_simp
      refine hK.out _ _ ⟨fun _ => trivial, ?_⟩
      clear hK K hRa hS3
      try simp only [Act.put, List.getElem_toArray, List.getElem_cons_zero, List.getElem_cons_succ, List.setIfInBounds_toArray, List.set_cons_zero, List.set_cons_succ]
      refine anyT_take (i := 3) (v := .pointer (some ⟨a0, r2, none⟩)) rfl (by kernel_rfl) (by kernel_rfl) (fun _ _ _ h => h) (Or.inl ⟨by rfl, ?_⟩) trivial ?_
      · intro w' _
        go_simp
        try with_reducible rfl
        try (intro h9; exfalso; omega)
      try simp only [Act.put, List.getElem_toArray, List.getElem_cons_zero, List.getElem_cons_succ, List.setIfInBounds_toArray, List.set_cons_zero, List.set_cons_succ]
      refine anyT_pair (i := 4) (j := 9) (by kernel_rfl) ?_ ?_
      ·
        refine wpOp_step rfl (fun K hK => ?_)
        replace hK := Lib.hid hK
        have cr := tab_cell hR4.out.2 r2 hr2
        have hs : (⟨(cl4[r2]'hr2).toArray⟩ : ByteArray).toList ∈ cl4 := by rw [tab_list]; exact List.getElem_mem hr2
        have hl1 := lt_of_get hR4.out.2
        obtain ⟨s, hsq⟩ : ∃ s, (⟨(cl4[r2]'hr2).toArray⟩ : ByteArray) = s := ⟨_, rfl⟩
        rw [hsq] at cr hs
        clear hsq
        replace hs := Lib.hid hs
        go_simp
        refine hK.out _ _ ⟨fun _ => trivial, ?_⟩
        clear hK K cr hl1
        try simp only [Act.put, List.getElem_toArray, List.getElem_cons_zero, List.getElem_cons_succ, List.setIfInBounds_toArray, List.set_cons_zero, List.set_cons_succ]
        refine anyT_one (i := 9) (by kernel_rfl) ?_
        refine wpOp_step rfl (fun K hK => ?_)
        replace hK := Lib.hid hK
        go_simp
        (with_reducible refine (hn2.out _ hS4.out.m).mono ?_)
        rintro e w5 ⟨r3, hr3, rfl, hm, hk⟩
        have hS5 := hS4.out.call hBw hm hk
        have hR5 := hR4.out.call (by omega) hk
        obtain ⟨n, hn⟩ : ∃ n, 1 + r3 = n := ⟨_, rfl⟩
        have hwn : IntKind.i64.wrap (1 + (r3 : Int)) = (n : Int) := by rw [IntWalk.i64_in _ (by omega)]; omega
        have hn1 : 1 ≤ n ∧ n < 1 + 2 := by omega
        clear hn hr3
        refine hK.out _ _ ⟨fun _ => trivial, ?_⟩
        clear hK K hm hk hS4 hR4 
        replace hS5 := Lib.hid hS5
        replace hR5 := Lib.hid hR5
        try simp only [Act.put, List.getElem_toArray, List.getElem_cons_zero, List.getElem_cons_succ, List.setIfInBounds_toArray, List.set_cons_zero, List.set_cons_succ]
        refine anyT_take (i := 10) (v := .int .i64 (n : Int)) rfl (by kernel_rfl) (by kernel_rfl) (fun _ _ _ h => h) (Or.inl ⟨by rfl, ?_⟩) trivial ?_
        · intro w' _
          go_simp
          try with_reducible rfl
          try (intro h9; exfalso; omega)
        try simp only [Act.put, List.getElem_toArray, List.getElem_cons_zero, List.getElem_cons_succ, List.setIfInBounds_toArray, List.set_cons_zero, List.set_cons_succ]
        refine anyT_one (i := 11) (by kernel_rfl) ?_
        refine wpOp_step rfl (fun K hK => ?_)
        replace hK := Lib.hid hK
        go_simp
        (with_reducible refine (hes.out n _ (by omega) hS5.out.m).mono ?_)
        rintro e w6 ⟨ts, A2, c2, hl, rfl, hts, hX, hm, hk⟩
        have hS6 := hS5.out.call hBw hm hk
        have hR6 := hR5.out.call (by omega) hk
        have hX6 := XM.of hX hS5.out.s
        replace hX6 := Lib.hid hX6
        replace hts := Lib.hid hts
        replace hl := Lib.hid hl
        refine hK.out _ _ ⟨fun _ => trivial, ?_⟩
        clear hK K hm hk hS5 hR5 hX
        replace hS6 := Lib.hid hS6
        replace hR6 := Lib.hid hR6
        try simp only [Act.put, List.getElem_toArray, List.getElem_cons_zero, List.getElem_cons_succ, List.setIfInBounds_toArray, List.set_cons_zero, List.set_cons_succ]
        refine anyT_take (i := 12) (v := .agg #[.int .i64 10, .int .i64 0, .int .i64 0, .int .i64 0, .string s, .slice A2 n c2]) rfl (by kernel_rfl) (by kernel_rfl) (fun _ _ _ h => h) (Or.inl ⟨by rfl, ?_⟩) trivial ?_
        · intro w' _
          go_simp
          try with_reducible rfl
        try simp only [Act.put, List.getElem_toArray, List.getElem_cons_zero, List.getElem_cons_succ, List.setIfInBounds_toArray, List.set_cons_zero, List.set_cons_succ]
        obtain ⟨zf, zl, z0, z1, z2, z3, z4, z5⟩ := hS6.out.z.all
        have six := hS6.out.z.six (.int .i64 10) (.int .i64 0) (.int .i64 0) (.int .i64 0) (.string s) (.slice A2 n c2)
        replace six := Lib.hid six
        refine anyT_one (i := 13) (by kernel_rfl) ?_
        refine wpOp_step rfl (fun K hK => ?_)
        replace hK := Lib.hid hK
        go_simp
        refine hK.out _ _ ⟨fun h => absurd h (by decide), ?_⟩
        clear hK K zf zl z0 z1 z2 z3 z4 z5
        try simp only [Act.put, List.getElem_toArray, List.getElem_cons_zero, List.getElem_cons_succ, List.setIfInBounds_toArray, List.set_cons_zero, List.set_cons_succ]
        refine anyT_done (by kernel_rfl) ?_ _
        go_wp2_with fail
        refine bodyPost_ret (v := .agg #[.int .i64 10, .int .i64 0, .int .i64 0, .int .i64 0, .string s, .slice A2 n c2]) (by simp [results, Try.results7, go_sem, six.out]) rfl ?_
        have hl0 := hl.out
        obtain ⟨hW, hd⟩ := WM_of (h := ⟨10, 0, 0, 0, s⟩) (ts := ts) (D := D) ⟨rfl, rfl, rfl, fun h => by simp at h, fun h => by simp at h, fun h => by simp at h, fun h => by simp at h, fun h => by simp at h, fun _ => hs.out⟩ (by simp; omega) hts.out
        exact MXm_fin (h := ⟨10, 0, 0, 0, s⟩) (ts := ts) (c := c2) hg hS6.out.k hS6.out.m hBw (hX6.out _) hl0 (by omega) hW hd _ _ _ _ _ _
      ·
        refine wpOp_step rfl (fun K hK => ?_)
        replace hK := Lib.hid hK
        go_simp
        (with_reducible refine (hn2.out _ hS4.out.m).mono ?_)
        rintro e w5 ⟨r3, hr3, rfl, hm, hk⟩
        have hS5 := hS4.out.call hBw hm hk
        have hR5 := hR4.out.call (by omega) hk
        obtain ⟨n, hn⟩ : ∃ n, 1 + r3 = n := ⟨_, rfl⟩
        have hwn : IntKind.i64.wrap (1 + (r3 : Int)) = (n : Int) := by rw [IntWalk.i64_in _ (by omega)]; omega
        have hn1 : 1 ≤ n ∧ n < 1 + 2 := by omega
        clear hn hr3
        refine hK.out _ _ ⟨fun _ => trivial, ?_⟩
        clear hK K hm hk hS4 hR4 
        replace hS5 := Lib.hid hS5
        replace hR5 := Lib.hid hR5
        try simp only [Act.put, List.getElem_toArray, List.getElem_cons_zero, List.getElem_cons_succ, List.setIfInBounds_toArray, List.set_cons_zero, List.set_cons_succ]
        refine anyT_take (i := 10) (v := .int .i64 (n : Int)) rfl (by kernel_rfl) (by kernel_rfl) (fun _ _ _ h => h) (Or.inl ⟨by rfl, ?_⟩) trivial ?_
        · intro w' _
          go_simp
          try with_reducible rfl
          try (intro h9; exfalso; omega)
        try simp only [Act.put, List.getElem_toArray, List.getElem_cons_zero, List.getElem_cons_succ, List.setIfInBounds_toArray, List.set_cons_zero, List.set_cons_succ]
        refine anyT_pair (i := 4) (j := 11) (by kernel_rfl) ?_ ?_
        ·
          refine wpOp_step rfl (fun K hK => ?_)
          replace hK := Lib.hid hK
          have cr := tab_cell hR5.out.2 r2 hr2
          have hs : (⟨(cl4[r2]'hr2).toArray⟩ : ByteArray).toList ∈ cl4 := by rw [tab_list]; exact List.getElem_mem hr2
          have hl1 := lt_of_get hR5.out.2
          obtain ⟨s, hsq⟩ : ∃ s, (⟨(cl4[r2]'hr2).toArray⟩ : ByteArray) = s := ⟨_, rfl⟩
          rw [hsq] at cr hs
          clear hsq
          replace hs := Lib.hid hs
          go_simp
          refine hK.out _ _ ⟨fun _ => trivial, ?_⟩
          clear hK K cr hl1
          try simp only [Act.put, List.getElem_toArray, List.getElem_cons_zero, List.getElem_cons_succ, List.setIfInBounds_toArray, List.set_cons_zero, List.set_cons_succ]
          refine anyT_one (i := 11) (by kernel_rfl) ?_
          refine wpOp_step rfl (fun K hK => ?_)
          replace hK := Lib.hid hK
          go_simp
          (with_reducible refine (hes.out n _ (by omega) hS5.out.m).mono ?_)
          rintro e w6 ⟨ts, A2, c2, hl, rfl, hts, hX, hm, hk⟩
          have hS6 := hS5.out.call hBw hm hk
          have hR6 := hR5.out.call (by omega) hk
          have hX6 := XM.of hX hS5.out.s
          replace hX6 := Lib.hid hX6
          replace hts := Lib.hid hts
          replace hl := Lib.hid hl
          refine hK.out _ _ ⟨fun _ => trivial, ?_⟩
          clear hK K hm hk hS5 hR5 hX
          replace hS6 := Lib.hid hS6
          replace hR6 := Lib.hid hR6
          try simp only [Act.put, List.getElem_toArray, List.getElem_cons_zero, List.getElem_cons_succ, List.setIfInBounds_toArray, List.set_cons_zero, List.set_cons_succ]
          refine anyT_take (i := 12) (v := .agg #[.int .i64 10, .int .i64 0, .int .i64 0, .int .i64 0, .string s, .slice A2 n c2]) rfl (by kernel_rfl) (by kernel_rfl) (fun _ _ _ h => h) (Or.inl ⟨by rfl, ?_⟩) trivial ?_
          · intro w' _
            go_simp
            try with_reducible rfl
          try simp only [Act.put, List.getElem_toArray, List.getElem_cons_zero, List.getElem_cons_succ, List.setIfInBounds_toArray, List.set_cons_zero, List.set_cons_succ]
          obtain ⟨zf, zl, z0, z1, z2, z3, z4, z5⟩ := hS6.out.z.all
          have six := hS6.out.z.six (.int .i64 10) (.int .i64 0) (.int .i64 0) (.int .i64 0) (.string s) (.slice A2 n c2)
          replace six := Lib.hid six
          refine anyT_one (i := 13) (by kernel_rfl) ?_
          refine wpOp_step rfl (fun K hK => ?_)
          replace hK := Lib.hid hK
          go_simp
          refine hK.out _ _ ⟨fun h => absurd h (by decide), ?_⟩
          clear hK K zf zl z0 z1 z2 z3 z4 z5
          try simp only [Act.put, List.getElem_toArray, List.getElem_cons_zero, List.getElem_cons_succ, List.setIfInBounds_toArray, List.set_cons_zero, List.set_cons_succ]
          refine anyT_done (by kernel_rfl) ?_ _
          go_wp2_with fail
          refine bodyPost_ret (v := .agg #[.int .i64 10, .int .i64 0, .int .i64 0, .int .i64 0, .string s, .slice A2 n c2]) (by simp [results, Try.results7, go_sem, six.out]) rfl ?_
          have hl0 := hl.out
          obtain ⟨hW, hd⟩ := WM_of (h := ⟨10, 0, 0, 0, s⟩) (ts := ts) (D := D) ⟨rfl, rfl, rfl, fun h => by simp at h, fun h => by simp at h, fun h => by simp at h, fun h => by simp at h, fun h => by simp at h, fun _ => hs.out⟩ (by simp; omega) hts.out
          exact MXm_fin (h := ⟨10, 0, 0, 0, s⟩) (ts := ts) (c := c2) hg hS6.out.k hS6.out.m hBw (hX6.out _) hl0 (by omega) hW hd _ _ _ _ _ _
        ·
          refine wpOp_step rfl (fun K hK => ?_)
          replace hK := Lib.hid hK
          go_simp
          (with_reducible refine (hes.out n _ (by omega) hS5.out.m).mono ?_)
          rintro e w6 ⟨ts, A2, c2, hl, rfl, hts, hX, hm, hk⟩
          have hS6 := hS5.out.call hBw hm hk
          have hR6 := hR5.out.call (by omega) hk
          have hX6 := XM.of hX hS5.out.s
          replace hX6 := Lib.hid hX6
          replace hts := Lib.hid hts
          replace hl := Lib.hid hl
          refine hK.out _ _ ⟨fun _ => trivial, ?_⟩
          clear hK K hm hk hS5 hR5 hX
          replace hS6 := Lib.hid hS6
          replace hR6 := Lib.hid hR6
          try simp only [Act.put, List.getElem_toArray, List.getElem_cons_zero, List.getElem_cons_succ, List.setIfInBounds_toArray, List.set_cons_zero, List.set_cons_succ]
          refine anyT_one (i := 4) (by kernel_rfl) ?_
          refine wpOp_step rfl (fun K hK => ?_)
          replace hK := Lib.hid hK
          have cr := tab_cell hR6.out.2 r2 hr2
          have hs : (⟨(cl4[r2]'hr2).toArray⟩ : ByteArray).toList ∈ cl4 := by rw [tab_list]; exact List.getElem_mem hr2
          have hl1 := lt_of_get hR6.out.2
          obtain ⟨s, hsq⟩ : ∃ s, (⟨(cl4[r2]'hr2).toArray⟩ : ByteArray) = s := ⟨_, rfl⟩
          rw [hsq] at cr hs
          clear hsq
          replace hs := Lib.hid hs
          go_simp
          refine hK.out _ _ ⟨fun _ => trivial, ?_⟩
          clear hK K cr hl1
          try simp only [Act.put, List.getElem_toArray, List.getElem_cons_zero, List.getElem_cons_succ, List.setIfInBounds_toArray, List.set_cons_zero, List.set_cons_succ]
          refine anyT_take (i := 12) (v := .agg #[.int .i64 10, .int .i64 0, .int .i64 0, .int .i64 0, .string s, .slice A2 n c2]) rfl (by kernel_rfl) (by kernel_rfl) (fun _ _ _ h => h) (Or.inl ⟨by rfl, ?_⟩) trivial ?_
          · intro w' _
            go_simp
            try with_reducible rfl
          try simp only [Act.put, List.getElem_toArray, List.getElem_cons_zero, List.getElem_cons_succ, List.setIfInBounds_toArray, List.set_cons_zero, List.set_cons_succ]
          obtain ⟨zf, zl, z0, z1, z2, z3, z4, z5⟩ := hS6.out.z.all
          have six := hS6.out.z.six (.int .i64 10) (.int .i64 0) (.int .i64 0) (.int .i64 0) (.string s) (.slice A2 n c2)
          replace six := Lib.hid six
          refine anyT_one (i := 13) (by kernel_rfl) ?_
          refine wpOp_step rfl (fun K hK => ?_)
          replace hK := Lib.hid hK
          go_simp
          refine hK.out _ _ ⟨fun h => absurd h (by decide), ?_⟩
          clear hK K zf zl z0 z1 z2 z3 z4 z5
          try simp only [Act.put, List.getElem_toArray, List.getElem_cons_zero, List.getElem_cons_succ, List.setIfInBounds_toArray, List.set_cons_zero, List.set_cons_succ]
          refine anyT_done (by kernel_rfl) ?_ _
          go_wp2_with fail
          refine bodyPost_ret (v := .agg #[.int .i64 10, .int .i64 0, .int .i64 0, .int .i64 0, .string s, .slice A2 n c2]) (by simp [results, Try.results7, go_sem, six.out]) rfl ?_
          have hl0 := hl.out
          obtain ⟨hW, hd⟩ := WM_of (h := ⟨10, 0, 0, 0, s⟩) (ts := ts) (D := D) ⟨rfl, rfl, rfl, fun h => by simp at h, fun h => by simp at h, fun h => by simp at h, fun h => by simp at h, fun h => by simp at h, fun _ => hs.out⟩ (by simp; omega) hts.out
          exact MXm_fin (h := ⟨10, 0, 0, 0, s⟩) (ts := ts) (c := c2) hg hS6.out.k hS6.out.m hBw (hX6.out _) hl0 (by omega) hW hd _ _ _ _ _ _
    ·
      refine wpOp_step rfl (fun K hK => ?_)
      replace hK := Lib.hid hK
      go_simp
      (with_reducible refine (hn2.out _ hS3.out.m).mono ?_)
      rintro e w4 ⟨r3, hr3, rfl, hm, hk⟩
      have hS4 := hS3.out.call hBw hm hk
      obtain ⟨n, hn⟩ : ∃ n, 1 + r3 = n := ⟨_, rfl⟩
      have hwn : IntKind.i64.wrap (1 + (r3 : Int)) = (n : Int) := by rw [IntWalk.i64_in _ (by omega)]; omega
      have hn1 : 1 ≤ n ∧ n < 1 + 2 := by omega
      clear hn hr3
      refine hK.out _ _ ⟨fun _ => trivial, ?_⟩
      clear hK K hm hk hS3 
      replace hS4 := Lib.hid hS4
      try simp only [Act.put, List.getElem_toArray, List.getElem_cons_zero, List.getElem_cons_succ, List.setIfInBounds_toArray, List.set_cons_zero, List.set_cons_succ]
      refine anyT_take (i := 10) (v := .int .i64 (n : Int)) rfl (by kernel_rfl) (by kernel_rfl) (fun _ _ _ h => h) (Or.inl ⟨by rfl, ?_⟩) trivial ?_
      · intro w' _
        go_simp
        try with_reducible rfl
        try (intro h9; exfalso; omega)
      try simp only [Act.put, List.getElem_toArray, List.getElem_cons_zero, List.getElem_cons_succ, List.setIfInBounds_toArray, List.set_cons_zero, List.set_cons_succ]
      refine anyT_pair (i := 0) (j := 11) (by kernel_rfl) ?_ ?_
      ·
        refine wpOp_step rfl (fun K hK => ?_)
        replace hK := Lib.hid hK
        have hRa := heap_alloc_new w4 (.cells #[.string ⟨#[102]⟩, .string ⟨#[103]⟩, .string ⟨#[36, 115, 105, 103, 110, 101, 100]⟩, .string ⟨#[36, 117, 110, 115, 105, 103, 110, 101, 100]⟩] 9)
        obtain ⟨a0, ha0⟩ : ∃ a, w4.heap.size = a := ⟨_, rfl⟩
        have hR5 : RWm (tabS cl4) 9 g (w4.alloc (.cells #[.string ⟨#[102]⟩, .string ⟨#[103]⟩, .string ⟨#[36, 115, 105, 103, 110, 101, 100]⟩, .string ⟨#[36, 117, 110, 115, 105, 103, 110, 101, 100]⟩] 9)) a0 := by
          rw [← ha0]; exact ⟨hS4.out.s, hRa⟩
        have hS5 := hS4.out.alloc (.cells #[.string ⟨#[102]⟩, .string ⟨#[103]⟩, .string ⟨#[36, 115, 105, 103, 110, 101, 100]⟩, .string ⟨#[36, 117, 110, 115, 105, 103, 110, 101, 100]⟩] 9)
        obtain ⟨w5, hw5⟩ : ∃ W, w4.alloc (.cells #[.string ⟨#[102]⟩, .string ⟨#[103]⟩, .string ⟨#[36, 115, 105, 103, 110, 101, 100]⟩, .string ⟨#[36, 117, 110, 115, 105, 103, 110, 101, 100]⟩] 9) = W := ⟨_, rfl⟩
        rw [hw5] at hR5 hS5
        replace hR5 := Lib.hid hR5
        replace hS5 := Lib.hid hS5
        go_simp
        refine hK.out _ _ ⟨fun _ => trivial, ?_⟩
        clear hK K hRa hS4
        try simp only [Act.put, List.getElem_toArray, List.getElem_cons_zero, List.getElem_cons_succ, List.setIfInBounds_toArray, List.set_cons_zero, List.set_cons_succ]
        refine anyT_take (i := 3) (v := .pointer (some ⟨a0, r2, none⟩)) rfl (by kernel_rfl) (by kernel_rfl) (fun _ _ _ h => h) (Or.inl ⟨by rfl, ?_⟩) trivial ?_
        · intro w' _
          go_simp
          try with_reducible rfl
          try (intro h9; exfalso; omega)
        try simp only [Act.put, List.getElem_toArray, List.getElem_cons_zero, List.getElem_cons_succ, List.setIfInBounds_toArray, List.set_cons_zero, List.set_cons_succ]
        refine anyT_pair (i := 4) (j := 11) (by kernel_rfl) ?_ ?_
        ·
          refine wpOp_step rfl (fun K hK => ?_)
          replace hK := Lib.hid hK
          have cr := tab_cell hR5.out.2 r2 hr2
          have hs : (⟨(cl4[r2]'hr2).toArray⟩ : ByteArray).toList ∈ cl4 := by rw [tab_list]; exact List.getElem_mem hr2
          have hl1 := lt_of_get hR5.out.2
          obtain ⟨s, hsq⟩ : ∃ s, (⟨(cl4[r2]'hr2).toArray⟩ : ByteArray) = s := ⟨_, rfl⟩
          rw [hsq] at cr hs
          clear hsq
          replace hs := Lib.hid hs
          go_simp
          refine hK.out _ _ ⟨fun _ => trivial, ?_⟩
          clear hK K cr hl1
          try simp only [Act.put, List.getElem_toArray, List.getElem_cons_zero, List.getElem_cons_succ, List.setIfInBounds_toArray, List.set_cons_zero, List.set_cons_succ]
          refine anyT_one (i := 11) (by kernel_rfl) ?_
          refine wpOp_step rfl (fun K hK => ?_)
          replace hK := Lib.hid hK
          go_simp
          (with_reducible refine (hes.out n _ (by omega) hS5.out.m).mono ?_)
          rintro e w6 ⟨ts, A2, c2, hl, rfl, hts, hX, hm, hk⟩
          have hS6 := hS5.out.call hBw hm hk
          have hR6 := hR5.out.call (by omega) hk
          have hX6 := XM.of hX hS5.out.s
          replace hX6 := Lib.hid hX6
          replace hts := Lib.hid hts
          replace hl := Lib.hid hl
          refine hK.out _ _ ⟨fun _ => trivial, ?_⟩
          clear hK K hm hk hS5 hR5 hX
          replace hS6 := Lib.hid hS6
          replace hR6 := Lib.hid hR6
          try simp only [Act.put, List.getElem_toArray, List.getElem_cons_zero, List.getElem_cons_succ, List.setIfInBounds_toArray, List.set_cons_zero, List.set_cons_succ]
          refine anyT_take (i := 12) (v := .agg #[.int .i64 10, .int .i64 0, .int .i64 0, .int .i64 0, .string s, .slice A2 n c2]) rfl (by kernel_rfl) (by kernel_rfl) (fun _ _ _ h => h) (Or.inl ⟨by rfl, ?_⟩) trivial ?_
          · intro w' _
            go_simp
            try with_reducible rfl
          try simp only [Act.put, List.getElem_toArray, List.getElem_cons_zero, List.getElem_cons_succ, List.setIfInBounds_toArray, List.set_cons_zero, List.set_cons_succ]
          obtain ⟨zf, zl, z0, z1, z2, z3, z4, z5⟩ := hS6.out.z.all
          have six := hS6.out.z.six (.int .i64 10) (.int .i64 0) (.int .i64 0) (.int .i64 0) (.string s) (.slice A2 n c2)
          replace six := Lib.hid six
          refine anyT_one (i := 13) (by kernel_rfl) ?_
          refine wpOp_step rfl (fun K hK => ?_)
          replace hK := Lib.hid hK
          go_simp
          refine hK.out _ _ ⟨fun h => absurd h (by decide), ?_⟩
          clear hK K zf zl z0 z1 z2 z3 z4 z5
          try simp only [Act.put, List.getElem_toArray, List.getElem_cons_zero, List.getElem_cons_succ, List.setIfInBounds_toArray, List.set_cons_zero, List.set_cons_succ]
          refine anyT_done (by kernel_rfl) ?_ _
          go_wp2_with fail
          refine bodyPost_ret (v := .agg #[.int .i64 10, .int .i64 0, .int .i64 0, .int .i64 0, .string s, .slice A2 n c2]) (by simp [results, Try.results7, go_sem, six.out]) rfl ?_
          have hl0 := hl.out
          obtain ⟨hW, hd⟩ := WM_of (h := ⟨10, 0, 0, 0, s⟩) (ts := ts) (D := D) ⟨rfl, rfl, rfl, fun h => by simp at h, fun h => by simp at h, fun h => by simp at h, fun h => by simp at h, fun h => by simp at h, fun _ => hs.out⟩ (by simp; omega) hts.out
          exact MXm_fin (h := ⟨10, 0, 0, 0, s⟩) (ts := ts) (c := c2) hg hS6.out.k hS6.out.m hBw (hX6.out _) hl0 (by omega) hW hd _ _ _ _ _ _
        ·
          refine wpOp_step rfl (fun K hK => ?_)
          replace hK := Lib.hid hK
          go_simp
          (with_reducible refine (hes.out n _ (by omega) hS5.out.m).mono ?_)
          rintro e w6 ⟨ts, A2, c2, hl, rfl, hts, hX, hm, hk⟩
          have hS6 := hS5.out.call hBw hm hk
          have hR6 := hR5.out.call (by omega) hk
          have hX6 := XM.of hX hS5.out.s
          replace hX6 := Lib.hid hX6
          replace hts := Lib.hid hts
          replace hl := Lib.hid hl
          refine hK.out _ _ ⟨fun _ => trivial, ?_⟩
          clear hK K hm hk hS5 hR5 hX
          replace hS6 := Lib.hid hS6
          replace hR6 := Lib.hid hR6
          try simp only [Act.put, List.getElem_toArray, List.getElem_cons_zero, List.getElem_cons_succ, List.setIfInBounds_toArray, List.set_cons_zero, List.set_cons_succ]
          refine anyT_one (i := 4) (by kernel_rfl) ?_
          refine wpOp_step rfl (fun K hK => ?_)
          replace hK := Lib.hid hK
          have cr := tab_cell hR6.out.2 r2 hr2
          have hs : (⟨(cl4[r2]'hr2).toArray⟩ : ByteArray).toList ∈ cl4 := by rw [tab_list]; exact List.getElem_mem hr2
          have hl1 := lt_of_get hR6.out.2
          obtain ⟨s, hsq⟩ : ∃ s, (⟨(cl4[r2]'hr2).toArray⟩ : ByteArray) = s := ⟨_, rfl⟩
          rw [hsq] at cr hs
          clear hsq
          replace hs := Lib.hid hs
          go_simp
          refine hK.out _ _ ⟨fun _ => trivial, ?_⟩
          clear hK K cr hl1
          try simp only [Act.put, List.getElem_toArray, List.getElem_cons_zero, List.getElem_cons_succ, List.setIfInBounds_toArray, List.set_cons_zero, List.set_cons_succ]
          refine anyT_take (i := 12) (v := .agg #[.int .i64 10, .int .i64 0, .int .i64 0, .int .i64 0, .string s, .slice A2 n c2]) rfl (by kernel_rfl) (by kernel_rfl) (fun _ _ _ h => h) (Or.inl ⟨by rfl, ?_⟩) trivial ?_
          · intro w' _
            go_simp
            try with_reducible rfl
          try simp only [Act.put, List.getElem_toArray, List.getElem_cons_zero, List.getElem_cons_succ, List.setIfInBounds_toArray, List.set_cons_zero, List.set_cons_succ]
          obtain ⟨zf, zl, z0, z1, z2, z3, z4, z5⟩ := hS6.out.z.all
          have six := hS6.out.z.six (.int .i64 10) (.int .i64 0) (.int .i64 0) (.int .i64 0) (.string s) (.slice A2 n c2)
          replace six := Lib.hid six
          refine anyT_one (i := 13) (by kernel_rfl) ?_
          refine wpOp_step rfl (fun K hK => ?_)
          replace hK := Lib.hid hK
          go_simp
          refine hK.out _ _ ⟨fun h => absurd h (by decide), ?_⟩
          clear hK K zf zl z0 z1 z2 z3 z4 z5
          try simp only [Act.put, List.getElem_toArray, List.getElem_cons_zero, List.getElem_cons_succ, List.setIfInBounds_toArray, List.set_cons_zero, List.set_cons_succ]
          refine anyT_done (by kernel_rfl) ?_ _
          go_wp2_with fail
          refine bodyPost_ret (v := .agg #[.int .i64 10, .int .i64 0, .int .i64 0, .int .i64 0, .string s, .slice A2 n c2]) (by simp [results, Try.results7, go_sem, six.out]) rfl ?_
          have hl0 := hl.out
          obtain ⟨hW, hd⟩ := WM_of (h := ⟨10, 0, 0, 0, s⟩) (ts := ts) (D := D) ⟨rfl, rfl, rfl, fun h => by simp at h, fun h => by simp at h, fun h => by simp at h, fun h => by simp at h, fun h => by simp at h, fun _ => hs.out⟩ (by simp; omega) hts.out
          exact MXm_fin (h := ⟨10, 0, 0, 0, s⟩) (ts := ts) (c := c2) hg hS6.out.k hS6.out.m hBw (hX6.out _) hl0 (by omega) hW hd _ _ _ _ _ _
      ·
        refine wpOp_step rfl (fun K hK => ?_)
        replace hK := Lib.hid hK
        go_simp
        (with_reducible refine (hes.out n _ (by omega) hS4.out.m).mono ?_)
        rintro e w5 ⟨ts, A2, c2, hl, rfl, hts, hX, hm, hk⟩
        have hS5 := hS4.out.call hBw hm hk
        have hX5 := XM.of hX hS4.out.s
        replace hX5 := Lib.hid hX5
        replace hts := Lib.hid hts
        replace hl := Lib.hid hl
        refine hK.out _ _ ⟨fun _ => trivial, ?_⟩
        clear hK K hm hk hS4 hX
        replace hS5 := Lib.hid hS5
        try simp only [Act.put, List.getElem_toArray, List.getElem_cons_zero, List.getElem_cons_succ, List.setIfInBounds_toArray, List.set_cons_zero, List.set_cons_succ]
        refine anyT_one (i := 0) (by kernel_rfl) ?_
        refine wpOp_step rfl (fun K hK => ?_)
        replace hK := Lib.hid hK
        have hRa := heap_alloc_new w5 (.cells #[.string ⟨#[102]⟩, .string ⟨#[103]⟩, .string ⟨#[36, 115, 105, 103, 110, 101, 100]⟩, .string ⟨#[36, 117, 110, 115, 105, 103, 110, 101, 100]⟩] 9)
        obtain ⟨a0, ha0⟩ : ∃ a, w5.heap.size = a := ⟨_, rfl⟩
        have hR6 : RWm (tabS cl4) 9 g (w5.alloc (.cells #[.string ⟨#[102]⟩, .string ⟨#[103]⟩, .string ⟨#[36, 115, 105, 103, 110, 101, 100]⟩, .string ⟨#[36, 117, 110, 115, 105, 103, 110, 101, 100]⟩] 9)) a0 := by
          rw [← ha0]; exact ⟨hS5.out.s, hRa⟩
        have hS6 := hS5.out.alloc (.cells #[.string ⟨#[102]⟩, .string ⟨#[103]⟩, .string ⟨#[36, 115, 105, 103, 110, 101, 100]⟩, .string ⟨#[36, 117, 110, 115, 105, 103, 110, 101, 100]⟩] 9)
        have hX6 := hX5.out.alloc (.cells #[.string ⟨#[102]⟩, .string ⟨#[103]⟩, .string ⟨#[36, 115, 105, 103, 110, 101, 100]⟩, .string ⟨#[36, 117, 110, 115, 105, 103, 110, 101, 100]⟩] 9)
        obtain ⟨w6, hw6⟩ : ∃ W, w5.alloc (.cells #[.string ⟨#[102]⟩, .string ⟨#[103]⟩, .string ⟨#[36, 115, 105, 103, 110, 101, 100]⟩, .string ⟨#[36, 117, 110, 115, 105, 103, 110, 101, 100]⟩] 9) = W := ⟨_, rfl⟩
        rw [hw6] at hR6 hS6 hX6
        replace hR6 := Lib.hid hR6
        replace hS6 := Lib.hid hS6
        replace hX6 := Lib.hid hX6
        go_simp
        refine hK.out _ _ ⟨fun _ => trivial, ?_⟩
        clear hK K hRa hS5 hX5
        try simp only [Act.put, List.getElem_toArray, List.getElem_cons_zero, List.getElem_cons_succ, List.setIfInBounds_toArray, List.set_cons_zero, List.set_cons_succ]
        refine anyT_take (i := 3) (v := .pointer (some ⟨a0, r2, none⟩)) rfl (by kernel_rfl) (by kernel_rfl) (fun _ _ _ h => h) (Or.inl ⟨by rfl, ?_⟩) trivial ?_
        · intro w' _
          go_simp
          try with_reducible rfl
          try (intro h9; exfalso; omega)
        try simp only [Act.put, List.getElem_toArray, List.getElem_cons_zero, List.getElem_cons_succ, List.setIfInBounds_toArray, List.set_cons_zero, List.set_cons_succ]
        refine anyT_one (i := 4) (by kernel_rfl) ?_
        refine wpOp_step rfl (fun K hK => ?_)
        replace hK := Lib.hid hK
        have cr := tab_cell hR6.out.2 r2 hr2
        have hs : (⟨(cl4[r2]'hr2).toArray⟩ : ByteArray).toList ∈ cl4 := by rw [tab_list]; exact List.getElem_mem hr2
        have hl1 := lt_of_get hR6.out.2
        obtain ⟨s, hsq⟩ : ∃ s, (⟨(cl4[r2]'hr2).toArray⟩ : ByteArray) = s := ⟨_, rfl⟩
        rw [hsq] at cr hs
        clear hsq
        replace hs := Lib.hid hs
        go_simp
        refine hK.out _ _ ⟨fun _ => trivial, ?_⟩
        clear hK K cr hl1
        try simp only [Act.put, List.getElem_toArray, List.getElem_cons_zero, List.getElem_cons_succ, List.setIfInBounds_toArray, List.set_cons_zero, List.set_cons_succ]
        refine anyT_take (i := 12) (v := .agg #[.int .i64 10, .int .i64 0, .int .i64 0, .int .i64 0, .string s, .slice A2 n c2]) rfl (by kernel_rfl) (by kernel_rfl) (fun _ _ _ h => h) (Or.inl ⟨by rfl, ?_⟩) trivial ?_
        · intro w' _
          go_simp
          try with_reducible rfl
        try simp only [Act.put, List.getElem_toArray, List.getElem_cons_zero, List.getElem_cons_succ, List.setIfInBounds_toArray, List.set_cons_zero, List.set_cons_succ]
        obtain ⟨zf, zl, z0, z1, z2, z3, z4, z5⟩ := hS6.out.z.all
        have six := hS6.out.z.six (.int .i64 10) (.int .i64 0) (.int .i64 0) (.int .i64 0) (.string s) (.slice A2 n c2)
        replace six := Lib.hid six
        refine anyT_one (i := 13) (by kernel_rfl) ?_
        refine wpOp_step rfl (fun K hK => ?_)
        replace hK := Lib.hid hK
        go_simp
        refine hK.out _ _ ⟨fun h => absurd h (by decide), ?_⟩
        clear hK K zf zl z0 z1 z2 z3 z4 z5
        try simp only [Act.put, List.getElem_toArray, List.getElem_cons_zero, List.getElem_cons_succ, List.setIfInBounds_toArray, List.set_cons_zero, List.set_cons_succ]
        refine anyT_done (by kernel_rfl) ?_ _
        go_wp2_with fail
        refine bodyPost_ret (v := .agg #[.int .i64 10, .int .i64 0, .int .i64 0, .int .i64 0, .string s, .slice A2 n c2]) (by simp [results, Try.results7, go_sem, six.out]) rfl ?_
        have hl0 := hl.out
        obtain ⟨hW, hd⟩ := WM_of (h := ⟨10, 0, 0, 0, s⟩) (ts := ts) (D := D) ⟨rfl, rfl, rfl, fun h => by simp at h, fun h => by simp at h, fun h => by simp at h, fun h => by simp at h, fun h => by simp at h, fun _ => hs.out⟩ (by simp; omega) hts.out
        exact MXm_fin (h := ⟨10, 0, 0, 0, s⟩) (ts := ts) (c := c2) hg hS6.out.k hS6.out.m hBw (hX6.out _) hl0 (by omega) hW hd _ _ _ _ _ _
end Go.Proofs.Ytljiiniocnljmaa
