/-
  MakeExpr, where the order is drawn.
-/
import Derived.Test.YtljiiniocnljmaaVf
import Derived.Test.YtljiiniocnljmaaRt
namespace Go.Proofs.Ytljiiniocnljmaa
open Go.RowKit Go.Lib
/-- Behind the entry: the answer's variable, the maker, what was kept. -/
structure STm (w : World) (p B g : Nat) (a : World) : Prop where
  z : EZ a g
  m : MKm a p B
  k : Keep (· = p) w a
  s : g < a.heap.size
theorem STm.call {w a b : World} {p B g : Nat} (h : STm w p B g a) (hB : B ≤ g) (m : MKm b p B) (k : Keep (· = p) a b) : STm w p B g b :=
  ⟨h.z.keep k (by have := m.1; omega), m, h.k.then k, Nat.lt_of_lt_of_le h.s k.size⟩
theorem STm.alloc {w a : World} {p B g : Nat} (h : STm w p B g a) (o : Obj) : STm w p B g (a.alloc o) := ⟨h.z.alloc o, h.m.alloc o, h.k.then (Keep.al0 _ a o), by have := h.s; simp; omega⟩
theorem STm.drew {w a : World} {p B g : Nat} (h : STm w p B g a) : STm w p B g a.drew := ⟨h.z, h.m.drew, h.k.dr, h.s⟩
/-- A row of constants that the call made. -/
def RWm (cs : Array Value) (T : TypeId) (g : Nat) (a : World) (b : Nat) : Prop := g < b ∧ a.heap[b]? = some (.cells cs T (0, 0))
theorem RWm.call {cs : Array Value} {T : TypeId} {g b p : Nat} {w a : World} (h : RWm cs T g w b) (hp : p < g) (k : Keep (· = p) w a) : RWm cs T g a b := ⟨h.1, (k.block b (lt_of_get h.2) (by have := h.1; omega)).trans h.2⟩
/-- The operands that were made. -/
def XM (g : Nat) (a : World) (ts : List XT) (A : Option Addr) : Prop := ∀ hd, XQ a (fun b => g < b ∧ b < a.heap.size) (mkT hd ts) A
theorem XM.alloc {g : Nat} {a : World} {ts : List XT} {A : Option Addr} (h : XM g a ts A) (o : Obj) : XM g (a.alloc o) ts A := fun hd =>
  (h hd).over (fun b hb => ((Below.refl _ a).alloc (Nat.le_refl _) o).block b hb.2) fun b hb => ⟨hb.1, by have := hb.2; simp; omega⟩
theorem XM.of {g : Nat} {w a : World} {ts : List XT} {A : Option Addr} (h : ∀ hd, XQ a (fun b => w.heap.size ≤ b ∧ b < a.heap.size) (mkT hd ts) A) (hg : g < w.heap.size) : XM g a ts A := fun hd =>
  (h hd).over (fun _ _ => rfl) fun _ hb => ⟨Nat.lt_of_lt_of_le hg hb.1, hb.2⟩
set_option maxRecDepth 100000 in
set_option maxHeartbeats 6400000 in
theorem MakeExpr_3 (p B D : Nat) (d : Int) (w : World) (hM : MKm w p B) (hd1 : 1 < d) (hd2 : d ≤ 1000)
    (hNx : ∀ (n : Nat) W, 0 < n → n ≤ 1000 → MKm W p B → Calls Try.prog 13 #[.pointer (some ⟨p, 0, none⟩), .int .i64 (n : Int)] W (NX n p B W))
    (hEs : 1 < d → ∀ (n : Nat) W, n ≤ 3 → MKm W p B → Calls Try.prog 16 #[.pointer (some ⟨p, 0, none⟩), .int .i64 (d - 1), .int .i64 (n : Int)] W (MXms D p B n W))
    (h12 : Calls Try.prog 13 #[.pointer (some ⟨p, 0, none⟩), .int .i64 12] (w.alloc (.cells #[.int .i64 0, .int .i64 0, .int .i64 0, .int .i64 0, .string ⟨#[]⟩, .slice none 0 0] 32)) fun e w' => e = .returned (.int .i64 3) ∧ MKm w' p B ∧ Keep (· = p) (w.alloc (.cells #[.int .i64 0, .int .i64 0, .int .i64 0, .int .i64 0, .string ⟨#[]⟩, .slice none 0 0] 32)) w') :
    Calls Try.prog 7 #[.pointer (some ⟨p, 0, none⟩), .int .i64 d] w (MXm (D + 1) p B w) := by
  have hpB := hM.1
  have hBw := hM.2.1
  have hZ1 : EZ (w.alloc (.cells #[.int .i64 0, .int .i64 0, .int .i64 0, .int .i64 0, .string ⟨#[]⟩, .slice none 0 0] 32)) w.heap.size := heap_alloc_new w _
  have hM1 := hM.alloc (.cells #[.int .i64 0, .int .i64 0, .int .i64 0, .int .i64 0, .string ⟨#[]⟩, .slice none 0 0] 32)
  have hK1 := Keep.al0 (· = p) w (.cells #[.int .i64 0, .int .i64 0, .int .i64 0, .int .i64 0, .string ⟨#[]⟩, .slice none 0 0] 32)
  have hs1 : (w.alloc (.cells #[.int .i64 0, .int .i64 0, .int .i64 0, .int .i64 0, .string ⟨#[]⟩, .slice none 0 0] 32)).heap.size = w.heap.size + 1 := by simp
  obtain ⟨g, hg⟩ : ∃ g, w.heap.size = g := ⟨_, rfl⟩
  rw [hg] at hZ1 hs1 hBw
  replace h12 := Lib.hid h12
  replace hNx := Lib.hid hNx
  replace hEs := Lib.hid hEs
  replace hZ1 := Lib.hid hZ1
  replace hM1 := Lib.hid hM1
  replace hK1 := Lib.hid hK1
  replace hs1 := Lib.hid hs1
  replace hM := Lib.hid hM
  go_enter Try.func7, Try.ntmps7
  go_wp2_with fail
  (with_reducible refine h12.out.mono ?_)
  rintro e w1 ⟨rfl, hM2, hk2⟩
  have hst : STm w p B g w1 := ⟨hZ1.out.keep hk2 (by omega), hM2, hK1.out.then hk2, by have := hk2.size; have := hs1.out; omega⟩
  clear hk2 hZ1 hM1 hK1 hs1 hM2 hM
  replace hst := Lib.hid hst
  have hnd : ¬ d ≤ 1 := by omega
  have hw1 : IntKind.i64.wrap (d - 1) = d - 1 := IntWalk.i64_in _ (by omega)
  have hes := hEs.out hd1
  have hes1 : ∀ W, MKm W p B → Calls Try.prog 16 #[.pointer (some ⟨p, 0, none⟩), .int .i64 (d - 1), .int .i64 1] W (MXms D p B 1 W) := fun W q => hes 1 W (by decide) q
  have hes2 : ∀ W, MKm W p B → Calls Try.prog 16 #[.pointer (some ⟨p, 0, none⟩), .int .i64 (d - 1), .int .i64 2] W (MXms D p B 2 W) := fun W q => hes 2 W (by decide) q
  have hes3 : ∀ W, MKm W p B → Calls Try.prog 16 #[.pointer (some ⟨p, 0, none⟩), .int .i64 (d - 1), .int .i64 3] W (MXms D p B 3 W) := fun W q => hes 3 W (by decide) q
  have hop := fun W => mops_t W
  have hnm := fun W (q : MKm W p B) => mname_t p B W q
  unfold NS at hnm
  replace hop := Lib.hid hop
  replace hnm := Lib.hid hnm
  have hn2 : ∀ W, MKm W p B → Calls Try.prog 13 #[.pointer (some ⟨p, 0, none⟩), .int .i64 2] W (NX 2 p B W) := fun W q => hNx.out 2 W (by decide) (by decide) q
  unfold NX at hn2
  replace hn2 := Lib.hid hn2
  have hn3 : ∀ W, MKm W p B → Calls Try.prog 13 #[.pointer (some ⟨p, 0, none⟩), .int .i64 3] W (NX 3 p B W) := fun W q => hNx.out 3 W (by decide) (by decide) q
  unfold NX at hn3
  replace hn3 := Lib.hid hn3
  have hn4 : ∀ W, MKm W p B → Calls Try.prog 13 #[.pointer (some ⟨p, 0, none⟩), .int .i64 4] W (NX 4 p B W) := fun W q => hNx.out 4 W (by decide) (by decide) q
  unfold NX at hn4
  replace hn4 := Lib.hid hn4
  have hn9 : ∀ W, MKm W p B → Calls Try.prog 13 #[.pointer (some ⟨p, 0, none⟩), .int .i64 9] W (NX 9 p B W) := fun W q => hNx.out 9 W (by decide) (by decide) q
  unfold NX at hn9
  replace hn9 := Lib.hid hn9
  have hn21 : ∀ W, MKm W p B → Calls Try.prog 13 #[.pointer (some ⟨p, 0, none⟩), .int .i64 21] W (NX 21 p B W) := fun W q => hNx.out 21 W (by decide) (by decide) q
  unfold NX at hn21
  replace hn21 := Lib.hid hn21
  unfold MXms at hes hes1 hes2 hes3
  replace hes := Lib.hid hes
  replace hes1 := Lib.hid hes1
  replace hes2 := Lib.hid hes2
  replace hes3 := Lib.hid hes3
  go_wp2_with fail
  refine region_anyT (n := 10) (S := fun _ => True) (by kernel_rfl) ?_
  obtain ⟨w2, hw2⟩ : ∃ W, w1.drew = W := ⟨_, rfl⟩
  have hS2 := hst.out.drew
  rw [hw2] at hS2 ⊢
  replace hS2 := Lib.hid hS2
  clear hst
  refine anyT_take (i := 1) (v := .pointer (some ⟨p, 0, none⟩)) rfl (by kernel_rfl) (by kernel_rfl) (fun _ _ _ h => h) (Or.inl ⟨by rfl, ?_⟩) trivial ?_
  · intro w' _
    go_simp
    try with_reducible rfl
    try (intro h9; exfalso; omega)
  try simp only [Act.put, List.getElem_toArray, List.getElem_cons_zero, List.getElem_cons_succ, List.setIfInBounds_toArray, List.set_cons_zero, List.set_cons_succ]
  refine anyT_take (i := 5) (v := .pointer (some ⟨p, 0, none⟩)) rfl (by kernel_rfl) (by kernel_rfl) (fun _ _ _ h => h) (Or.inl ⟨by rfl, ?_⟩) trivial ?_
  · intro w' _
    go_simp
    try with_reducible rfl
    try (intro h9; exfalso; omega)
  try simp only [Act.put, List.getElem_toArray, List.getElem_cons_zero, List.getElem_cons_succ, List.setIfInBounds_toArray, List.set_cons_zero, List.set_cons_succ]
  refine anyT_take (i := 6) (v := .int .i64 d) rfl (by kernel_rfl) (by kernel_rfl) (fun _ _ _ h => h) (Or.inl ⟨by rfl, ?_⟩) trivial ?_
  · intro w' _
    go_simp
    try with_reducible rfl
    try (intro h9; exfalso; omega)
  try simp only [Act.put, List.getElem_toArray, List.getElem_cons_zero, List.getElem_cons_succ, List.setIfInBounds_toArray, List.set_cons_zero, List.set_cons_succ]
  refine anyT_take (i := 7) (v := .int .i64 (d - 1)) rfl (by kernel_rfl) (by kernel_rfl) (fun _ _ _ h => h) (Or.inl ⟨by rfl, ?_⟩) trivial ?_
  · intro w' _
    go_simp
    try with_reducible rfl
    try (intro h9; exfalso; omega)
  try simp only [Act.put, List.getElem_toArray, List.getElem_cons_zero, List.getElem_cons_succ, List.setIfInBounds_toArray, List.set_cons_zero, List.set_cons_succ]
  refine anyT_pair (i := 0) (j := 2) (by kernel_rfl) ?_ ?_
  ·
    refine wpOp_step rfl (fun K hK => ?_)
    replace hK := Lib.hid hK
    have hRa := heap_alloc_new w2 (.cells #[.string ⟨#[45]⟩, .string ⟨#[126]⟩, .string ⟨#[33]⟩, .string ⟨#[38]⟩, .string ⟨#[124]⟩, .string ⟨#[94]⟩, .string ⟨#[126, 38]⟩, .string ⟨#[126, 124]⟩, .string ⟨#[126, 94]⟩] 9)
    obtain ⟨a0, ha0⟩ : ∃ a, w2.heap.size = a := ⟨_, rfl⟩
    have hR3 : RWm (tabS un9) 9 g (w2.alloc (.cells #[.string ⟨#[45]⟩, .string ⟨#[126]⟩, .string ⟨#[33]⟩, .string ⟨#[38]⟩, .string ⟨#[124]⟩, .string ⟨#[94]⟩, .string ⟨#[126, 38]⟩, .string ⟨#[126, 124]⟩, .string ⟨#[126, 94]⟩] 9)) a0 := by
      rw [← ha0]; exact ⟨hS2.out.s, hRa⟩
    have hS3 := hS2.out.alloc (.cells #[.string ⟨#[45]⟩, .string ⟨#[126]⟩, .string ⟨#[33]⟩, .string ⟨#[38]⟩, .string ⟨#[124]⟩, .string ⟨#[94]⟩, .string ⟨#[126, 38]⟩, .string ⟨#[126, 124]⟩, .string ⟨#[126, 94]⟩] 9)
    obtain ⟨w3, hw3⟩ : ∃ W, w2.alloc (.cells #[.string ⟨#[45]⟩, .string ⟨#[126]⟩, .string ⟨#[33]⟩, .string ⟨#[38]⟩, .string ⟨#[124]⟩, .string ⟨#[94]⟩, .string ⟨#[126, 38]⟩, .string ⟨#[126, 124]⟩, .string ⟨#[126, 94]⟩] 9) = W := ⟨_, rfl⟩
    rw [hw3] at hR3 hS3
    replace hR3 := Lib.hid hR3
    replace hS3 := Lib.hid hS3
    go_simp
    refine hK.out _ _ ⟨fun _ => trivial, ?_⟩
    clear hK K hRa hS2
    try simp only [Act.put, List.getElem_toArray, List.getElem_cons_zero, List.getElem_cons_succ, List.setIfInBounds_toArray, List.set_cons_zero, List.set_cons_succ]
    refine anyT_one (i := 2) (by kernel_rfl) ?_
    refine wpOp_step rfl (fun K hK => ?_)
    replace hK := Lib.hid hK
    go_simp
    (with_reducible refine (hn9.out _ hS3.out.m).mono ?_)
    rintro e w4 ⟨r2, hr2, rfl, hm, hk⟩
    have hS4 := hS3.out.call hBw hm hk
    have hR4 := hR3.out.call (by omega) hk
    refine hK.out _ _ ⟨fun _ => trivial, ?_⟩
    clear hK K hm hk hS3 hR3 
    replace hS4 := Lib.hid hS4
    replace hR4 := Lib.hid hR4
    try simp only [Act.put, List.getElem_toArray, List.getElem_cons_zero, List.getElem_cons_succ, List.setIfInBounds_toArray, List.set_cons_zero, List.set_cons_succ]
    refine anyT_take (i := 3) (v := .pointer (some ⟨a0, r2, none⟩)) rfl (by kernel_rfl) (by kernel_rfl) (fun _ _ _ h => h) (Or.inl ⟨by rfl, ?_⟩) trivial ?_
    · intro w' _
      go_simp
      try with_reducible rfl
      try (intro h9; exfalso; omega)
    try simp only [Act.put, List.getElem_toArray, List.getElem_cons_zero, List.getElem_cons_succ, List.setIfInBounds_toArray, List.set_cons_zero, List.set_cons_succ]
    refine anyT_pair (i := 4) (j := 8) (by kernel_rfl) ?_ ?_
    ·
      refine wpOp_step rfl (fun K hK => ?_)
      replace hK := Lib.hid hK
      have cr := tab_cell hR4.out.2 r2 hr2
      have hs : (⟨(un9[r2]'hr2).toArray⟩ : ByteArray).toList ∈ un9 := by rw [tab_list]; exact List.getElem_mem hr2
      have hl1 := lt_of_get hR4.out.2
      obtain ⟨s, hsq⟩ : ∃ s, (⟨(un9[r2]'hr2).toArray⟩ : ByteArray) = s := ⟨_, rfl⟩
      rw [hsq] at cr hs
      clear hsq
      replace hs := Lib.hid hs
      go_simp
      refine hK.out _ _ ⟨fun _ => trivial, ?_⟩
      clear hK K cr hl1
      try simp only [Act.put, List.getElem_toArray, List.getElem_cons_zero, List.getElem_cons_succ, List.setIfInBounds_toArray, List.set_cons_zero, List.set_cons_succ]
      refine anyT_one (i := 8) (by kernel_rfl) ?_
      refine wpOp_step rfl (fun K hK => ?_)
      replace hK := Lib.hid hK
      go_simp
      (with_reducible refine (hes1.out _ hS4.out.m).mono ?_)
      rintro e w5 ⟨ts, A2, c2, hl, rfl, hts, hX, hm, hk⟩
      have hS5 := hS4.out.call hBw hm hk
      have hR5 := hR4.out.call (by omega) hk
      have hX5 := XM.of hX hS4.out.s
      replace hX5 := Lib.hid hX5
      replace hts := Lib.hid hts
      replace hl := Lib.hid hl
      refine hK.out _ _ ⟨fun _ => trivial, ?_⟩
      clear hK K hm hk hS4 hR4 hX
      replace hS5 := Lib.hid hS5
      replace hR5 := Lib.hid hR5
      try simp only [Act.put, List.getElem_toArray, List.getElem_cons_zero, List.getElem_cons_succ, List.setIfInBounds_toArray, List.set_cons_zero, List.set_cons_succ]
      refine anyT_take (i := 9) (v := .agg #[.int .i64 3, .int .i64 0, .int .i64 0, .int .i64 0, .string s, .slice A2 1 c2]) rfl (by kernel_rfl) (by kernel_rfl) (fun _ _ _ h => h) (Or.inl ⟨by rfl, ?_⟩) trivial ?_
      · intro w' _
        go_simp
        try with_reducible rfl
      try simp only [Act.put, List.getElem_toArray, List.getElem_cons_zero, List.getElem_cons_succ, List.setIfInBounds_toArray, List.set_cons_zero, List.set_cons_succ]
      obtain ⟨zf, zl, z0, z1, z2, z3, z4, z5⟩ := hS5.out.z.all
      have six := hS5.out.z.six (.int .i64 3) (.int .i64 0) (.int .i64 0) (.int .i64 0) (.string s) (.slice A2 1 c2)
      replace six := Lib.hid six
      refine anyT_one (i := 10) (by kernel_rfl) ?_
      refine wpOp_step rfl (fun K hK => ?_)
      replace hK := Lib.hid hK
      go_simp
      refine hK.out _ _ ⟨fun h => absurd h (by decide), ?_⟩
      clear hK K zf zl z0 z1 z2 z3 z4 z5
      try simp only [Act.put, List.getElem_toArray, List.getElem_cons_zero, List.getElem_cons_succ, List.setIfInBounds_toArray, List.set_cons_zero, List.set_cons_succ]
      refine anyT_done (by kernel_rfl) ?_ _
      go_wp2_with fail
      refine bodyPost_ret (v := .agg #[.int .i64 3, .int .i64 0, .int .i64 0, .int .i64 0, .string s, .slice A2 1 c2]) (by simp [results, Try.results7, go_sem, six.out]) rfl ?_
      have hl0 := hl.out
      obtain ⟨hW, hd⟩ := WM_of (h := ⟨3, 0, 0, 0, s⟩) (ts := ts) (D := D) ⟨rfl, rfl, rfl, fun h => by simp at h, fun h => by simp at h, fun _ => hs.out, fun h => by simp at h, fun h => by simp at h, fun h => by simp at h⟩ (by simp; omega) hts.out
      exact MXm_fin (h := ⟨3, 0, 0, 0, s⟩) (ts := ts) (c := c2) hg hS5.out.k hS5.out.m hBw (hX5.out _) hl0 (by omega) hW hd _ _ _ _ _ _
    ·
      refine wpOp_step rfl (fun K hK => ?_)
      replace hK := Lib.hid hK
      go_simp
      (with_reducible refine (hes1.out _ hS4.out.m).mono ?_)
      rintro e w5 ⟨ts, A2, c2, hl, rfl, hts, hX, hm, hk⟩
      have hS5 := hS4.out.call hBw hm hk
      have hR5 := hR4.out.call (by omega) hk
      have hX5 := XM.of hX hS4.out.s
      replace hX5 := Lib.hid hX5
      replace hts := Lib.hid hts
      replace hl := Lib.hid hl
      refine hK.out _ _ ⟨fun _ => trivial, ?_⟩
      clear hK K hm hk hS4 hR4 hX
      replace hS5 := Lib.hid hS5
      replace hR5 := Lib.hid hR5
      try simp only [Act.put, List.getElem_toArray, List.getElem_cons_zero, List.getElem_cons_succ, List.setIfInBounds_toArray, List.set_cons_zero, List.set_cons_succ]
      refine anyT_one (i := 4) (by kernel_rfl) ?_
      refine wpOp_step rfl (fun K hK => ?_)
      replace hK := Lib.hid hK
      have cr := tab_cell hR5.out.2 r2 hr2
      have hs : (⟨(un9[r2]'hr2).toArray⟩ : ByteArray).toList ∈ un9 := by rw [tab_list]; exact List.getElem_mem hr2
      have hl1 := lt_of_get hR5.out.2
      obtain ⟨s, hsq⟩ : ∃ s, (⟨(un9[r2]'hr2).toArray⟩ : ByteArray) = s := ⟨_, rfl⟩
      rw [hsq] at cr hs
      clear hsq
      replace hs := Lib.hid hs
      go_simp
      refine hK.out _ _ ⟨fun _ => trivial, ?_⟩
      clear hK K cr hl1
      try simp only [Act.put, List.getElem_toArray, List.getElem_cons_zero, List.getElem_cons_succ, List.setIfInBounds_toArray, List.set_cons_zero, List.set_cons_succ]
      refine anyT_take (i := 9) (v := .agg #[.int .i64 3, .int .i64 0, .int .i64 0, .int .i64 0, .string s, .slice A2 1 c2]) rfl (by kernel_rfl) (by kernel_rfl) (fun _ _ _ h => h) (Or.inl ⟨by rfl, ?_⟩) trivial ?_
      · intro w' _
        go_simp
        try with_reducible rfl
      try simp only [Act.put, List.getElem_toArray, List.getElem_cons_zero, List.getElem_cons_succ, List.setIfInBounds_toArray, List.set_cons_zero, List.set_cons_succ]
      obtain ⟨zf, zl, z0, z1, z2, z3, z4, z5⟩ := hS5.out.z.all
      have six := hS5.out.z.six (.int .i64 3) (.int .i64 0) (.int .i64 0) (.int .i64 0) (.string s) (.slice A2 1 c2)
      replace six := Lib.hid six
      refine anyT_one (i := 10) (by kernel_rfl) ?_
      refine wpOp_step rfl (fun K hK => ?_)
      replace hK := Lib.hid hK
      go_simp
      refine hK.out _ _ ⟨fun h => absurd h (by decide), ?_⟩
      clear hK K zf zl z0 z1 z2 z3 z4 z5
      try simp only [Act.put, List.getElem_toArray, List.getElem_cons_zero, List.getElem_cons_succ, List.setIfInBounds_toArray, List.set_cons_zero, List.set_cons_succ]
      refine anyT_done (by kernel_rfl) ?_ _
      go_wp2_with fail
      refine bodyPost_ret (v := .agg #[.int .i64 3, .int .i64 0, .int .i64 0, .int .i64 0, .string s, .slice A2 1 c2]) (by simp [results, Try.results7, go_sem, six.out]) rfl ?_
      have hl0 := hl.out
      obtain ⟨hW, hd⟩ := WM_of (h := ⟨3, 0, 0, 0, s⟩) (ts := ts) (D := D) ⟨rfl, rfl, rfl, fun h => by simp at h, fun h => by simp at h, fun _ => hs.out, fun h => by simp at h, fun h => by simp at h, fun h => by simp at h⟩ (by simp; omega) hts.out
      exact MXm_fin (h := ⟨3, 0, 0, 0, s⟩) (ts := ts) (c := c2) hg hS5.out.k hS5.out.m hBw (hX5.out _) hl0 (by omega) hW hd _ _ _ _ _ _
  ·
    refine wpOp_step rfl (fun K hK => ?_)
    replace hK := Lib.hid hK
    go_simp
    (with_reducible refine (hn9.out _ hS2.out.m).mono ?_)
    rintro e w3 ⟨r2, hr2, rfl, hm, hk⟩
    have hS3 := hS2.out.call hBw hm hk
    refine hK.out _ _ ⟨fun _ => trivial, ?_⟩
    clear hK K hm hk hS2 
    replace hS3 := Lib.hid hS3
    try simp only [Act.put, List.getElem_toArray, List.getElem_cons_zero, List.getElem_cons_succ, List.setIfInBounds_toArray, List.set_cons_zero, List.set_cons_succ]
    refine anyT_pair (i := 0) (j := 8) (by kernel_rfl) ?_ ?_
    ·
      refine wpOp_step rfl (fun K hK => ?_)
      replace hK := Lib.hid hK
      have hRa := heap_alloc_new w3 (.cells #[.string ⟨#[45]⟩, .string ⟨#[126]⟩, .string ⟨#[33]⟩, .string ⟨#[38]⟩, .string ⟨#[124]⟩, .string ⟨#[94]⟩, .string ⟨#[126, 38]⟩, .string ⟨#[126, 124]⟩, .string ⟨#[126, 94]⟩] 9)
      obtain ⟨a0, ha0⟩ : ∃ a, w3.heap.size = a := ⟨_, rfl⟩
      have hR4 : RWm (tabS un9) 9 g (w3.alloc (.cells #[.string ⟨#[45]⟩, .string ⟨#[126]⟩, .string ⟨#[33]⟩, .string ⟨#[38]⟩, .string ⟨#[124]⟩, .string ⟨#[94]⟩, .string ⟨#[126, 38]⟩, .string ⟨#[126, 124]⟩, .string ⟨#[126, 94]⟩] 9)) a0 := by
        rw [← ha0]; exact ⟨hS3.out.s, hRa⟩
      have hS4 := hS3.out.alloc (.cells #[.string ⟨#[45]⟩, .string ⟨#[126]⟩, .string ⟨#[33]⟩, .string ⟨#[38]⟩, .string ⟨#[124]⟩, .string ⟨#[94]⟩, .string ⟨#[126, 38]⟩, .string ⟨#[126, 124]⟩, .string ⟨#[126, 94]⟩] 9)
      obtain ⟨w4, hw4⟩ : ∃ W, w3.alloc (.cells #[.string ⟨#[45]⟩, .string ⟨#[126]⟩, .string ⟨#[33]⟩, .string ⟨#[38]⟩, .string ⟨#[124]⟩, .string ⟨#[94]⟩, .string ⟨#[126, 38]⟩, .string ⟨#[126, 124]⟩, .string ⟨#[126, 94]⟩] 9) = W := ⟨_, rfl⟩
      rw [hw4] at hR4 hS4
      replace hR4 := Lib.hid hR4
      replace hS4 := Lib.hid hS4
      go_simp
      refine hK.out _ _ ⟨fun _ => trivial, ?_⟩
      clear hK K hRa hS3
      try simp only [Act.put, List.getElem_toArray, List.getElem_cons_zero, List.getElem_cons_succ, List.setIfInBounds_toArray, List.set_cons_zero, List.set_cons_succ]
      refine anyT_take (i := 3) (v := .pointer (some ⟨a0, r2, none⟩)) rfl (by kernel_rfl) (by kernel_rfl) (fun _ _ _ h => h) (Or.inl ⟨by rfl, ?_⟩) trivial ?_
      · intro w' _
        go_simp
        try with_reducible rfl
        try (intro h9; exfalso; omega)
      try simp only [Act.put, List.getElem_toArray, List.getElem_cons_zero, List.getElem_cons_succ, List.setIfInBounds_toArray, List.set_cons_zero, List.set_cons_succ]
      refine anyT_pair (i := 4) (j := 8) (by kernel_rfl) ?_ ?_
      ·
        refine wpOp_step rfl (fun K hK => ?_)
        replace hK := Lib.hid hK
        have cr := tab_cell hR4.out.2 r2 hr2
        have hs : (⟨(un9[r2]'hr2).toArray⟩ : ByteArray).toList ∈ un9 := by rw [tab_list]; exact List.getElem_mem hr2
        have hl1 := lt_of_get hR4.out.2
        obtain ⟨s, hsq⟩ : ∃ s, (⟨(un9[r2]'hr2).toArray⟩ : ByteArray) = s := ⟨_, rfl⟩
        rw [hsq] at cr hs
        clear hsq
        replace hs := Lib.hid hs
        go_simp
        refine hK.out _ _ ⟨fun _ => trivial, ?_⟩
        clear hK K cr hl1
        try simp only [Act.put, List.getElem_toArray, List.getElem_cons_zero, List.getElem_cons_succ, List.setIfInBounds_toArray, List.set_cons_zero, List.set_cons_succ]
        refine anyT_one (i := 8) (by kernel_rfl) ?_
        refine wpOp_step rfl (fun K hK => ?_)
        replace hK := Lib.hid hK
        go_simp
        (with_reducible refine (hes1.out _ hS4.out.m).mono ?_)
        rintro e w5 ⟨ts, A2, c2, hl, rfl, hts, hX, hm, hk⟩
        have hS5 := hS4.out.call hBw hm hk
        have hR5 := hR4.out.call (by omega) hk
        have hX5 := XM.of hX hS4.out.s
        replace hX5 := Lib.hid hX5
        replace hts := Lib.hid hts
        replace hl := Lib.hid hl
        refine hK.out _ _ ⟨fun _ => trivial, ?_⟩
        clear hK K hm hk hS4 hR4 hX
        replace hS5 := Lib.hid hS5
        replace hR5 := Lib.hid hR5
        try simp only [Act.put, List.getElem_toArray, List.getElem_cons_zero, List.getElem_cons_succ, List.setIfInBounds_toArray, List.set_cons_zero, List.set_cons_succ]
        refine anyT_take (i := 9) (v := .agg #[.int .i64 3, .int .i64 0, .int .i64 0, .int .i64 0, .string s, .slice A2 1 c2]) rfl (by kernel_rfl) (by kernel_rfl) (fun _ _ _ h => h) (Or.inl ⟨by rfl, ?_⟩) trivial ?_
        · intro w' _
          go_simp
          try with_reducible rfl
        try simp only [Act.put, List.getElem_toArray, List.getElem_cons_zero, List.getElem_cons_succ, List.setIfInBounds_toArray, List.set_cons_zero, List.set_cons_succ]
        obtain ⟨zf, zl, z0, z1, z2, z3, z4, z5⟩ := hS5.out.z.all
        have six := hS5.out.z.six (.int .i64 3) (.int .i64 0) (.int .i64 0) (.int .i64 0) (.string s) (.slice A2 1 c2)
        replace six := Lib.hid six
        refine anyT_one (i := 10) (by kernel_rfl) ?_
        refine wpOp_step rfl (fun K hK => ?_)
        replace hK := Lib.hid hK
        go_simp
        refine hK.out _ _ ⟨fun h => absurd h (by decide), ?_⟩
        clear hK K zf zl z0 z1 z2 z3 z4 z5
        try simp only [Act.put, List.getElem_toArray, List.getElem_cons_zero, List.getElem_cons_succ, List.setIfInBounds_toArray, List.set_cons_zero, List.set_cons_succ]
        refine anyT_done (by kernel_rfl) ?_ _
        go_wp2_with fail
        refine bodyPost_ret (v := .agg #[.int .i64 3, .int .i64 0, .int .i64 0, .int .i64 0, .string s, .slice A2 1 c2]) (by simp [results, Try.results7, go_sem, six.out]) rfl ?_
        have hl0 := hl.out
        obtain ⟨hW, hd⟩ := WM_of (h := ⟨3, 0, 0, 0, s⟩) (ts := ts) (D := D) ⟨rfl, rfl, rfl, fun h => by simp at h, fun h => by simp at h, fun _ => hs.out, fun h => by simp at h, fun h => by simp at h, fun h => by simp at h⟩ (by simp; omega) hts.out
        exact MXm_fin (h := ⟨3, 0, 0, 0, s⟩) (ts := ts) (c := c2) hg hS5.out.k hS5.out.m hBw (hX5.out _) hl0 (by omega) hW hd _ _ _ _ _ _
      ·
        refine wpOp_step rfl (fun K hK => ?_)
        replace hK := Lib.hid hK
        go_simp
        (with_reducible refine (hes1.out _ hS4.out.m).mono ?_)
        rintro e w5 ⟨ts, A2, c2, hl, rfl, hts, hX, hm, hk⟩
        have hS5 := hS4.out.call hBw hm hk
        have hR5 := hR4.out.call (by omega) hk
        have hX5 := XM.of hX hS4.out.s
        replace hX5 := Lib.hid hX5
        replace hts := Lib.hid hts
        replace hl := Lib.hid hl
        refine hK.out _ _ ⟨fun _ => trivial, ?_⟩
        clear hK K hm hk hS4 hR4 hX
        replace hS5 := Lib.hid hS5
        replace hR5 := Lib.hid hR5
        try simp only [Act.put, List.getElem_toArray, List.getElem_cons_zero, List.getElem_cons_succ, List.setIfInBounds_toArray, List.set_cons_zero, List.set_cons_succ]
        refine anyT_one (i := 4) (by kernel_rfl) ?_
        refine wpOp_step rfl (fun K hK => ?_)
        replace hK := Lib.hid hK
        have cr := tab_cell hR5.out.2 r2 hr2
        have hs : (⟨(un9[r2]'hr2).toArray⟩ : ByteArray).toList ∈ un9 := by rw [tab_list]; exact List.getElem_mem hr2
        have hl1 := lt_of_get hR5.out.2
        obtain ⟨s, hsq⟩ : ∃ s, (⟨(un9[r2]'hr2).toArray⟩ : ByteArray) = s := ⟨_, rfl⟩
        rw [hsq] at cr hs
        clear hsq
        replace hs := Lib.hid hs
        go_simp
        refine hK.out _ _ ⟨fun _ => trivial, ?_⟩
        clear hK K cr hl1
        try simp only [Act.put, List.getElem_toArray, List.getElem_cons_zero, List.getElem_cons_succ, List.setIfInBounds_toArray, List.set_cons_zero, List.set_cons_succ]
        refine anyT_take (i := 9) (v := .agg #[.int .i64 3, .int .i64 0, .int .i64 0, .int .i64 0, .string s, .slice A2 1 c2]) rfl (by kernel_rfl) (by kernel_rfl) (fun _ _ _ h => h) (Or.inl ⟨by rfl, ?_⟩) trivial ?_
        · intro w' _
          go_simp
          try with_reducible rfl
        try simp only [Act.put, List.getElem_toArray, List.getElem_cons_zero, List.getElem_cons_succ, List.setIfInBounds_toArray, List.set_cons_zero, List.set_cons_succ]
        obtain ⟨zf, zl, z0, z1, z2, z3, z4, z5⟩ := hS5.out.z.all
        have six := hS5.out.z.six (.int .i64 3) (.int .i64 0) (.int .i64 0) (.int .i64 0) (.string s) (.slice A2 1 c2)
        replace six := Lib.hid six
        refine anyT_one (i := 10) (by kernel_rfl) ?_
        refine wpOp_step rfl (fun K hK => ?_)
        replace hK := Lib.hid hK
        go_simp
        refine hK.out _ _ ⟨fun h => absurd h (by decide), ?_⟩
        clear hK K zf zl z0 z1 z2 z3 z4 z5
        try simp only [Act.put, List.getElem_toArray, List.getElem_cons_zero, List.getElem_cons_succ, List.setIfInBounds_toArray, List.set_cons_zero, List.set_cons_succ]
        refine anyT_done (by kernel_rfl) ?_ _
        go_wp2_with fail
        refine bodyPost_ret (v := .agg #[.int .i64 3, .int .i64 0, .int .i64 0, .int .i64 0, .string s, .slice A2 1 c2]) (by simp [results, Try.results7, go_sem, six.out]) rfl ?_
        have hl0 := hl.out
        obtain ⟨hW, hd⟩ := WM_of (h := ⟨3, 0, 0, 0, s⟩) (ts := ts) (D := D) ⟨rfl, rfl, rfl, fun h => by simp at h, fun h => by simp at h, fun _ => hs.out, fun h => by simp at h, fun h => by simp at h, fun h => by simp at h⟩ (by simp; omega) hts.out
        exact MXm_fin (h := ⟨3, 0, 0, 0, s⟩) (ts := ts) (c := c2) hg hS5.out.k hS5.out.m hBw (hX5.out _) hl0 (by omega) hW hd _ _ _ _ _ _
    ·
      refine wpOp_step rfl (fun K hK => ?_)
      replace hK := Lib.hid hK
      go_simp
      (with_reducible refine (hes1.out _ hS3.out.m).mono ?_)
      rintro e w4 ⟨ts, A2, c2, hl, rfl, hts, hX, hm, hk⟩
      have hS4 := hS3.out.call hBw hm hk
      have hX4 := XM.of hX hS3.out.s
      replace hX4 := Lib.hid hX4
      replace hts := Lib.hid hts
      replace hl := Lib.hid hl
      refine hK.out _ _ ⟨fun _ => trivial, ?_⟩
      clear hK K hm hk hS3 hX
      replace hS4 := Lib.hid hS4
      try simp only [Act.put, List.getElem_toArray, List.getElem_cons_zero, List.getElem_cons_succ, List.setIfInBounds_toArray, List.set_cons_zero, List.set_cons_succ]
      refine anyT_one (i := 0) (by kernel_rfl) ?_
      refine wpOp_step rfl (fun K hK => ?_)
      replace hK := Lib.hid hK
      have hRa := heap_alloc_new w4 (.cells #[.string ⟨#[45]⟩, .string ⟨#[126]⟩, .string ⟨#[33]⟩, .string ⟨#[38]⟩, .string ⟨#[124]⟩, .string ⟨#[94]⟩, .string ⟨#[126, 38]⟩, .string ⟨#[126, 124]⟩, .string ⟨#[126, 94]⟩] 9)
      obtain ⟨a0, ha0⟩ : ∃ a, w4.heap.size = a := ⟨_, rfl⟩
      have hR5 : RWm (tabS un9) 9 g (w4.alloc (.cells #[.string ⟨#[45]⟩, .string ⟨#[126]⟩, .string ⟨#[33]⟩, .string ⟨#[38]⟩, .string ⟨#[124]⟩, .string ⟨#[94]⟩, .string ⟨#[126, 38]⟩, .string ⟨#[126, 124]⟩, .string ⟨#[126, 94]⟩] 9)) a0 := by
        rw [← ha0]; exact ⟨hS4.out.s, hRa⟩
      have hS5 := hS4.out.alloc (.cells #[.string ⟨#[45]⟩, .string ⟨#[126]⟩, .string ⟨#[33]⟩, .string ⟨#[38]⟩, .string ⟨#[124]⟩, .string ⟨#[94]⟩, .string ⟨#[126, 38]⟩, .string ⟨#[126, 124]⟩, .string ⟨#[126, 94]⟩] 9)
      have hX5 := hX4.out.alloc (.cells #[.string ⟨#[45]⟩, .string ⟨#[126]⟩, .string ⟨#[33]⟩, .string ⟨#[38]⟩, .string ⟨#[124]⟩, .string ⟨#[94]⟩, .string ⟨#[126, 38]⟩, .string ⟨#[126, 124]⟩, .string ⟨#[126, 94]⟩] 9)
      obtain ⟨w5, hw5⟩ : ∃ W, w4.alloc (.cells #[.string ⟨#[45]⟩, .string ⟨#[126]⟩, .string ⟨#[33]⟩, .string ⟨#[38]⟩, .string ⟨#[124]⟩, .string ⟨#[94]⟩, .string ⟨#[126, 38]⟩, .string ⟨#[126, 124]⟩, .string ⟨#[126, 94]⟩] 9) = W := ⟨_, rfl⟩
      rw [hw5] at hR5 hS5 hX5
      replace hR5 := Lib.hid hR5
      replace hS5 := Lib.hid hS5
      replace hX5 := Lib.hid hX5
      go_simp
      refine hK.out _ _ ⟨fun _ => trivial, ?_⟩
      clear hK K hRa hS4 hX4
      try simp only [Act.put, List.getElem_toArray, List.getElem_cons_zero, List.getElem_cons_succ, List.setIfInBounds_toArray, List.set_cons_zero, List.set_cons_succ]
      refine anyT_take (i := 3) (v := .pointer (some ⟨a0, r2, none⟩)) rfl (by kernel_rfl) (by kernel_rfl) (fun _ _ _ h => h) (Or.inl ⟨by rfl, ?_⟩) trivial ?_
      · intro w' _
        go_simp
        try with_reducible rfl
        try (intro h9; exfalso; omega)
      try simp only [Act.put, List.getElem_toArray, List.getElem_cons_zero, List.getElem_cons_succ, List.setIfInBounds_toArray, List.set_cons_zero, List.set_cons_succ]
      refine anyT_one (i := 4) (by kernel_rfl) ?_
      refine wpOp_step rfl (fun K hK => ?_)
      replace hK := Lib.hid hK
      have cr := tab_cell hR5.out.2 r2 hr2
      have hs : (⟨(un9[r2]'hr2).toArray⟩ : ByteArray).toList ∈ un9 := by rw [tab_list]; exact List.getElem_mem hr2
      have hl1 := lt_of_get hR5.out.2
      obtain ⟨s, hsq⟩ : ∃ s, (⟨(un9[r2]'hr2).toArray⟩ : ByteArray) = s := ⟨_, rfl⟩
      rw [hsq] at cr hs
      clear hsq
      replace hs := Lib.hid hs
      go_simp
      refine hK.out _ _ ⟨fun _ => trivial, ?_⟩
      clear hK K cr hl1
      try simp only [Act.put, List.getElem_toArray, List.getElem_cons_zero, List.getElem_cons_succ, List.setIfInBounds_toArray, List.set_cons_zero, List.set_cons_succ]
      refine anyT_take (i := 9) (v := .agg #[.int .i64 3, .int .i64 0, .int .i64 0, .int .i64 0, .string s, .slice A2 1 c2]) rfl (by kernel_rfl) (by kernel_rfl) (fun _ _ _ h => h) (Or.inl ⟨by rfl, ?_⟩) trivial ?_
      · intro w' _
        go_simp
        try with_reducible rfl
      try simp only [Act.put, List.getElem_toArray, List.getElem_cons_zero, List.getElem_cons_succ, List.setIfInBounds_toArray, List.set_cons_zero, List.set_cons_succ]
      obtain ⟨zf, zl, z0, z1, z2, z3, z4, z5⟩ := hS5.out.z.all
      have six := hS5.out.z.six (.int .i64 3) (.int .i64 0) (.int .i64 0) (.int .i64 0) (.string s) (.slice A2 1 c2)
      replace six := Lib.hid six
      refine anyT_one (i := 10) (by kernel_rfl) ?_
      refine wpOp_step rfl (fun K hK => ?_)
      replace hK := Lib.hid hK
      go_simp
      refine hK.out _ _ ⟨fun h => absurd h (by decide), ?_⟩
      clear hK K zf zl z0 z1 z2 z3 z4 z5
      try simp only [Act.put, List.getElem_toArray, List.getElem_cons_zero, List.getElem_cons_succ, List.setIfInBounds_toArray, List.set_cons_zero, List.set_cons_succ]
      refine anyT_done (by kernel_rfl) ?_ _
      go_wp2_with fail
      refine bodyPost_ret (v := .agg #[.int .i64 3, .int .i64 0, .int .i64 0, .int .i64 0, .string s, .slice A2 1 c2]) (by simp [results, Try.results7, go_sem, six.out]) rfl ?_
      have hl0 := hl.out
      obtain ⟨hW, hd⟩ := WM_of (h := ⟨3, 0, 0, 0, s⟩) (ts := ts) (D := D) ⟨rfl, rfl, rfl, fun h => by simp at h, fun h => by simp at h, fun _ => hs.out, fun h => by simp at h, fun h => by simp at h, fun h => by simp at h⟩ (by simp; omega) hts.out
      exact MXm_fin (h := ⟨3, 0, 0, 0, s⟩) (ts := ts) (c := c2) hg hS5.out.k hS5.out.m hBw (hX5.out _) hl0 (by omega) hW hd _ _ _ _ _ _
set_option maxRecDepth 100000 in
set_option maxHeartbeats 6400000 in
theorem MakeExpr_4 (p B D : Nat) (d : Int) (w : World) (hM : MKm w p B) (hd1 : 1 < d) (hd2 : d ≤ 1000)
    (hNx : ∀ (n : Nat) W, 0 < n → n ≤ 1000 → MKm W p B → Calls Try.prog 13 #[.pointer (some ⟨p, 0, none⟩), .int .i64 (n : Int)] W (NX n p B W))
    (hEs : 1 < d → ∀ (n : Nat) W, n ≤ 3 → MKm W p B → Calls Try.prog 16 #[.pointer (some ⟨p, 0, none⟩), .int .i64 (d - 1), .int .i64 (n : Int)] W (MXms D p B n W))
    (h12 : Calls Try.prog 13 #[.pointer (some ⟨p, 0, none⟩), .int .i64 12] (w.alloc (.cells #[.int .i64 0, .int .i64 0, .int .i64 0, .int .i64 0, .string ⟨#[]⟩, .slice none 0 0] 32)) fun e w' => e = .returned (.int .i64 4) ∧ MKm w' p B ∧ Keep (· = p) (w.alloc (.cells #[.int .i64 0, .int .i64 0, .int .i64 0, .int .i64 0, .string ⟨#[]⟩, .slice none 0 0] 32)) w') :
    Calls Try.prog 7 #[.pointer (some ⟨p, 0, none⟩), .int .i64 d] w (MXm (D + 1) p B w) := by
  have hpB := hM.1
  have hBw := hM.2.1
  have hZ1 : EZ (w.alloc (.cells #[.int .i64 0, .int .i64 0, .int .i64 0, .int .i64 0, .string ⟨#[]⟩, .slice none 0 0] 32)) w.heap.size := heap_alloc_new w _
  have hM1 := hM.alloc (.cells #[.int .i64 0, .int .i64 0, .int .i64 0, .int .i64 0, .string ⟨#[]⟩, .slice none 0 0] 32)
  have hK1 := Keep.al0 (· = p) w (.cells #[.int .i64 0, .int .i64 0, .int .i64 0, .int .i64 0, .string ⟨#[]⟩, .slice none 0 0] 32)
  have hs1 : (w.alloc (.cells #[.int .i64 0, .int .i64 0, .int .i64 0, .int .i64 0, .string ⟨#[]⟩, .slice none 0 0] 32)).heap.size = w.heap.size + 1 := by simp
  obtain ⟨g, hg⟩ : ∃ g, w.heap.size = g := ⟨_, rfl⟩
  rw [hg] at hZ1 hs1 hBw
  replace h12 := Lib.hid h12
  replace hNx := Lib.hid hNx
  replace hEs := Lib.hid hEs
  replace hZ1 := Lib.hid hZ1
  replace hM1 := Lib.hid hM1
  replace hK1 := Lib.hid hK1
  replace hs1 := Lib.hid hs1
  replace hM := Lib.hid hM
  go_enter Try.func7, Try.ntmps7
  go_wp2_with fail
  (with_reducible refine h12.out.mono ?_)
  rintro e w1 ⟨rfl, hM2, hk2⟩
  have hst : STm w p B g w1 := ⟨hZ1.out.keep hk2 (by omega), hM2, hK1.out.then hk2, by have := hk2.size; have := hs1.out; omega⟩
  clear hk2 hZ1 hM1 hK1 hs1 hM2 hM
  replace hst := Lib.hid hst
  have hnd : ¬ d ≤ 1 := by omega
  have hw1 : IntKind.i64.wrap (d - 1) = d - 1 := IntWalk.i64_in _ (by omega)
  have hes := hEs.out hd1
  have hes1 : ∀ W, MKm W p B → Calls Try.prog 16 #[.pointer (some ⟨p, 0, none⟩), .int .i64 (d - 1), .int .i64 1] W (MXms D p B 1 W) := fun W q => hes 1 W (by decide) q
  have hes2 : ∀ W, MKm W p B → Calls Try.prog 16 #[.pointer (some ⟨p, 0, none⟩), .int .i64 (d - 1), .int .i64 2] W (MXms D p B 2 W) := fun W q => hes 2 W (by decide) q
  have hes3 : ∀ W, MKm W p B → Calls Try.prog 16 #[.pointer (some ⟨p, 0, none⟩), .int .i64 (d - 1), .int .i64 3] W (MXms D p B 3 W) := fun W q => hes 3 W (by decide) q
  have hop := fun W => mops_t W
  have hnm := fun W (q : MKm W p B) => mname_t p B W q
  unfold NS at hnm
  replace hop := Lib.hid hop
  replace hnm := Lib.hid hnm
  have hn2 : ∀ W, MKm W p B → Calls Try.prog 13 #[.pointer (some ⟨p, 0, none⟩), .int .i64 2] W (NX 2 p B W) := fun W q => hNx.out 2 W (by decide) (by decide) q
  unfold NX at hn2
  replace hn2 := Lib.hid hn2
  have hn3 : ∀ W, MKm W p B → Calls Try.prog 13 #[.pointer (some ⟨p, 0, none⟩), .int .i64 3] W (NX 3 p B W) := fun W q => hNx.out 3 W (by decide) (by decide) q
  unfold NX at hn3
  replace hn3 := Lib.hid hn3
  have hn4 : ∀ W, MKm W p B → Calls Try.prog 13 #[.pointer (some ⟨p, 0, none⟩), .int .i64 4] W (NX 4 p B W) := fun W q => hNx.out 4 W (by decide) (by decide) q
  unfold NX at hn4
  replace hn4 := Lib.hid hn4
  have hn9 : ∀ W, MKm W p B → Calls Try.prog 13 #[.pointer (some ⟨p, 0, none⟩), .int .i64 9] W (NX 9 p B W) := fun W q => hNx.out 9 W (by decide) (by decide) q
  unfold NX at hn9
  replace hn9 := Lib.hid hn9
  have hn21 : ∀ W, MKm W p B → Calls Try.prog 13 #[.pointer (some ⟨p, 0, none⟩), .int .i64 21] W (NX 21 p B W) := fun W q => hNx.out 21 W (by decide) (by decide) q
  unfold NX at hn21
  replace hn21 := Lib.hid hn21
  unfold MXms at hes hes1 hes2 hes3
  replace hes := Lib.hid hes
  replace hes1 := Lib.hid hes1
  replace hes2 := Lib.hid hes2
  replace hes3 := Lib.hid hes3
  go_wp2_with fail
  refine region_anyT (n := 10) (S := fun _ => True) (by kernel_rfl) ?_
  obtain ⟨w2, hw2⟩ : ∃ W, w1.drew = W := ⟨_, rfl⟩
  have hS2 := hst.out.drew
  rw [hw2] at hS2 ⊢
  replace hS2 := Lib.hid hS2
  clear hst
  refine anyT_take (i := 1) (v := .pointer (some ⟨p, 0, none⟩)) rfl (by kernel_rfl) (by kernel_rfl) (fun _ _ _ h => h) (Or.inl ⟨by rfl, ?_⟩) trivial ?_
  · intro w' _
    go_simp
    try with_reducible rfl
    try (intro h9; exfalso; omega)
  try simp only [Act.put, List.getElem_toArray, List.getElem_cons_zero, List.getElem_cons_succ, List.setIfInBounds_toArray, List.set_cons_zero, List.set_cons_succ]
  refine anyT_take (i := 5) (v := .pointer (some ⟨p, 0, none⟩)) rfl (by kernel_rfl) (by kernel_rfl) (fun _ _ _ h => h) (Or.inl ⟨by rfl, ?_⟩) trivial ?_
  · intro w' _
    go_simp
    try with_reducible rfl
    try (intro h9; exfalso; omega)
  try simp only [Act.put, List.getElem_toArray, List.getElem_cons_zero, List.getElem_cons_succ, List.setIfInBounds_toArray, List.set_cons_zero, List.set_cons_succ]
  refine anyT_take (i := 6) (v := .int .i64 d) rfl (by kernel_rfl) (by kernel_rfl) (fun _ _ _ h => h) (Or.inl ⟨by rfl, ?_⟩) trivial ?_
  · intro w' _
    go_simp
    try with_reducible rfl
    try (intro h9; exfalso; omega)
  try simp only [Act.put, List.getElem_toArray, List.getElem_cons_zero, List.getElem_cons_succ, List.setIfInBounds_toArray, List.set_cons_zero, List.set_cons_succ]
  refine anyT_take (i := 7) (v := .int .i64 (d - 1)) rfl (by kernel_rfl) (by kernel_rfl) (fun _ _ _ h => h) (Or.inl ⟨by rfl, ?_⟩) trivial ?_
  · intro w' _
    go_simp
    try with_reducible rfl
    try (intro h9; exfalso; omega)
  try simp only [Act.put, List.getElem_toArray, List.getElem_cons_zero, List.getElem_cons_succ, List.setIfInBounds_toArray, List.set_cons_zero, List.set_cons_succ]
  refine anyT_one (i := 0) (by kernel_rfl) ?_
  refine wpOp_step rfl (fun K hK => ?_)
  replace hK := Lib.hid hK
  go_simp
  (with_reducible refine (hop.out _).mono ?_)
  rintro e w3 ⟨rfl, hRa, hba⟩
  obtain ⟨a0, ha0⟩ : ∃ a, w2.heap.size = a := ⟨_, rfl⟩
  have hR3 : RWm (tabS op21) 9 g w3 a0 := by
    rw [← ha0]; exact ⟨hS2.out.s, hRa⟩
  have hS3 := hS2.out.call hBw (hS2.out.m.over hba) (Keep.of_below hba)
  rw [ha0]
  refine hK.out _ _ ⟨fun _ => trivial, ?_⟩
  clear hK K hRa hba hS2
  replace hS3 := Lib.hid hS3
  replace hR3 := Lib.hid hR3
  try simp only [Act.put, List.getElem_toArray, List.getElem_cons_zero, List.getElem_cons_succ, List.setIfInBounds_toArray, List.set_cons_zero, List.set_cons_succ]
  refine anyT_one (i := 2) (by kernel_rfl) ?_
  refine wpOp_step rfl (fun K hK => ?_)
  replace hK := Lib.hid hK
  go_simp
  (with_reducible refine (hn21.out _ hS3.out.m).mono ?_)
  rintro e w4 ⟨r2, hr2, rfl, hm, hk⟩
  have hS4 := hS3.out.call hBw hm hk
  have hR4 := hR3.out.call (by omega) hk
  refine hK.out _ _ ⟨fun _ => trivial, ?_⟩
  clear hK K hm hk hS3 hR3 
  replace hS4 := Lib.hid hS4
  replace hR4 := Lib.hid hR4
  try simp only [Act.put, List.getElem_toArray, List.getElem_cons_zero, List.getElem_cons_succ, List.setIfInBounds_toArray, List.set_cons_zero, List.set_cons_succ]
  refine anyT_take (i := 3) (v := .pointer (some ⟨a0, r2, none⟩)) rfl (by kernel_rfl) (by kernel_rfl) (fun _ _ _ h => h) (Or.inl ⟨by rfl, ?_⟩) trivial ?_
  · intro w' _
    go_simp
    try with_reducible rfl
    try (intro h9; exfalso; omega)
  try simp only [Act.put, List.getElem_toArray, List.getElem_cons_zero, List.getElem_cons_succ, List.setIfInBounds_toArray, List.set_cons_zero, List.set_cons_succ]
  refine anyT_pair (i := 4) (j := 8) (by kernel_rfl) ?_ ?_
  ·
    refine wpOp_step rfl (fun K hK => ?_)
    replace hK := Lib.hid hK
    have cr := tab_cell hR4.out.2 r2 hr2
    have hs : (⟨(op21[r2]'hr2).toArray⟩ : ByteArray).toList ∈ op21 := by rw [tab_list]; exact List.getElem_mem hr2
    have hl1 := lt_of_get hR4.out.2
    obtain ⟨s, hsq⟩ : ∃ s, (⟨(op21[r2]'hr2).toArray⟩ : ByteArray) = s := ⟨_, rfl⟩
    rw [hsq] at cr hs
    clear hsq
    replace hs := Lib.hid hs
    go_simp
    refine hK.out _ _ ⟨fun _ => trivial, ?_⟩
    clear hK K cr hl1
    try simp only [Act.put, List.getElem_toArray, List.getElem_cons_zero, List.getElem_cons_succ, List.setIfInBounds_toArray, List.set_cons_zero, List.set_cons_succ]
    refine anyT_one (i := 8) (by kernel_rfl) ?_
    refine wpOp_step rfl (fun K hK => ?_)
    replace hK := Lib.hid hK
    go_simp
    (with_reducible refine (hes2.out _ hS4.out.m).mono ?_)
    rintro e w5 ⟨ts, A2, c2, hl, rfl, hts, hX, hm, hk⟩
    have hS5 := hS4.out.call hBw hm hk
    have hR5 := hR4.out.call (by omega) hk
    have hX5 := XM.of hX hS4.out.s
    replace hX5 := Lib.hid hX5
    replace hts := Lib.hid hts
    replace hl := Lib.hid hl
    refine hK.out _ _ ⟨fun _ => trivial, ?_⟩
    clear hK K hm hk hS4 hR4 hX
    replace hS5 := Lib.hid hS5
    replace hR5 := Lib.hid hR5
    try simp only [Act.put, List.getElem_toArray, List.getElem_cons_zero, List.getElem_cons_succ, List.setIfInBounds_toArray, List.set_cons_zero, List.set_cons_succ]
    refine anyT_take (i := 9) (v := .agg #[.int .i64 4, .int .i64 0, .int .i64 0, .int .i64 0, .string s, .slice A2 2 c2]) rfl (by kernel_rfl) (by kernel_rfl) (fun _ _ _ h => h) (Or.inl ⟨by rfl, ?_⟩) trivial ?_
    · intro w' _
      go_simp
      try with_reducible rfl
    try simp only [Act.put, List.getElem_toArray, List.getElem_cons_zero, List.getElem_cons_succ, List.setIfInBounds_toArray, List.set_cons_zero, List.set_cons_succ]
    obtain ⟨zf, zl, z0, z1, z2, z3, z4, z5⟩ := hS5.out.z.all
    have six := hS5.out.z.six (.int .i64 4) (.int .i64 0) (.int .i64 0) (.int .i64 0) (.string s) (.slice A2 2 c2)
    replace six := Lib.hid six
    refine anyT_one (i := 10) (by kernel_rfl) ?_
    refine wpOp_step rfl (fun K hK => ?_)
    replace hK := Lib.hid hK
    go_simp
    refine hK.out _ _ ⟨fun h => absurd h (by decide), ?_⟩
    clear hK K zf zl z0 z1 z2 z3 z4 z5
    try simp only [Act.put, List.getElem_toArray, List.getElem_cons_zero, List.getElem_cons_succ, List.setIfInBounds_toArray, List.set_cons_zero, List.set_cons_succ]
    refine anyT_done (by kernel_rfl) ?_ _
    go_wp2_with fail
    refine bodyPost_ret (v := .agg #[.int .i64 4, .int .i64 0, .int .i64 0, .int .i64 0, .string s, .slice A2 2 c2]) (by simp [results, Try.results7, go_sem, six.out]) rfl ?_
    have hl0 := hl.out
    obtain ⟨hW, hd⟩ := WM_of (h := ⟨4, 0, 0, 0, s⟩) (ts := ts) (D := D) ⟨rfl, rfl, rfl, fun h => by simp at h, fun h => by simp at h, fun h => by simp at h, fun _ => hs.out, fun h => by simp at h, fun h => by simp at h⟩ (by simp; omega) hts.out
    exact MXm_fin (h := ⟨4, 0, 0, 0, s⟩) (ts := ts) (c := c2) hg hS5.out.k hS5.out.m hBw (hX5.out _) hl0 (by omega) hW hd _ _ _ _ _ _
  ·
    refine wpOp_step rfl (fun K hK => ?_)
    replace hK := Lib.hid hK
    go_simp
    (with_reducible refine (hes2.out _ hS4.out.m).mono ?_)
    rintro e w5 ⟨ts, A2, c2, hl, rfl, hts, hX, hm, hk⟩
    have hS5 := hS4.out.call hBw hm hk
    have hR5 := hR4.out.call (by omega) hk
    have hX5 := XM.of hX hS4.out.s
    replace hX5 := Lib.hid hX5
    replace hts := Lib.hid hts
    replace hl := Lib.hid hl
    refine hK.out _ _ ⟨fun _ => trivial, ?_⟩
    clear hK K hm hk hS4 hR4 hX
    replace hS5 := Lib.hid hS5
    replace hR5 := Lib.hid hR5
    try simp only [Act.put, List.getElem_toArray, List.getElem_cons_zero, List.getElem_cons_succ, List.setIfInBounds_toArray, List.set_cons_zero, List.set_cons_succ]
    refine anyT_one (i := 4) (by kernel_rfl) ?_
    refine wpOp_step rfl (fun K hK => ?_)
    replace hK := Lib.hid hK
    have cr := tab_cell hR5.out.2 r2 hr2
    have hs : (⟨(op21[r2]'hr2).toArray⟩ : ByteArray).toList ∈ op21 := by rw [tab_list]; exact List.getElem_mem hr2
    have hl1 := lt_of_get hR5.out.2
    obtain ⟨s, hsq⟩ : ∃ s, (⟨(op21[r2]'hr2).toArray⟩ : ByteArray) = s := ⟨_, rfl⟩
    rw [hsq] at cr hs
    clear hsq
    replace hs := Lib.hid hs
    go_simp
    refine hK.out _ _ ⟨fun _ => trivial, ?_⟩
    clear hK K cr hl1
    try simp only [Act.put, List.getElem_toArray, List.getElem_cons_zero, List.getElem_cons_succ, List.setIfInBounds_toArray, List.set_cons_zero, List.set_cons_succ]
    refine anyT_take (i := 9) (v := .agg #[.int .i64 4, .int .i64 0, .int .i64 0, .int .i64 0, .string s, .slice A2 2 c2]) rfl (by kernel_rfl) (by kernel_rfl) (fun _ _ _ h => h) (Or.inl ⟨by rfl, ?_⟩) trivial ?_
    · intro w' _
      go_simp
      try with_reducible rfl
    try simp only [Act.put, List.getElem_toArray, List.getElem_cons_zero, List.getElem_cons_succ, List.setIfInBounds_toArray, List.set_cons_zero, List.set_cons_succ]
    obtain ⟨zf, zl, z0, z1, z2, z3, z4, z5⟩ := hS5.out.z.all
    have six := hS5.out.z.six (.int .i64 4) (.int .i64 0) (.int .i64 0) (.int .i64 0) (.string s) (.slice A2 2 c2)
    replace six := Lib.hid six
    refine anyT_one (i := 10) (by kernel_rfl) ?_
    refine wpOp_step rfl (fun K hK => ?_)
    replace hK := Lib.hid hK
    go_simp
    refine hK.out _ _ ⟨fun h => absurd h (by decide), ?_⟩
    clear hK K zf zl z0 z1 z2 z3 z4 z5
    try simp only [Act.put, List.getElem_toArray, List.getElem_cons_zero, List.getElem_cons_succ, List.setIfInBounds_toArray, List.set_cons_zero, List.set_cons_succ]
    refine anyT_done (by kernel_rfl) ?_ _
    go_wp2_with fail
    refine bodyPost_ret (v := .agg #[.int .i64 4, .int .i64 0, .int .i64 0, .int .i64 0, .string s, .slice A2 2 c2]) (by simp [results, Try.results7, go_sem, six.out]) rfl ?_
    have hl0 := hl.out
    obtain ⟨hW, hd⟩ := WM_of (h := ⟨4, 0, 0, 0, s⟩) (ts := ts) (D := D) ⟨rfl, rfl, rfl, fun h => by simp at h, fun h => by simp at h, fun h => by simp at h, fun _ => hs.out, fun h => by simp at h, fun h => by simp at h⟩ (by simp; omega) hts.out
    exact MXm_fin (h := ⟨4, 0, 0, 0, s⟩) (ts := ts) (c := c2) hg hS5.out.k hS5.out.m hBw (hX5.out _) hl0 (by omega) hW hd _ _ _ _ _ _
set_option maxRecDepth 100000 in
set_option maxHeartbeats 6400000 in
theorem MakeExpr_5 (p B D : Nat) (d : Int) (w : World) (hM : MKm w p B) (hd1 : 1 < d) (hd2 : d ≤ 1000)
    (hNx : ∀ (n : Nat) W, 0 < n → n ≤ 1000 → MKm W p B → Calls Try.prog 13 #[.pointer (some ⟨p, 0, none⟩), .int .i64 (n : Int)] W (NX n p B W))
    (hEs : 1 < d → ∀ (n : Nat) W, n ≤ 3 → MKm W p B → Calls Try.prog 16 #[.pointer (some ⟨p, 0, none⟩), .int .i64 (d - 1), .int .i64 (n : Int)] W (MXms D p B n W))
    (h12 : Calls Try.prog 13 #[.pointer (some ⟨p, 0, none⟩), .int .i64 12] (w.alloc (.cells #[.int .i64 0, .int .i64 0, .int .i64 0, .int .i64 0, .string ⟨#[]⟩, .slice none 0 0] 32)) fun e w' => e = .returned (.int .i64 5) ∧ MKm w' p B ∧ Keep (· = p) (w.alloc (.cells #[.int .i64 0, .int .i64 0, .int .i64 0, .int .i64 0, .string ⟨#[]⟩, .slice none 0 0] 32)) w') :
    Calls Try.prog 7 #[.pointer (some ⟨p, 0, none⟩), .int .i64 d] w (MXm (D + 1) p B w) := by
  have hpB := hM.1
  have hBw := hM.2.1
  have hZ1 : EZ (w.alloc (.cells #[.int .i64 0, .int .i64 0, .int .i64 0, .int .i64 0, .string ⟨#[]⟩, .slice none 0 0] 32)) w.heap.size := heap_alloc_new w _
  have hM1 := hM.alloc (.cells #[.int .i64 0, .int .i64 0, .int .i64 0, .int .i64 0, .string ⟨#[]⟩, .slice none 0 0] 32)
  have hK1 := Keep.al0 (· = p) w (.cells #[.int .i64 0, .int .i64 0, .int .i64 0, .int .i64 0, .string ⟨#[]⟩, .slice none 0 0] 32)
  have hs1 : (w.alloc (.cells #[.int .i64 0, .int .i64 0, .int .i64 0, .int .i64 0, .string ⟨#[]⟩, .slice none 0 0] 32)).heap.size = w.heap.size + 1 := by simp
  obtain ⟨g, hg⟩ : ∃ g, w.heap.size = g := ⟨_, rfl⟩
  rw [hg] at hZ1 hs1 hBw
  replace h12 := Lib.hid h12
  replace hNx := Lib.hid hNx
  replace hEs := Lib.hid hEs
  replace hZ1 := Lib.hid hZ1
  replace hM1 := Lib.hid hM1
  replace hK1 := Lib.hid hK1
  replace hs1 := Lib.hid hs1
  replace hM := Lib.hid hM
  go_enter Try.func7, Try.ntmps7
  go_wp2_with fail
  (with_reducible refine h12.out.mono ?_)
  rintro e w1 ⟨rfl, hM2, hk2⟩
  have hst : STm w p B g w1 := ⟨hZ1.out.keep hk2 (by omega), hM2, hK1.out.then hk2, by have := hk2.size; have := hs1.out; omega⟩
  clear hk2 hZ1 hM1 hK1 hs1 hM2 hM
  replace hst := Lib.hid hst
  have hnd : ¬ d ≤ 1 := by omega
  have hw1 : IntKind.i64.wrap (d - 1) = d - 1 := IntWalk.i64_in _ (by omega)
  have hes := hEs.out hd1
  have hes1 : ∀ W, MKm W p B → Calls Try.prog 16 #[.pointer (some ⟨p, 0, none⟩), .int .i64 (d - 1), .int .i64 1] W (MXms D p B 1 W) := fun W q => hes 1 W (by decide) q
  have hes2 : ∀ W, MKm W p B → Calls Try.prog 16 #[.pointer (some ⟨p, 0, none⟩), .int .i64 (d - 1), .int .i64 2] W (MXms D p B 2 W) := fun W q => hes 2 W (by decide) q
  have hes3 : ∀ W, MKm W p B → Calls Try.prog 16 #[.pointer (some ⟨p, 0, none⟩), .int .i64 (d - 1), .int .i64 3] W (MXms D p B 3 W) := fun W q => hes 3 W (by decide) q
  have hop := fun W => mops_t W
  have hnm := fun W (q : MKm W p B) => mname_t p B W q
  unfold NS at hnm
  replace hop := Lib.hid hop
  replace hnm := Lib.hid hnm
  have hn2 : ∀ W, MKm W p B → Calls Try.prog 13 #[.pointer (some ⟨p, 0, none⟩), .int .i64 2] W (NX 2 p B W) := fun W q => hNx.out 2 W (by decide) (by decide) q
  unfold NX at hn2
  replace hn2 := Lib.hid hn2
  have hn3 : ∀ W, MKm W p B → Calls Try.prog 13 #[.pointer (some ⟨p, 0, none⟩), .int .i64 3] W (NX 3 p B W) := fun W q => hNx.out 3 W (by decide) (by decide) q
  unfold NX at hn3
  replace hn3 := Lib.hid hn3
  have hn4 : ∀ W, MKm W p B → Calls Try.prog 13 #[.pointer (some ⟨p, 0, none⟩), .int .i64 4] W (NX 4 p B W) := fun W q => hNx.out 4 W (by decide) (by decide) q
  unfold NX at hn4
  replace hn4 := Lib.hid hn4
  have hn9 : ∀ W, MKm W p B → Calls Try.prog 13 #[.pointer (some ⟨p, 0, none⟩), .int .i64 9] W (NX 9 p B W) := fun W q => hNx.out 9 W (by decide) (by decide) q
  unfold NX at hn9
  replace hn9 := Lib.hid hn9
  have hn21 : ∀ W, MKm W p B → Calls Try.prog 13 #[.pointer (some ⟨p, 0, none⟩), .int .i64 21] W (NX 21 p B W) := fun W q => hNx.out 21 W (by decide) (by decide) q
  unfold NX at hn21
  replace hn21 := Lib.hid hn21
  unfold MXms at hes hes1 hes2 hes3
  replace hes := Lib.hid hes
  replace hes1 := Lib.hid hes1
  replace hes2 := Lib.hid hes2
  replace hes3 := Lib.hid hes3
  go_wp2_with fail
  refine region_anyT (n := 10) (S := fun _ => True) (by kernel_rfl) ?_
  obtain ⟨w2, hw2⟩ : ∃ W, w1.drew = W := ⟨_, rfl⟩
  have hS2 := hst.out.drew
  rw [hw2] at hS2 ⊢
  replace hS2 := Lib.hid hS2
  clear hst
  refine anyT_take (i := 1) (v := .pointer (some ⟨p, 0, none⟩)) rfl (by kernel_rfl) (by kernel_rfl) (fun _ _ _ h => h) (Or.inl ⟨by rfl, ?_⟩) trivial ?_
  · intro w' _
    go_simp
    try with_reducible rfl
    try (intro h9; exfalso; omega)
  try simp only [Act.put, List.getElem_toArray, List.getElem_cons_zero, List.getElem_cons_succ, List.setIfInBounds_toArray, List.set_cons_zero, List.set_cons_succ]
  refine anyT_take (i := 5) (v := .pointer (some ⟨p, 0, none⟩)) rfl (by kernel_rfl) (by kernel_rfl) (fun _ _ _ h => h) (Or.inl ⟨by rfl, ?_⟩) trivial ?_
  · intro w' _
    go_simp
    try with_reducible rfl
    try (intro h9; exfalso; omega)
  try simp only [Act.put, List.getElem_toArray, List.getElem_cons_zero, List.getElem_cons_succ, List.setIfInBounds_toArray, List.set_cons_zero, List.set_cons_succ]
  refine anyT_take (i := 6) (v := .int .i64 d) rfl (by kernel_rfl) (by kernel_rfl) (fun _ _ _ h => h) (Or.inl ⟨by rfl, ?_⟩) trivial ?_
  · intro w' _
    go_simp
    try with_reducible rfl
    try (intro h9; exfalso; omega)
  try simp only [Act.put, List.getElem_toArray, List.getElem_cons_zero, List.getElem_cons_succ, List.setIfInBounds_toArray, List.set_cons_zero, List.set_cons_succ]
  refine anyT_take (i := 7) (v := .int .i64 (d - 1)) rfl (by kernel_rfl) (by kernel_rfl) (fun _ _ _ h => h) (Or.inl ⟨by rfl, ?_⟩) trivial ?_
  · intro w' _
    go_simp
    try with_reducible rfl
    try (intro h9; exfalso; omega)
  try simp only [Act.put, List.getElem_toArray, List.getElem_cons_zero, List.getElem_cons_succ, List.setIfInBounds_toArray, List.set_cons_zero, List.set_cons_succ]
  refine anyT_one (i := 0) (by kernel_rfl) ?_
  refine wpOp_step rfl (fun K hK => ?_)
  replace hK := Lib.hid hK
  go_simp
  (with_reducible refine (hop.out _).mono ?_)
  rintro e w3 ⟨rfl, hRa, hba⟩
  obtain ⟨a0, ha0⟩ : ∃ a, w2.heap.size = a := ⟨_, rfl⟩
  have hR3 : RWm (tabS op21) 9 g w3 a0 := by
    rw [← ha0]; exact ⟨hS2.out.s, hRa⟩
  have hS3 := hS2.out.call hBw (hS2.out.m.over hba) (Keep.of_below hba)
  rw [ha0]
  refine hK.out _ _ ⟨fun _ => trivial, ?_⟩
  clear hK K hRa hba hS2
  replace hS3 := Lib.hid hS3
  replace hR3 := Lib.hid hR3
  try simp only [Act.put, List.getElem_toArray, List.getElem_cons_zero, List.getElem_cons_succ, List.setIfInBounds_toArray, List.set_cons_zero, List.set_cons_succ]
  refine anyT_one (i := 2) (by kernel_rfl) ?_
  refine wpOp_step rfl (fun K hK => ?_)
  replace hK := Lib.hid hK
  go_simp
  (with_reducible refine (hn21.out _ hS3.out.m).mono ?_)
  rintro e w4 ⟨r2, hr2, rfl, hm, hk⟩
  have hS4 := hS3.out.call hBw hm hk
  have hR4 := hR3.out.call (by omega) hk
  refine hK.out _ _ ⟨fun _ => trivial, ?_⟩
  clear hK K hm hk hS3 hR3 
  replace hS4 := Lib.hid hS4
  replace hR4 := Lib.hid hR4
  try simp only [Act.put, List.getElem_toArray, List.getElem_cons_zero, List.getElem_cons_succ, List.setIfInBounds_toArray, List.set_cons_zero, List.set_cons_succ]
  refine anyT_take (i := 3) (v := .pointer (some ⟨a0, r2, none⟩)) rfl (by kernel_rfl) (by kernel_rfl) (fun _ _ _ h => h) (Or.inl ⟨by rfl, ?_⟩) trivial ?_
  · intro w' _
    go_simp
    try with_reducible rfl
    try (intro h9; exfalso; omega)
  try simp only [Act.put, List.getElem_toArray, List.getElem_cons_zero, List.getElem_cons_succ, List.setIfInBounds_toArray, List.set_cons_zero, List.set_cons_succ]
  refine anyT_pair (i := 4) (j := 8) (by kernel_rfl) ?_ ?_
  ·
    refine wpOp_step rfl (fun K hK => ?_)
    replace hK := Lib.hid hK
    have cr := tab_cell hR4.out.2 r2 hr2
    have hs : (⟨(op21[r2]'hr2).toArray⟩ : ByteArray).toList ∈ op21 := by rw [tab_list]; exact List.getElem_mem hr2
    have hl1 := lt_of_get hR4.out.2
    obtain ⟨s, hsq⟩ : ∃ s, (⟨(op21[r2]'hr2).toArray⟩ : ByteArray) = s := ⟨_, rfl⟩
    rw [hsq] at cr hs
    clear hsq
    replace hs := Lib.hid hs
    go_simp
    refine hK.out _ _ ⟨fun _ => trivial, ?_⟩
    clear hK K cr hl1
    try simp only [Act.put, List.getElem_toArray, List.getElem_cons_zero, List.getElem_cons_succ, List.setIfInBounds_toArray, List.set_cons_zero, List.set_cons_succ]
    refine anyT_one (i := 8) (by kernel_rfl) ?_
    refine wpOp_step rfl (fun K hK => ?_)
    replace hK := Lib.hid hK
    go_simp
    (with_reducible refine (hes2.out _ hS4.out.m).mono ?_)
    rintro e w5 ⟨ts, A2, c2, hl, rfl, hts, hX, hm, hk⟩
    have hS5 := hS4.out.call hBw hm hk
    have hR5 := hR4.out.call (by omega) hk
    have hX5 := XM.of hX hS4.out.s
    replace hX5 := Lib.hid hX5
    replace hts := Lib.hid hts
    replace hl := Lib.hid hl
    refine hK.out _ _ ⟨fun _ => trivial, ?_⟩
    clear hK K hm hk hS4 hR4 hX
    replace hS5 := Lib.hid hS5
    replace hR5 := Lib.hid hR5
    try simp only [Act.put, List.getElem_toArray, List.getElem_cons_zero, List.getElem_cons_succ, List.setIfInBounds_toArray, List.set_cons_zero, List.set_cons_succ]
    refine anyT_take (i := 9) (v := .agg #[.int .i64 4, .int .i64 0, .int .i64 0, .int .i64 0, .string s, .slice A2 2 c2]) rfl (by kernel_rfl) (by kernel_rfl) (fun _ _ _ h => h) (Or.inl ⟨by rfl, ?_⟩) trivial ?_
    · intro w' _
      go_simp
      try with_reducible rfl
    try simp only [Act.put, List.getElem_toArray, List.getElem_cons_zero, List.getElem_cons_succ, List.setIfInBounds_toArray, List.set_cons_zero, List.set_cons_succ]
    obtain ⟨zf, zl, z0, z1, z2, z3, z4, z5⟩ := hS5.out.z.all
    have six := hS5.out.z.six (.int .i64 4) (.int .i64 0) (.int .i64 0) (.int .i64 0) (.string s) (.slice A2 2 c2)
    replace six := Lib.hid six
    refine anyT_one (i := 10) (by kernel_rfl) ?_
    refine wpOp_step rfl (fun K hK => ?_)
    replace hK := Lib.hid hK
    go_simp
    refine hK.out _ _ ⟨fun h => absurd h (by decide), ?_⟩
    clear hK K zf zl z0 z1 z2 z3 z4 z5
    try simp only [Act.put, List.getElem_toArray, List.getElem_cons_zero, List.getElem_cons_succ, List.setIfInBounds_toArray, List.set_cons_zero, List.set_cons_succ]
    refine anyT_done (by kernel_rfl) ?_ _
    go_wp2_with fail
    refine bodyPost_ret (v := .agg #[.int .i64 4, .int .i64 0, .int .i64 0, .int .i64 0, .string s, .slice A2 2 c2]) (by simp [results, Try.results7, go_sem, six.out]) rfl ?_
    have hl0 := hl.out
    obtain ⟨hW, hd⟩ := WM_of (h := ⟨4, 0, 0, 0, s⟩) (ts := ts) (D := D) ⟨rfl, rfl, rfl, fun h => by simp at h, fun h => by simp at h, fun h => by simp at h, fun _ => hs.out, fun h => by simp at h, fun h => by simp at h⟩ (by simp; omega) hts.out
    exact MXm_fin (h := ⟨4, 0, 0, 0, s⟩) (ts := ts) (c := c2) hg hS5.out.k hS5.out.m hBw (hX5.out _) hl0 (by omega) hW hd _ _ _ _ _ _
  ·
    refine wpOp_step rfl (fun K hK => ?_)
    replace hK := Lib.hid hK
    go_simp
    (with_reducible refine (hes2.out _ hS4.out.m).mono ?_)
    rintro e w5 ⟨ts, A2, c2, hl, rfl, hts, hX, hm, hk⟩
    have hS5 := hS4.out.call hBw hm hk
    have hR5 := hR4.out.call (by omega) hk
    have hX5 := XM.of hX hS4.out.s
    replace hX5 := Lib.hid hX5
    replace hts := Lib.hid hts
    replace hl := Lib.hid hl
    refine hK.out _ _ ⟨fun _ => trivial, ?_⟩
    clear hK K hm hk hS4 hR4 hX
    replace hS5 := Lib.hid hS5
    replace hR5 := Lib.hid hR5
    try simp only [Act.put, List.getElem_toArray, List.getElem_cons_zero, List.getElem_cons_succ, List.setIfInBounds_toArray, List.set_cons_zero, List.set_cons_succ]
    refine anyT_one (i := 4) (by kernel_rfl) ?_
    refine wpOp_step rfl (fun K hK => ?_)
    replace hK := Lib.hid hK
    have cr := tab_cell hR5.out.2 r2 hr2
    have hs : (⟨(op21[r2]'hr2).toArray⟩ : ByteArray).toList ∈ op21 := by rw [tab_list]; exact List.getElem_mem hr2
    have hl1 := lt_of_get hR5.out.2
    obtain ⟨s, hsq⟩ : ∃ s, (⟨(op21[r2]'hr2).toArray⟩ : ByteArray) = s := ⟨_, rfl⟩
    rw [hsq] at cr hs
    clear hsq
    replace hs := Lib.hid hs
    go_simp
    refine hK.out _ _ ⟨fun _ => trivial, ?_⟩
    clear hK K cr hl1
    try simp only [Act.put, List.getElem_toArray, List.getElem_cons_zero, List.getElem_cons_succ, List.setIfInBounds_toArray, List.set_cons_zero, List.set_cons_succ]
    refine anyT_take (i := 9) (v := .agg #[.int .i64 4, .int .i64 0, .int .i64 0, .int .i64 0, .string s, .slice A2 2 c2]) rfl (by kernel_rfl) (by kernel_rfl) (fun _ _ _ h => h) (Or.inl ⟨by rfl, ?_⟩) trivial ?_
    · intro w' _
      go_simp
      try with_reducible rfl
    try simp only [Act.put, List.getElem_toArray, List.getElem_cons_zero, List.getElem_cons_succ, List.setIfInBounds_toArray, List.set_cons_zero, List.set_cons_succ]
    obtain ⟨zf, zl, z0, z1, z2, z3, z4, z5⟩ := hS5.out.z.all
    have six := hS5.out.z.six (.int .i64 4) (.int .i64 0) (.int .i64 0) (.int .i64 0) (.string s) (.slice A2 2 c2)
    replace six := Lib.hid six
    refine anyT_one (i := 10) (by kernel_rfl) ?_
    refine wpOp_step rfl (fun K hK => ?_)
    replace hK := Lib.hid hK
    go_simp
    refine hK.out _ _ ⟨fun h => absurd h (by decide), ?_⟩
    clear hK K zf zl z0 z1 z2 z3 z4 z5
    try simp only [Act.put, List.getElem_toArray, List.getElem_cons_zero, List.getElem_cons_succ, List.setIfInBounds_toArray, List.set_cons_zero, List.set_cons_succ]
    refine anyT_done (by kernel_rfl) ?_ _
    go_wp2_with fail
    refine bodyPost_ret (v := .agg #[.int .i64 4, .int .i64 0, .int .i64 0, .int .i64 0, .string s, .slice A2 2 c2]) (by simp [results, Try.results7, go_sem, six.out]) rfl ?_
    have hl0 := hl.out
    obtain ⟨hW, hd⟩ := WM_of (h := ⟨4, 0, 0, 0, s⟩) (ts := ts) (D := D) ⟨rfl, rfl, rfl, fun h => by simp at h, fun h => by simp at h, fun h => by simp at h, fun _ => hs.out, fun h => by simp at h, fun h => by simp at h⟩ (by simp; omega) hts.out
    exact MXm_fin (h := ⟨4, 0, 0, 0, s⟩) (ts := ts) (c := c2) hg hS5.out.k hS5.out.m hBw (hX5.out _) hl0 (by omega) hW hd _ _ _ _ _ _
set_option maxRecDepth 100000 in
set_option maxHeartbeats 6400000 in
theorem MakeExpr_6 (p B D : Nat) (d : Int) (w : World) (hM : MKm w p B) (hd1 : 1 < d) (hd2 : d ≤ 1000)
    (hNx : ∀ (n : Nat) W, 0 < n → n ≤ 1000 → MKm W p B → Calls Try.prog 13 #[.pointer (some ⟨p, 0, none⟩), .int .i64 (n : Int)] W (NX n p B W))
    (hEs : 1 < d → ∀ (n : Nat) W, n ≤ 3 → MKm W p B → Calls Try.prog 16 #[.pointer (some ⟨p, 0, none⟩), .int .i64 (d - 1), .int .i64 (n : Int)] W (MXms D p B n W))
    (h12 : Calls Try.prog 13 #[.pointer (some ⟨p, 0, none⟩), .int .i64 12] (w.alloc (.cells #[.int .i64 0, .int .i64 0, .int .i64 0, .int .i64 0, .string ⟨#[]⟩, .slice none 0 0] 32)) fun e w' => e = .returned (.int .i64 6) ∧ MKm w' p B ∧ Keep (· = p) (w.alloc (.cells #[.int .i64 0, .int .i64 0, .int .i64 0, .int .i64 0, .string ⟨#[]⟩, .slice none 0 0] 32)) w') :
    Calls Try.prog 7 #[.pointer (some ⟨p, 0, none⟩), .int .i64 d] w (MXm (D + 1) p B w) := by
  have hpB := hM.1
  have hBw := hM.2.1
  have hZ1 : EZ (w.alloc (.cells #[.int .i64 0, .int .i64 0, .int .i64 0, .int .i64 0, .string ⟨#[]⟩, .slice none 0 0] 32)) w.heap.size := heap_alloc_new w _
  have hM1 := hM.alloc (.cells #[.int .i64 0, .int .i64 0, .int .i64 0, .int .i64 0, .string ⟨#[]⟩, .slice none 0 0] 32)
  have hK1 := Keep.al0 (· = p) w (.cells #[.int .i64 0, .int .i64 0, .int .i64 0, .int .i64 0, .string ⟨#[]⟩, .slice none 0 0] 32)
  have hs1 : (w.alloc (.cells #[.int .i64 0, .int .i64 0, .int .i64 0, .int .i64 0, .string ⟨#[]⟩, .slice none 0 0] 32)).heap.size = w.heap.size + 1 := by simp
  obtain ⟨g, hg⟩ : ∃ g, w.heap.size = g := ⟨_, rfl⟩
  rw [hg] at hZ1 hs1 hBw
  replace h12 := Lib.hid h12
  replace hNx := Lib.hid hNx
  replace hEs := Lib.hid hEs
  replace hZ1 := Lib.hid hZ1
  replace hM1 := Lib.hid hM1
  replace hK1 := Lib.hid hK1
  replace hs1 := Lib.hid hs1
  replace hM := Lib.hid hM
  go_enter Try.func7, Try.ntmps7
  go_wp2_with fail
  (with_reducible refine h12.out.mono ?_)
  rintro e w1 ⟨rfl, hM2, hk2⟩
  have hst : STm w p B g w1 := ⟨hZ1.out.keep hk2 (by omega), hM2, hK1.out.then hk2, by have := hk2.size; have := hs1.out; omega⟩
  clear hk2 hZ1 hM1 hK1 hs1 hM2 hM
  replace hst := Lib.hid hst
  have hnd : ¬ d ≤ 1 := by omega
  have hw1 : IntKind.i64.wrap (d - 1) = d - 1 := IntWalk.i64_in _ (by omega)
  have hes := hEs.out hd1
  have hes1 : ∀ W, MKm W p B → Calls Try.prog 16 #[.pointer (some ⟨p, 0, none⟩), .int .i64 (d - 1), .int .i64 1] W (MXms D p B 1 W) := fun W q => hes 1 W (by decide) q
  have hes2 : ∀ W, MKm W p B → Calls Try.prog 16 #[.pointer (some ⟨p, 0, none⟩), .int .i64 (d - 1), .int .i64 2] W (MXms D p B 2 W) := fun W q => hes 2 W (by decide) q
  have hes3 : ∀ W, MKm W p B → Calls Try.prog 16 #[.pointer (some ⟨p, 0, none⟩), .int .i64 (d - 1), .int .i64 3] W (MXms D p B 3 W) := fun W q => hes 3 W (by decide) q
  have hop := fun W => mops_t W
  have hnm := fun W (q : MKm W p B) => mname_t p B W q
  unfold NS at hnm
  replace hop := Lib.hid hop
  replace hnm := Lib.hid hnm
  have hn2 : ∀ W, MKm W p B → Calls Try.prog 13 #[.pointer (some ⟨p, 0, none⟩), .int .i64 2] W (NX 2 p B W) := fun W q => hNx.out 2 W (by decide) (by decide) q
  unfold NX at hn2
  replace hn2 := Lib.hid hn2
  have hn3 : ∀ W, MKm W p B → Calls Try.prog 13 #[.pointer (some ⟨p, 0, none⟩), .int .i64 3] W (NX 3 p B W) := fun W q => hNx.out 3 W (by decide) (by decide) q
  unfold NX at hn3
  replace hn3 := Lib.hid hn3
  have hn4 : ∀ W, MKm W p B → Calls Try.prog 13 #[.pointer (some ⟨p, 0, none⟩), .int .i64 4] W (NX 4 p B W) := fun W q => hNx.out 4 W (by decide) (by decide) q
  unfold NX at hn4
  replace hn4 := Lib.hid hn4
  have hn9 : ∀ W, MKm W p B → Calls Try.prog 13 #[.pointer (some ⟨p, 0, none⟩), .int .i64 9] W (NX 9 p B W) := fun W q => hNx.out 9 W (by decide) (by decide) q
  unfold NX at hn9
  replace hn9 := Lib.hid hn9
  have hn21 : ∀ W, MKm W p B → Calls Try.prog 13 #[.pointer (some ⟨p, 0, none⟩), .int .i64 21] W (NX 21 p B W) := fun W q => hNx.out 21 W (by decide) (by decide) q
  unfold NX at hn21
  replace hn21 := Lib.hid hn21
  unfold MXms at hes hes1 hes2 hes3
  replace hes := Lib.hid hes
  replace hes1 := Lib.hid hes1
  replace hes2 := Lib.hid hes2
  replace hes3 := Lib.hid hes3
  go_wp2_with fail
  refine region_anyT (n := 10) (S := fun _ => True) (by kernel_rfl) ?_
  obtain ⟨w2, hw2⟩ : ∃ W, w1.drew = W := ⟨_, rfl⟩
  have hS2 := hst.out.drew
  rw [hw2] at hS2 ⊢
  replace hS2 := Lib.hid hS2
  clear hst
  refine anyT_take (i := 1) (v := .pointer (some ⟨p, 0, none⟩)) rfl (by kernel_rfl) (by kernel_rfl) (fun _ _ _ h => h) (Or.inl ⟨by rfl, ?_⟩) trivial ?_
  · intro w' _
    go_simp
    try with_reducible rfl
    try (intro h9; exfalso; omega)
  try simp only [Act.put, List.getElem_toArray, List.getElem_cons_zero, List.getElem_cons_succ, List.setIfInBounds_toArray, List.set_cons_zero, List.set_cons_succ]
  refine anyT_take (i := 5) (v := .pointer (some ⟨p, 0, none⟩)) rfl (by kernel_rfl) (by kernel_rfl) (fun _ _ _ h => h) (Or.inl ⟨by rfl, ?_⟩) trivial ?_
  · intro w' _
    go_simp
    try with_reducible rfl
    try (intro h9; exfalso; omega)
  try simp only [Act.put, List.getElem_toArray, List.getElem_cons_zero, List.getElem_cons_succ, List.setIfInBounds_toArray, List.set_cons_zero, List.set_cons_succ]
  refine anyT_take (i := 6) (v := .int .i64 d) rfl (by kernel_rfl) (by kernel_rfl) (fun _ _ _ h => h) (Or.inl ⟨by rfl, ?_⟩) trivial ?_
  · intro w' _
    go_simp
    try with_reducible rfl
    try (intro h9; exfalso; omega)
  try simp only [Act.put, List.getElem_toArray, List.getElem_cons_zero, List.getElem_cons_succ, List.setIfInBounds_toArray, List.set_cons_zero, List.set_cons_succ]
  refine anyT_take (i := 7) (v := .int .i64 (d - 1)) rfl (by kernel_rfl) (by kernel_rfl) (fun _ _ _ h => h) (Or.inl ⟨by rfl, ?_⟩) trivial ?_
  · intro w' _
    go_simp
    try with_reducible rfl
    try (intro h9; exfalso; omega)
  try simp only [Act.put, List.getElem_toArray, List.getElem_cons_zero, List.getElem_cons_succ, List.setIfInBounds_toArray, List.set_cons_zero, List.set_cons_succ]
  refine anyT_one (i := 0) (by kernel_rfl) ?_
  refine wpOp_step rfl (fun K hK => ?_)
  replace hK := Lib.hid hK
  go_simp
  (with_reducible refine (hop.out _).mono ?_)
  rintro e w3 ⟨rfl, hRa, hba⟩
  obtain ⟨a0, ha0⟩ : ∃ a, w2.heap.size = a := ⟨_, rfl⟩
  have hR3 : RWm (tabS op21) 9 g w3 a0 := by
    rw [← ha0]; exact ⟨hS2.out.s, hRa⟩
  have hS3 := hS2.out.call hBw (hS2.out.m.over hba) (Keep.of_below hba)
  rw [ha0]
  refine hK.out _ _ ⟨fun _ => trivial, ?_⟩
  clear hK K hRa hba hS2
  replace hS3 := Lib.hid hS3
  replace hR3 := Lib.hid hR3
  try simp only [Act.put, List.getElem_toArray, List.getElem_cons_zero, List.getElem_cons_succ, List.setIfInBounds_toArray, List.set_cons_zero, List.set_cons_succ]
  refine anyT_one (i := 2) (by kernel_rfl) ?_
  refine wpOp_step rfl (fun K hK => ?_)
  replace hK := Lib.hid hK
  go_simp
  (with_reducible refine (hn21.out _ hS3.out.m).mono ?_)
  rintro e w4 ⟨r2, hr2, rfl, hm, hk⟩
  have hS4 := hS3.out.call hBw hm hk
  have hR4 := hR3.out.call (by omega) hk
  refine hK.out _ _ ⟨fun _ => trivial, ?_⟩
  clear hK K hm hk hS3 hR3 
  replace hS4 := Lib.hid hS4
  replace hR4 := Lib.hid hR4
  try simp only [Act.put, List.getElem_toArray, List.getElem_cons_zero, List.getElem_cons_succ, List.setIfInBounds_toArray, List.set_cons_zero, List.set_cons_succ]
  refine anyT_take (i := 3) (v := .pointer (some ⟨a0, r2, none⟩)) rfl (by kernel_rfl) (by kernel_rfl) (fun _ _ _ h => h) (Or.inl ⟨by rfl, ?_⟩) trivial ?_
  · intro w' _
    go_simp
    try with_reducible rfl
    try (intro h9; exfalso; omega)
  try simp only [Act.put, List.getElem_toArray, List.getElem_cons_zero, List.getElem_cons_succ, List.setIfInBounds_toArray, List.set_cons_zero, List.set_cons_succ]
  refine anyT_pair (i := 4) (j := 8) (by kernel_rfl) ?_ ?_
  ·
    refine wpOp_step rfl (fun K hK => ?_)
    replace hK := Lib.hid hK
    have cr := tab_cell hR4.out.2 r2 hr2
    have hs : (⟨(op21[r2]'hr2).toArray⟩ : ByteArray).toList ∈ op21 := by rw [tab_list]; exact List.getElem_mem hr2
    have hl1 := lt_of_get hR4.out.2
    obtain ⟨s, hsq⟩ : ∃ s, (⟨(op21[r2]'hr2).toArray⟩ : ByteArray) = s := ⟨_, rfl⟩
    rw [hsq] at cr hs
    clear hsq
    replace hs := Lib.hid hs
    go_simp
    refine hK.out _ _ ⟨fun _ => trivial, ?_⟩
    clear hK K cr hl1
    try simp only [Act.put, List.getElem_toArray, List.getElem_cons_zero, List.getElem_cons_succ, List.setIfInBounds_toArray, List.set_cons_zero, List.set_cons_succ]
    refine anyT_one (i := 8) (by kernel_rfl) ?_
    refine wpOp_step rfl (fun K hK => ?_)
    replace hK := Lib.hid hK
    go_simp
    (with_reducible refine (hes2.out _ hS4.out.m).mono ?_)
    rintro e w5 ⟨ts, A2, c2, hl, rfl, hts, hX, hm, hk⟩
    have hS5 := hS4.out.call hBw hm hk
    have hR5 := hR4.out.call (by omega) hk
    have hX5 := XM.of hX hS4.out.s
    replace hX5 := Lib.hid hX5
    replace hts := Lib.hid hts
    replace hl := Lib.hid hl
    refine hK.out _ _ ⟨fun _ => trivial, ?_⟩
    clear hK K hm hk hS4 hR4 hX
    replace hS5 := Lib.hid hS5
    replace hR5 := Lib.hid hR5
    try simp only [Act.put, List.getElem_toArray, List.getElem_cons_zero, List.getElem_cons_succ, List.setIfInBounds_toArray, List.set_cons_zero, List.set_cons_succ]
    refine anyT_take (i := 9) (v := .agg #[.int .i64 4, .int .i64 0, .int .i64 0, .int .i64 0, .string s, .slice A2 2 c2]) rfl (by kernel_rfl) (by kernel_rfl) (fun _ _ _ h => h) (Or.inl ⟨by rfl, ?_⟩) trivial ?_
    · intro w' _
      go_simp
      try with_reducible rfl
    try simp only [Act.put, List.getElem_toArray, List.getElem_cons_zero, List.getElem_cons_succ, List.setIfInBounds_toArray, List.set_cons_zero, List.set_cons_succ]
    obtain ⟨zf, zl, z0, z1, z2, z3, z4, z5⟩ := hS5.out.z.all
    have six := hS5.out.z.six (.int .i64 4) (.int .i64 0) (.int .i64 0) (.int .i64 0) (.string s) (.slice A2 2 c2)
    replace six := Lib.hid six
    refine anyT_one (i := 10) (by kernel_rfl) ?_
    refine wpOp_step rfl (fun K hK => ?_)
    replace hK := Lib.hid hK
    go_simp
    refine hK.out _ _ ⟨fun h => absurd h (by decide), ?_⟩
    clear hK K zf zl z0 z1 z2 z3 z4 z5
    try simp only [Act.put, List.getElem_toArray, List.getElem_cons_zero, List.getElem_cons_succ, List.setIfInBounds_toArray, List.set_cons_zero, List.set_cons_succ]
    refine anyT_done (by kernel_rfl) ?_ _
    go_wp2_with fail
    refine bodyPost_ret (v := .agg #[.int .i64 4, .int .i64 0, .int .i64 0, .int .i64 0, .string s, .slice A2 2 c2]) (by simp [results, Try.results7, go_sem, six.out]) rfl ?_
    have hl0 := hl.out
    obtain ⟨hW, hd⟩ := WM_of (h := ⟨4, 0, 0, 0, s⟩) (ts := ts) (D := D) ⟨rfl, rfl, rfl, fun h => by simp at h, fun h => by simp at h, fun h => by simp at h, fun _ => hs.out, fun h => by simp at h, fun h => by simp at h⟩ (by simp; omega) hts.out
    exact MXm_fin (h := ⟨4, 0, 0, 0, s⟩) (ts := ts) (c := c2) hg hS5.out.k hS5.out.m hBw (hX5.out _) hl0 (by omega) hW hd _ _ _ _ _ _
  ·
    refine wpOp_step rfl (fun K hK => ?_)
    replace hK := Lib.hid hK
    go_simp
    (with_reducible refine (hes2.out _ hS4.out.m).mono ?_)
    rintro e w5 ⟨ts, A2, c2, hl, rfl, hts, hX, hm, hk⟩
    have hS5 := hS4.out.call hBw hm hk
    have hR5 := hR4.out.call (by omega) hk
    have hX5 := XM.of hX hS4.out.s
    replace hX5 := Lib.hid hX5
    replace hts := Lib.hid hts
    replace hl := Lib.hid hl
    refine hK.out _ _ ⟨fun _ => trivial, ?_⟩
    clear hK K hm hk hS4 hR4 hX
    replace hS5 := Lib.hid hS5
    replace hR5 := Lib.hid hR5
    try simp only [Act.put, List.getElem_toArray, List.getElem_cons_zero, List.getElem_cons_succ, List.setIfInBounds_toArray, List.set_cons_zero, List.set_cons_succ]
    refine anyT_one (i := 4) (by kernel_rfl) ?_
    refine wpOp_step rfl (fun K hK => ?_)
    replace hK := Lib.hid hK
    have cr := tab_cell hR5.out.2 r2 hr2
    have hs : (⟨(op21[r2]'hr2).toArray⟩ : ByteArray).toList ∈ op21 := by rw [tab_list]; exact List.getElem_mem hr2
    have hl1 := lt_of_get hR5.out.2
    obtain ⟨s, hsq⟩ : ∃ s, (⟨(op21[r2]'hr2).toArray⟩ : ByteArray) = s := ⟨_, rfl⟩
    rw [hsq] at cr hs
    clear hsq
    replace hs := Lib.hid hs
    go_simp
    refine hK.out _ _ ⟨fun _ => trivial, ?_⟩
    clear hK K cr hl1
    try simp only [Act.put, List.getElem_toArray, List.getElem_cons_zero, List.getElem_cons_succ, List.setIfInBounds_toArray, List.set_cons_zero, List.set_cons_succ]
    refine anyT_take (i := 9) (v := .agg #[.int .i64 4, .int .i64 0, .int .i64 0, .int .i64 0, .string s, .slice A2 2 c2]) rfl (by kernel_rfl) (by kernel_rfl) (fun _ _ _ h => h) (Or.inl ⟨by rfl, ?_⟩) trivial ?_
    · intro w' _
      go_simp
      try with_reducible rfl
    try simp only [Act.put, List.getElem_toArray, List.getElem_cons_zero, List.getElem_cons_succ, List.setIfInBounds_toArray, List.set_cons_zero, List.set_cons_succ]
    obtain ⟨zf, zl, z0, z1, z2, z3, z4, z5⟩ := hS5.out.z.all
    have six := hS5.out.z.six (.int .i64 4) (.int .i64 0) (.int .i64 0) (.int .i64 0) (.string s) (.slice A2 2 c2)
    replace six := Lib.hid six
    refine anyT_one (i := 10) (by kernel_rfl) ?_
    refine wpOp_step rfl (fun K hK => ?_)
    replace hK := Lib.hid hK
    go_simp
    refine hK.out _ _ ⟨fun h => absurd h (by decide), ?_⟩
    clear hK K zf zl z0 z1 z2 z3 z4 z5
    try simp only [Act.put, List.getElem_toArray, List.getElem_cons_zero, List.getElem_cons_succ, List.setIfInBounds_toArray, List.set_cons_zero, List.set_cons_succ]
    refine anyT_done (by kernel_rfl) ?_ _
    go_wp2_with fail
    refine bodyPost_ret (v := .agg #[.int .i64 4, .int .i64 0, .int .i64 0, .int .i64 0, .string s, .slice A2 2 c2]) (by simp [results, Try.results7, go_sem, six.out]) rfl ?_
    have hl0 := hl.out
    obtain ⟨hW, hd⟩ := WM_of (h := ⟨4, 0, 0, 0, s⟩) (ts := ts) (D := D) ⟨rfl, rfl, rfl, fun h => by simp at h, fun h => by simp at h, fun h => by simp at h, fun _ => hs.out, fun h => by simp at h, fun h => by simp at h⟩ (by simp; omega) hts.out
    exact MXm_fin (h := ⟨4, 0, 0, 0, s⟩) (ts := ts) (c := c2) hg hS5.out.k hS5.out.m hBw (hX5.out _) hl0 (by omega) hW hd _ _ _ _ _ _
end Go.Proofs.Ytljiiniocnljmaa
