/-
  Package ast: whether a head bears a name; what the visits do; the walk over a tree with either of them.
-/
import Derived.Test.YtljiiniocnljmaaVk
import Derived.Test.YtljiiniocnljmaaAb
namespace Go.Proofs.Ytljiiniocnljmaa
open Go.RowKit Go.Lib
def dolS : List UInt8 := [36, 115, 105, 103, 110, 101, 100]
def dolU : List UInt8 := [36, 117, 110, 115, 105, 103, 110, 101, 100]
/-- Does a head bear a name? -/
def hasN (h : XH) : Bool := if h.k = 2 then true else if h.k = 8 then true else if h.k = 9 then true else if h.k = 10 then decide (h.s.toList ≠ dolS ∧ h.s.toList ≠ dolU) else false
set_option maxRecDepth 100000 in
theorem hasName_t (h : XH) (A : Option Addr) (n c : Nat) (w : World) : Calls Try.prog 21 #[xv h A n c] w (RV w (.bool (hasN h))) := by
  have hB := BX.new w 36 h A n c
  obtain ⟨b0, b1, b2, b3, b4, b5⟩ := hB.all
  have bl := hB.lt
  obtain ⟨S, hS⟩ : ∃ S, h.s = S := ⟨_, rfl⟩
  have hr : hasN h = if h.k = 2 then true else if h.k = 8 then true else if h.k = 9 then true else if h.k = 10 then decide (S.toList ≠ dolS ∧ S.toList ≠ dolU) else false := by
    unfold hasN
    rw [hS]
  rw [hr]
  rw [hS] at b4
  obtain ⟨k, hk⟩ : ∃ k, h.k = k := ⟨_, rfl⟩
  rw [hk] at b0 ⊢
  clear hr hB
  by_cases k2 : k = 2
  · subst k2
    rw [if_pos rfl]
    go_enter Try.func21, Try.ntmps21
    go_wp2_with fail
    go_ret
    exact ⟨rfl, by go_grown⟩
  rw [if_neg k2]
  by_cases k8 : k = 8
  · subst k8
    rw [if_pos rfl]
    go_enter Try.func21, Try.ntmps21
    go_wp2_with fail
    go_ret
    exact ⟨rfl, by go_grown⟩
  rw [if_neg k8]
  by_cases k9 : k = 9
  · subst k9
    rw [if_pos rfl]
    go_enter Try.func21, Try.ntmps21
    go_wp2_with fail
    go_ret
    exact ⟨rfl, by go_grown⟩
  rw [if_neg k9]
  by_cases k10 : k = 10
  · subst k10
    rw [if_pos rfl]
    by_cases e1 : S.toList = [36, 115, 105, 103, 110, 101, 100]
    · rw [show decide (S.toList ≠ dolS ∧ S.toList ≠ dolU) = false by simp [dolS, e1]]
      go_enter Try.func21, Try.ntmps21
      go_wp2_with fail
      go_ret
      exact ⟨by simp , by go_grown⟩
    · by_cases e2 : S.toList = [36, 117, 110, 115, 105, 103, 110, 101, 100]
      · rw [show decide (S.toList ≠ dolS ∧ S.toList ≠ dolU) = false by simp [dolU, e2]]
        go_enter Try.func21, Try.ntmps21
        go_wp2_with fail
        go_ret
        exact ⟨by simp , by go_grown⟩
      · rw [show decide (S.toList ≠ dolS ∧ S.toList ≠ dolU) = true by simp [dolS, dolU, e1, e2]]
        go_enter Try.func21, Try.ntmps21
        go_wp2_with fail
        go_ret
        exact ⟨by simp [e1, e2], by go_grown⟩
  rw [if_neg k10]
  have d2 : ((k : Int) == 2) = false := by simp [k2]
  have d8 : ((k : Int) == 8) = false := by simp [k8]
  have d9 : ((k : Int) == 9) = false := by simp [k9]
  have d10 : ((k : Int) == 10) = false := by simp [k10]
  go_enter Try.func21, Try.ntmps21
  go_wp2_with fail
  go_ret
  exact ⟨rfl, by go_grown⟩
/-- What a visit may change: the variable at p, and the block of the slice that it holds. -/
def FT (w : World) (p g : Nat) : Prop := g = p ∨ ∃ v T f, w.heap[p]? = some (.cells #[v] T f) ∧ v.ownBlock = some g
/-- What a visit changes. -/
structure WP (p : Nat) (w w' : World) : Prop where
  k : Keep (FT w p) w w'
  f : ∀ g, FT w' p g → FT w p g ∨ w.heap.size ≤ g
theorem WP.trans {p : Nat} {a b c : World} (h : WP p a b) (k : WP p b c) : WP p a c :=
  ⟨h.k.trans k.k h.f, fun g hg => by
    rcases k.f g hg with e | e
    · exact h.f g e
    · exact .inr (Nat.le_trans h.k.size e)⟩
theorem FT.of {w w' : World} {p g : Nat} (h : FT w' p g) (e : w'.heap[p]? = w.heap[p]?) : FT w p g := by
  rcases h with h | ⟨v, T, f, h1, h2⟩
  · exact .inl h
  · exact .inr ⟨v, T, f, e ▸ h1, h2⟩
theorem WP.of {p : Nat} {w w' : World} (h : Below w.heap.size w w') (hp : p < w.heap.size) : WP p w w' := ⟨Keep.of_below h, fun _ hg => .inl (hg.of (h.block p hp))⟩
theorem WP.refl (p : Nat) (w : World) : WP p w w := ⟨Keep.refl _ w, fun _ hg => .inl hg⟩
theorem WP.below {p B : Nat} {w w' : World} (h : WP p w w') (hB : B ≤ w.heap.size) (hf : ∀ g, FT w p g → B ≤ g) : Below B w w' := h.k.below hB hf
/-- The closure of Depth: the greatest depth so far. -/
theorem depth1_t (h : XH) (A : Option Addr) (n c : Nat) (d m : Int) (p : Nat) (w : World) (hp : w.heap[p]? = some (.cells #[.int .i64 m] 3 (0, 0))) :
    Calls Try.prog 24 #[xv h A n c, .int .i64 d, .pointer (some ⟨p, 0, none⟩)] w fun e w' => e = .returned (.tuple #[]) ∧ w'.heap[p]? = some (.cells #[.int .i64 (max m d)] 3 (0, 0)) ∧ WP p w w' := by
  have hpl := lt_of_get hp
  have hba := (Below.refl w.heap.size w).alloc (Nat.le_refl _) (.cells #[.int .i64 h.k, .int .i64 h.f, .int .i64 h.l, .int .i64 h.c, .string h.s, .slice A n c] 36)
  obtain ⟨w1, hw1⟩ : ∃ W, w.alloc (.cells #[.int .i64 h.k, .int .i64 h.f, .int .i64 h.l, .int .i64 h.c, .string h.s, .slice A n c] 36) = W := ⟨_, rfl⟩
  rw [hw1] at hba
  have hp1 := (hba.block p hpl).trans hp
  have c0 : w1.cell? ⟨p, 0, none⟩ = some (.int .i64 m) := by rw [Lib.cell_of_heap hp1]; rfl
  have f0 : ∀ i, w1.frozen? ⟨p, i, none⟩ = false := fun i => Lib.frozen_of_heap hp1 i
  have l1 := lt_of_get hp1
  have hq := heap_set w1 p 0 _ _ (.int .i64 (max m d)) hp1
  have hkk : WP p w (w1.setCell ⟨p, 0, none⟩ (.int .i64 (max m d))) := ⟨(Keep.of_below (F := FT w p) hba).set ⟨p, 0, none⟩ (.inl rfl) (.int .i64 (max m d)), fun g hg => by
    rcases hg with e | ⟨v, T, f, h1, h2⟩
    · exact .inl (.inl e)
    · rw [hq] at h1
      injection h1 with h1
      injection h1 with h1
      injection h1 with h1
      cases h1
      cases h2⟩
  replace hq := Lib.hid hq
  replace hkk := Lib.hid hkk
  clear hp hp1 hba
  go_enter Try.func24, Try.ntmps24
  go_wp2_with fail
  refine bodyPost_end (v := .tuple #[]) (by simp [results, Try.results24, go_sem]) rfl ?_
  exact ⟨rfl, hq.out, hkk.out⟩

theorem enc_b (s : ByteArray) : Value.string s = encStr s.data.toList := by cases s; rfl
theorem info_str : (Try.prog.info? 9).map (fun i => (i.zero, i.size, i.bytes)) = some (some (.string ⟨#[]⟩), 1, 16) := by kernel_rfl
/-- The names so far: a variable at p that holds a slice that the call owns. -/
structure NV (w : World) (p B : Nat) (l : List NB) : Prop where
  b : B ≤ p
  s : B ≤ w.heap.size
  v : ∃ v, w.heap[p]? = some (.cells #[v] 38 (0, 0)) ∧ some p ≠ v.ownBlock ∧ w.ownsRow B 9 1 v l.length (l.map encStr)
theorem NV.ft {w : World} {p B : Nat} {l : List NB} (h : NV w p B l) (g : Nat) (hg : FT w p g) : B ≤ g ∧ g < w.heap.size := by
  obtain ⟨hb, hs, v, hp, hn, ho⟩ := h
  rcases hg with rfl | ⟨v', T, f, h1, h2⟩
  · exact ⟨hb, lt_of_get hp⟩
  · rw [hp] at h1
    cases h1
    exact own_ltT ho g h2
theorem NV.keep {w w' : World} {p B : Nat} {l : List NB} (h : NV w p B l) (k : ∀ g, FT w p g → w'.heap[g]? = w.heap[g]?) (hz : w.heap.size ≤ w'.heap.size) : NV w' p B l := by
  obtain ⟨hb, hs, v, hp, hn, ho⟩ := h
  exact ⟨hb, Nat.le_trans hs hz, v, (k p (.inl rfl)).trans hp, hn, own_keepT ho fun b hb' => k b (.inr ⟨v, _, _, hp, hb'⟩)⟩
theorem NV.over {w w' : World} {p B : Nat} {l : List NB} (h : NV w p B l) (k : Below w.heap.size w w') : NV w' p B l := by
  obtain ⟨hb, hs, v, hp, hn, ho⟩ := h
  exact ⟨hb, Nat.le_trans hs k.size, v, (k.block p (lt_of_get hp)).trans hp, hn, own_keepT ho fun b hb' => k.block b (own_ltT ho b hb').2⟩
/-- A visit's name. -/
def nm1 (h : XH) : List NB := if hasN h then [h.s.data.toList] else []
set_option maxRecDepth 100000 in
set_option maxHeartbeats 1600000 in
theorem names1_t (h : XH) (A : Option Addr) (n c : Nat) (d : Int) (p B : Nat) (l : List NB) (w : World) (hN : NV w p B l) (hl : l.length ≤ 1000000) :
    Calls Try.prog 20 #[xv h A n c, .int .i64 d, .pointer (some ⟨p, 0, none⟩)] w fun e w' => e = .returned (.tuple #[]) ∧ NV w' p B (l ++ nm1 h) ∧ WP p w w' := by
  obtain ⟨i0, hi, hz0, hz1, hz2⟩ := info_parts info_str
  have hBs := hN.s
  have hpl := (hN.ft p (.inl rfl)).2
  have hba := (Below.refl w.heap.size w).alloc (Nat.le_refl _) (.cells #[.int .i64 h.k, .int .i64 h.f, .int .i64 h.l, .int .i64 h.c, .string h.s, .slice A n c] 36)
  have hX1 := BX.new w 36 h A n c
  obtain ⟨gb, hgb⟩ : ∃ g, w.heap.size = g := ⟨_, rfl⟩
  rw [hgb] at hX1 hBs
  obtain ⟨w1, hw1⟩ : ∃ W, w.alloc (.cells #[.int .i64 h.k, .int .i64 h.f, .int .i64 h.l, .int .i64 h.c, .string h.s, .slice A n c] 36) = W := ⟨_, rfl⟩
  rw [hw1] at hba hX1
  have hN1 := hN.over hba
  have hK1 : WP p w w1 := WP.of hba hpl
  have hH := fun W => hasName_t h A n c W
  unfold RV at hH
  obtain ⟨hb, hhb⟩ : ∃ b, hasN h = b := ⟨_, rfl⟩
  have hnm : nm1 h = if hb then [h.s.data.toList] else [] := by unfold nm1; rw [hhb]
  rw [hhb] at hH
  rw [hnm]
  obtain ⟨b0, b1, b2, b3, b4, b5⟩ := hX1.all
  have bl := hX1.lt
  replace hX1 := Lib.hid hX1
  replace hH := Lib.hid hH
  replace hN1 := Lib.hid hN1
  replace hK1 := Lib.hid hK1
  clear hN hhb hnm hba
  go_enter Try.func20, Try.ntmps20
  go_wp2_with fail
  (with_reducible refine (hH.out _).mono ?_)
  rintro e w2 ⟨rfl, hb2⟩
  have hN2 := hN1.out.over hb2
  have hX2 := hX1.out.ov hb2
  have hK2 : WP p w w2 := hK1.out.trans (WP.of hb2 (hN1.out.ft p (.inl rfl)).2)
  clear hN1 hX1 hK1 hb2 b0 b1 b2 b3 b4 b5 bl hH hw1
  cases hb with
  | false =>
    replace hN2 := Lib.hid hN2
    replace hK2 := Lib.hid hK2
    clear hX2
    go_wp2_with fail
    refine bodyPost_end (v := .tuple #[]) (by simp [results, Try.results20, go_sem]) rfl ?_
    exact ⟨rfl, by simpa using hN2.out, hK2.out⟩
  | true =>
    obtain ⟨hb, hs, v, hp, hn, ho⟩ := hN2
    obtain ⟨A1, c1, rfl⟩ := own_shape ho
    obtain ⟨b0, b1, b2, b3, b4, b5⟩ := hX2.all
    have bl := hX2.lt
    have p0 : w2.cell? ⟨p, 0, none⟩ = some (.slice A1 l.length c1) := by rw [Lib.cell_of_heap hp]; rfl
    have pl := lt_of_get hp
    have hown := own_ltT ho
    have hR := heap_alloc_new w2 (.cells #[.string h.s] 9)
    have hbr := (Below.refl w2.heap.size w2).alloc (Nat.le_refl _) (.cells #[.string h.s] 9)
    have ho3 := ho.alloc (.cells #[.string h.s] 9)
    have hp3 := (hbr.block p pl).trans hp
    have hK3 : WP p w (w2.alloc (.cells #[.string h.s] 9)) := hK2.trans (WP.of hbr pl)
    have hwz : w.heap.size ≤ w2.heap.size := hK2.k.size
    have hs3 : (w2.alloc (.cells #[.string h.s] 9)).heap.size = w2.heap.size + 1 := by simp
    have hs0 : B ≤ w2.heap.size := hs
    obtain ⟨L, hL⟩ : ∃ L, l.length = L := ⟨_, rfl⟩
    rw [hL] at ho3 hl p0 hp3 ho hn hown
    replace hR := Lib.hid hR
    replace ho3 := Lib.hid ho3
    replace hp3 := Lib.hid hp3
    replace hK3 := Lib.hid hK3
    replace hown := Lib.hid hown
    replace hn := Lib.hid hn
    replace hL := Lib.hid hL
    replace hs3 := Lib.hid hs3
    clear ho hp hX2 hK2 hbr
    go_wp2_with (at_builtin; refine wpList_append_lies _ rfl _ _ 38 rfl B 9 i0 (.string ⟨#[]⟩) 1 16 Try.underlying38 hi hz0 hz1 hz2 rfl (by decide) _ L (l.map encStr) rfl ho3.out ⟨w2.heap.size, 0, none⟩ 1 1 [.string h.s] rfl ?a0 ?a1 ?a2 ?a3 ?a4 ?a5 ?a6 _ rfl ?a8)
    case a0 => rfl
    case a1 => exact World.news_of_block hR.out
    case a2 => simp [Value.oneCell']
    case a3 => decide
    case a4 => unfold maxLen; omega
    case a5 => omega
    case a6 => rw [hs3.out]; omega
    case a8 =>
      intro g6 cap6 w6 ho6 hg6 hgb6 hlt6
      have hgp : g6 ≠ p := by
        rcases hgb6 with e | e
        · intro e2; rw [e2] at e; exact hn.out e.symm
        · have := hs3.out; omega
      have hpn : some p ≠ (Value.slice A1 L c1).ownBlock := hn.out
      have hp6 : w6.heap[p]? = some (.cells #[.slice A1 L c1] 38 (0, 0)) := (hg6.block p (by rw [hs3.out]; omega) hpn).trans hp3.out
      have hft3 : ∀ q, FT (w2.alloc (.cells #[.string h.s] 9)) p q ↔ q = p ∨ (Value.slice A1 L c1).ownBlock = some q := fun q => by
        constructor
        · rintro (e | ⟨v', T, f, h1, h2⟩)
          · exact .inl e
          · rw [hp3.out] at h1; cases h1; exact .inr h2
        · rintro (e | e)
          · exact .inl e
          · exact .inr ⟨_, _, _, hp3.out, e⟩
      have hK6 : Keep (FT (w2.alloc (.cells #[.string h.s] 9)) p) (w2.alloc (.cells #[.string h.s] 9)) w6 := ⟨hg6.os, hg6.tape, hg6.output, hg6.size, fun q hq hnq => hg6.block q hq fun e => hnq ((hft3 q).2 (.inr e.symm))⟩
      have q0 : w6.cell? ⟨p, 0, none⟩ = some (.slice A1 L c1) := by rw [Lib.cell_of_heap hp6]; rfl
      have qf : ∀ i, w6.frozen? ⟨p, i, none⟩ = false := fun i => Lib.frozen_of_heap hp6 i
      have ql := lt_of_get hp6
      have hp7 := heap_set w6 p 0 _ _ (.slice (some ⟨g6, 0, none⟩) (L + 1) cap6) hp6
      have ho7 := own_keepT (w' := w6.setCell ⟨p, 0, none⟩ (.slice (some ⟨g6, 0, none⟩) (L + 1) cap6)) ho6 fun b hb => by cases hb; exact Below.heap_setCell _ _ _ _ hgp
      have hs7 : B ≤ (w6.setCell ⟨p, 0, none⟩ (.slice (some ⟨g6, 0, none⟩) (L + 1) cap6)).heap.size := by rw [World.size_setCell]; have h1 := hg6.size; have := hs3.out; omega
      have hK7 : WP p w (w6.setCell ⟨p, 0, none⟩ (.slice (some ⟨g6, 0, none⟩) (L + 1) cap6)) := hK3.out.trans ⟨hK6.set ⟨p, 0, none⟩ (.inl rfl) _, fun g hg => by
        rcases hg with e | ⟨v', T, f, h1, h2⟩
        · exact .inl (.inl e)
        · rw [hp7] at h1
          injection h1 with h1
          injection h1 with h1
          injection h1 with h1
          cases h1
          cases h2
          rcases hgb6 with e | e
          · exact .inl ((hft3 g6).2 (.inr e))
          · exact .inr (by have h4 := hs3.out; show _ ≤ g6; omega)⟩
      have hN7 : NV (w6.setCell ⟨p, 0, none⟩ (.slice (some ⟨g6, 0, none⟩) (L + 1) cap6)) p B (l ++ [h.s.data.toList]) := by
        refine ⟨hb, hs7, _, hp7, fun e => hgp ?_, ?_⟩
        · injection e with e; exact e.symm
        · rw [List.length_append, hL.out, List.map_append]
          show World.ownsRow _ _ _ _ _ _ (l.map encStr ++ [encStr h.s.data.toList])
          rw [← enc_b]
          exact ho7
      clear ho6 hg6 hgb6 hp6 hK6 hp7 ho7 hs7 hft3 hR ho3 hp3 hK3 hown hpn hn hL
      replace hN7 := Lib.hid hN7
      replace hK7 := Lib.hid hK7
      go_wp2_with fail
      refine bodyPost_end (v := .tuple #[]) (by simp [results, Try.results20, go_sem]) rfl ?_
      exact ⟨rfl, hN7.out, hK7.out⟩
end Go.Proofs.Ytljiiniocnljmaa
