/-
  Write.
-/
import Derived.Test.YtbmdnmjgijblpaaDoorE36
namespace Go.Proofs.YtbmdnmjgijblpaaDoor
open Go Go.RowKit Go.Lib Go.Maps
theorem chkF_ok {top : List UInt8} {vs : List NV} {rows : RW} (h : chkF top vs rows = 0) (hr : ∀ r ∈ rows, ∀ x ∈ r, x.1 ≤ 128 ∧ x.2 < 2 ^ x.1) : TOK top vs rows ∧ wordB top = true ∧ (∀ x ∈ vs, wordB x.1 = true) ∧ (vs.map Prod.fst).Nodup ∧ ∀ r ∈ rows, r.map Prod.fst = vs.map Prod.snd := by
  unfold chkF at h
  split at h
  · cases h
  rename_i h1
  split at h
  · cases h
  rename_i h2
  split at h
  · cases h
  rename_i h3
  split at h
  · cases h
  rename_i h4
  split at h
  · cases h
  rename_i h5
  simp only [Bool.or_eq_true, Bool.not_eq_true', List.any_eq_true, not_or, not_exists, not_and] at h1 h3 h5
  have hw : wordB top = true := by simpa using h1.1
  have hn : ∀ x ∈ vs, wordB x.1 = true := fun x hx => by simpa using h1.2 x hx
  have hd : ∀ x ∈ vs, 1 ≤ x.2 ∧ x.2 ≤ 128 := fun x hx => by
    have := h3 x hx
    unfold wdB at this
    simp at this
    omega
  have hro : ∀ r ∈ rows, r.map Prod.fst = vs.map Prod.snd := fun r hx => by
    have := h5 r hx
    unfold isRowB at this
    simpa using this
  have hl200 : ∀ l, wordB l = true → l.length ≤ 200 := fun l hl => by
    unfold wordB idB at hl
    simp only [Bool.and_eq_true, decide_eq_true_eq] at hl
    exact hl.1.1.2
  exact ⟨⟨hl200 _ hw, by omega, fun x hx => hl200 _ (hn x hx), hd, by omega, fun r hx => by have := congrArg List.length (hro r hx); simpa using this, hr⟩, hw, hn, by simpa using h2, hro⟩
/-- What Write hands back. -/
def WRV (top : List UInt8) (vs : List NV) (rows : RW) : Value := .tuple #[.string (bt (if chkF top vs rows = 0 then dumpT top vs rows else [])), .int .i64 (chkF top vs rows)]
set_option maxRecDepth 100000 in
set_option maxHeartbeats 3200000 in
theorem Write_t (top : List UInt8) (vs : List NV) (rows : RW) (A A2 : Option Addr) (c c2 : Nat) (w : World) (hT : LT w) (hV : RVs w A vs) (hR : RM w A2 rows) (ht : top.length ≤ 1000000000) (hn : ∀ x ∈ vs, x.1.length ≤ 1000000000) (hvl : vs.length ≤ 10000) (hrl : rows.length ≤ 10000) (hr : ∀ r ∈ rows, r.length ≤ 1000000000) (hx : ∀ r ∈ rows, ∀ x ∈ r, x.1 ≤ 128 ∧ x.2 < 2 ^ x.1) :
    Calls Tryd.prog 7 #[.agg #[.string (bt top), .slice A vs.length c, .slice A2 rows.length c2]] w fun e w' => e = .returned (WRV top vs rows) ∧ Below w.heap.size w w' := by
  have hb1 := vnew w (.cells #[.string (bt top), .slice A vs.length c, .slice A2 rows.length c2] 26)
  have hg1 : CV (w.alloc (.cells #[.string (bt top), .slice A vs.length c, .slice A2 rows.length c2] 26)) w.heap.size #[.string (bt top), .slice A vs.length c, .slice A2 rows.length c2] 26 := by unfold CV; exact Array.getElem?_push_size ..
  obtain ⟨w1, hw1⟩ : ∃ W, w.alloc (.cells #[.string (bt top), .slice A vs.length c, .slice A2 rows.length c2] 26) = W := ⟨_, rfl⟩
  obtain ⟨g, hg⟩ : ∃ g, w.heap.size = g := ⟨_, rfl⟩
  rw [hw1] at hb1 hg1
  rw [hg] at hg1
  have hC := Lib.hid (Check_t top vs rows A A2 c c2 w1 (hV.over hb1) (hR.low hb1) ht hn hvl hrl hr)
  have hS : ∀ W, Below w1.heap.size w1 W → W.cell? ⟨g, 0, none⟩ = some (.string (bt top)) ∧ W.cell? ⟨g, 1, none⟩ = some (.slice A vs.length c) ∧ W.cell? ⟨g, 2, none⟩ = some (.slice A2 rows.length c2) ∧ g < W.heap.size := fun W hb => by
    have h := hg1.over hb
    exact ⟨h.c 0, h.c 1, h.c 2, h.lt⟩
  have hWr : chkF top vs rows = 0 → ∀ W, Below w1.heap.size w1 W → Calls Tryd.prog 13 #[.agg #[.string (bt top), .slice A vs.length c, .slice A2 rows.length c2], .func (.func 14) #[] #[pp W.heap.size]] (W.alloc (.cells #[.pointer none, .slice none 0 0] 51)) fun e w' => e = .returned (.tuple #[]) ∧ Hid (Calls Tryd.prog 17 #[pp W.heap.size] w' fun e w2 => e = .returned (.string (bt (dumpT top vs rows))) ∧ Below w.heap.size w w2) := fun h0 W hb => by
    obtain ⟨ok, _⟩ := chkF_ok h0 hx
    have hbW := below_step hb1 hb
    refine (writes_t top vs rows A A2 c c2 W W.heap.size W.heap.size _ (hT.on hbW) rfl (fresh_isBuilder _ _ W) (vnew W _) (hV.over hbW) (hR.low hbW) ok).mono ?_
    rintro e w' ⟨rfl, h1, h2⟩
    refine ⟨rfl, Lib.hid ((Tryd.Builder_String_any W.heap.size W.heap.size (dumpT top vs rows) w' h1 h2.size).mono ?_)⟩
    rintro e w2 ⟨rfl, h3⟩
    exact ⟨rfl, below_step hbW (h2.trans h3)⟩
  have hb12 : ∀ W, Below w1.heap.size w1 W → Below w.heap.size w W := fun W hb => below_step hb1 hb
  obtain ⟨nv, hnv⟩ : ∃ n, vs.length = n := ⟨_, rfl⟩
  obtain ⟨nr, hnr⟩ : ∃ n, rows.length = n := ⟨_, rfl⟩
  unfold WRV
  obtain ⟨ST, hST⟩ : ∃ S, bt top = S := ⟨_, rfl⟩
  simp only [hnv, hnr, hST] at hC hS hWr hw1 ⊢
  obtain ⟨R, hRe⟩ : ∃ R, chkF top vs rows = R := ⟨_, rfl⟩
  rw [hRe] at hC hWr ⊢
  by_cases h0 : R = 0
  · subst h0
    have hW := Lib.hid (hWr rfl)
    rw [if_pos rfl]
    obtain ⟨D, hD⟩ : ∃ S, bt (dumpT top vs rows) = S := ⟨_, rfl⟩
    rw [hD] at hW ⊢
    replace hS := Lib.hid hS
    replace hw1 := Lib.hid hw1
    replace hg := Lib.hid hg
    clear hWr hb1 hg1 hT hV hR ht hn hvl hrl hr hx hnv hnr hST hRe hD hb12
    go_enter Tryd.func7, Tryd.ntmps7
    obtain ⟨k0, k1, k2, kl⟩ := hS.out w1 (Below.refl _ _)
    go_wp2_with fail
    rw [hw1.out, hg.out]
    go_wp2_with fail
    (with_reducible refine hC.out.mono ?_)
    rintro e w2 ⟨rfl, hb2⟩
    obtain ⟨k0, k1, k2, kl⟩ := hS.out w2 hb2
    replace hW := Lib.hid (hW.out w2 hb2)
    clear hC hS hb2
    go_wp2_with fail
    (with_reducible refine hW.out.mono ?_)
    rintro e w3 ⟨rfl, hSt⟩
    clear hW k0 k1 k2 kl
    go_wp2_with fail
    (with_reducible refine hSt.out.mono ?_)
    rintro e w4 ⟨rfl, hb4⟩
    replace hb4 := Lib.hid hb4
    clear hSt
    go_wp2_with fail
    go_ret2
    exact ⟨rfl, hb4.out⟩
  · rw [if_neg h0]
    have d0 : (R != 0) = true := by simpa using h0
    replace h0 := Lib.hid h0
    replace hS := Lib.hid hS
    replace hw1 := Lib.hid hw1
    replace hg := Lib.hid hg
    replace hb12 := Lib.hid hb12
    clear hWr hb1 hg1 hT hV hR ht hn hvl hrl hr hx hnv hnr hST hRe
    go_enter Tryd.func7, Tryd.ntmps7
    obtain ⟨k0, k1, k2, kl⟩ := hS.out w1 (Below.refl _ _)
    go_wp2_with fail
    rw [hw1.out, hg.out]
    go_wp2_with fail
    (with_reducible refine hC.out.mono ?_)
    rintro e w2 ⟨rfl, hb2⟩
    have hL := Lib.hid (hb12.out w2 hb2)
    clear hC hS hb2 k0 k1 k2 kl
    go_wp2_with fail
    go_ret2
    exact ⟨rfl, hL.out⟩
end Go.Proofs.YtbmdnmjgijblpaaDoor
