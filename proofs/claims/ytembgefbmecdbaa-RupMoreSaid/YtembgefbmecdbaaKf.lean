/-
  A formula's stored clause.
-/
import Derived.Test.YtembgefbmecdbaaKd
namespace Go.Proofs.Ytembgefbmecdbaa
open Go.RowKit Go.Lib
/-- A slice that reads as l; nothing else has changed. -/
def SV (vl : Value) (w : World) (l : List Int) (e : Ending) (w' : World) : Prop := ∃ A c, e = .returned (.slice A l.length c) ∧ RL w' A l ∧ Below w.heap.size w w' ∧ ∀ a, A = some a → vl.ownBlock = some a.block
theorem RL.low {w w' : World} {A : Option Addr} {l : List Int} {B : Nat} (h : RL w A l) (hA : ∀ a, A = some a → a.block < B) (k : Below B w w') : RL w' A l := fun h0 => by
  obtain ⟨b, off, e, hb, hc⟩ := h h0
  have := hA _ e
  exact ⟨b, off, e, Nat.lt_of_lt_of_le hb k.size, fun j hj => (k.cell (p := ⟨b, off + j, none⟩) this).trans (hc j hj)⟩
theorem RL.drewN {w : World} {A : Option Addr} {l : List Int} (h : RL w A l) (q : Nat) : RL (w.drewN q) A l := h
section
variable {base : Nat} {w : World} {p V : Nat} {cs : List (List Int)} {vl ve : Value}
theorem CF.ve_some (h : CF base w p V cs vl ve) (hn : 0 < cs.length) : ∃ g cap, ve = .slice (some ⟨g, 0, none⟩) cs.length cap ∧ cs.length ≤ cap ∧ ∀ j, j < cs.length → w.cell? ⟨g, j, none⟩ = some (.int .i64 ((beg cs (j + 1) : Nat) : Int)) := by
  rcases h.ends.2 with ⟨_, h0⟩ | ⟨g, cap, cur, e, hb, hgg, h1, h2, h3, h4⟩
  · omega
  · refine ⟨g, cap, e, h1, fun j hj => ?_⟩
    have h5 := h.ends
    rw [e] at h5
    rw [h5.cellAt j (by omega), List.getElem?_map, ends_get 0 cs j hj]
    simp
theorem CF.vl_some (h : CF base w p V cs vl ve) : (vl = .slice none 0 0 ∧ cs.flatten.length = 0) ∨ ∃ g cap, vl = .slice (some ⟨g, 0, none⟩) cs.flatten.length cap ∧ cs.flatten.length ≤ cap ∧ g < w.heap.size ∧ ∀ j, j < cs.flatten.length → w.cell? ⟨g, j, none⟩ = some (.int .i64 (cs.flatten.getD j 0)) := by
  rcases h.lits.2 with h0 | ⟨g, cap, cur, e, hb, hgg, h1, h2, h3, h4⟩
  · exact .inl h0
  · refine .inr ⟨g, cap, e, h1, lt_of_get hgg, fun j hj => ?_⟩
    have h5 := h.lits
    rw [e] at h5
    rw [h5.cellAt j (by omega)]
    rw [List.getElem?_map, List.getElem?_eq_getElem (by omega)]
    simp [List.getD, List.getElem?_eq_getElem hj]
theorem bdn (w : World) (q : Nat) : Below w.heap.size w (w.drewN q) := ⟨rfl, rfl, rfl, Nat.le_refl _, fun _ _ => rfl⟩
theorem stored_at (g S n N : Nat) (f : Nat → Int) (l : List Int) (w : World) (hg : g < w.heap.size) (hc : ∀ j, j < N → w.cell? ⟨g, j, none⟩ = some (.int .i64 (f j))) (hN : S + n ≤ N) (hl : l.length = n) (hf : ∀ j, j < n → f (S + j) = l.getD j 0) : RL w (some ⟨g, S, none⟩) l := fun _ =>
  ⟨g, S, rfl, hg, fun j hj => by rw [hc (S + j) (by omega), hf j (by omega)]⟩
set_option maxRecDepth 100000 in
set_option maxHeartbeats 1000000 in
theorem stored_t (h : CF base w p V cs vl ve) (i : Nat) (hi : i < cs.length) : Calls Try.prog 45 #[pv p, .int .i64 (i : Int)] w (SV vl w cs[i]) := by
  obtain ⟨ge, ce, rfl, hce, hcell⟩ := h.ve_some (by omega)
  have hF := h.fl
  have hn := h.hn
  have c1 := h.c1
  have c2 := h.c2
  have b1 := beg_succ cs i hi
  have b2 := beg_le cs (i + 1)
  have e1 := hcell i hi
  have e0 : 0 < i → w.cell? ⟨ge, i - 1, none⟩ = some (.int .i64 ((beg cs i : Nat) : Int)) := fun h0 => by
    rw [hcell (i - 1) (by omega), Nat.sub_add_cancel h0]
  have z0 : i = 0 → beg cs i = 0 := fun h0 => by subst h0; exact beg_zero cs
  have hfg := flat_get cs i hi
  obtain ⟨S, hS⟩ : ∃ S, beg cs i = S := ⟨_, rfl⟩
  obtain ⟨E, hE⟩ : ∃ E, beg cs (i + 1) = E := ⟨_, rfl⟩
  obtain ⟨l, hl⟩ : ∃ l, cs[i] = l := ⟨_, rfl⟩
  obtain ⟨m, hm⟩ : ∃ m, l.length = m := ⟨_, rfl⟩
  obtain ⟨nc, hnc⟩ : ∃ nc, cs.length = nc := ⟨_, rfl⟩
  rw [hl] at b1 hfg ⊢
  rw [hS] at b1 e0 z0
  rw [hE] at b1 b2 e1
  rw [hm] at b1
  rw [hnc] at hi hn c2 hce
  have hEm : E - S = m := by omega
  have hfgg : ∀ j, j < m → cs.flatten.getD (S + j) 0 = l.getD j 0 := fun j hj => by
    have := hfg j (by omega)
    rw [hS] at this
    rw [List.getD_eq_getElem?_getD, this, List.getD_eq_getElem?_getD, List.getElem?_eq_getElem (by omega)]
  rcases h.vl_some with ⟨rfl, h0⟩ | ⟨gl, cl, rfl, hcl, hgl, hlc⟩
  · have S0 : S = 0 := by omega
    have E0 : E = 0 := by omega
    have m0 : m = 0 := by omega
    have l0 : l = [] := List.length_eq_zero_iff.1 (by omega)
    subst S0 E0 m0
    clear h b1 b2 hm hfg hfgg hS hE hnc hF h0 hEm hcell
    subst l0
    by_cases hi0 : i = 0
    · subst hi0
      clear e0 z0
      go_enter Try.func45, Try.ntmps45
      go_wp2_with fail
      go_quiet (fail)
      go_wp2_with fail
      go_ret
      exact ⟨none, 0, rfl, fun hp => by simp at hp, bdn w _, fun a h => by cases h⟩
    · have e0' := e0 (by omega)
      have d1 : (0 : Int) < (i : Int) := by omega
      have i1 : (i : Int) - 1 = ((i - 1 : Nat) : Int) := by omega
      clear e0 z0
      go_enter Try.func45, Try.ntmps45
      go_wp2_with fail
      go_quiet (fail)
      go_wp2_with fail
      go_ret
      exact ⟨none, 0, rfl, fun hp => by simp at hp, bdn w _, fun a h => by cases h⟩
  · obtain ⟨N, hN⟩ : ∃ N, cs.flatten.length = N := ⟨_, rfl⟩
    rw [hN] at b2 hcl hlc hF c1
    have hR := stored_at gl S m N (fun j => cs.flatten.getD j 0) l w hgl hlc (by omega) hm hfgg
    have d0 : decide ((S : Int) < 0) = false := by simp
    have d1 : decide ((E : Int) < (S : Int)) = false := by simp; omega
    have d2 : decide ((cl : Int) < (E : Int)) = false := by simp; omega
    have s1 : S ≤ E := by omega
    have s2 : E ≤ cl := by omega
    have hEm' : (E : Int) - (S : Int) = (m : Int) := by omega
    have hcase : cl = S ∨ ¬ cl = S := by omega
    replace hR := Lib.hid hR
    replace hm := Lib.hid hm
    clear h hfg hfgg hS hE hnc hcell hlc
    by_cases hi0 : i = 0
    · subst hi0
      obtain rfl := z0 rfl
      clear e0 b1
      rw [Nat.sub_zero] at hEm
      subst hEm
      go_enter Try.func45, Try.ntmps45
      go_wp2_with fail
      go_quiet (fail)
      go_wp2_with fail
      go_ret
      exact ⟨_, _, by rw [hm.out]; rfl, hR.out, bdn w _, fun a h => by cases h; rfl⟩
    · have e0' := e0 (by omega)
      have d4 : (0 : Int) < (i : Int) := by omega
      have i1 : (i : Int) - 1 = ((i - 1 : Nat) : Int) := by omega
      clear e0 z0
      rcases hcase with hcase | hcase
      · have hm0 : m = 0 := by omega
        obtain rfl : E = S := by omega
        subst hcase
        subst hm0
        clear hEm hEm' b1 d1 d2 s1 s2
        go_enter Try.func45, Try.ntmps45
        go_wp2_with fail
        go_quiet (fail)
        go_wp2_with fail
        go_ret
        exact ⟨some ⟨gl, 0, none⟩, 0, by rw [hm.out]; simp, fun hp => by rw [hm.out] at hp; omega, bdn w _, fun a h => by cases h; rfl⟩
      · go_enter Try.func45, Try.ntmps45
        go_wp2_with fail
        go_quiet (fail)
        go_wp2_with fail
        go_ret
        refine ⟨some ⟨gl, S, none⟩, cl - S, ?_, hR.out, bdn w _, fun a h => by cases h; rfl⟩
        rw [show l.length = S + m - S by have := hm.out; omega]
        rfl
end
end Go.Proofs.Ytembgefbmecdbaa
