/-
  hasForeign, Follows.
-/
import Derived.Test.YtembgefbmecdbaaR39
import Derived.Test.YtembgefbmecdbaaKg
namespace Go.Proofs.Ytembgefbmecdbaa
open Go.RowKit Go.Lib
theorem forR_t (V : Nat) (x : Int) (g : Nat) (hV : V ≤ 60000) (w : World) (hc : w.cell? ⟨g, 0, none⟩ = some (.int .i64 (V : Int))) :
    Calls Try.prog 25 #[.int .i64 x, .pointer (some ⟨g, 0, none⟩)] w fun e w' => e = .returned (.bool (fgn V x)) ∧ ∃ q, w' = w.drewN q := by
  unfold fgn
  by_cases h0 : x = 0
  · subst h0
    go_enter Try.func25, Try.ntmps25
    go_wp2
    go_ret
    exact ⟨rfl, 0, rfl⟩
  · have n0 : (x == 0) = false := by simpa using h0
    rw [n0]
    by_cases h1 : x < -(V : Int)
    · have d1 : decide (x < -(V : Int)) = true := by simpa using h1
      go_enter Try.func25, Try.ntmps25
      go_wp2
      go_ret
      exact ⟨by simp [d1], 0, rfl⟩
    · have d1 : decide (x < -(V : Int)) = false := by simpa using h1
      go_enter Try.func25, Try.ntmps25
      go_wp2
      go_ret
      exact ⟨by simp , 0, rfl⟩
section
variable {base p V : Nat} {cs : List (List Int)} {vl ve : Value}
set_option maxRecDepth 100000 in
set_option maxHeartbeats 800000 in
theorem hasF_t (w : World) (h : CF base w p V cs vl ve) (hV : V ≤ 60) (A : Option Addr) (l : List Int) (c : Nat) (hA : RL w A l) (hl : l.length ≤ 1000000) : Calls Try.prog 12 #[pp p, .slice A l.length c] w (RV w (.bool (l.any (fgn V)))) := by
  have hVt := Vars_t h
  have hF := cont_t 25 #[.pointer (some ⟨w.heap.size, 0, none⟩)] (enters_of Try.func25 (by kernel_rfl) rfl) (fgn V) l c A (w.alloc (.cells #[.int .i64 (V : Int)] 3)) (by omega) (hA.over ((Below.refl _ w).alloc (Nat.le_refl _) _))
    (fun x _ W hW => (forR_t V x w.heap.size (by omega) W ((hW.cell (p := ⟨w.heap.size, 0, none⟩) (by simp)).trans (by simp))).mono fun e w' ⟨he, q, hq⟩ => ⟨he, by rw [hq]; exact bdn W q⟩)
  obtain ⟨n, hn⟩ : ∃ n, l.length = n := ⟨_, rfl⟩
  rw [hn] at hF ⊢
  obtain ⟨r, hr⟩ : ∃ r, l.any (fgn V) = r := ⟨_, rfl⟩
  rw [hr] at hF ⊢
  replace hVt := Lib.hid hVt
  replace hF := Lib.hid hF
  clear hr hn h hA
  go_enter Try.func12, Try.ntmps12
  go_wp2_with fail
  (with_reducible refine hVt.out.mono ?_)
  rintro e w1 ⟨rfl, rfl⟩
  go_wp2_with fail
  (with_reducible refine hF.out.mono ?_)
  rintro e w2 ⟨rfl, hb2⟩
  have hbw2 := Lib.hid (show Below w.heap.size w w2 from below_call hb2 (by go_grown) (by simp))
  clear hb2 hF
  go_wp2_with fail
  go_ret
  exact ⟨rfl, hbw2.out⟩
/-- Whether the negation of lits fails by unit propagation. -/
def FO (w : World) (V : Nat) (cs : List (List Int)) (lits : List Int) (e : Ending) (w' : World) : Prop := ∃ b, e = .returned (.bool b) ∧ (b = true ↔ lits.any (fgn V) = false ∧ Fails cs (fun x => -x ∈ lits)) ∧ Below w.heap.size w w'
theorem fgn_in {V : Nat} {l : List Int} (h : l.any (fgn V) = false) : ∀ y, y ∈ l → y ≠ 0 ∧ y ≤ V ∧ -y ≤ V := by
  intro y hy
  have h1 := List.any_eq_false.1 h y hy
  unfold fgn at h1
  simp at h1
  omega
set_option maxRecDepth 100000 in
set_option maxHeartbeats 1600000 in
theorem Follows_t (w : World) (h : CF base w p V cs vl ve) (hV : V ≤ 60) (hcl : ∀ c, c ∈ cs → ∀ y, y ∈ c → y ≠ 0 ∧ y ≤ V ∧ -y ≤ V) (hn : cs.length < 80000) (A : Option Addr) (l : List Int) (c : Nat) (hA : RL w A l) (hl : l.length ≤ 1000000) : Calls Try.prog 6 #[pp p, .slice A l.length c] w (FO w V cs l) := by
  have hF := hasF_t w h hV A l c hA hl
  by_cases hany : l.any (fgn V) = true
  · rw [hany] at hF
    obtain ⟨n, hnn⟩ : ∃ n, l.length = n := ⟨_, rfl⟩
    rw [hnn] at hF ⊢
    replace hF := Lib.hid hF
    replace hany := Lib.hid hany
    clear h hA hcl hnn
    go_enter Try.func6, Try.ntmps6
    go_wp2_with fail
    (with_reducible refine hF.out.mono ?_)
    rintro e w1 ⟨rfl, hb⟩
    replace hb := Lib.hid hb
    clear hF
    go_wp2_with fail
    go_ret
    refine ⟨false, rfl, ⟨fun q => (by cases q), fun q => ?_⟩, hb.out⟩
    rw [hany.out] at q
    cases q.1
  · replace hany : l.any (fgn V) = false := by simpa using hany
    rw [hany] at hF
    have hin := fgn_in hany
    have hN : ∀ w1, Below w.heap.size w w1 → Calls Try.prog 13 #[pp p] w1 fun e w' => ∃ q fl, e = .returned (pp q) ∧ PZ w1.heap.size w' q V cs cs.length fl ∧ Below w1.heap.size w1 w' := fun w1 hb => newP_t w1 (h.over hb) hV hcl hn
    have hR : ∀ w1 w2 q fl, Below w.heap.size w w1 → PZ w1.heap.size w2 q V cs cs.length fl → Below w1.heap.size w1 w2 → Calls Try.prog 14 #[pp q, .slice A l.length c] w2 fun e w' => FO w V cs l e w' := by
      intro w1 w2 q fl hb1 hz hb2
      have hrb : RB w1.heap.size w2 A l := fun h0 => by
        obtain ⟨b, off, e, h1, h2⟩ := (hA.over hb1) h0
        exact ⟨b, off, e, h1, fun j hj => (hb2.cell (p := ⟨b, off + j, none⟩) h1).trans (h2 j hj)⟩
      refine (refutes_t w2 hz (by omega) hb2.size A l c hrb hin hl).mono ?_
      rintro e w' ⟨b, rfl, hF, _, hb3⟩
      exact ⟨b, rfl, hF.trans ⟨fun q => ⟨hany, q⟩, fun q => q.2⟩, hb1.trans ((hb2.trans hb3).mono hb1.size)⟩
    obtain ⟨n, hnn⟩ : ∃ n, l.length = n := ⟨_, rfl⟩
    rw [hnn] at hF ⊢
    simp only [hnn] at hR
    replace hF := Lib.hid hF
    replace hN := Lib.hid hN
    replace hR := Lib.hid hR
    clear h hA hcl hnn hany hin
    go_enter Try.func6, Try.ntmps6
    go_wp2_with fail
    (with_reducible refine hF.out.mono ?_)
    rintro e w1 ⟨rfl, hb⟩
    have hN1 := Lib.hid (hN.out w1 hb)
    replace hb := Lib.hid hb
    clear hF hN
    go_wp2_with fail
    (with_reducible refine hN1.out.mono ?_)
    rintro e w2 ⟨q, fl, rfl, hz, hb2⟩
    have hR1 := Lib.hid (hR.out w1 w2 q fl hb.out hz hb2)
    clear hN1 hR hz hb2
    go_wp2_with fail
    (with_reducible refine hR1.out.mono ?_)
    rintro e w3 ⟨b, rfl, hb3, hb4⟩
    have hE : FO w V cs l (.returned (.bool b)) w3 := ⟨b, rfl, hb3, hb4⟩
    replace hE := Lib.hid hE
    clear hR1 hb3 hb4
    go_wp2_with fail
    go_ret
    exact hE.out
end
end Go.Proofs.Ytembgefbmecdbaa
