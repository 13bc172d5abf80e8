/-
  How a propagator lies in memory: values and watch lists by the place of their literal, the trail; place, isTrue, isFalse.
  isTrue, isFalse, assign, makeTrue.
-/
import Derived.Test.YtembgefbmecdbaaR1
import Derived.Test.YtembgefbmecdbaaKc
import Derived.WalkSpells
import Derived.WalkLawsBesides
import Derived.StillTailTactics
import Derived.Deep.QuietTactic
import Derived.Deep.AppendLies
import Derived.Deep.RegionLaw
import Derived.Deep.Cut
import Derived.Deep.RegionHeld3
import Derived.Deep.OwnRows
import Derived.IntWalk
namespace Go.Proofs.Ytembgefbmecdbaa
open Go.RowKit Go.Lib
def RW (w : World) (v : Value) (e : Ending) (w' : World) : Prop := e = .returned v ∧ w = w'
abbrev CB (w : World) (b : Nat) (cs : Array Value) (T : TypeId) : Prop := w.heap[b]? = some (.cells cs T (0, 0))
theorem CB.c {w : World} {b : Nat} {cs : Array Value} {T : TypeId} (h : CB w b cs T) (i : Nat) : w.cell? ⟨b, i, none⟩ = cs[i]? := by rw [Lib.cell_of_heap h]
theorem CB.fz {w : World} {b : Nat} {cs : Array Value} {T : TypeId} (h : CB w b cs T) (i : Nat) : w.frozen? ⟨b, i, none⟩ = false := Lib.frozen_of_heap h i
theorem CB.far {w : World} {b : Nat} {cs : Array Value} {T : TypeId} (h : CB w b cs T) (p : Addr) (u : Value) (hp : b ≠ p.block) : CB (w.setCell p u) b cs T := (Below.heap_setCell w p u b hp).trans h
theorem CB.over {w w' : World} {b : Nat} {cs : Array Value} {T : TypeId} (h : CB w b cs T) (k : Below w.heap.size w w') : CB w' b cs T := (k.block b (lt_of_get h)).trans h
theorem CB.ne {w : World} {b c : Nat} {cs ds : Array Value} {T U : TypeId} (h : CB w b cs T) (k : CB w c ds U) (hT : T ≠ U) : b ≠ c := fun e => by
  subst e
  unfold CB at h k
  rw [h] at k
  cases k
  exact hT rfl
theorem CB.own_ne {w : World} {b B n sz : Nat} {cs : Array Value} {T e : TypeId} {v : Value} {xs : List Value} (h : CB w b cs T) (k : w.ownsRow B e sz v n xs) (hT : T ≠ e) : ∀ g, v.ownBlock = some g → g ≠ b := fun g hg hb => by
  subst hb
  rcases k.2 with ⟨rfl, _⟩ | ⟨g', cap, cur, rfl, _, hgg, _⟩
  · cases hg
  · cases hg
    unfold CB at h
    rw [h] at hgg
    cases hgg
    exact hT rfl
/-- Cells by the place of a literal: -V .. V. -/
def vcs (V : Nat) (f : Int → Value) : Array Value := ((List.range (2 * V + 1)).map fun (i : Nat) => f ((i : Int) - V)).toArray
theorem vcs_get {V : Nat} {f : Int → Value} {x : Int} (h0 : -(V : Int) ≤ x) (h1 : x ≤ V) : (vcs V f)[(x + V).toNat]? = some (f x) := by
  unfold vcs
  rw [List.getElem?_toArray, List.getElem?_map, List.getElem?_range (by omega)]
  simp only [Option.map_some]
  congr 2
  omega
theorem vcs_size (V : Nat) (f : Int → Value) : (vcs V f).size = 2 * V + 1 := by simp [vcs]
theorem vcs_set {V : Nat} {f : Int → Value} {x : Int} (u : Value) (h0 : -(V : Int) ≤ x) (h1 : x ≤ V) : (vcs V f).setIfInBounds (x + V).toNat u = vcs V (fun y => if y = x then u else f y) := by
  apply Array.ext_getElem?
  intro i
  rw [Array.getElem?_setIfInBounds, vcs_size]
  by_cases k : (x + V).toNat = i
  · subst k
    rw [if_pos rfl, if_pos (by omega), vcs_get h0 h1, if_pos rfl]
  · rw [if_neg k]
    by_cases hi : i < 2 * V + 1
    · have e : i = (((i : Int) - V) + V).toNat := by omega
      rw [e, vcs_get (by omega) (by omega), vcs_get (by omega) (by omega), if_neg (by omega)]
    · rw [Array.getElem?_eq_none (by rw [vcs_size]; omega), Array.getElem?_eq_none (by rw [vcs_size]; omega)]
structure PS where
  V : Nat
  val : Int → Int
  hd : Int → Value
  tr : List Int
  head : Nat
  failed : Bool
structure PB where
  tv : Value
  vb : Nat
  wb : Nat
abbrev sl (b n : Nat) : Value := .slice (some ⟨b, 0, none⟩) n n
abbrev pp (p : Nat) : Value := .pointer (some ⟨p, 0, none⟩)
abbrev iz (k : Int) : Value := .int .i64 k
abbrev i8 (k : Int) : Value := .int .i8 k
abbrev pc (k : PB) (s : PS) : Array Value := #[iz (s.V : Int), sl k.vb (2 * s.V + 1), sl k.wb (2 * s.V + 1), k.tv, iz (s.head : Int), .bool s.failed]
structure PIx (B : Nat) (w : World) (p : Nat) (k : PB) (s : PS) : Prop where
  pB : B ≤ p
  low : B ≤ k.vb ∧ B ≤ k.wb
  hV : s.V ≤ 60
  blk : CB w p (pc k s) 59
  vab : CB w k.vb (vcs s.V fun x => i8 (s.val x)) 71
  wab : CB w k.wb (vcs s.V s.hd) 22
  tro : w.ownsRow B 3 1 k.tv s.tr.length (iv s.tr)
theorem own_ltT {w : World} {B n s : Nat} {e : TypeId} {v : Value} {xs : List Value} (h : w.ownsRow B e s v n xs) : ∀ g, v.ownBlock = some g → B ≤ g ∧ g < w.heap.size := by
  rcases h.2 with ⟨rfl, _⟩ | ⟨g, cap, cur, rfl, hb, hg, h3⟩
  · intro g hg; cases hg
  · intro g' hg'
    cases hg'
    exact ⟨hb, (Array.getElem?_eq_some_iff.1 hg).1⟩
section
variable {B p : Nat} {k : PB} {s : PS} (w : World)
theorem PIx.over {w w' : World} (h : PIx B w p k s) (hb : Below w.heap.size w w') : PIx B w' p k s :=
  { pB := h.pB, low := h.low, hV := h.hV, blk := h.blk.over hb, vab := h.vab.over hb, wab := h.wab.over hb, tro := own_keep h.tro fun b e => hb.block b (own_ltT h.tro b e).2 }
set_option maxRecDepth 100000 in
theorem place_t (h : PIx B w p k s) (x : Int) (h0 : -(s.V : Int) ≤ x) (h1 : x ≤ s.V) : Calls Try.prog 46 #[pp p, iz x] w (RW w (iz (((x + s.V).toNat : Nat) : Int))) := by
  have b0 : w.cell? ⟨p, 0, none⟩ = some (iz (s.V : Int)) := h.blk.c 0
  have bl := lt_of_get h.blk
  have hV := h.hV
  obtain ⟨V, hVV⟩ : ∃ V, s.V = V := ⟨_, rfl⟩
  rw [hVV] at b0 h0 h1 hV ⊢
  obtain ⟨n, hn⟩ : ∃ n : Nat, (x + V).toNat = n := ⟨_, rfl⟩
  have hx : x = (n : Int) - V := by omega
  rw [hn]
  clear h hVV
  subst hx
  go_enter Try.func46, Try.ntmps46
  go_wp2_with fail
  go_ret
  exact ⟨by simp, rfl⟩
end
end Go.Proofs.Ytembgefbmecdbaa
namespace Go.Proofs.Ytembgefbmecdbaa
open Go.RowKit Go.Lib
section
variable {B p : Nat} {k : PB} {s : PS} (w : World)
set_option maxRecDepth 100000 in
theorem isTru_t (h : PIx B w p k s) (x : Int) (h0 : -(s.V : Int) ≤ x) (h1 : x ≤ s.V) : Calls Try.prog 38 #[pp p, iz x] w (RV w (.bool (s.val x == 1))) := by
  have b1 : w.cell? ⟨p, 1, none⟩ = some (sl k.vb (2 * s.V + 1)) := h.blk.c 1
  have bl := lt_of_get h.blk
  have hP := place_t w.drew (h.over (Below.refl _ _).drew) x h0 h1
  have c0 : w.cell? ⟨k.vb, (x + s.V).toNat, none⟩ = some (i8 (s.val x)) := (h.vab.c _).trans (vcs_get h0 h1)
  have cl := lt_of_get h.vab
  have hV := h.hV
  obtain ⟨n, hn⟩ : ∃ n : Nat, (x + s.V).toNat = n := ⟨_, rfl⟩
  have hn2 : n < 2 * s.V + 1 := by omega
  rw [hn] at hP c0
  obtain ⟨m, hm⟩ : ∃ m, 2 * s.V + 1 = m := ⟨_, rfl⟩
  rw [hm] at b1 hn2
  have hm2 : m ≤ 121 := by omega
  obtain ⟨v, hv⟩ : ∃ v, s.val x = v := ⟨_, rfl⟩
  rw [hv] at c0 ⊢
  replace hP := Lib.hid hP
  clear h hn hm hv h0 h1 hV
  go_enter Try.func38, Try.ntmps38
  go_wp2_with fail
  go_region_held3 (fun w' => w'.cell? ⟨p, 1, none⟩ = some (sl k.vb m) ∧ w'.cell? ⟨k.vb, n, none⟩ = some (i8 v)) (exact ⟨b1, c0⟩)
    (first
      | (go_at_call 46; (with_reducible refine hP.out.mono ?_); rintro e w9 ⟨rfl, hw9⟩; subst hw9))
  all_goals (
    go_wp2_with fail
    go_ret
    exact ⟨rfl, (Below.refl _ _).drew⟩)
set_option maxRecDepth 100000 in
theorem isFal_t (h : PIx B w p k s) (x : Int) (h0 : -(s.V : Int) ≤ x) (h1 : x ≤ s.V) : Calls Try.prog 40 #[pp p, iz x] w (RV w (.bool (s.val x == 2))) := by
  have b1 : w.cell? ⟨p, 1, none⟩ = some (sl k.vb (2 * s.V + 1)) := h.blk.c 1
  have bl := lt_of_get h.blk
  have hP := place_t w.drew (h.over (Below.refl _ _).drew) x h0 h1
  have c0 : w.cell? ⟨k.vb, (x + s.V).toNat, none⟩ = some (i8 (s.val x)) := (h.vab.c _).trans (vcs_get h0 h1)
  have cl := lt_of_get h.vab
  have hV := h.hV
  obtain ⟨n, hn⟩ : ∃ n : Nat, (x + s.V).toNat = n := ⟨_, rfl⟩
  have hn2 : n < 2 * s.V + 1 := by omega
  rw [hn] at hP c0
  obtain ⟨m, hm⟩ : ∃ m, 2 * s.V + 1 = m := ⟨_, rfl⟩
  rw [hm] at b1 hn2
  have hm2 : m ≤ 121 := by omega
  obtain ⟨v, hv⟩ : ∃ v, s.val x = v := ⟨_, rfl⟩
  rw [hv] at c0 ⊢
  replace hP := Lib.hid hP
  clear h hn hm hv h0 h1 hV
  go_enter Try.func40, Try.ntmps40
  go_wp2_with fail
  go_region_held3 (fun w' => w'.cell? ⟨p, 1, none⟩ = some (sl k.vb m) ∧ w'.cell? ⟨k.vb, n, none⟩ = some (i8 v)) (exact ⟨b1, c0⟩)
    (first
      | (go_at_call 46; (with_reducible refine hP.out.mono ?_); rintro e w9 ⟨rfl, hw9⟩; subst hw9))
  all_goals (
    go_wp2_with fail
    go_ret
    exact ⟨rfl, (Below.refl _ _).drew⟩)
end
end Go.Proofs.Ytembgefbmecdbaa
