/-
  How the solver of two variables lies in memory: blocks of cells; small functions of sat.
-/
import Derived.Test.YtpkmpbnedoldlaaGreatKc
import Derived.WalkSpells
import Derived.WalkLawsBesides
import Derived.StillTailTactics
import Derived.Deep.QuietTactic
import Derived.Deep.AppendLies
import Derived.Deep.RegionLaw
import Derived.Deep.Cut
import Derived.Deep.RegionHeld3
import Derived.Deep.OwnRows
import Derived.IntWalk
import Derived.Laws.BitsAllLaws
namespace Go.Proofs.YtpkmpbnedoldlaaGreat
open Go.RowKit Go.Lib
/-- What a call that returns v and leaves the world as it is leaves. -/
def RW (w : World) (v : Value) (e : Ending) (w' : World) : Prop := e = .returned v ∧ w = w'
/-- A block of cells. -/
abbrev CB (w : World) (b : Nat) (cs : Array Value) (T : TypeId) : Prop := w.heap[b]? = some (.cells cs T (0, 0))
theorem CB.c {w : World} {b : Nat} {cs : Array Value} {T : TypeId} (h : CB w b cs T) (i : Nat) : w.cell? ⟨b, i, none⟩ = cs[i]? := by rw [Lib.cell_of_heap h]
theorem CB.fz {w : World} {b : Nat} {cs : Array Value} {T : TypeId} (h : CB w b cs T) (i : Nat) : w.frozen? ⟨b, i, none⟩ = false := Lib.frozen_of_heap h i
theorem CB.far {w : World} {b : Nat} {cs : Array Value} {T : TypeId} (h : CB w b cs T) (p : Addr) (u : Value) (hp : b ≠ p.block) : CB (w.setCell p u) b cs T := (Below.heap_setCell w p u b hp).trans h
theorem CB.over {w w' : World} {b : Nat} {cs : Array Value} {T : TypeId} (h : CB w b cs T) (k : Below w.heap.size w w') : CB w' b cs T := (k.block b (lt_of_get h)).trans h
theorem CB.ne {w : World} {b c : Nat} {cs ds : Array Value} {T U : TypeId} (h : CB w b cs T) (k : CB w c ds U) (hT : T ≠ U) : b ≠ c := fun e => by
  subst e
  unfold CB at h k
  rw [h] at k
  cases k
  exact hT rfl
theorem CB.own_ne {w : World} {b B n sz : Nat} {cs : Array Value} {T e : TypeId} {v : Value} {xs : List Value} (h : CB w b cs T) (k : w.ownsRow B e sz v n xs) (hT : T ≠ e) : ∀ g, v.ownBlock = some g → g ≠ b := fun g hg hb => by
  subst hb
  rcases k.2 with ⟨rfl, _⟩ | ⟨g', cap, cur, rfl, _, hgg, _⟩
  · cases hg
  · cases hg
    unfold CB at h
    rw [h] at hgg
    cases hgg
    exact hT rfl
/-- A literal as a cell. -/
abbrev lv (k : Int) : Value := .int .i32 k
set_option maxRecDepth 100000 in
theorem not_t (k : Nat) (hk : k < 4) (w : World) : Calls Tryz.prog 58 #[lv k] w (RW w (lv (if k % 2 = 0 then (k : Int) + 1 else (k : Int) - 1))) := by
  match k, hk with
  | 0, _ =>
    go_enter Tryz.func58, Tryz.ntmps58
    go_wp2_with fail
    go_ret
    exact ⟨rfl, rfl⟩
  | 1, _ =>
    go_enter Tryz.func58, Tryz.ntmps58
    go_wp2_with fail
    go_ret
    exact ⟨rfl, rfl⟩
  | 2, _ =>
    go_enter Tryz.func58, Tryz.ntmps58
    go_wp2_with fail
    go_ret
    exact ⟨rfl, rfl⟩
  | 3, _ =>
    go_enter Tryz.func58, Tryz.ntmps58
    go_wp2_with fail
    go_ret
    exact ⟨rfl, rfl⟩
set_option maxRecDepth 100000 in
theorem vrb_t (k : Nat) (hk : k < 4) (w : World) : Calls Tryz.prog 67 #[lv k] w (RW w (.int .i64 ((k / 2 : Nat) : Int))) := by
  match k, hk with
  | 0, _ =>
    go_enter Tryz.func67, Tryz.ntmps67
    go_wp2_with fail
    go_ret
    exact ⟨rfl, rfl⟩
  | 1, _ =>
    go_enter Tryz.func67, Tryz.ntmps67
    go_wp2_with fail
    go_ret
    exact ⟨rfl, rfl⟩
  | 2, _ =>
    go_enter Tryz.func67, Tryz.ntmps67
    go_wp2_with fail
    go_ret
    exact ⟨rfl, rfl⟩
  | 3, _ =>
    go_enter Tryz.func67, Tryz.ntmps67
    go_wp2_with fail
    go_ret
    exact ⟨rfl, rfl⟩
set_option maxRecDepth 100000 in
theorem litOf_t (k : Nat) (hk : k < 1000) (b : Bool) (w : World) : Calls Tryz.prog 44 #[.int .i64 (k : Int), .bool b] w (RW w (lv (2 * (k : Int) + (if b then 0 else 1)))) := by
  cases b with
  | false =>
    go_enter Tryz.func44, Tryz.ntmps44
    go_wp2_with fail
    go_ret
    exact ⟨rfl, rfl⟩
  | true =>
    go_enter Tryz.func44, Tryz.ntmps44
    go_wp2_with fail
    go_ret
    exact ⟨by simp, rfl⟩
end Go.Proofs.YtpkmpbnedoldlaaGreat
