/-
  A change: its digits; a vector stored in a row.
-/
import Derived.Test.YtbmdnmjgijblpaaDoorE20
namespace Go.Proofs.YtbmdnmjgijblpaaDoor
open Go Go.RowKit Go.Lib Go.Maps
def vbin (c : Nat) : Bool := decide (c = 48) || decide (c = 49)
set_option maxHeartbeats 1600000 in
theorem bin_t (c : Nat) (hc : c < 256) (w : World) : Calls Tryd.prog 61 #[.int .u8 (c : Int)] w (RQ w (.bool (vbin c))) := by
  have hr := Lib.hid (show vbin c = (decide (c = 48) || decide (c = 49)) from rfl)
  have h : c = 48 ∨ c = 49 ∨ (c ≠ 48 ∧ c ≠ 49) := by omega
  rcases h with rfl | rfl | ⟨h1, h2⟩
  case inr.inr =>
    have n1 : ((c : Int) == 48) = false := by simp; omega
    have n2 : ((c : Int) == 49) = false := by simp; omega
    go_enter Tryd.func61, Tryd.ntmps61
    go_wp2
    go_ret
    exact ⟨by rw [hr.out]; simp [h1, h2], rfl⟩
  all_goals
    go_enter Tryd.func61, Tryd.ntmps61
    go_wp2
    go_ret
    exact ⟨rfl, rfl⟩
/-- A vector's three cells are stored at place i. -/
def put3 (w : World) (g i : Nat) (x : Nat × Nat) : World := ((w.setCell ⟨g, i * 3, none⟩ (iz (x.1 : Int))).setCell ⟨g, i * 3 + 1, none⟩ (.int .u64 ((lo x.2 : Nat) : Int))).setCell ⟨g, i * 3 + 2, none⟩ (.int .u64 ((hi x.2 : Nat) : Int))
theorem rcells_set : ∀ (r : List (Nat × Nat)) (i : Nat) (x : Nat × Nat), i < r.length → rcells (r.set i x) = (((rcells r).set (i * 3) (iz (x.1 : Int))).set (i * 3 + 1) (.int .u64 ((lo x.2 : Nat) : Int))).set (i * 3 + 2) (.int .u64 ((hi x.2 : Nat) : Int))
  | [], i, x, h => by simp at h
  | y :: r, 0, x, h => by simp [rcells]
  | y :: r, i + 1, x, h => by
    have e := rcells_set r i x (by simpa using h)
    rw [List.set_cons_succ, show rcells (y :: r.set i x) = [iz (y.1 : Int), .int .u64 ((lo y.2 : Nat) : Int), .int .u64 ((hi y.2 : Nat) : Int)] ++ rcells (r.set i x) from by simp [rcells], e]
    rw [show rcells (y :: r) = [iz (y.1 : Int), .int .u64 ((lo y.2 : Nat) : Int), .int .u64 ((hi y.2 : Nat) : Int)] ++ rcells r from by simp [rcells], show (i + 1) * 3 = i * 3 + 2 + 1 by omega]
    simp
theorem put3_far (w : World) (g i : Nat) (x : Nat × Nat) (b : Nat) (h : b ≠ g) : (put3 w g i x).heap[b]? = w.heap[b]? := by
  unfold put3
  exact ((Below.heap_setCell _ _ _ b h).trans (Below.heap_setCell _ _ _ b h)).trans (Below.heap_setCell _ _ _ b h)
theorem RW3.put {w : World} {B g c i : Nat} {r : List (Nat × Nat)} (h : RW3 w B (.slice (some ⟨g, 0, none⟩) r.length c) r) (hi : i < r.length) (x : Nat × Nat) : RW3 (put3 w g i x) B (.slice (some ⟨g, 0, none⟩) r.length c) (r.set i x) := by
  refine ⟨?_, fun e => ?_⟩
  · rw [List.length_set, rcells_set r i x hi]
    exact ((((h.1.stored (i * 3) _).1).stored (i * 3 + 1) _).1.stored (i * 3 + 2) _).1
  · have := congrArg List.length e
    rw [List.length_set, List.length_nil] at this
    omega
theorem TX.vec {w : World} {B g c i k : Nat} {rows : List (List (Nat × Nat))} {vals : Value} {rv : List Value} {r : List (Nat × Nat)} (h : TX w B rows vals rv) (hk : rows[k]? = some r) (hv : rv[k]? = some (.slice (some ⟨g, 0, none⟩) r.length c)) (hi : i < r.length) (x : Nat × Nat) : TX (put3 w g i x) B (rows.set k (r.set i x)) vals rv := by
  have hgv : (Value.slice (some ⟨g, 0, none⟩) r.length c).ownBlock = some g := rfl
  have hr := h.is k r _ hk hv
  refine { row := ?_, rl := by rw [List.length_set]; exact h.rl, is := ?_, ap := h.ap, sm := by rw [List.length_set]; exact h.sm, nl := fun e => ?_ }
  · rw [List.length_set]
    refine own_keepT h.row fun b hb => put3_far _ _ _ _ b fun e => ?_
    subst e
    obtain ⟨c1, h1⟩ := own_blk h.row b hb
    obtain ⟨c2, h2⟩ := own_blk hr.1 b hgv
    rw [h1] at h2
    cases h2
  · intro j r' v' h1 h2
    by_cases e : k = j
    · subst e
      rw [hv] at h2
      cases h2
      rw [List.getElem?_set_self (List.getElem?_eq_some_iff.1 hk).1] at h1
      cases h1
      exact hr.put hi x
    · rw [List.getElem?_set_ne e] at h1
      exact (h.is j r' v' h1 h2).keep fun b hb => put3_far _ _ _ _ b fun e2 => h.ap k j _ _ g e hv h2 hgv (by rw [← e2]; exact hb)
  · have := congrArg List.length e
    rw [List.length_set, List.length_nil] at this
    have h3 := (List.getElem?_eq_some_iff.1 hk).1
    omega
theorem VW.put3 {B q g i : Nat} {w : World} (x : Nat × Nat) (hg : B ≤ g) (hc : ∃ cur, w.heap[g]? = some (.cells cur 34 (0, 0))) : VW B q w (put3 w g i x) := by
  refine ⟨rfl, rfl, rfl, by simp [Go.Proofs.YtbmdnmjgijblpaaDoor.put3], fun k hk _ => put3_far _ _ _ _ k (by omega), fun k cs T f hk _ _ h2 _ => ?_⟩
  rw [put3_far _ _ _ _ k fun e => ?_]
  · exact hk
  · subst e
    obtain ⟨cur, hc⟩ := hc
    rw [hc] at hk
    cases hk
    exact h2 rfl
end Go.Proofs.YtbmdnmjgijblpaaDoor
