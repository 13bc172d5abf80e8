/-
  A region that draws its order, walked by the plain laws, stands inside a round of a loop over a function: no operation of it defers, and the caller lets nothing outgrow.
  The library's Backward over a slice of vectors: what it hands back, and its rounds: the vectors from the last to the first.
  The walk of bv's Cat: a loop over the library's Backward; the vector so far lies in a variable.
-/
import Derived.Test.YtalmhopbnaeamaaGreatDoorRt
import Derived.RangeFuncNested
import Derived.RangeFuncBound
import Derived.RangeFuncCalls
import Derived.RangeFuncLeaves
import Derived.Shelf.Abstract
import Derived.Shelf.RegionOpen
import Derived.WalkKit
import Derived.OwnWalkIn
import Derived.TacticsInMore
import Derived.LoopNIn
import Derived.LoopIn
import Derived.Sort.CutIn
import Derived.Test.YtalmhopbnaeamaaGreatDoorYb
import Derived.Test.YtalmhopbnaeamaaGreatDoorWo
namespace Go.Proofs.YtalmhopbnaeamaaGreatDoor
open Go
section
variable {P : Program} {ops : Array Oper} {Q : Exit → Act → World → Prop} {md : Region.Mode} {n l : Nat}
theorem upon_in {o : Oper} {a : Act} {next next' : Act → World → Prop} (hm : ∀ a w, next a w → next' a w) {r : Result Next} (h : o.upon P a next Q r) : o.uponIn (Fence.wide.inRound l) n P a next' Q r := by
  have hd : ∀ p : Prop, ((Fence.wide.inRound l).depth.isSome = true → p) := fun p h => by cases h
  cases r with
  | ok x w =>
    cases x with
    | value v => exact hm _ _ h
    | skip => exact hm _ _ h
    | defer d => exact hm _ _ h
    | enter f args =>
      refine ⟨hd _, CallsIn.inRound l (callsIn_wide.2 (Calls.mono h ?_))⟩
      intro e w' h'
      cases e with
      | returned v => exact hm _ _ h'
      | panicked c => exact h'
      | outgrown => exact h'
    | row row args =>
      refine ⟨hd _, fun c cs _ => ?_⟩
      obtain ⟨v, w', r, s⟩ := h c cs
      exact ⟨v, w', hm _ _ r, stepsIn_wide.2 s⟩
    | _ => exact False.elim h
  | halt h0 w =>
    cases h0 <;> first | exact h | exact False.elim h
theorem wpOp_in {i : Nat} {a : Act} {w : World} {K K' : Act → World → Prop} (hm : ∀ a w, K a w → K' a w) (hlo : ¬ LetsOut Q) (hdf : ∀ (i : Nat) (o : Oper) (c : Call), ops[i]? = some o → o.op ≠ .defer c)
    (h : wpOp P ops Q i K a w) : wpOpIn (Fence.wide.inRound l) n P ops Q i K' a w := by
  unfold wpOp at h
  unfold wpOpIn
  cases ho : ops[i]? with
  | none => rw [ho] at h; exact hm _ _ h
  | some o =>
    rw [ho] at h
    by_cases hw : Region.wanted o (yielded ops a.tmps) = true
    · simp only [hw, if_true] at h ⊢
      rcases h with h | h
      · refine ⟨fun _ _ => trivial, ?_⟩
        rw [Oper.semAt_eq _ _ _ (fun c => hdf i o c ho)]
        exact upon_in hm h
      · exact absurd h.2 hlo
    · simp only [hw, if_false] at h ⊢
      exact ⟨fun _ _ => trivial, hm _ _ h⟩
theorem wpAny_in (hlo : ¬ LetsOut Q) (hdf : ∀ (i : Nat) (o : Oper) (c : Call), ops[i]? = some o → o.op ≠ .defer c) : ∀ (f : Nat) (t : Array Bool) (a : Act) (w : World), wpAny P md ops Q f t a w → wpAnyIn (Fence.wide.inRound l) n P md ops Q f t a w
  | 0, _, _, _, h => h
  | f + 1, _, _, _, h => ⟨h.1, fun i hi => wpOp_in (fun a w h' => wpAny_in hlo hdf f _ a w h') hlo hdf (h.2 i hi)⟩
/-- No operation of a region defers, by looking. -/
def noDefer (ops : Array Oper) : Bool := ops.all fun o => match o.op with | .defer _ => false | _ => true
theorem noDefer_spec (h : noDefer ops = true) : ∀ (i : Nat) (o : Oper) (c : Call), ops[i]? = some o → o.op ≠ .defer c := by
  intro i o c ho e
  unfold noDefer at h
  have := Array.all_eq_true'.1 h o (Array.mem_of_getElem? ho)
  rw [e] at this
  cases this
theorem regionIn_anyT {S : World → Prop} {k : Nat} {id : Nat} {a : Act} {w : World} (hm : P.follows .mixedOrders = true) (hlo : ¬ LetsOut Q) (hdf : noDefer ops = true)
    (h : AnyT P .any ops Q S k ops.size (Array.replicate ops.size false) a w.drew) : (Code.region id ops true).wpIn (Fence.wide.inRound l) n P Q a w :=
  wpIn_region_any hm (wpAny_in hlo (noDefer_spec hdf) _ _ _ _ (anyT_any _ _ _ _ h))
end
end Go.Proofs.YtalmhopbnaeamaaGreatDoor
namespace Go.Proofs.YtalmhopbnaeamaaGreatDoor
open Go Go.RowKit Go.Shelf
attribute [local go_sem] Oper.semAt_some
/-- The first k of the numbers from n - 1 down to 0. -/
def dn (n k : Nat) : List Nat := (List.range k).map fun i => n - 1 - i
theorem dn_succ (n k : Nat) : dn n (k + 1) = dn n k ++ [n - 1 - k] := by simp [dn, List.range_succ]
theorem dn_len (n k : Nat) : (dn n k).length = k := by simp [dn]
/-- A block lies as it lay, and whatever lay below n₀. -/
def KB (n₀ B : Nat) (w w' : World) : Prop := Below n₀ w w' ∧ w'.heap[B]? = w.heap[B]?
theorem KB.t {n₀ B : Nat} {u v w : World} (h : KB n₀ B u v) (k : KB n₀ B v w) : KB n₀ B u w := ⟨h.1.trans k.1, k.2.trans h.2⟩
theorem cell_block {w w' : World} {b o : Nat} (h : w'.heap[b]? = w.heap[b]?) : w'.cell? ⟨b, o, none⟩ = w.cell? ⟨b, o, none⟩ := by unfold World.cell?; simp only [h]
/-- A slice of vectors: the j-th has nn j bits and is the number xx j. -/
def RV3 (w : World) (A : Option Addr) (len : Nat) (nn xx : Nat → Nat) : Prop := 0 < len → ∃ b off : Nat, A = some ⟨b, off, none⟩ ∧ b < w.heap.size ∧ ∀ j, j < len →
  w.cell? ⟨b, off + j * 3, none⟩ = some (.int .i64 (nn j : Int)) ∧ w.cell? ⟨b, off + j * 3 + 1, none⟩ = some (.int .u64 ((lo (xx j) : Nat) : Int)) ∧ w.cell? ⟨b, off + j * 3 + 2, none⟩ = some (.int .u64 ((hi (xx j) : Nat) : Int))
theorem RV3.keep {w w' : World} {A : Option Addr} {len : Nat} {nn xx : Nat → Nat} (h : RV3 w A len nn xx) {n₀ : Nat} (hb : Below n₀ w w') (hn : w.heap.size ≤ n₀) : RV3 w' A len nn xx := fun h0 => by
  obtain ⟨b, off, e, hl, hc⟩ := h h0
  refine ⟨b, off, e, Nat.lt_of_lt_of_le hl hb.size, fun j hj => ?_⟩
  obtain ⟨h1, h2, h3⟩ := hc j hj
  exact ⟨(hb.cell (p := ⟨b, off + j * 3, none⟩) (by show b < n₀; omega)).trans h1, (hb.cell (p := ⟨b, off + j * 3 + 1, none⟩) (by show b < n₀; omega)).trans h2, (hb.cell (p := ⟨b, off + j * 3 + 2, none⟩) (by show b < n₀; omega)).trans h3⟩
end Go.Proofs.YtalmhopbnaeamaaGreatDoor
namespace Go.Proofs.YtalmhopbnaeamaaGreatDoor
open Go Go.RowKit Go.Shelf
/-- The vector so far, one more put above it: nothing where one is empty or there is no room. -/
def catT (nn xx : Nat → Nat) (s : Option (Nat × Nat)) (j : Nat) : Option (Nat × Nat) :=
  match s with
  | none => none
  | some (m, v) => if nn j = 0 ∨ 128 < m + nn j then none else some (m + nn j, xx j * 2 ^ m ||| v)
def catS (nn xx : Nat → Nat) (l : List Nat) : Option (Nat × Nat) := l.foldl (catT nn xx) (some (0, 0))
theorem catS_snoc (nn xx : Nat → Nat) (l : List Nat) (j : Nat) : catS nn xx (l ++ [j]) = catT nn xx (catS nn xx l) j := by simp [catS]
theorem catS_none (nn xx : Nat → Nat) : ∀ (r l : List Nat), catS nn xx l = none → catS nn xx (l ++ r) = none
  | [], l, h => by simpa using h
  | j :: r, l, h => by
    rw [show l ++ j :: r = (l ++ [j]) ++ r by simp]
    exact catS_none nn xx r _ (by rw [catS_snoc, h]; rfl)
def catB (s : Option (Nat × Nat)) : Prop := ∀ m v, s = some (m, v) → m ≤ 128 ∧ v < 2 ^ m
theorem catT_B (nn xx : Nat → Nat) (hx : ∀ j, xx j < 2 ^ nn j) (s : Option (Nat × Nat)) (j : Nat) (hs : catB s) : catB (catT nn xx s j) := by
  intro m v h
  cases s with
  | none => cases h
  | some p =>
    obtain ⟨m0, v0⟩ := p
    obtain ⟨h1, h2⟩ := hs m0 v0 rfl
    unfold catT at h
    by_cases hc : nn j = 0 ∨ 128 < m0 + nn j
    · simp only [hc, if_true] at h; cases h
    · simp only [hc, if_false, Option.some.injEq, Prod.mk.injEq] at h
      obtain ⟨rfl, rfl⟩ := h
      refine ⟨by omega, Nat.or_lt_two_pow ?_ (Nat.lt_of_lt_of_le h2 (Nat.pow_le_pow_right (by decide) (by omega)))⟩
      rw [Nat.add_comm, Nat.pow_add]
      exact Nat.mul_lt_mul_of_lt_of_le (hx j) (Nat.le_refl _) (Nat.two_pow_pos _)
theorem catF_B (nn xx : Nat → Nat) (hx : ∀ j, xx j < 2 ^ nn j) : ∀ (l : List Nat) (s : Option (Nat × Nat)), catB s → catB (l.foldl (catT nn xx) s)
  | [], _, h => h
  | j :: l, s, h => catF_B nn xx hx l _ (catT_B nn xx hx s j h)
theorem catS_lt (nn xx : Nat → Nat) (hx : ∀ j, xx j < 2 ^ nn j) (l : List Nat) (m v : Nat) (h : catS nn xx l = some (m, v)) : m ≤ 128 ∧ v < 2 ^ m :=
  catF_B nn xx hx l (some (0, 0)) (fun m v e => by simp at e; obtain ⟨rfl, rfl⟩ := e; exact ⟨by omega, by decide⟩) m v h
/-- What Cat returns: the width, the number, the error. -/
def catR (nn xx : Nat → Nat) (len : Nat) : Nat × Nat × Int :=
  match catS nn xx (dn len len) with
  | none => (0, 0, 2)
  | some (m, v) => if m = 0 then (0, 0, 2) else (m, v, 0)
theorem catR_none (nn xx : Nat → Nat) (len k : Nat) (hk : k ≤ len) (h : catS nn xx (dn len k) = none) : catR nn xx len = (0, 0, 2) := by
  have e : dn len len = dn len k ++ (dn len len).drop k := by
    have : dn len k = (dn len len).take k := by
      unfold dn
      rw [← List.map_take, List.take_range, Nat.min_eq_left hk]
    rw [this, List.take_append_drop]
  unfold catR
  rw [e, catS_none nn xx _ _ h]
theorem rowIs_own {W W' : World} {row : Option Nat} {b n : Nat} {t : TypeId} {f : Nat → Value} (h : W.rowIs b t n f) (hg : W.grownBy W' row) (hr : ∀ r, row = some r → ∃ o : Obj, W.heap[r]? = some o ∧ o.isCells = false) : W'.rowIs b t n f :=
  World.rowIs.of_block h (hg.block b (World.rowIs.lt h) (fun e => by
    obtain ⟨_, ho, hc⟩ := hr b e.symm
    obtain ⟨c, hb, _⟩ := h
    rw [hb] at ho
    cases ho
    cases hc))
theorem keeps_below {W W' : World} (hb : Below W.heap.size W W') : KeepsOthers W W' := ⟨hb.size, fun k o hk _ => (hb.block k (Array.getElem?_eq_some_iff.1 hk).1).trans hk⟩
/-- A variable that holds an error. -/
def EV (w : World) (b : Nat) (e : Int) : Prop := w.rowIs b 29 1 (fun _ => .int .i64 e)
/-- Between two rounds. -/
def CI (u : World) (nn xx : Nat → Nat) (pre : List Nat) (w : World) : Prop :=
  ((∃ m v, catS nn xx pre = some (m, v) ∧ HV 26 w (u.heap.size + 1 + 1) m v) ∧ HV 26 w u.heap.size 0 0 ∧ EV w (u.heap.size + 1) 0 ∧ u.heap.size + 1 + 1 + 1 < w.heap.size) ∧ Below u.heap.size u w
/-- A round has returned. -/
def CX (u : World) (nn xx : Nat → Nat) (c : Code) (pre : List Nat) (w : World) : Prop :=
  (c = .ret ∧ catS nn xx pre = none ∧ HV 26 w u.heap.size 0 0 ∧ EV w (u.heap.size + 1) 2) ∧ Below u.heap.size u w
theorem CI_own (u : World) (nn xx : Nat → Nat) (B : Nat) (hB : u.heap.size ≤ B) : OwnFrom B (CI u nn xx) :=
  OwnFrom.and (fun pre A C row h hg hr => by
    obtain ⟨⟨m, v, hs, h1⟩, h2, h3, h4⟩ := h
    have hr' := fun r e => (hr r e).2
    exact ⟨⟨m, v, hs, rowIs_own h1 hg hr'⟩, rowIs_own h2 hg hr', rowIs_own h3 hg hr', Nat.lt_of_lt_of_le h4 hg.size⟩) (ownFrom_below (Nat.le_refl _) hB)
theorem CX_own (u : World) (nn xx : Nat → Nat) (c : Code) (B : Nat) (hB : u.heap.size ≤ B) : OwnFrom B (CX u nn xx c) :=
  OwnFrom.and (fun pre A C row h hg hr => by
    obtain ⟨hc, hs, h2, h3⟩ := h
    have hr' := fun r e => (hr r e).2
    exact ⟨hc, hs, rowIs_own h2 hg hr', rowIs_own h3 hg hr'⟩) (ownFrom_below (Nat.le_refl _) hB)
/-- The variable of a round. -/
def CAx (u : World) (nn xx : Nat → Nat) (F : Nat → Nat → Act) (x : Nat) (a : Act) (w : World) : Prop := ∃ B, u.heap.size + 1 + 1 + 1 < B ∧ HV 26 w B (nn x) (xx x) ∧ a = F x B
theorem CAx_own (u : World) (nn xx : Nat → Nat) (F : Nat → Nat → Act) (x : Nat) (a : Act) (B : Nat) : OwnFrom B (fun (_ : Unit) w => CAx u nn xx F x a w) := fun _ A C row h hg hr => by
  obtain ⟨b, h1, h2, h3⟩ := h
  exact ⟨b, h1, rowIs_own h2 hg (fun r e => (hr r e).2), h3⟩
set_option maxHeartbeats 800000 in
theorem logic_8m (n m x y : Nat) (w : World) (hn : n ≤ 128) (hx : x < 2 ^ n) (hy : y < 2 ^ n) :
    Calls Tryz.prog 50 #[.int .i64 8, vv n x, vv m y] w (RV w (vv n (x ||| y))) := by
  have hC := fun w => bitwise_or n m x y w hn hx hy
  replace hC := Lib.hid hC
  go_enter Tryz.func50, Tryz.ntmps50
  go_wp2_with (go_at_call 69; (with_reducible refine (hC.out _).mono ?_); rintro e w1 ⟨rfl, hb1⟩; obtain ⟨hc1, hf1⟩ := bcell hb1)
  have hbw : Below w.heap.size w w1 := below_call hb1 (by go_grown)
  refine bodyPost_ret (v := vv n (x ||| y)) (by simp [results, Tryz.results50, go_sem, hc1]) rfl ⟨rfl, ?_⟩
  clear hb1 hc1 hf1
  go_grown

end Go.Proofs.YtalmhopbnaeamaaGreatDoor
