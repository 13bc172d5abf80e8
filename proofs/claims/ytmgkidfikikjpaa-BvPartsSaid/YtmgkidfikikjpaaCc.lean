/-
  The walk of bv's Cat: a loop over the library's Backward; the vector so far lies in a variable.
-/
import Derived.Test.YtmgkidfikikjpaaCb
import Derived.Test.YtmgkidfikikjpaaWo
import Derived.Test.YtmgkidfikikjpaaRt
namespace Go.Proofs.Ytmgkidfikikjpaa
open Go Go.RowKit Go.Shelf
/-- The vector so far, one more put above it: nothing where one is empty or there is no room. -/
def catT (nn xx : Nat → Nat) (s : Option (Nat × Nat)) (j : Nat) : Option (Nat × Nat) :=
  match s with
  | none => none
  | some (m, v) => if nn j = 0 ∨ 128 < m + nn j then none else some (m + nn j, xx j * 2 ^ m ||| v)
def catS (nn xx : Nat → Nat) (l : List Nat) : Option (Nat × Nat) := l.foldl (catT nn xx) (some (0, 0))
theorem catS_snoc (nn xx : Nat → Nat) (l : List Nat) (j : Nat) : catS nn xx (l ++ [j]) = catT nn xx (catS nn xx l) j := by simp [catS]
theorem catS_none (nn xx : Nat → Nat) : ∀ (r l : List Nat), catS nn xx l = none → catS nn xx (l ++ r) = none
  | [], l, h => by simpa using h
  | j :: r, l, h => by
    rw [show l ++ j :: r = (l ++ [j]) ++ r by simp]
    exact catS_none nn xx r _ (by rw [catS_snoc, h]; rfl)
def catB (s : Option (Nat × Nat)) : Prop := ∀ m v, s = some (m, v) → m ≤ 128 ∧ v < 2 ^ m
theorem catT_B (nn xx : Nat → Nat) (hx : ∀ j, xx j < 2 ^ nn j) (s : Option (Nat × Nat)) (j : Nat) (hs : catB s) : catB (catT nn xx s j) := by
  intro m v h
  cases s with
  | none => cases h
  | some p =>
    obtain ⟨m0, v0⟩ := p
    obtain ⟨h1, h2⟩ := hs m0 v0 rfl
    unfold catT at h
    by_cases hc : nn j = 0 ∨ 128 < m0 + nn j
    · simp only [hc, if_true] at h; cases h
    · simp only [hc, if_false, Option.some.injEq, Prod.mk.injEq] at h
      obtain ⟨rfl, rfl⟩ := h
      refine ⟨by omega, Nat.or_lt_two_pow ?_ (Nat.lt_of_lt_of_le h2 (Nat.pow_le_pow_right (by decide) (by omega)))⟩
      rw [Nat.add_comm, Nat.pow_add]
      exact Nat.mul_lt_mul_of_lt_of_le (hx j) (Nat.le_refl _) (Nat.two_pow_pos _)
theorem catF_B (nn xx : Nat → Nat) (hx : ∀ j, xx j < 2 ^ nn j) : ∀ (l : List Nat) (s : Option (Nat × Nat)), catB s → catB (l.foldl (catT nn xx) s)
  | [], _, h => h
  | j :: l, s, h => catF_B nn xx hx l _ (catT_B nn xx hx s j h)
theorem catS_lt (nn xx : Nat → Nat) (hx : ∀ j, xx j < 2 ^ nn j) (l : List Nat) (m v : Nat) (h : catS nn xx l = some (m, v)) : m ≤ 128 ∧ v < 2 ^ m :=
  catF_B nn xx hx l (some (0, 0)) (fun m v e => by simp at e; obtain ⟨rfl, rfl⟩ := e; exact ⟨by omega, by decide⟩) m v h
/-- What Cat returns: the width, the number, the error. -/
def catR (nn xx : Nat → Nat) (len : Nat) : Nat × Nat × Int :=
  match catS nn xx (dn len len) with
  | none => (0, 0, 2)
  | some (m, v) => if m = 0 then (0, 0, 2) else (m, v, 0)
theorem catR_none (nn xx : Nat → Nat) (len k : Nat) (hk : k ≤ len) (h : catS nn xx (dn len k) = none) : catR nn xx len = (0, 0, 2) := by
  have e : dn len len = dn len k ++ (dn len len).drop k := by
    have : dn len k = (dn len len).take k := by
      unfold dn
      rw [← List.map_take, List.take_range, Nat.min_eq_left hk]
    rw [this, List.take_append_drop]
  unfold catR
  rw [e, catS_none nn xx _ _ h]
theorem rowIs_own {W W' : World} {row : Option Nat} {b n : Nat} {t : TypeId} {f : Nat → Value} (h : W.rowIs b t n f) (hg : W.grownBy W' row) (hr : ∀ r, row = some r → ∃ o : Obj, W.heap[r]? = some o ∧ o.isCells = false) : W'.rowIs b t n f :=
  World.rowIs.of_block h (hg.block b (World.rowIs.lt h) (fun e => by
    obtain ⟨_, ho, hc⟩ := hr b e.symm
    obtain ⟨c, hb, _⟩ := h
    rw [hb] at ho
    cases ho
    cases hc))
theorem keeps_below {W W' : World} (hb : Below W.heap.size W W') : KeepsOthers W W' := ⟨hb.size, fun k o hk _ => (hb.block k (Array.getElem?_eq_some_iff.1 hk).1).trans hk⟩
/-- A variable that holds an error. -/
def EV (w : World) (b : Nat) (e : Int) : Prop := w.rowIs b 30 1 (fun _ => .int .i64 e)
/-- Between two rounds. -/
def CI (u : World) (nn xx : Nat → Nat) (pre : List Nat) (w : World) : Prop :=
  ((∃ m v, catS nn xx pre = some (m, v) ∧ HV 28 w (u.heap.size + 1 + 1) m v) ∧ HV 28 w u.heap.size 0 0 ∧ EV w (u.heap.size + 1) 0 ∧ u.heap.size + 1 + 1 + 1 < w.heap.size) ∧ Below u.heap.size u w
/-- A round has returned. -/
def CX (u : World) (nn xx : Nat → Nat) (c : Code) (pre : List Nat) (w : World) : Prop :=
  (c = .ret ∧ catS nn xx pre = none ∧ HV 28 w u.heap.size 0 0 ∧ EV w (u.heap.size + 1) 2) ∧ Below u.heap.size u w
theorem CI_own (u : World) (nn xx : Nat → Nat) (B : Nat) (hB : u.heap.size ≤ B) : OwnFrom B (CI u nn xx) :=
  OwnFrom.and (fun pre A C row h hg hr => by
    obtain ⟨⟨m, v, hs, h1⟩, h2, h3, h4⟩ := h
    have hr' := fun r e => (hr r e).2
    exact ⟨⟨m, v, hs, rowIs_own h1 hg hr'⟩, rowIs_own h2 hg hr', rowIs_own h3 hg hr', Nat.lt_of_lt_of_le h4 hg.size⟩) (ownFrom_below (Nat.le_refl _) hB)
theorem CX_own (u : World) (nn xx : Nat → Nat) (c : Code) (B : Nat) (hB : u.heap.size ≤ B) : OwnFrom B (CX u nn xx c) :=
  OwnFrom.and (fun pre A C row h hg hr => by
    obtain ⟨hc, hs, h2, h3⟩ := h
    have hr' := fun r e => (hr r e).2
    exact ⟨hc, hs, rowIs_own h2 hg hr', rowIs_own h3 hg hr'⟩) (ownFrom_below (Nat.le_refl _) hB)
/-- The variable of a round. -/
def CAx (u : World) (nn xx : Nat → Nat) (F : Nat → Nat → Act) (x : Nat) (a : Act) (w : World) : Prop := ∃ B, u.heap.size + 1 + 1 + 1 < B ∧ HV 28 w B (nn x) (xx x) ∧ a = F x B
theorem CAx_own (u : World) (nn xx : Nat → Nat) (F : Nat → Nat → Act) (x : Nat) (a : Act) (B : Nat) : OwnFrom B (fun (_ : Unit) w => CAx u nn xx F x a w) := fun _ A C row h hg hr => by
  obtain ⟨b, h1, h2, h3⟩ := h
  exact ⟨b, h1, rowIs_own h2 hg (fun r e => (hr r e).2), h3⟩
set_option maxHeartbeats 800000 in
theorem logic_8m (n m x y : Nat) (w : World) (hn : n ≤ 128) (hx : x < 2 ^ n) (hy : y < 2 ^ n) :
    Calls Try.prog 27 #[.int .i64 8, vv n x, vv m y] w (RV w (vv n (x ||| y))) := by
  have hC := fun w => bitwise_or n m x y w hn hx hy
  replace hC := Lib.hid hC
  go_enter Try.func27, Try.ntmps27
  go_wp2_with (go_at_call 52; (with_reducible refine (hC.out _).mono ?_); rintro e w1 ⟨rfl, hb1⟩; obtain ⟨hc1, hf1⟩ := bcell hb1)
  have hbw : Below w.heap.size w w1 := below_call hb1 (by go_grown)
  refine bodyPost_ret (v := vv n (x ||| y)) (by simp [results, Try.results27, go_sem, hc1]) rfl ⟨rfl, ?_⟩
  clear hb1 hc1 hf1
  go_grown

end Go.Proofs.Ytmgkidfikikjpaa
