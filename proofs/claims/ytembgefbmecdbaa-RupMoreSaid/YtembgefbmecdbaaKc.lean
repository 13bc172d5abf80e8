/-
  The small functions of cnf: New, Vars, Len, Var, variable, byVariable, hasOpposites, the closure of Add.
-/
import Derived.Test.YtembgefbmecdbaaKb
import Derived.BigQuiet
import Derived.Handy
namespace Go.Proofs.Ytembgefbmecdbaa
open Go.RowKit Go.Lib
/-- A formula's pointer. -/
abbrev pv (p : Nat) : Value := .pointer (some ⟨p, 0, none⟩)
theorem grownBy_set (w : World) (a : Addr) (u : Value) : w.grownBy (w.setCell a u) (some a.block) :=
  ⟨rfl, rfl, rfl, by simp, fun k _ hk => Below.heap_setCell w a u k (fun e => hk (by rw [e]))⟩
theorem own_set {w : World} {base : Nat} {e : TypeId} {size n : Nat} {v : Value} {xs : List Value} (h : w.ownsRow base e size v n xs) {p : Addr} (hp : v.ownBlock ≠ some p.block) (u : Value) : (w.setCell p u).ownsRow base e size v n xs :=
  h.kept (grownBy_set w p u) (.inr hp)
theorem own_mono {w : World} {base base' : Nat} {e : TypeId} {size : Nat} {v : Value} {n : Nat} {xs : List Value} (h : w.ownsRow base e size v n xs) (hb : base' ≤ base) : w.ownsRow base' e size v n xs := by
  obtain ⟨h1, h2⟩ := h
  refine ⟨h1, ?_⟩
  rcases h2 with h2 | ⟨g, cap, cur, a, b, c⟩
  · exact .inl h2
  · exact .inr ⟨g, cap, cur, a, Nat.le_trans hb b, c⟩
theorem heap_set (w : World) (b i : Nat) (cs : Array Value) (t : TypeId) (u : Value) (h : w.heap[b]? = some (.cells cs t (0, 0))) : (w.setCell ⟨b, i, none⟩ u).heap[b]? = some (.cells (cs.setIfInBounds i u) t (0, 0)) := by
  simp [World.setCell, Array.getElem?_modify, h]
theorem Keep.refl (F : Nat → Prop) (w : World) : Keep F w w := ⟨rfl, rfl, rfl, Nat.le_refl _, fun _ _ _ => rfl⟩
theorem Keep.set {F : Nat → Prop} {w w' : World} (h : Keep F w w') (p : Addr) (hp : F p.block) (u : Value) : Keep F w (w'.setCell p u) :=
  ⟨h.os, h.tape, h.output, by rw [World.size_setCell]; exact h.size, fun k hk hn => (Below.heap_setCell w' p u k (fun e => hn (by rw [e]; exact hp))).trans (h.block k hk hn)⟩
theorem CF.mono {base base' : Nat} {w : World} {p V : Nat} {cs : List (List Int)} {vl ve : Value} (h : CF base w p V cs vl ve) (hb : base' ≤ base) : CF base' w p V cs vl ve :=
  { blk := h.blk, pb := Nat.le_trans hb h.pb, lits := own_mono h.lits hb, ends := own_mono h.ends hb, apart := h.apart, hV := h.hV, hn := h.hn, hc := h.hc, hd := h.hd }
theorem CF.nil (w : World) (V : Nat) (hV : V ≤ 60000) : CF w.heap.size (w.alloc (.cells #[.int .i64 (V : Int), .slice none 0 0, .slice none 0 0] 45)) w.heap.size V [] (.slice none 0 0) (.slice none 0 0) :=
  { blk := heap_alloc_new w _, pb := Nat.le_refl _, lits := World.ownsRow_nil _ _ _ _, ends := World.ownsRow_nil _ _ _ _, apart := (by intro b h; cases h), hV := hV, hn := (by simp), hc := (by intro c hc; cases hc), hd := (by intro c hc; cases hc) }
/-- A new formula of V variables. -/
def NF (w : World) (V : Nat) (e : Ending) (w' : World) : Prop := e = .returned (pv w.heap.size) ∧ CF w.heap.size w' w.heap.size V [] (.slice none 0 0) (.slice none 0 0) ∧ Below w.heap.size w w'
theorem New_t (v : Int) (V : Nat) (hv : min (max v 0) 60000 = (V : Int)) (w : World) : Calls Try.prog 9 #[.int .i64 v] w (NF w V) := by
  have hV : V ≤ 60000 := by omega
  go_enter Try.func9, Try.ntmps9
  go_wp2
  go_ret
  exact ⟨rfl, CF.nil w V hV, by go_grown⟩
section
variable {base : Nat} {w : World} {p V : Nat} {cs : List (List Int)} {vl ve : Value}
theorem Vars_t (h : CF base w p V cs vl ve) : Calls Try.prog 16 #[pv p] w fun e w' => e = .returned (.int .i64 (V : Int)) ∧ w = w' := by
  have c0 := h.c0
  go_enter Try.func16, Try.ntmps16
  go_wp2
  go_ret
  exact ⟨rfl, rfl⟩
theorem own_len {e : TypeId} {v : Value} {n : Nat} {xs : List Value} (h : w.ownsRow base e 1 v n xs) : ∃ A cap, v = .slice A n cap := by
  rcases h.2 with ⟨e, hn⟩ | ⟨g, cap, cur, rfl, _⟩
  · exact ⟨none, 0, by rw [e, hn]⟩
  · exact ⟨_, cap, rfl⟩
theorem Len_t (h : CF base w p V cs vl ve) : Calls Try.prog 26 #[pv p] w fun e w' => e = .returned (.int .i64 (cs.length : Int)) ∧ w = w' := by
  obtain ⟨A, cap, hv⟩ := own_len h.ends
  have c2 := h.c2
  rw [hv] at c2
  clear h hv
  go_enter Try.func26, Try.ntmps26
  go_wp2
  go_ret
  exact ⟨rfl, rfl⟩
/-- What a call leaves: a value, a formula of V' variables with the clauses cs', and nothing else changed. -/
def CW (base : Nat) (p V' : Nat) (cs' : List (List Int)) (vl ve : Value) (w : World) (r : Value) (e : Ending) (w' : World) : Prop :=
  e = .returned r ∧ ∃ vl' ve', CF base w' p V' cs' vl' ve' ∧ Keep (FP p vl ve) w w' ∧ ∀ b, FP p vl' ve' b → FP p vl ve b ∨ w.heap.size ≤ b
end
end Go.Proofs.Ytembgefbmecdbaa
