/-
  The law's second loop: clauses added to the copy, assumptions to the list.
-/
import Derived.Test.YtembgefbmecdbaaR43
import Derived.Test.YtembgefbmecdbaaNd
import Derived.Deep.AppendLies
namespace Go.Proofs.Ytembgefbmecdbaa
open Go.RowKit Go.Lib
theorem addF_sub (V : Nat) (cs : List (List Int)) (l : List Int) : ∀ c, c ∈ cs → c ∈ (addF V cs l).2 := by
  intro c hc
  unfold addF
  split
  · exact hc
  · split
    · exact hc
    · split
      · exact hc
      · exact List.mem_append_left _ hc
/-- What holds ahead of round i. -/
def L2 (w5 : World) (B6 q V : Nat) (cs : List (List Int)) (o : List Int) (i : Nat) (v : Value) (m2 : Nat) (wr : World) : Prop :=
  ∃ (ds : List (List Int)) (vd vde : Value) (ex : List Int), CF w5.heap.size wr q V ds vd vde ∧ Good V ds ∧ ds.length ≤ cs.length + i ∧ (∀ c, c ∈ cs → c ∈ ds) ∧ ex.length = m2 ∧ wr.ownsRow B6 3 1 v m2 (iv ex) ∧ (∀ g, v.ownBlock = some g → ¬ FP q vd vde g) ∧ (∀ y, y ∈ o → y ∈ ex) ∧ (∀ y, y ∈ ex → y ≠ 0 ∧ y ≤ V ∧ -y ≤ V) ∧ w5.heap.size ≤ B6 ∧ Below w5.heap.size w5 wr ∧ B6 ≤ wr.heap.size
section
variable {w5 wr : World} {B6 q V : Nat} {cs : List (List Int)} {o : List Int} {i : Nat} {v : Value} {m2 : Nat}
theorem L2.add (h : L2 w5 B6 q V cs o i v m2 wr) (hi : i < 10) (hcs : cs.length ≤ 200) (_hV : V ≤ 60) (y : Int) :
    ((fgn V y = true ∧ Calls Try.prog 8 #[pv q, .slice (some ⟨wr.heap.size, 0, none⟩) 1 1] (wr.alloc (.cells #[.int .i64 y] 3)) fun e w' => e = .returned (.int .i64 3) ∧ L2 w5 B6 q V cs o (i + 1) v m2 w') ∨
      (fgn V y = false ∧ y ≠ 0 ∧ Calls Try.prog 8 #[pv q, .slice (some ⟨wr.heap.size, 0, none⟩) 1 1] (wr.alloc (.cells #[.int .i64 y] 3)) fun e w' => e = .returned (.int .i64 0) ∧ L2 w5 B6 q V cs o (i + 1) v m2 w')) := by
  obtain ⟨ds, vd, vde, ex, h1, h2, h3, h4, h5, h6, h7, h8, h9, h10, h11, h12⟩ := h
  have hba : Below wr.heap.size wr (wr.alloc (.cells #[.int .i64 y] 3)) := (Below.refl _ _).alloc (Nat.le_refl _) _
  have h1a := h1.over hba
  have hA := Add_t h1a (some ⟨wr.heap.size, 0, none⟩) 1 [y] (RL_new wr [y] _ rfl) (by simp)
  have hfin : ∀ w', ∀ vd' vde', CF w5.heap.size w' q V (addF V ds [y]).2 vd' vde' → Keep (FP q vd vde) (wr.alloc (.cells #[.int .i64 y] 3)) w' → (∀ b, FP q vd' vde' b → FP q vd vde b ∨ (wr.alloc (.cells #[.int .i64 y] 3)).heap.size ≤ b) → L2 w5 B6 q V cs o (i + 1) v m2 w' := by
    intro w' vd' vde' k1 k2 k3
    have hl := h6.lt
    refine ⟨_, vd', vde', ex, k1, addF_good V ds [y] h2, Nat.le_trans (addF_len V ds [y] ds.length (Nat.le_refl _)) (by omega), fun c hc => addF_sub V ds [y] c (h4 c hc), h5, ?_, fun g hg hf => ?_, h8, h9, h10, (h11.trans (hba.mono h11.size)).trans (h1a.below k2), by have := hba.size; have := k2.size; omega⟩
    · refine own_keep (own_keep h6 fun b hb => hba.block b (hl b hb).2) fun b hb => k2.block b ?_ (h7 b hb)
      have := (hl b hb).2
      simp
      omega
    · rcases k3 g hf with f | f
      · exact h7 g hg f
      · have := (hl g hg).2
        simp at f
        omega
  have hany : [y].any (fgn V) = fgn V y := by simp
  cases hf : fgn V y
  · have hy : y ≠ 0 := by
      have := fgn_in (V := V) (l := [y]) (by rw [hany]; exact hf) y (by simp)
      exact this.1
    have hop : opB [y] = false := by
      unfold opB
      simp
      omega
    have e : (addF V ds [y]).1 = 0 := by
      unfold addF
      rw [if_neg (by rw [hany, hf]; decide), if_neg (by simp; omega), if_neg (by rw [hop]; decide)]
    rw [e] at hA
    refine .inr ⟨rfl, hy, hA.mono ?_⟩
    rintro e' w' ⟨rfl, vd', vde', k1, k2, k3⟩
    exact ⟨rfl, hfin w' vd' vde' k1 k2 k3⟩
  · have e : (addF V ds [y]).1 = 3 := by
      unfold addF
      rw [if_pos (by rw [hany, hf])]
    rw [e] at hA
    refine .inl ⟨rfl, hA.mono ?_⟩
    rintro e' w' ⟨rfl, vd', vde', k1, k2, k3⟩
    exact ⟨rfl, hfin w' vd' vde' k1 k2 k3⟩
theorem L2.app {w' : World} {y : Int} {g cap : Nat} {ds : List (List Int)} {vd vde : Value} {ex : List Int} {O : Obj} (h1 : CF w5.heap.size wr q V ds vd vde) (h2 : Good V ds) (h3 : ds.length ≤ cs.length + i) (h4 : ∀ c, c ∈ cs → c ∈ ds) (h5 : ex.length = m2) (h6 : wr.ownsRow B6 3 1 v m2 (iv ex)) (h7 : ∀ g, v.ownBlock = some g → ¬ FP q vd vde g) (h8 : ∀ y, y ∈ o → y ∈ ex) (h9 : ∀ y, y ∈ ex → y ≠ 0 ∧ y ≤ V ∧ -y ≤ V) (h10 : w5.heap.size ≤ B6) (h11 : Below w5.heap.size w5 wr) (h12 : B6 ≤ wr.heap.size)
    (hy : y ≠ 0 ∧ y ≤ V ∧ -y ≤ V) (ho : w'.ownsRow B6 3 1 (.slice (some ⟨g, 0, none⟩) (m2 + 1) cap) (m2 + 1) (iv ex ++ [.int .i64 y])) (hg : (wr.alloc O).grownBy w' v.ownBlock) (hgb : v.ownBlock = some g ∨ g = wr.heap.size + 1) : L2 w5 B6 q V cs o i (.slice (some ⟨g, 0, none⟩) (m2 + 1) cap) (m2 + 1) w' := by
  have hba : Below wr.heap.size wr (wr.alloc O) := (Below.refl _ _).alloc (Nat.le_refl _) _
  have hk : Keep (fun b => v.ownBlock = some b) (wr.alloc O) w' := ⟨hg.os, hg.tape, hg.output, hg.size, fun b hb hn => hg.block b hb fun e => hn e.symm⟩
  have hl := h6.lt
  refine ⟨ds, vd, vde, ex ++ [y], (h1.over hba).keep hk fun b hb e => h7 b e hb, h2, h3, h4, by rw [List.length_append, h5]; rfl, by rw [show iv (ex ++ [y]) = iv ex ++ [.int .i64 y] by simp [iv]]; exact ho, fun g' hg' hf => ?_, fun z hz => List.mem_append_left _ (h8 z hz), fun z hz => ?_, h10, ?_, by have := hba.size; have := hg.size; omega⟩
  · cases hg'
    rcases hgb with e | e
    · exact h7 g e hf
    · have := (h1.fp g hf).2
      omega
  · rcases List.mem_append.1 hz with f | f
    · exact h9 z f
    · rw [List.mem_singleton.1 f]; exact hy
  · exact (h11.trans (hba.mono h11.size)).grown hg (by have := h11.size; simp; omega) fun b e => by have := (hl b e).1; omega
/-- The assumptions twice over are the same. -/
theorem fin_same {V : Nat} {cs : List (List Int)} {o : List Int} {b b' : Bool} (h : b = true ↔ o.any (fgn V) = false ∧ Fails cs (fun x => -x ∈ o)) (h' : b' = true ↔ (o ++ o).any (fgn V) = false ∧ Fails cs (fun x => -x ∈ o ++ o)) : b' = b := by
  have e1 : (o ++ o).any (fgn V) = o.any (fgn V) := by simp
  have e2 : Fails cs (fun x => -x ∈ o ++ o) ↔ Fails cs (fun x => -x ∈ o) := Fails.same fun x => by simp
  rw [e1, e2] at h'
  cases b <;> cases b' <;> simp_all
theorem not_any {V : Nat} {ex : List Int} (h : ∀ y, y ∈ ex → y ≠ 0 ∧ y ≤ V ∧ -y ≤ V) : ex.any (fgn V) = false := by
  rw [List.any_eq_false]
  intro y hy
  obtain ⟨h1, h2, h3⟩ := h y hy
  unfold fgn
  simp
  omega
end
end Go.Proofs.Ytembgefbmecdbaa
