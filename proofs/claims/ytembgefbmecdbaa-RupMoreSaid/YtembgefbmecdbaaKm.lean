/-
  What lies behind the first append of Add, and behind the second.
-/
import Derived.Test.YtembgefbmecdbaaKj
namespace Go.Proofs.Ytembgefbmecdbaa
open Go.RowKit Go.Lib Go.Sort
/-- What lies behind the first append: the literals are there, the clause's end is not. -/
structure AS (base : Nat) (w W : World) (p V : Nat) (flat : List Int) (cs : List (List Int)) (vl ve lv : Value) : Prop where
  blk : W.heap[p]? = some (.cells #[.int .i64 (V : Int), lv, ve] 45 (0, 0))
  pb : base ≤ p
  lits : W.ownsRow base 3 1 lv flat.length (iv flat)
  ends : W.ownsRow base 3 1 ve cs.length (iv (ends 0 cs))
  apart : ∀ b, lv.ownBlock = some b → ve.ownBlock ≠ some b
  keep : Keep (FP p vl ve) w W
  new : ∀ b, lv.ownBlock = some b → vl.ownBlock = some b ∨ w.heap.size ≤ b
theorem iv_append (a b : List Int) : iv (a ++ b) = iv a ++ iv b := List.map_append ..
section
variable {base : Nat} {w : World} {p V : Nat} {cs : List (List Int)} {vl ve : Value}
theorem AS.zero {w6 : World} (h : CF base w6 p V cs vl ve) (hb : Below w.heap.size w w6) : AS base w (w6.setCell ⟨p, 1, none⟩ vl) p V cs.flatten cs vl ve vl :=
  { blk := heap_set w6 p 1 _ _ _ h.blk, pb := h.pb, lits := own_set h.lits h.nl _, ends := own_set h.ends h.ne _, apart := h.apart, keep := (Keep.of_below hb).set _ (Or.inl rfl) _, new := fun _ hb => Or.inl hb }
theorem Keep.grown {F : Nat → Prop} {a b c : World} {row : Option Nat} (h : Keep F a b) (hg : b.grownBy c row) (hr : ∀ k, row = some k → F k) : Keep F a c :=
  ⟨hg.os.trans h.os, hg.tape.trans h.tape, hg.output.trans h.output, Nat.le_trans h.size hg.size, fun k hk hn => (hg.block k (Nat.lt_of_lt_of_le hk h.size) (fun e => hn (hr k e.symm))).trans (h.block k hk hn)⟩
theorem AS.more {w6 w7 : World} {d : List Int} {g cap : Nat} (h : CF base w6 p V cs vl ve) (hb : Below w.heap.size w w6) (hg : w6.grownBy w7 vl.ownBlock) (hat : vl.ownBlock = some g ∨ g = w6.heap.size)
    (hown : w7.ownsRow base 3 1 (.slice (some ⟨g, 0, none⟩) (cs.flatten.length + d.length) cap) (cs.flatten.length + d.length) (iv cs.flatten ++ iv d)) :
    AS base w (w7.setCell ⟨p, 1, none⟩ (.slice (some ⟨g, 0, none⟩) (cs.flatten.length + d.length) cap)) p V (cs.flatten ++ d) cs vl ve (.slice (some ⟨g, 0, none⟩) (cs.flatten.length + d.length) cap) := by
  have hgp : g ≠ p := by
    rcases hat with e | e
    · exact fun e2 => h.nl (by rw [e, e2])
    · have := h.lt; omega
  have hp7 : w7.heap[p]? = some (.cells #[.int .i64 (V : Int), vl, ve] 45 (0, 0)) := (hg.block p h.lt (fun e => h.nl e.symm)).trans h.blk
  have he : (Value.slice (some ⟨g, 0, none⟩) (cs.flatten.length + d.length) cap).ownBlock = some g := rfl
  have hapart : ve.ownBlock ≠ some g := by
    rcases hat with e | e
    · exact h.apart g e
    · intro e1
      have := (h.ends.lt g e1).2
      omega
  have hkept : w7.ownsRow base 3 1 ve cs.length (iv (Ytembgefbmecdbaa.ends 0 cs)) := by
    refine h.ends.kept hg ?_
    cases hve : ve.ownBlock with
    | none => exact .inl rfl
    | some b => exact .inr (fun e1 => h.apart b e1.symm hve)
  exact {
    blk := heap_set w7 p 1 _ _ _ hp7
    pb := h.pb
    lits := own_set (by rw [List.length_append, iv_append]; exact hown) (by rw [he]; exact fun e => hgp (Option.some.inj e)) _
    ends := own_set hkept h.ne _
    apart := fun b hb1 => by rw [he] at hb1; cases hb1; exact hapart
    keep := (Keep.grown (F := FP p vl ve) (Keep.of_below hb) hg (fun k e => Or.inr (Or.inl e))).set _ (Or.inl rfl) _
    new := fun b hb1 => by
      rw [he] at hb1; cases hb1
      rcases hat with e | e
      · exact Or.inl e
      · exact Or.inr (by have := hb.size; omega) }
theorem AS.fin {W w9 : World} {d : List Int} {lv : Value} {o : Obj} {g cap : Nat} (a : AS base w W p V (cs.flatten ++ d) cs vl ve lv) (hV : V ≤ 60000) (hn : cs.length < 200000) (hc : ∀ c, c ∈ cs → c.length ≤ 1000) (hd : d.length ≤ 1000) (hD : ∀ c, c ∈ cs → Dom c) (hDd : Dom d) (hg : (W.drew.alloc o).grownBy w9 ve.ownBlock)
    (hat : ve.ownBlock = some g ∨ g = W.heap.size + 1)
    (hown : w9.ownsRow base 3 1 (.slice (some ⟨g, 0, none⟩) (cs.length + 1) cap) (cs.length + 1) (iv (Ytembgefbmecdbaa.ends 0 cs) ++ [.int .i64 (((cs.flatten ++ d).length : Nat) : Int)])) :
    CF base (w9.setCell ⟨p, 2, none⟩ (.slice (some ⟨g, 0, none⟩) (cs.length + 1) cap)) p V (cs ++ [d]) lv (.slice (some ⟨g, 0, none⟩) (cs.length + 1) cap) ∧
      Keep (FP p vl ve) w (w9.setCell ⟨p, 2, none⟩ (.slice (some ⟨g, 0, none⟩) (cs.length + 1) cap)) ∧ ∀ b, FP p lv (.slice (some ⟨g, 0, none⟩) (cs.length + 1) cap) b → FP p vl ve b ∨ w.heap.size ≤ b := by
  have hlt : p < W.heap.size := lt_of_get a.blk
  have hne : ve.ownBlock ≠ some p := Lib.ownBlock_ne a.ends a.blk (by decide)
  have hnl : lv.ownBlock ≠ some p := Lib.ownBlock_ne a.lits a.blk (by decide)
  have he : (Value.slice (some ⟨g, 0, none⟩) (cs.length + 1) cap).ownBlock = some g := rfl
  have hgp : g ≠ p := by
    rcases hat with e | e
    · exact fun e2 => hne (by rw [e, e2])
    · omega
  have hp0 : (W.drew.alloc o).heap[p]? = some (.cells #[.int .i64 (V : Int), lv, ve] 45 (0, 0)) := (Lib.alloc_old W.drew o p hlt).trans a.blk
  have hp9 : w9.heap[p]? = some (.cells #[.int .i64 (V : Int), lv, ve] 45 (0, 0)) := (hg.block p (by simp; omega) (fun e => hne e.symm)).trans hp0
  have hapart : ∀ b, lv.ownBlock = some b → b ≠ g := fun b hb => by
    rcases hat with e | e
    · intro e2; subst e2; exact a.apart b hb e
    · have := (a.lits.lt b hb).2; omega
  have hl9 : w9.ownsRow base 3 1 lv (cs.flatten ++ d).length (iv (cs.flatten ++ d)) := by
    refine (World.ownsRow.alloc (w := W.drew) a.lits o).kept hg ?_
    cases hlv : lv.ownBlock with
    | none => exact .inl rfl
    | some b => exact .inr (fun e1 => a.apart b hlv e1.symm)
  refine ⟨{ blk := heap_set w9 p 2 _ _ _ hp9, pb := a.pb, lits := ?_, ends := ?_, apart := ?_, hV := hV, hn := ?_, hc := ?_, hd := ?_ }, ?_, ?_⟩
  · have : (cs ++ [d]).flatten = cs.flatten ++ d := by simp
    rw [this]
    exact own_set hl9 hnl _
  · rw [ends_append, List.length_append, iv_append]
    have : (0 + cs.flatten.length + d.length) = (cs.flatten ++ d).length := by simp
    rw [this]
    exact own_set hown (by rw [he]; exact fun e => hgp (Option.some.inj e)) _
  · intro b hb
    rw [he]
    exact fun e => hapart b hb (Option.some.inj e).symm
  · rw [List.length_append, List.length_singleton]; omega
  · intro c hc2
    rcases List.mem_append.1 hc2 with e | e
    · exact hc c e
    · rw [List.mem_singleton.1 e]; exact hd
  · intro c hc2
    rcases List.mem_append.1 hc2 with e | e
    · exact hD c e
    · rw [List.mem_singleton.1 e]; exact hDd
  · have k1 : Keep (FP p vl ve) w (W.drew.alloc o) := ⟨a.keep.os, a.keep.tape, a.keep.output, by have := a.keep.size; simp; omega, fun k hk hn => (Lib.alloc_old W.drew o k (Nat.lt_of_lt_of_le hk a.keep.size)).trans (a.keep.block k hk hn)⟩
    exact (k1.grown hg (fun k e => Or.inr (Or.inr e))).set _ (Or.inl rfl) _
  · rintro b (e | e | e)
    · exact Or.inl (Or.inl e)
    · rcases a.new b e with e | e
      · exact Or.inl (Or.inr (Or.inl e))
      · exact Or.inr e
    · rw [he] at e; cases e
      rcases hat with e | e
      · exact Or.inl (Or.inr (Or.inr e))
      · exact Or.inr (by have := a.keep.size; omega)
end
end Go.Proofs.Ytembgefbmecdbaa
