/-
  What the rows of the statements of layer 8 share: the table that they list, and how an argument that is a slice of pieces is opened.
  How an argument that is a slice of pieces, or of numbers, is opened.
-/
import Derived.Test.YtomjokpgcijccaaGreatDoorHl
import Derived.Test.YtomjokpgcijccaaGreatDoorCards
import Derived.Test.YtomjokpgcijccaaGreatDoorTie
import Derived.WalkKit
import Derived.ProofKit
import Derived.Lay
import Derived.LaidMore
import Derived.OpenShut
import Derived.SevenTiedAt
import Derived.Stop.Joined
import Derived.Stop.LaidErr
import Derived.ShutString
import Derived.ChangeOld
import Derived.Deep.Slices
import Derived.Lib.SmallJoins
import Derived.Lib.LaidTab
namespace Go.Proofs.YtomjokpgcijccaaGreatDoor
open Go Go.ChangeShapes Go.WideShapes Go.ChangeAt Go.RowKit Go.Lib
/-- The list of tables of the rows. -/
def laid8 : List (String × DataW Unit) := Rows.lexWordsRow.laid
theorem own8 : ownKnob Tryz.prog.godebug = none := by kernel_rfl
theorem laidOut : laidOutB Tryz.prog = true := by kernel_rfl
def strData {H : Type} (l : List (List UInt8)) : DataW H := .agg (l.map fun s => .lit (.string s))
theorem sg_datum : (Rows.laid_sluicegate_lex_signs : DataW Unit) = strData sgL := by kernel_rfl
theorem cells_of_strs {H : Type} {enc : TypeId × Value → H} {P : Program} {w : World} {base : Nat} {sp : Nat → Bool} {held : Bool} {fuel : Nat} {t e : TypeId} {n : Nat} {cs : List Value} {zs : List (List UInt8)} {p : List MemPlace}
    (ht : P.underlying t = some (.array n e)) (he : P.underlying e = some .string) (hce : P.cellsOf e = 1) (hct : P.cellsOf t = n)
    (h : DataW.trod enc P w base sp held fuel t cs = some (strData zs, p)) : cs = zs.map fun z => Value.string (tx z) := by
  obtain ⟨xs, m, _, hx, hl, hxl, hf⟩ := DataW.trod_array ht h
  rw [hct] at hl
  have hxs : xs.map (·.1) = zs.map fun z => (DataW.lit (.string z) : DataW H) := by
    have := congrArg Prod.fst hx
    simpa [strData] using this.symm
  have hzl : zs.length = n := by
    have := congrArg List.length hxs
    simp at this
    omega
  apply List.ext_getElem?
  intro i
  by_cases hi : i < n
  · have h1 := hf i hi
    rw [hce, Nat.mul_one] at h1
    have hxi : ∃ y, xs[i]? = some y := ⟨_, List.getElem?_eq_getElem (by omega)⟩
    obtain ⟨y, hy⟩ := hxi
    rw [hy] at h1
    obtain ⟨s, hc, hz, _⟩ := DataW.trod_string he h1
    have h2 : (xs.map (·.1))[i]? = some (DataW.lit (.string s.data.toList) : DataW H) := by rw [List.getElem?_map, hy, hz]; rfl
    rw [hxs] at h2
    simp only [List.getElem?_map, Option.map_eq_some_iff, DataW.lit.injEq, Lit.string.injEq] at h2
    obtain ⟨z', hz', hzs⟩ := h2
    have h3 : cs[i]? = some (.string s) := by
      have := congrArg (·[0]?) hc
      simpa [List.getElem?_take, List.getElem?_drop] using this
    rw [h3, List.getElem?_map, hz']
    show some (Value.string s) = some (Value.string (tx z'))
    have : tx z' = s := by rw [hzs]
    rw [this]
  · rw [List.getElem?_eq_none (by omega), List.getElem?_eq_none (by simp; omega)]
theorem LS_of_laid {W : World} (h : laidMetH Tryz.prog laid8 W) : LS W := by
  rw [MakeChecks.laidMetH_plain _ _ _ (by kernel_rfl)] at h
  unfold laid8 Rows.lexWordsRow at h
  dsimp only at h
  obtain ⟨ps, ⟨g', t', cs, fuel, p, q, hg', ht', hvar, hd, _, _⟩, _⟩ := h
  obtain rfl := Option.some.inj ((show Tryz.prog.globalNamed "sluicegate/lex.signs" = some 0 by kernel_rfl).symm.trans hg')
  obtain rfl := Option.some.inj ((show (Tryz.prog.globals[0]?).map (·.type) = some 93 by kernel_rfl).symm.trans ht')
  rw [sg_datum] at hd
  have hcs := cells_of_strs Tryz.underlying93 Tryz.underlying9 (by kernel_rfl) (by kernel_rfl) hd
  unfold World.var? at hvar
  rw [show Tryz.prog.globalNamed "sluicegate/lex.signs" = some 0 by kernel_rfl] at hvar
  simp only [Option.bind_some] at hvar
  split at hvar
  · rename_i cs0 t0 f0 hh
    cases hvar
    have hsz : cs.size = 40 := by rw [← Array.length_toList, hcs, List.length_map]; rfl
    refine ⟨_, t0, f0, hh, hsz, fun j hj => ?_⟩
    have hjl : j < sgL.length := hj
    rw [← Array.getElem?_toList, hcs, List.getElem?_map, List.getElem?_eq_getElem hjl]
    unfold sgV
    rw [List.getD_eq_getElem?_getD, List.getElem?_eq_getElem hjl]
    rfl
  · cases hvar
/-- The witness's world. -/
theorem witness_met (os : Os) (args : Array Value) : laidMetH Tryz.prog laid8 ((World.laidAll Tryz.prog os laid8).forCall (fun _ _ => 0) ⟨#[], args, []⟩).memory := by
  rw [MakeChecks.laidMetH_plain _ _ _ (by kernel_rfl)]
  exact laidMet_laidAll _ (by kernel_rfl) (by kernel_rfl)
theorem witness_shape (os : Os) (args : Array Value) : ((World.laidAll Tryz.prog os laid8).forCall (fun _ _ => 0) ⟨#[], args, []⟩).Shaped Tryz.prog := World.shaped_of_ZipB (by kernel_rfl) (by kernel_rfl)
end Go.Proofs.YtomjokpgcijccaaGreatDoor
namespace Go.Proofs.YtomjokpgcijccaaGreatDoor
open Go Go.ChangeShapes Go.WideShapes Go.ChangeAt Go.RowKit Go.Lib
theorem cells_p7 : Tryz.prog.cellsOf 43 = 5 := by kernel_rfl
theorem cells_pos : Tryz.prog.cellsOf 29 = 3 := by kernel_rfl
theorem cells_s : Tryz.prog.cellsOf 9 = 1 := by kernel_rfl
theorem cells_i : Tryz.prog.cellsOf 3 = 1 := by kernel_rfl
theorem cells_b : Tryz.prog.cellsOf 4 = 1 := by kernel_rfl
theorem len5 {α : Type} (l : List α) (h : l.length = 5) : ∃ a b c d e, l = [a, b, c, d, e] := by
  match l, h with
  | [a, b, c, d, e], _ => exact ⟨a, b, c, d, e, rfl⟩
theorem len3 {α : Type} (l : List α) (h : l.length = 3) : ∃ a b c, l = [a, b, c] := by
  match l, h with
  | [a, b, c], _ => exact ⟨a, b, c, rfl⟩
theorem wr_wf {x : Int} (h : (Lit.int .i64 x).wf = true) : wr x = x := by
  have : -9223372036854775808 ≤ x ∧ x ≤ 9223372036854775807 := by simpa [Lit.wf, IntKind.min, IntKind.max, IntKind.signed, IntKind.bits] using h
  exact wr_in x this
theorem some_at {α : Type} {l : List α} {n i : Nat} (h : l.length = n) (hi : i < n) : ∃ y, l[i]? = some y := ⟨_, List.getElem?_eq_getElem (by omega)⟩
section
variable {H : Type} {enc : TypeId × Value → H} {W : World} {base : Nat} {sp : Nat → Bool} {held : Bool} {fuel : Nat} {cs : List Value} {x : DataW H × List MemPlace}
theorem pos_cells (h : DataW.trod enc Tryz.prog W base sp held fuel 29 cs = some x) : ∃ f l c : Int, cs = [.int .i64 f, .int .i64 l, .int .i64 c] ∧ wr f = f ∧ wr l = l ∧ wr c = c := by
  obtain ⟨xs, n, _, _, hl, hxl, hf⟩ := DataW.trod_struct Tryz.underlying29 h
  rw [cells_pos] at hl
  have hxl3 : xs.length = 3 := hxl
  obtain ⟨a, b, c, rfl⟩ := len3 cs hl
  obtain ⟨y0, e0⟩ := some_at hxl3 (show 0 < 3 by decide)
  obtain ⟨y1, e1⟩ := some_at hxl3 (show 1 < 3 by decide)
  obtain ⟨y2, e2⟩ := some_at hxl3 (show 2 < 3 by decide)
  have h0 : DataW.trod enc Tryz.prog W base sp held n 3 [a] = some y0 := by
    have := hf 0 _ rfl
    rw [e0] at this
    simpa [cells_i] using this
  have h1 : DataW.trod enc Tryz.prog W base sp held n 3 [b] = some y1 := by
    have := hf 1 _ rfl
    rw [e1] at this
    simpa [cells_i] using this
  have h2 : DataW.trod enc Tryz.prog W base sp held n 3 [c] = some y2 := by
    have := hf 2 _ rfl
    rw [e2] at this
    simpa [cells_i] using this
  obtain ⟨f, hf0, _, wf0⟩ := DataW.trod_int Tryz.underlying3 h0
  obtain ⟨l, hf1, _, wf1⟩ := DataW.trod_int Tryz.underlying3 h1
  obtain ⟨c', hf2, _, wf2⟩ := DataW.trod_int Tryz.underlying3 h2
  cases hf0
  cases hf1
  cases hf2
  exact ⟨f, l, c', rfl, wr_wf wf0, wr_wf wf1, wr_wf wf2⟩
theorem piece_cells (h : DataW.trod enc Tryz.prog W base sp held fuel 43 cs = some x) : ∃ q : PC, cs = [.string (tx q.t), .int .i64 q.p.f, .int .i64 q.p.l, .int .i64 q.p.c, .bool q.fx] ∧ q.p.ok := by
  obtain ⟨xs, n, _, _, hl, hxl, hf⟩ := DataW.trod_struct Tryz.underlying43 h
  rw [cells_p7] at hl
  have hxl3 : xs.length = 3 := hxl
  obtain ⟨a, b, c, d, e, rfl⟩ := len5 cs hl
  obtain ⟨y0, e0⟩ := some_at hxl3 (show 0 < 3 by decide)
  obtain ⟨y1, e1⟩ := some_at hxl3 (show 1 < 3 by decide)
  obtain ⟨y2, e2⟩ := some_at hxl3 (show 2 < 3 by decide)
  have h0 : DataW.trod enc Tryz.prog W base sp held n 9 [a] = some y0 := by
    have := hf 0 _ rfl
    rw [e0] at this
    simpa [cells_s] using this
  have h1 : DataW.trod enc Tryz.prog W base sp held n 29 [b, c, d] = some y1 := by
    have := hf 1 _ rfl
    rw [e1] at this
    simpa [cells_pos] using this
  have h2 : DataW.trod enc Tryz.prog W base sp held n 4 [e] = some y2 := by
    have := hf 2 _ rfl
    rw [e2] at this
    simpa [cells_b] using this
  obtain ⟨s, hs, _, _⟩ := DataW.trod_string Tryz.underlying9 h0
  obtain ⟨f, l, c', hp, w1, w2, w3⟩ := pos_cells h1
  obtain ⟨v, hv, _⟩ := DataW.trod_bool Tryz.underlying4 h2
  cases hs
  cases hp
  cases hv
  exact ⟨⟨s.data.toList, ⟨f, l, c'⟩, v⟩, rfl, w1, w2, w3⟩
end
theorem list_of_fn {α : Type} (f : Nat → α) (n : Nat) : ∃ l : List α, l.length = n ∧ (∀ j (h : j < l.length), l[j] = f j) ∧ ∀ x, x ∈ l → ∃ j, j < n ∧ x = f j := by
  refine ⟨(List.range n).map f, by simp, fun j hj => by simp, fun x hx => ?_⟩
  obtain ⟨j, hj, rfl⟩ := List.mem_map.1 hx
  exact ⟨j, List.mem_range.1 hj, rfl⟩
theorem pieces_of {H : Type} {enc : TypeId × Value → H} {W : World} {A : Option Addr} {n c : Nat} {d : DataW H} {p : List MemPlace}
    (h : DataW.Trod enc Tryz.prog W 0 (fun _ => true) true 22 (.slice A n c) d p) (lt : ∀ x ∈ p, x.block < W.heap.size) :
    ∃ qs : List PC, qs.length = n ∧ PCL W A qs ∧ (∀ q, q ∈ qs → q.p.ok) ∧ qs.length ≤ 9223372036854775807 := by
  obtain ⟨fuel, hf⟩ := h
  rcases Go.Deep.open_slice Tryz.underlying22 hf with ⟨hcs, _⟩ | ⟨a, len, cap, m, k, D, Pl, hcs, _, hl, hcm, hm, hx, hV⟩
  · simp [Value.cells] at hcs
    obtain ⟨rfl, rfl, rfl⟩ := hcs
    exact ⟨[], rfl, fun h => absurd h (by simp), fun q hq => absurd hq (by simp), by simp⟩
  · simp [Value.cells] at hcs
    obtain ⟨rfl, rfl, rfl⟩ := hcs
    simp only [if_true] at hm
    subst hm
    rw [cells_p7] at hV hx
    simp only [Prod.mk.injEq] at hx
    have hb : ∀ i, ∃ q : PC, i < n → (∀ j v, [Value.string (tx q.t), .int .i64 q.p.f, .int .i64 q.p.l, .int .i64 q.p.c, .bool q.fx][j]? = some v → W.cell? ((a.add (i * 5)).add j) = some v) ∧ q.p.ok := fun i => by
      by_cases hi : i < n
      · obtain ⟨cs', h1, h2⟩ := hV i (by omega)
        obtain ⟨q, rfl, hq⟩ := piece_cells h2
        obtain ⟨_, _, h3⟩ := World.cells?_some h1
        refine ⟨q, fun _ => ⟨fun j v hj => ?_, hq⟩⟩
        have hj5 : j < 5 := by
          have := (List.getElem?_eq_some_iff.1 hj).1
          simpa using this
        rw [h3 j hj5, hj]
      · exact ⟨⟨[], ⟨0, 0, 0⟩, false⟩, fun h => absurd h hi⟩
    obtain ⟨l, hll, hlg, hlm⟩ := list_of_fn (fun i => Classical.choose (hb i)) n
    refine ⟨l, hll, fun h0 => ?_, fun q hq => ?_, by unfold maxLen at hcm; omega⟩
    · have hc0 := (Classical.choose_spec (hb 0) (by omega)).1 0 _ rfl
      obtain ⟨b, off, spot⟩ := a
      have hs : spot = none := by
        cases spot with
        | none => rfl
        | some s =>
          exfalso
          simp [World.cell?, Addr.add] at hc0
          split at hc0 <;> simp at hc0
      subst hs
      have hadd : ∀ o x, (⟨b, o, none⟩ : Addr).add x = ⟨b, o + x, none⟩ := fun o x => by unfold Addr.add; split <;> simp_all
      refine ⟨b, off, rfl, ?_, fun j hj => ?_⟩
      · exact lt (.cell b off) (by rw [hx.2]; exact List.mem_append_left _ (List.mem_map.2 ⟨0, List.mem_range.2 (by omega), rfl⟩))
      · have hsp := (Classical.choose_spec (hb j) (by omega)).1
        rw [hlg j hj]
        generalize Classical.choose (hb j) = q at *
        rw [hadd off (j * 5)] at hsp
        simp only [hadd (off + j * 5)] at hsp
        exact ⟨hsp 0 _ rfl, hsp 1 _ rfl, hsp 2 _ rfl, hsp 3 _ rfl, hsp 4 _ rfl⟩
    · obtain ⟨j, hj, rfl⟩ := hlm q hq
      exact (Classical.choose_spec (hb j) hj).2
end Go.Proofs.YtomjokpgcijccaaGreatDoor
