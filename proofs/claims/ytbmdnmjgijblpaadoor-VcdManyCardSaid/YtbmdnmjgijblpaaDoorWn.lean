/-
  The walk of bv's New: a vector made of words.
-/
import Derived.Test.YtbmdnmjgijblpaaDoorWe
import Derived.Test.YtbmdnmjgijblpaaDoorM2
import Derived.Laws.CopyOwn
namespace Go.Proofs.YtbmdnmjgijblpaaDoor
open Go.RowKit
/-- A slice of words that came in: m words, f j the word number j. -/
def RU (w : World) (A : Option Addr) (m : Nat) (f : Nat → Nat) : Prop := 0 < m → ∃ ad : Addr, A = some ad ∧ ad.block < w.heap.size ∧ ∀ j, j < m → w.cell? (ad.add j) = some (.int .u64 ((f j : Nat) : Int))
def wd (f : Nat → Nat) (m j : Nat) : Nat := if j < m then f j else 0
def wcs (f : Nat → Nat) (m : Nat) : List Value := (List.range (min m 2)).map fun j => .int .u64 ((f j : Nat) : Int)
theorem wcs_len (f : Nat → Nat) (m : Nat) : (wcs f m).length = min m 2 := by simp [wcs]
theorem wcs_get (f : Nat → Nat) (m j : Nat) (v : Value) (h : (wcs f m)[j]? = some v) : j < m ∧ v = .int .u64 ((f j : Nat) : Int) := by
  have hj : j < (wcs f m).length := by
    rcases Nat.lt_or_ge j (wcs f m).length with h' | h'
    · exact h'
    · rw [List.getElem?_eq_none h'] at h; cases h
  have hj2 := hj
  rw [wcs_len] at hj2
  rw [List.getElem?_eq_getElem hj] at h
  simp only [wcs, List.getElem_map, List.getElem_range, Option.some.injEq] at h
  exact ⟨by omega, h.symm⟩
theorem wcs_one (f : Nat → Nat) (m : Nat) : ∀ v ∈ wcs f m, v.oneCell' = true := by
  intro v hv
  simp only [wcs, List.mem_map] at hv
  obtain ⟨j, _, rfl⟩ := hv
  rfl
theorem block_add (a : Addr) (n : Nat) : (a.add n).block = a.block := by unfold Addr.add; split <;> rfl
theorem RU.keep {w w' : World} {A : Option Addr} {m : Nat} {f : Nat → Nat} (h : RU w A m f) (hb : Below w.heap.size w w') : RU w' A m f := fun hm => by
  obtain ⟨ad, e, hl, hc⟩ := h hm
  exact ⟨ad, e, Nat.lt_of_lt_of_le hl hb.size, fun j hj => (hb.cell (p := ad.add j) (by rw [block_add]; exact hl)).trans (hc j hj)⟩
theorem RU.src {w W : World} {A : Option Addr} {m : Nat} {f : Nat → Nat} (h : RU w A m f) (hb : Below w.heap.size w W) :
    0 < (wcs f m).length → ∃ ad, A = some ad ∧ ∀ (j : Nat) (v : Value), (wcs f m)[j]? = some v → W.cell? (ad.add j) = some v := fun hl => by
  rw [wcs_len] at hl
  obtain ⟨ad, e, _, hc⟩ := h.keep hb (by omega)
  exact ⟨ad, e, fun j v hj => by obtain ⟨hjm, rfl⟩ := wcs_get f m j v hj; exact hc j hjm⟩
theorem wcs_splice (f : Nat → Nat) (m n : Nat) : splice [.int .i64 (n : Int), .int .u64 0, .int .u64 0] 1 (wcs f m) = [.int .i64 (n : Int), .int .u64 ((wd f m 0 : Nat) : Int), .int .u64 ((wd f m 1 : Nat) : Int)] := by
  unfold wcs wd
  match m with
  | 0 => simp [splice]
  | 1 => simp [splice]
  | m + 2 => rw [show min (m + 2) 2 = 2 from by omega]; simp [splice, List.range, List.range.loop]
theorem info_u64 : (Tryd.prog.info? 31).map (·.size) = some 1 := by kernel_rfl
set_option maxRecDepth 100000 in
set_option maxHeartbeats 400000 in
theorem New_ok (n m c : Nat) (A : Option Addr) (f : Nat → Nat) (w : World) (h1 : 1 ≤ n) (hn : n ≤ 128) (hA : RU w A m f) (hf : ∀ j, j < m → f j < 2 ^ 64) :
    Calls Tryd.prog 6 #[.int .i64 (n : Int), .slice A m c] w (RV w (.tuple #[vv n (trimN n (wd f m 0) (wd f m 1)), .int .i64 0])) := by
  have hF := fun w => fits_t (n : Int) w
  have e : fitsB (n : Int) = true := by unfold fitsB; simp; omega
  rw [e] at hF
  clear e
  replace hF := Lib.hid hF
  have hw : ∀ j, wd f m j < 2 ^ 64 := fun j => by unfold wd; split; exact hf j (by assumption); decide
  have hT := Lib.hid (fun w => trimmed_w n (wd f m 0) (wd f m 1) w hn (hw 0) (hw 1))
  clear hf hw
  replace hA := Lib.hid hA
  go_enter Tryd.func6, Tryd.ntmps6
  go_wp2_with (first
    | (go_at_call 10; (with_reducible refine (hF.out _).mono ?_); rintro e w0 ⟨rfl, rfl⟩)
    | (with_reducible refine wpList_copy_splice rfl (.tmp 14) (.tmp 15) 45 45 rfl 31 Tryd.underlying45 info_u64 (some ⟨w.heap.size + 1, 1, none⟩) A 2 2 m c rfl rfl (w.heap.size + 1) 1 [.int .i64 (n : Int), .int .u64 0, .int .u64 0] 34 ?g1 (wcs f m) ?g2 ?g3 ?g4 ?g5 (w.heap.size + 1) _ (Below.refl _ _) (Nat.le_refl _) ?g6))
  case g1 => exact heap_alloc2_new _ _ _
  case g2 => exact wcs_len f m
  case g3 => exact fun h => hA.out.src (by go_grown) h
  case g4 => rw [wcs_len]; simp; omega
  case g5 => exact wcs_one f m
  case g6 =>
    intro w2 hg hb2
    have hbw2 : Below w.heap.size w w2 := Below.trans (b := (w.alloc (.cells #[.int .i64 0, .int .u64 0, .int .u64 0] 34)).alloc (.cells #[.int .i64 (n : Int), .int .u64 0, .int .u64 0] 34)) (by go_grown) (hb2.mono (by omega))
    have hc := fun i => cell_of_row w2 (w.heap.size + 1) i _ _ _ hg.out
    rw [wcs_splice] at hc
    have z0 : HV 34 w2 w.heap.size 0 0 := World.rowIs.of_block ((HV.zero w 34).alloc (.cells #[.int .i64 (n : Int), .int .u64 0, .int .u64 0] 34)) (hb2.block w.heap.size (by omega))
    have z := z0.all
    clear hb2 hg
    go_wp2_with (go_at_call 11; (with_reducible refine (hT.out _).mono ?_); rintro e w3 ⟨rfl, hb3⟩; have z3 := (z0.over hb3).all; have hbw3 : Below w.heap.size w w3 := below_call hb3 hbw2; clear z hc z0 hb3)
    refine bodyPost_ret (v := .tuple #[vv n (trimN n (wd f m 0) (wd f m 1)), .int .i64 0]) (by simp [results, Tryd.results6, go_sem, z3]) rfl ⟨rfl, ?_⟩
    go_grown
end Go.Proofs.YtbmdnmjgijblpaaDoor
