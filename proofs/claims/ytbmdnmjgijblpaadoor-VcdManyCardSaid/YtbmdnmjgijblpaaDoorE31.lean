/-
  vcd's writer: a line.
  vcd's writer: the lines of a dump.
-/
import Derived.Test.YtbmdnmjgijblpaaDoorE30
import Derived.Lib.ItoaLen
import Derived.Lib.LaidTab
import Derived.Lib.AppendIntMem
namespace Go.Proofs.YtbmdnmjgijblpaaDoor
open Go Go.RowKit Go.Lib Go.Maps
/-- A line: words with a blank in between, a line feed. -/
def jnW : List (List UInt8) → List UInt8
  | [] => []
  | x :: l => x ++ l.flatMap (fun y => 32 :: y)
def lnT (ws : List (List UInt8)) : List UInt8 := jnW ws ++ [10]
theorem join_jn : ∀ ws : List (List UInt8), Lib.join ws [32] = jnW ws
  | [] => rfl
  | [x] => by simp [Lib.join, jnW]
  | x :: y :: l => by
    have ih := join_jn (y :: l)
    simp only [Lib.join, jnW, List.flatMap_cons] at *
    have e : ([32] : List UInt8).intercalate (x :: y :: l) = x ++ 32 :: ([32] : List UInt8).intercalate (y :: l) := by simp [List.intercalate, List.intersperse]
    rw [e, ih]
    simp
abbrev strs (ws : List (List UInt8)) : Array Value := (ws.map fun x => Value.string (bt x)).toArray
/-- The writer of a dump: a builder with what has been written, the trace in a variable. -/
structure WR (w : World) (B b b2 : Nat) (tr : Array Value) (l : List UInt8) (wr : World) : Prop where
  bu : BU B b l wr
  box : CV wr b2 tr 26
  low : Below B w wr
  sz : B ≤ wr.heap.size
theorem bu_over {B b : Nat} {l : List UInt8} {w w' : World} (h : BU B b l w) (k : Below w.heap.size w w') : BU B b l w' := by
  have one : ∀ p, Lib.BuilderAt 51 5 B b p (Lib.byteCells l) w → Lib.BuilderAt 51 5 B b p (Lib.byteCells l) w' := by
    rintro p ⟨hB, v, hb, ho, hne⟩
    exact ⟨hB, v, (k.block b (lt_of_get hb)).trans hb, own_keepT ho (fun g hg => k.block g (own_ltT ho g hg).2), hne⟩
  rcases h with h | h
  · exact Or.inl (one _ h)
  · exact Or.inr (one _ h)
section
variable {w wr w' : World} {B b b2 : Nat} {tr : Array Value} {l : List UInt8}
theorem WR.over (h : WR w B b b2 tr l wr) (k : Below wr.heap.size wr w') : WR w B b b2 tr l w' :=
  ⟨bu_over h.bu k, h.box.over k, h.low.trans (k.mono h.sz), Nat.le_trans h.sz k.size⟩
set_option maxRecDepth 100000 in
set_option maxHeartbeats 1600000 in
/-- A line is written. -/
theorem line_t (h : WR w B b b2 tr l wr) (ws : List (List UInt8)) (_hne : ws ≠ []) (cells : Array Value) (hcs : cells = strs ws) (n : Nat) (hn : n = ws.length) (hn2 : n ≤ 10) (hlen : l.length + (lnT ws).length ≤ 1000000000) :
    Calls Tryd.prog 14 #[.slice (some ⟨wr.heap.size, 0, none⟩) n n, pp b] (wr.alloc (.cells cells 9)) fun e w' => e = .returned (.tuple #[]) ∧ WR w B b b2 tr (l ++ lnT ws) w' ∧ FW wr w' := by
  have hb1 := vnew wr (.cells cells 9)
  have h1 := h.over hb1
  have hR := heap_alloc_new wr (.cells cells 9)
  have hJ := Tryd.strings_Join wr.heap.size 0 n (ws.map bt) ⟨#[32]⟩ (wr.alloc (.cells cells 9)) (fun j x hx => by
    rw [Lib.cell_of_heap hR, Nat.zero_add, hcs]
    rw [List.getElem?_map] at hx
    simp only [strs, List.getElem?_toArray, List.getElem?_map]
    cases hw : ws[j]? with
    | none => rw [hw] at hx; cases hx
    | some y =>
      rw [hw] at hx
      cases hx
      rfl) (by simp) (by rw [List.length_map]; omega) (by rw [List.length_map]; omega) (by
    rw [List.map_map, show ((fun x : ByteArray => x.data.toList) ∘ bt) = id from rfl, List.map_id]
    show (Lib.join ws [32]).length ≤ _
    rw [join_jn]
    simp only [lnT, List.length_append] at hlen
    omega)
  rw [List.map_map, show ((fun x : ByteArray => x.data.toList) ∘ bt) = id from rfl, List.map_id, List.length_map, ← hn] at hJ
  replace hJ : Calls Tryd.prog 16 #[.slice (some ⟨wr.heap.size, 0, none⟩) n n, .string ⟨#[32]⟩] (wr.alloc (.cells cells 9)) fun e w' => e = .returned (.string (bt (Lib.join ws [32]))) ∧ Below (wr.alloc (.cells cells 9)).heap.size (wr.alloc (.cells cells 9)) w' := hJ
  rw [join_jn] at hJ
  have hW : ∀ W, Below (wr.alloc (.cells cells 9)).heap.size (wr.alloc (.cells cells 9)) W → Calls Tryd.prog 15 #[pp b, .string (bt (lnT ws))] W fun e w' => e = .returned (.tuple #[.int .i64 (bt (lnT ws)).size, .nilIface]) ∧ WR w B b b2 tr (l ++ lnT ws) w' ∧ FW wr w' := fun W hb => by
    have h2 := h1.over hb
    refine (write_t B b l (bt (lnT ws)) W h2.bu (by show l.length + (lnT ws).length ≤ _; omega) h2.sz).mono ?_
    rintro e w' ⟨rfl, g1, g2, g3⟩
    exact ⟨rfl, ⟨g1, g3.cv h2.box (by decide) (by decide), h2.low.trans g2, by have := g2.size; have := h2.sz; omega⟩, ((FW.below hb1).trans (FW.below hb)).trans g3⟩
  have hcat : bt (jnW ws) ++ (⟨#[10]⟩ : ByteArray) = bt (lnT ws) := by
    apply ByteArray.ext
    rw [ByteArray.data_append]
    simp [lnT]
  have hsz : (bt (jnW ws)).size ≤ 1000000000 := by
    show (jnW ws).length ≤ _
    simp only [lnT, List.length_append] at hlen
    omega
  obtain ⟨J, hJe⟩ : ∃ J, bt (jnW ws) = J := ⟨_, rfl⟩
  obtain ⟨J2, hJe2⟩ : ∃ J, bt (lnT ws) = J := ⟨_, rfl⟩
  rw [hJe] at hJ hcat hsz
  rw [hJe2] at hW hcat
  have t1 : ¬ 9223372036854775807 < J.size + 1 := by omega
  obtain ⟨W1, hW1⟩ : ∃ W, wr.alloc (.cells cells 9) = W := ⟨_, rfl⟩
  rw [hW1] at hJ hW ⊢
  obtain ⟨g, hg⟩ : ∃ g, wr.heap.size = g := ⟨_, rfl⟩
  rw [hg] at hJ ⊢
  replace hJ := Lib.hid hJ
  replace hW := Lib.hid hW
  clear hW1 hg hR h1 hb1 h hJe hJe2 hn
  go_enter Tryd.func14, Tryd.ntmps14
  go_wp2_with fail
  (with_reducible refine hJ.out.mono ?_)
  rintro e w2 ⟨rfl, hb2⟩
  have hC := Lib.hid (hW.out w2 hb2)
  clear hJ hW hb2
  go_wp2_with fail
  (with_reducible refine hC.out.mono ?_)
  rintro e w3 ⟨rfl, hF, hG⟩
  replace hF := Lib.hid (And.intro hF hG)
  clear hC hG
  go_wp2_with fail
  exact bodyPost_end (v := .tuple #[]) (by simp [results, Tryd.results14, go_sem]) rfl ⟨rfl, hF.out⟩
end
end Go.Proofs.YtbmdnmjgijblpaaDoor
namespace Go.Proofs.YtbmdnmjgijblpaaDoor
open Go Go.RowKit Go.Lib Go.Maps
abbrev sWire : List UInt8 := [119, 105, 114, 101]
/-- The digits of a vector. -/
def txL (x : Nat × Nat) : List UInt8 := (txt x.1 x.2).data.toList
theorem txL_bt (x : Nat × Nat) : bt (txL x) = txt x.1 x.2 := by
  apply ByteArray.ext
  simp [txL]
def vln (vs : List NV) (i : Nat) : List (List UInt8) := match vs[i]? with
  | some x => [sVar, sWire, itoa (x.2 : Int), idL i, x.1, sEnd]
  | none => []
def lnsV (vs : List NV) (k : Nat) : List (List (List UInt8)) := (List.range k).map (vln vs)
def rvv (rows : RW) (a i : Nat) : Nat × Nat := (rows.getD a []).getD i (0, 0)
def cln (rows : RW) (a i : Nat) : List (List (List UInt8)) := if a = 0 ∨ rvv rows a i ≠ rvv rows (a - 1) i then [[98 :: txL (rvv rows a i), idL i]] else []
def lnsC (rows : RW) (a k : Nat) : List (List (List UInt8)) := (List.range k).flatMap (cln rows a)
def tln (rows : RW) (n a : Nat) : List (List (List UInt8)) := [35 :: itoa (a : Int)] :: lnsC rows a n
def lnsT (rows : RW) (n k : Nat) : List (List (List UInt8)) := (List.range k).flatMap (tln rows n)
def lnsH (top : List UInt8) : List (List (List UInt8)) := [[sTime, [49], [110, 115], sEnd], [sScope, sModule, top, sEnd]]
def lnsM : List (List (List UInt8)) := [[sUp, sEnd], [sEndDef, sEnd]]
def lnsAll (top : List UInt8) (vs : List NV) (rows : RW) : List (List (List UInt8)) := lnsH top ++ lnsV vs vs.length ++ lnsM ++ lnsT rows vs.length rows.length
/-- The text of a trace. -/
def dumpT (top : List UInt8) (vs : List NV) (rows : RW) : List UInt8 := (lnsAll top vs rows).flatMap lnT
theorem lnsV_succ (vs : List NV) (k : Nat) : lnsV vs (k + 1) = lnsV vs k ++ [vln vs k] := by simp [lnsV, List.range_succ]
theorem lnsC_succ (rows : RW) (a k : Nat) : lnsC rows a (k + 1) = lnsC rows a k ++ cln rows a k := by simp [lnsC, List.range_succ]
theorem lnsT_succ (rows : RW) (n k : Nat) : lnsT rows n (k + 1) = lnsT rows n k ++ ([35 :: itoa (k : Int)] :: lnsC rows k n) := by simp [lnsT, List.range_succ, tln]
theorem lnsV_len (vs : List NV) (k : Nat) : (lnsV vs k).length = k := by simp [lnsV]
theorem lnsC_len (rows : RW) (a : Nat) : ∀ k, (lnsC rows a k).length ≤ k
  | 0 => by simp [lnsC]
  | k + 1 => by
    have := lnsC_len rows a k
    rw [lnsC_succ, List.length_append]
    have h : (cln rows a k).length ≤ 1 := by unfold cln; split <;> simp
    omega
theorem lnsT_len (rows : RW) (n : Nat) : ∀ k, (lnsT rows n k).length ≤ k * (n + 1)
  | 0 => by simp [lnsT]
  | k + 1 => by
    have := lnsT_len rows n k
    have h := lnsC_len rows k n
    rw [lnsT_succ, List.length_append, List.length_cons, Nat.succ_mul]
    omega
/-- A row of vectors reads, a slice of rows reads. -/
def RD3 (w : World) (A : Option Addr) (r : List (Nat × Nat)) : Prop := 0 < r.length → ∃ b, A = some ⟨b, 0, none⟩ ∧ b < w.heap.size ∧ ∀ i x, r[i]? = some x → w.cell? ⟨b, i * 3, none⟩ = some (iz (x.1 : Int)) ∧ w.cell? ⟨b, i * 3 + 1, none⟩ = some (.int .u64 ((lo x.2 : Nat) : Int)) ∧ w.cell? ⟨b, i * 3 + 2, none⟩ = some (.int .u64 ((hi x.2 : Nat) : Int))
def RM (w : World) (A : Option Addr) (rows : RW) : Prop := 0 < rows.length → ∃ b, A = some ⟨b, 0, none⟩ ∧ b < w.heap.size ∧ ∀ i r, rows[i]? = some r → ∃ A' c', w.cell? ⟨b, i, none⟩ = some (.slice A' r.length c') ∧ RD3 w A' r
theorem RD3.low {w w' : World} {A : Option Addr} {r : List (Nat × Nat)} (h : RD3 w A r) (k : Below w.heap.size w w') : RD3 w' A r := fun h0 => by
  obtain ⟨b, e, hb, hc⟩ := h h0
  exact ⟨b, e, Nat.lt_of_lt_of_le hb k.size, fun i x hi => ⟨(k.cell (p := ⟨b, _, none⟩) hb).trans (hc i x hi).1, (k.cell (p := ⟨b, _, none⟩) hb).trans (hc i x hi).2.1, (k.cell (p := ⟨b, _, none⟩) hb).trans (hc i x hi).2.2⟩⟩
theorem RM.low {w w' : World} {A : Option Addr} {rows : RW} (h : RM w A rows) (k : Below w.heap.size w w') : RM w' A rows := fun h0 => by
  obtain ⟨b, e, hb, hc⟩ := h h0
  refine ⟨b, e, Nat.lt_of_lt_of_le hb k.size, fun i r hi => ?_⟩
  obtain ⟨A', c', h1, h2⟩ := hc i r hi
  exact ⟨A', c', (k.cell (p := ⟨b, _, none⟩) hb).trans h1, h2.low k⟩
/-- A trace that Write accepts. -/
structure TOK (top : List UInt8) (vs : List NV) (rows : RW) : Prop where
  top : top.length ≤ 200
  vl : vs.length ≤ 300
  vn : ∀ x ∈ vs, x.1.length ≤ 200
  vw : ∀ x ∈ vs, 1 ≤ x.2 ∧ x.2 ≤ 128
  rl : rows.length ≤ 200
  rn : ∀ r ∈ rows, r.length = vs.length
  rw : ∀ r ∈ rows, ∀ x ∈ r, x.1 ≤ 128 ∧ x.2 < 2 ^ x.1
/-- The writer with the lines that have been written. -/
structure WL (w : World) (B b b2 : Nat) (tr : Array Value) (lns : List (List (List UInt8))) (wr : World) : Prop where
  wr : WR w B b b2 tr (lns.flatMap lnT) wr
  n : lns.length ≤ 70000
  l : ∀ ws ∈ lns, (lnT ws).length ≤ 1000
theorem flat_le (f : List (List UInt8) → List UInt8) : ∀ l : List (List (List UInt8)), (∀ ws ∈ l, (f ws).length ≤ 1000) → (l.flatMap f).length ≤ 1000 * l.length
  | [], _ => by simp
  | x :: l, h => by
    have h1 := h x (List.mem_cons_self ..)
    have h2 := flat_le f l fun y hy => h y (List.mem_cons_of_mem _ hy)
    simp only [List.flatMap_cons, List.length_append, List.length_cons]
    omega
section
variable {w wr w' : World} {B b b2 : Nat} {tr : Array Value} {lns : List (List (List UInt8))}
theorem WL.over (h : WL w B b b2 tr lns wr) (k : Below wr.heap.size wr w') : WL w B b b2 tr lns w' := ⟨h.wr.over k, h.n, h.l⟩
/-- A line more. -/
theorem WL.line (h : WL w B b b2 tr lns wr) (ws : List (List UInt8)) (hne : ws ≠ []) (cells : Array Value) (hcs : cells = strs ws) (n : Nat) (hn : n = ws.length) (hn2 : n ≤ 10) (hlen : (lnT ws).length ≤ 1000) (hl : lns.length < 70000) :
    Calls Tryd.prog 14 #[.slice (some ⟨wr.heap.size, 0, none⟩) n n, pp b] (wr.alloc (.cells cells 9)) fun e w' => e = .returned (.tuple #[]) ∧ WL w B b b2 tr (lns ++ [ws]) w' ∧ FW wr w' := by
  have hfl := flat_le lnT lns h.l
  have hn0 := h.n
  refine (line_t h.wr ws hne cells hcs n hn hn2 (by omega)).mono ?_
  rintro e w' ⟨rfl, h1, h2⟩
  refine ⟨rfl, ⟨by rw [List.flatMap_append, List.flatMap_cons, List.flatMap_nil, List.append_nil]; exact h1, by rw [List.length_append]; simp; omega, fun x hx => ?_⟩, h2⟩
  rcases List.mem_append.1 hx with hx | hx
  · exact h.l x hx
  · rw [List.mem_singleton.1 hx]; exact hlen
end
/-- The table that Itoa looks into. -/
def LT (w : World) : Prop := TabIs Tryd.prog w "internal/strconv.uint64pow10" .u64 pow10Tab
theorem LT.on {w w' : World} (h : LT w) (hb : Below w.heap.size w w') : LT w' := tabBelow_of_tabIs h w' hb
theorem Itoa_t (x : Int) (h0 : -9223372036854775808 ≤ x) (h1 : x ≤ 9223372036854775807) (w : World) (hT : LT w) :
    Calls Tryd.prog 30 #[.int .i64 x] w fun e w' => e = .returned (.string (bt (itoa x))) ∧ Below w.heap.size w w' := by
  refine (Tryd.strconv_Itoa x h0 h1 w hT).mono ?_
  rintro e w' ⟨rfl, k, os, rfl⟩
  exact ⟨rfl, below_grow _ w (Nat.le_refl _) k os⟩
end Go.Proofs.YtbmdnmjgijblpaaDoor
