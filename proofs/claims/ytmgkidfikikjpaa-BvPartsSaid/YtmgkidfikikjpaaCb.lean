/-
  The library's Backward over a slice of vectors: what it hands back, and its rounds: the vectors from the last to the first.
-/
import Derived.Test.YtmgkidfikikjpaaCa
import Derived.Test.YtmgkidfikikjpaaYd
namespace Go.Proofs.Ytmgkidfikikjpaa
open Go Go.RowKit Go.Shelf
attribute [local go_sem] Oper.semAt_some
/-- The first k of the numbers from n - 1 down to 0. -/
def dn (n k : Nat) : List Nat := (List.range k).map fun i => n - 1 - i
theorem dn_succ (n k : Nat) : dn n (k + 1) = dn n k ++ [n - 1 - k] := by simp [dn, List.range_succ]
theorem dn_len (n k : Nat) : (dn n k).length = k := by simp [dn]
/-- A block lies as it lay, and whatever lay below n₀. -/
def KB (n₀ B : Nat) (w w' : World) : Prop := Below n₀ w w' ∧ w'.heap[B]? = w.heap[B]?
theorem KB.t {n₀ B : Nat} {u v w : World} (h : KB n₀ B u v) (k : KB n₀ B v w) : KB n₀ B u w := ⟨h.1.trans k.1, k.2.trans h.2⟩
theorem cell_block {w w' : World} {b o : Nat} (h : w'.heap[b]? = w.heap[b]?) : w'.cell? ⟨b, o, none⟩ = w.cell? ⟨b, o, none⟩ := by unfold World.cell?; simp only [h]
/-- A slice of vectors: the j-th has nn j bits and is the number xx j. -/
def RV3 (w : World) (A : Option Addr) (len : Nat) (nn xx : Nat → Nat) : Prop := 0 < len → ∃ b off : Nat, A = some ⟨b, off, none⟩ ∧ b < w.heap.size ∧ ∀ j, j < len →
  w.cell? ⟨b, off + j * 3, none⟩ = some (.int .i64 (nn j : Int)) ∧ w.cell? ⟨b, off + j * 3 + 1, none⟩ = some (.int .u64 ((lo (xx j) : Nat) : Int)) ∧ w.cell? ⟨b, off + j * 3 + 2, none⟩ = some (.int .u64 ((hi (xx j) : Nat) : Int))
theorem RV3.keep {w w' : World} {A : Option Addr} {len : Nat} {nn xx : Nat → Nat} (h : RV3 w A len nn xx) {n₀ : Nat} (hb : Below n₀ w w') (hn : w.heap.size ≤ n₀) : RV3 w' A len nn xx := fun h0 => by
  obtain ⟨b, off, e, hl, hc⟩ := h h0
  refine ⟨b, off, e, Nat.lt_of_lt_of_le hl hb.size, fun j hj => ?_⟩
  obtain ⟨h1, h2, h3⟩ := hc j hj
  exact ⟨(hb.cell (p := ⟨b, off + j * 3, none⟩) (by show b < n₀; omega)).trans h1, (hb.cell (p := ⟨b, off + j * 3 + 1, none⟩) (by show b < n₀; omega)).trans h2, (hb.cell (p := ⟨b, off + j * 3 + 2, none⟩) (by show b < n₀; omega)).trans h3⟩
set_option maxRecDepth 100000 in
set_option maxHeartbeats 1000000 in
theorem back_in (len cap : Nat) (A : Option Addr) (w : World) :
    Calls Try.prog 54 #[.slice A len cap] w fun e w' => e = .returned (.func (.func 71) #[] #[.pointer (some ⟨w.heap.size, 0, none⟩)]) ∧ w' = w.alloc (.cells #[.slice A len cap] 78) := by
  go_enter Try.func54, Try.ntmps54
  go_wp2
  go_ret
  exact ⟨rfl, rfl⟩
set_option maxRecDepth 100000 in
set_option maxHeartbeats 2000000 in
theorem back1_in (F : Fence) (n : Nat) (hf : F.fn 71) (hro : F.round = none) (hn : 1 ≤ n) (l Bs n₀ len cap : Nat) (A : Option Addr) (nn xx : Nat → Nat) (J Jx : List Nat → World → Prop)
    (hY : ∀ pre (x : Nat) W, J pre W → pre.length < len → YieldAt F (n - 1) Try.prog l #[.int .i64 (x : Int), vv (nn x) (xx x)] W fun e W' =>
      (e = .returned (.bool true) ∧ J (pre ++ [x]) W' ∧ KB n₀ Bs W W') ∨ (e = .returned (.bool false) ∧ Jx (pre ++ [x]) W'))
    (w W : World) (hw : w.heap.size = n₀) (hwW : Below n₀ w W) (hBs : W.cell? ⟨Bs, 0, none⟩ = some (.slice A len cap)) (hR : RV3 w A len nn xx) (hlen : len ≤ 1000) (h0 : J [] W) :
    CallsIn F n Try.prog 71 #[.func (.yield l) #[] #[], .pointer (some ⟨Bs, 0, none⟩)] W fun e W' => (∃ v, e = .returned v) ∧
      ((∃ ys, ys = dn len len ∧ J ys W') ∨ (∃ pre, (∃ k, k ≤ len ∧ pre = dn len k) ∧ Jx pre W')) := by
  have hR' := Lib.hid hR
  replace hY := Lib.hid hY
  clear hR
  refine callsIn_of_wp Try.func71 rfl hf ?_ hro
  simp only [Try.ntmps71, List.size_toArray, List.length_cons, List.length_nil, Nat.reduceAdd, Nat.reduceSub, Array.replicate_succ, Array.replicate_zero, List.push_toArray, List.append_toArray, List.nil_append, List.cons_append]
  gi_wp2
  gi_loopw [3] (fun i wr => ∃ k : Nat, k ≤ len ∧ ((k = len ∧ i = .int .i64 (-1)) ∨ ∃ s : Nat, len = k + (s + 1) ∧ i = .int .i64 (s : Int)) ∧ J (dn len k) wr ∧ KB n₀ Bs W wr)
    (fun i _ => (intOf i + 1).toNat)
  case atStart =>
    refine ⟨0, Nat.zero_le _, ?_, h0, Below.refl _ _, rfl⟩
    rcases Nat.eq_zero_or_pos len with h | h
    · exact .inl ⟨h.symm, by rw [h]; rfl⟩
    · exact .inr ⟨len - 1, by omega, by congr 1; omega⟩
  case round =>
    obtain ⟨k, hk, hc, hJs, hkb⟩ := hrel
    have hbs : wr.cell? ⟨Bs, 0, none⟩ = some (.slice A len cap) := (cell_block hkb.2).trans hBs
    rcases hc with ⟨rfl, rfl⟩ | ⟨s, hs, rfl⟩
    · gi_wp2
      go_end0
      exact ⟨⟨_, rfl⟩, .inl ⟨_, rfl, hJs⟩⟩
    · obtain ⟨b, off, rfl, hb, hcs⟩ := hR'.out (by omega)
      obtain ⟨h1, h2, h3⟩ := hcs s (by omega)
      have hB : Below n₀ w wr := hwW.trans hkb.1
      have c1 := (hB.cell (p := ⟨b, off + s * 3, none⟩) (by show b < n₀; omega)).trans h1
      have c2 := (hB.cell (p := ⟨b, off + s * 3 + 1, none⟩) (by show b < n₀; omega)).trans h2
      have c3 := (hB.cell (p := ⟨b, off + s * 3 + 2, none⟩) (by show b < n₀; omega)).trans h3
      have hsx : len - 1 - k = s := by omega
      have hsl : (s : Int) < (len : Int) := by omega
      have hnx : ((k + 1 = len ∧ Value.int .i64 ((s : Int) - 1) = Value.int .i64 (-1)) ∨ ∃ s' : Nat, len = k + 1 + (s' + 1) ∧ Value.int .i64 ((s : Int) - 1) = Value.int .i64 (s' : Int)) := by
        rcases Nat.eq_zero_or_pos s with h | h
        · exact .inl ⟨by omega, by rw [h]; rfl⟩
        · exact .inr ⟨s - 1, by omega, by congr 1; omega⟩
      replace hnx := Lib.hid hnx
      obtain ⟨fn, tmps, assign, body, hy, hRd⟩ := hY.out _ s wr hJs (by rw [dn_len]; omega)
      have hd : dn len k ++ [s] = dn len (k + 1) := by rw [dn_succ, hsx]
      rw [hd] at hRd
      unfold vv at hy
      try dsimp only at hy
      have hk1 : k + 1 ≤ len := by omega
      clear h1 h2 h3 hcs hb hs hsx hd
      gi_wp2
      refine hRd.mono ?_
      rintro e W3 (⟨rfl, hJ3, hk3⟩ | ⟨rfl, hJx3⟩)
      · gi_wp2
        go_roundw
        case rel => exact ⟨k + 1, hk1, hnx.out, hJ3, hkb.t hk3⟩
        case measure => simp [intOf] <;> omega
      · gi_wp2
        refine bodyPost_ret (results_none rfl _ _ _) rfl ?_
        exact ⟨⟨_, rfl⟩, .inr ⟨_, ⟨k + 1, hk1, rfl⟩, hJx3⟩⟩
theorem back_stops (F : Fence) (n : Nat) (hf : F.fn 71) (hro : F.round = none) (hn : 1 ≤ n) (Bs n₀ len cap : Nat) (A : Option Addr) (nn xx : Nat → Nat) (hlen : len ≤ 1000) (w u : World) (hw : w.heap.size = n₀) (hwu : Below n₀ w u) (hBs : Bs < u.heap.size)
    (hc : u.cell? ⟨Bs, 0, none⟩ = some (.slice A len cap)) (hR : RV3 w A len nn xx) :
    SeqStopsK F n Try.prog 71 #[.pointer (some ⟨Bs, 0, none⟩)] (fun x : Nat => #[Value.int .i64 (x : Int), vv (nn x) (xx x)]) (KB n₀ Bs) (fun ys => ys = dn len len) (fun pre => ∃ k, k ≤ len ∧ pre = dn len k) len u := fun l J Jx W hW _ _ hY h0 =>
  back1_in F n hf hro hn l Bs n₀ len cap A nn xx J Jx hY w W hw (hwu.trans (hW.mono (hw ▸ hwu.size))) ((hW.cell (p := ⟨Bs, 0, none⟩) hBs).trans hc) hR hlen h0
end Go.Proofs.Ytmgkidfikikjpaa
