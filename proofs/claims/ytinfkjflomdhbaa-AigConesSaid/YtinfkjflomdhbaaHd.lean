/-
  slices.Reverse of a slice of numbers that the call owns.
-/
import Derived.Test.YtinfkjflomdhbaaGr
import Derived.Test.YtinfkjflomdhbaaHc
namespace Go.Proofs.Ytinfkjflomdhbaa
open Go.RowKit Go.Lib Go.Maps
/-- Behind i swaps. -/
def rvI (L : List Nat) (i j : Nat) : Nat := if j < i ∨ L.length - i ≤ j then L.getD (L.length - 1 - j) 0 else L.getD j 0
theorem rvI_zero (L : List Nat) (j : Nat) (h : j < L.length) : rvI L 0 j = L.getD j 0 := by unfold rvI; rw [if_neg (by omega)]
theorem rvI_end (L : List Nat) (i j : Nat) (h : L.length ≤ 2 * i + 1) (hj : j < L.length) : rvI L i j = L.reverse.getD j 0 := by
  have e : L.reverse.getD j 0 = L.getD (L.length - 1 - j) 0 := by
    rw [List.getD_eq_getElem?_getD, List.getElem?_reverse hj, List.getD_eq_getElem?_getD]
  rw [e]
  unfold rvI
  split
  · rfl
  · rw [show L.length - 1 - j = j by omega]
theorem rvI_step (L : List Nat) (i j : Nat) (h : 2 * i + 1 < L.length) (hj : j < L.length) :
    rvI L (i + 1) j = if j = L.length - 1 - i then rvI L i i else if j = i then rvI L i (L.length - 1 - i) else rvI L i j := by
  unfold rvI
  by_cases e1 : j = L.length - 1 - i
  · rw [if_pos e1, if_pos (by omega), if_neg (by omega), show L.length - 1 - j = i by omega]
  · rw [if_neg e1]
    by_cases e2 : j = i
    · rw [if_pos e2, if_pos (by omega), if_neg (by omega), e2]
    · rw [if_neg e2]
      by_cases e3 : j < i ∨ L.length - i ≤ j
      · rw [if_pos e3, if_pos (by omega)]
      · rw [if_neg e3, if_neg (by omega)]
theorem own_of_cells {w : World} {B g n cap : Nat} {cur : Array Value} {T : TypeId} (L : List Nat) (hB : B ≤ g) (hb : w.heap[g]? = some (.cells cur T (0, 0))) (hn : n = L.length) (hc : n ≤ cap) (hm : cap ≤ maxLen) (hs : cur.size = cap * 1)
    (hg : ∀ j, j < n → cur[j]? = some (.int .i64 ((L.getD j 0 : Nat) : Int))) : w.ownsRow B T 1 (.slice (some ⟨g, 0, none⟩) n cap) n (iv L) := by
  refine ⟨by simp [hn], .inr ⟨g, cap, cur, rfl, hB, hb, hc, hm, hs, ?_⟩⟩
  apply List.ext_getElem?
  intro j
  rw [Nat.mul_one]
  by_cases hj : j < n
  · rw [List.getElem?_take_of_lt hj, Array.getElem?_toList, hg j hj, List.getElem?_map, List.getElem?_eq_getElem (by omega), List.getD_eq_getElem?_getD, List.getElem?_eq_getElem (by omega)]
    rfl
  · rw [List.getElem?_eq_none (by rw [List.length_take]; omega), List.getElem?_eq_none (by simp; omega)]
set_option maxRecDepth 100000 in
set_option maxHeartbeats 3200000 in
theorem Rev_t {B : Nat} (v : Value) (L : List Nat) (w : World) (ho : w.ownsRow B 3 1 v L.length (iv L)) (hl : L.length ≤ 1000000) :
    Calls Try.prog 35 #[v] w fun e w' => e = .returned (.tuple #[]) ∧ w'.ownsRow B 3 1 v L.length (iv L.reverse) ∧ Keep (fun b => v.ownBlock = some b) w w' := by
  by_cases h0 : L.length = 0
  · obtain ⟨A, c, rfl⟩ := own_shape ho
    have e : L = [] := List.length_eq_zero_iff.1 h0
    subst e
    have ho' := Lib.hid ho
    clear ho
    go_enter Try.func35, Try.ntmps35
    go_wp2_with fail
    go_loopw [2, 3] (fun i j wr => i = .int .i64 0 ∧ j = .int .i64 (-1) ∧ wr = w) (fun _ _ _ => 0)
    case atStart => exact ⟨rfl, rfl, rfl⟩
    case round =>
      obtain ⟨rfl, rfl, rfl⟩ := hrel
      go_wp2_with fail
      refine bodyPost_end (v := .tuple #[]) (by simp [results, Try.results35, go_sem]) rfl ?_
      exact ⟨rfl, ho'.out, Keep.refl _ _⟩
  · have hsz := ho.2
    rcases hsz with ⟨_, e⟩ | ⟨g, cap, cur, rfl, hB, hb, hc, hm, hs, ht⟩
    · omega
    have hcur : ∀ j, j < L.length → cur[j]? = some (.int .i64 ((L.getD j 0 : Nat) : Int)) := fun j hj => by
      have h1 := ho.cells (g := g) rfl j (.int .i64 ((L.getD j 0 : Nat) : Int)) (by rw [List.getElem?_map, List.getElem?_eq_getElem hj, List.getD_eq_getElem?_getD, List.getElem?_eq_getElem hj]; rfl)
      rw [addr_add, Lib.cell_of_heap hb] at h1
      exact h1
    obtain ⟨n, hn⟩ : ∃ n, L.length = n := ⟨_, rfl⟩
    have hz := fun j (h : j < L.length) => rvI_zero L j h
    have hst := fun i j (h : 2 * i + 1 < L.length) (hj : j < L.length) => rvI_step L i j h hj
    have hen := fun i j (h : L.length ≤ 2 * i + 1) (hj : j < L.length) => rvI_end L i j h hj
    have hfin := fun (W : World) (cur' : Array Value) (hb' : W.heap[g]? = some (.cells cur' 3 (0, 0))) (hs' : cur'.size = cap * 1) (hg' : ∀ j, j < L.reverse.length → cur'[j]? = some (.int .i64 ((L.reverse.getD j 0 : Nat) : Int))) => own_of_cells (w := W) (B := B) (n := L.reverse.length) L.reverse hB hb' rfl (by rw [List.length_reverse]; exact hc) hm hs' hg'
    rw [List.length_reverse] at hfin
    rw [hn] at hz hst hen hfin hcur hl h0 ⊢
    replace hz := Lib.hid hz
    replace hst := Lib.hid hst
    replace hen := Lib.hid hen
    replace hfin := Lib.hid hfin
    replace hcur := Lib.hid hcur
    replace hn := Lib.hid hn
    replace hb := Lib.hid hb
    replace hs := Lib.hid hs
    have hpos : 1 ≤ n := by omega
    clear ho ht hc hm h0
    go_enter Try.func35, Try.ntmps35
    go_wp2_with fail
    go_loopw [2, 3] (fun iw jw wr => ∃ (i : Nat) (cur' : Array Value), 2 * i ≤ n ∧ iw = .int .i64 (i : Int) ∧ jw = .int .i64 ((n : Int) - 1 - (i : Int)) ∧ wr.heap[g]? = some (.cells cur' 3 (0, 0)) ∧ cur'.size = cap * 1 ∧ (∀ j, j < n → cur'[j]? = some (.int .i64 ((rvI L i j : Nat) : Int))) ∧ Keep (fun b => (Value.slice (some ⟨g, 0, none⟩) n cap).ownBlock = some b) w wr) (fun iw _ _ => n - (intOf iw).toNat)
    case atStart => exact ⟨0, cur, by omega, rfl, by simp, hb.out, hs.out, fun j hj => by rw [hz.out j hj]; exact hcur.out j hj, Keep.refl _ _⟩
    case round =>
      obtain ⟨i, cur', hi, rfl, rfl, hbr, hsr, hcr, hkr⟩ := hrel
      by_cases hlt : 2 * i + 1 < n
      · have hji : ((n : Int) - 1 - (i : Int)) = ((n - 1 - i : Nat) : Int) := by omega
        obtain ⟨j, hj⟩ : ∃ j, n - 1 - i = j := ⟨_, rfl⟩
        rw [hj] at hji
        rw [hji]
        have hij : i < j := by omega
        have hjn : j < n := by omega
        have ci : wr.cell? ⟨g, i, none⟩ = some (.int .i64 ((rvI L i i : Nat) : Int)) := by rw [Lib.cell_of_heap hbr]; exact hcr i (by omega)
        have cj : wr.cell? ⟨g, j, none⟩ = some (.int .i64 ((rvI L i j : Nat) : Int)) := by rw [Lib.cell_of_heap hbr]; exact hcr j hjn
        have cf : ∀ x, wr.frozen? ⟨g, x, none⟩ = false := fun x => Lib.frozen_of_heap hbr x
        have cl := lt_of_get hbr
        obtain ⟨x, hx⟩ : ∃ x : Int, ((rvI L i i : Nat) : Int) = x := ⟨_, rfl⟩
        obtain ⟨y, hy⟩ : ∃ y : Int, ((rvI L i j : Nat) : Int) = y := ⟨_, rfl⟩
        rw [hx] at ci
        rw [hy] at cj
        have fi := cf i
        have fj := cf j
        replace hbr := Lib.hid hbr
        replace hsr := Lib.hid hsr
        replace hcr := Lib.hid hcr
        replace hkr := Lib.hid hkr
        replace hx := Lib.hid hx
        replace hy := Lib.hid hy
        replace hji := Lib.hid hji
        clear cf
        go_wp2_with fail
        go_region
        have hb2 := heap_set wr g i _ _ (.int .i64 y) hbr.out
        have hb3 := heap_set _ g j _ _ (.int .i64 x) hb2
        have hks : Keep (fun b => (Value.slice (some ⟨g, 0, none⟩) n cap).ownBlock = some b) w ((wr.setCell ⟨g, i, none⟩ (.int .i64 y)).setCell ⟨g, j, none⟩ (.int .i64 x)).drew := by
          have h1 := (hkr.out.set ⟨g, i, none⟩ rfl (.int .i64 y)).set ⟨g, j, none⟩ rfl (.int .i64 x)
          exact ⟨h1.os, h1.tape, h1.output, h1.size, h1.block⟩
        have hcs : ∀ t, t < n → ((cur'.setIfInBounds i (.int .i64 y)).setIfInBounds j (.int .i64 x))[t]? = some (.int .i64 ((rvI L (i + 1) t : Nat) : Int)) := fun t ht => by
          have h1 := hcr.out t ht
          have hts : t < cur'.size := by
            rcases Nat.lt_or_ge t cur'.size with h | h
            · exact h
            · rw [Array.getElem?_eq_none h] at h1; cases h1
          rw [hst.out i t hlt ht, hj]
          rw [Array.getElem?_setIfInBounds, Array.size_setIfInBounds, Array.getElem?_setIfInBounds]
          by_cases e1 : t = j
          · rw [if_pos e1, if_pos e1.symm, if_pos (by omega), hx.out]
          · rw [if_neg e1, if_neg (fun e => e1 e.symm)]
            by_cases e2 : t = i
            · rw [if_pos e2, if_pos e2.symm, if_pos (by omega), hy.out]
            · rw [if_neg e2, if_neg (fun e => e2 e.symm)]
              exact h1
        have hss : ((cur'.setIfInBounds i (.int .i64 y)).setIfInBounds j (.int .i64 x)).size = cap * 1 := by rw [Array.size_setIfInBounds, Array.size_setIfInBounds]; exact hsr.out
        replace hb3 := Lib.hid hb3
        replace hks := Lib.hid hks
        replace hcs := Lib.hid hcs
        replace hss := Lib.hid hss
        clear hb2 hbr hcr hkr hsr ci cj fi fj cl
        go_wp2_with fail
        go_roundw
        case rel => exact ⟨i + 1, _, by omega, by go_num, by have := hji.out; congr 1; omega, hb3.out, hss.out, hcs.out, hks.out⟩
        case measure => simp [intOf]; omega
      · have hd : decide ((i : Int) < (n : Int) - 1 - (i : Int)) = false := by simp; omega
        have hd2 : ¬ (i : Int) < (n : Int) - 1 - (i : Int) := by omega
        have hf := hfin.out wr cur' hbr hsr fun j hj => by rw [← hen.out i j (by omega) hj]; exact hcr j hj
        replace hf := Lib.hid hf
        replace hkr := Lib.hid hkr
        clear hbr hsr hcr
        go_wp2_with fail
        refine bodyPost_end (v := .tuple #[]) (by simp [results, Try.results35, go_sem]) rfl ?_
        exact ⟨rfl, by rw [← List.map_reverse]; exact hf.out, hkr.out⟩
end Go.Proofs.Ytinfkjflomdhbaa
