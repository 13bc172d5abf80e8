/-
  The maker of trees: a number below n out of the next byte; a name, a literal, the operators of two.
-/
import Derived.Test.YtljiiniocnljmaaVb
namespace Go.Proofs.Ytljiiniocnljmaa
open Go.RowKit Go.Lib
def nm8 : List (List UInt8) := [[97], [98], [99], [100], [120, 49], [95, 121], [113], [114]]
def nu8 : List (List UInt8) := [[48], [49], [50], [55], [52, 39, 98, 49, 48, 49, 48], [56, 39, 104, 102, 102], [51, 39, 115, 100, 50], [49, 95, 48]]
def op21 : List (List UInt8) := [[43], [45], [42], [47], [37], [38], [124], [94], [126, 94], [60, 60], [62, 62], [60, 60, 60], [62, 62, 62], [60], [60, 61], [62], [62, 61], [61, 61], [33, 61], [38, 38], [124, 124]]
def cl4 : List (List UInt8) := [[102], [103], [36, 115, 105, 103, 110, 101, 100], [36, 117, 110, 115, 105, 103, 110, 101, 100]]
abbrev tabS (L : List (List UInt8)) : Array Value := (L.map fun l => Value.string ⟨l.toArray⟩).toArray
theorem tab_cell {w : World} {g : Nat} {L : List (List UInt8)} {T : TypeId} (h : w.heap[g]? = some (.cells (tabS L) T (0, 0))) (r : Nat) (hr : r < L.length) : w.cell? ⟨g, r, none⟩ = some (.string ⟨L[r].toArray⟩) := by
  rw [Lib.cell_of_heap h]
  simp [tabS, hr]
theorem tab_list (l : List UInt8) : (⟨l.toArray⟩ : ByteArray).toList = l := by rw [Go.Lib.toList_data]
/-- The maker's block: the bytes, and how many of them are used; all of it lies below B. -/
def MKm (w : World) (p B : Nat) : Prop := p < B ∧ B ≤ w.heap.size ∧ ∃ A n c k, w.heap[p]? = some (.cells #[.slice A n c, .int .i64 ((k : Nat) : Int)] 27 (0, 0)) ∧ k ≤ n ∧ n ≤ 300 ∧ (0 < n → ∃ b o : Nat, A = some ⟨b, o, none⟩ ∧ b ≠ p ∧ b < B ∧ ∀ i, i < n → ∃ u : Nat, u < 256 ∧ w.cell? ⟨b, o + i, none⟩ = some (.int .u8 (u : Int)))
theorem MKm.kept {w w' : World} {p B : Nat} (h : MKm w p B) (k : ∀ b, b < B → w'.heap[b]? = w.heap[b]?) (hs : w.heap.size ≤ w'.heap.size) : MKm w' p B := by
  obtain ⟨hp, hB, A, n, c, q, hg, hq, hn, hd⟩ := h
  refine ⟨hp, Nat.le_trans hB hs, A, n, c, q, (k p hp).trans hg, hq, hn, fun h0 => ?_⟩
  obtain ⟨b, o, e, hb, hl, hc⟩ := hd h0
  refine ⟨b, o, e, hb, hl, fun i hi => ?_⟩
  obtain ⟨u, hu, hc⟩ := hc i hi
  exact ⟨u, hu, (World.cell?_of_block (k b hl)).trans hc⟩
theorem MKm.over {w w' : World} {p B : Nat} (h : MKm w p B) (k : Below w.heap.size w w') : MKm w' p B := h.kept (fun b hb => k.block b (Nat.lt_of_lt_of_le hb h.2.1)) k.size
theorem MKm.alloc {w : World} {p B : Nat} (h : MKm w p B) (o : Obj) : MKm (w.alloc o) p B := h.over ((Below.refl _ w).alloc (Nat.le_refl _) o)
theorem MKm.drew {w : World} {p B : Nat} (h : MKm w p B) : MKm w.drew p B := h
theorem MKm.lt {w : World} {p B : Nat} (h : MKm w p B) : p < w.heap.size := Nat.lt_of_lt_of_le h.1 h.2.1
theorem Keep.dr {F : Nat → Prop} {w w' : World} (h : Keep F w w') : Keep F w w'.drew := ⟨h.os, h.tape, h.output, h.size, h.block⟩
/-- What Next leaves. -/
def NX (n p B : Nat) (w : World) (e : Ending) (w' : World) : Prop := ∃ r : Nat, r < n ∧ e = .returned (.int .i64 (r : Int)) ∧ MKm w' p B ∧ Keep (· = p) w w'
set_option maxRecDepth 100000 in
set_option maxHeartbeats 1600000 in
theorem Next_t (p B n : Nat) (w : World) (hn : 0 < n) (hn2 : n ≤ 1000) (hM : MKm w p B) : Calls Try.prog 13 #[.pointer (some ⟨p, 0, none⟩), .int .i64 (n : Int)] w (NX n p B w) := by
  have hM0 := hM
  obtain ⟨hpB, hBs, A, m, c, k, hg, hk, hm, hd⟩ := hM
  have hpl := lt_of_get hg
  have c0 : w.cell? ⟨p, 0, none⟩ = some (.slice A m c) := by rw [Lib.cell_of_heap hg]; rfl
  have c1 : w.cell? ⟨p, 1, none⟩ = some (.int .i64 (k : Int)) := by rw [Lib.cell_of_heap hg]; rfl
  have cf : ∀ i, w.frozen? ⟨p, i, none⟩ = false := fun i => Lib.frozen_of_heap hg i
  by_cases h0 : k < m
  · obtain ⟨b, o, rfl, hbp, hbl, hc⟩ := hd (by omega)
    obtain ⟨u, hu, cu⟩ := hc k h0
    have hN1 : MKm (w.setCell ⟨p, 1, none⟩ (.int .i64 (((k + 1 : Nat) : Int)))) p B := by
      refine ⟨hpB, by rw [World.size_setCell]; exact hBs, _, m, c, k + 1, heap_set w p 1 _ _ _ hg, by omega, hm, fun _ => ⟨b, o, rfl, hbp, hbl, fun i hi => ?_⟩⟩
      obtain ⟨v, hv, cv⟩ := hc i hi
      refine ⟨v, hv, ?_⟩
      rw [← cv]
      exact World.cell?_of_block (Below.heap_setCell w ⟨p, 1, none⟩ _ b hbp)
    have hK1 : Keep (· = p) w (w.setCell ⟨p, 1, none⟩ (.int .i64 (((k + 1 : Nat) : Int)))) := (Keep.refl (fun x => x = p) w).set ⟨p, 1, none⟩ rfl _
    have ht : ((u : Int)).tmod (n : Int) = ((u % n : Nat) : Int) := rfl
    have hr := Nat.mod_lt u hn
    obtain ⟨r, hre⟩ : ∃ r, u % n = r := ⟨_, rfl⟩
    rw [hre] at ht hr
    have hcu : (w.setCell ⟨p, 1, none⟩ (.int .i64 (((k + 1 : Nat) : Int)))).cell? ⟨b, o + k, none⟩ = some (.int .u8 (u : Int)) := (World.cell?_of_block (Below.heap_setCell w ⟨p, 1, none⟩ _ b hbp)).trans cu
    have hkw : IntKind.i64.wrap ((k : Int) + 1) = ((k + 1 : Nat) : Int) := by rw [IntWalk.i64_in _ (by omega)]; rfl
    obtain ⟨q, hq⟩ : ∃ q, k + 1 = q := ⟨_, rfl⟩
    have hq1 : IntKind.i64.wrap ((q : Int) - 1) = (k : Int) := by rw [IntWalk.i64_in _ (by omega)]; omega
    have hqm : q ≤ m := by omega
    have hnz : ¬ n = 0 := by omega
    have hnz2 : ¬ (n : Int) = 0 := by omega
    rw [hq] at hN1 hK1 hcu hkw
    have hu64 : IntKind.i64.wrap (u : Int) = (u : Int) := IntWalk.i64_in _ (by omega)
    clear hd hM0 hg hre hc hq
    replace hN1 := Lib.hid hN1
    replace hK1 := Lib.hid hK1
    have hge : decide ((m : Int) ≤ (k : Int)) = false := by simp; omega
    go_enter Try.func13, Try.ntmps13
    go_wp2_with fail
    go_region
    go_wp2_with fail
    go_region
    go_wp2_with fail
    go_ret
    exact ⟨r, hr, rfl, hN1.out, hK1.out.dr.dr⟩
  · have hge : decide ((m : Int) ≤ (k : Int)) = true := by simp; omega
    have hge2 : (m : Int) ≤ (k : Int) := by omega
    replace hM0 := Lib.hid hM0
    clear hd hg
    go_enter Try.func13, Try.ntmps13
    go_wp2_with fail
    go_region
    go_wp2_with fail
    go_ret
    exact ⟨0, hn, rfl, hM0.out.drew, ⟨rfl, rfl, rfl, Nat.le_refl _, fun _ _ _ => rfl⟩⟩
/-- One of some texts; the maker went on. -/
def NS (L : List (List UInt8)) (p B : Nat) (w : World) (e : Ending) (w' : World) : Prop := ∃ s, e = .returned (.string s) ∧ s.toList ∈ L ∧ MKm w' p B ∧ Keep (· = p) w w'
theorem Keep.al0 (F : Nat → Prop) (w : World) (o : Obj) : Keep F w (w.alloc o) := Keep.of_below ((Below.refl _ w).alloc (Nat.le_refl _) o)
theorem Keep.then {F : Nat → Prop} {a b c : World} (h : Keep F a b) (k : Keep F b c) : Keep F a c := h.trans k fun _ hx => .inl hx
set_option maxRecDepth 100000 in
set_option maxHeartbeats 1600000 in
theorem mname_t (p B : Nat) (w : World) (hM : MKm w p B) : Calls Try.prog 14 #[.pointer (some ⟨p, 0, none⟩)] w (NS nm8 p B w) := by
  have hN : ∀ W, MKm W p B → Calls Try.prog 13 #[.pointer (some ⟨p, 0, none⟩), .int .i64 8] W (NX 8 p B W) := fun W q => Next_t p B 8 W (by decide) (by decide) q
  have hpl := hM.lt
  have hR : (w.alloc (.cells #[.string ⟨#[97]⟩, .string ⟨#[98]⟩, .string ⟨#[99]⟩, .string ⟨#[100]⟩, .string ⟨#[120, 49]⟩, .string ⟨#[95, 121]⟩, .string ⟨#[113]⟩, .string ⟨#[114]⟩] 9)).heap[w.heap.size]? = some (.cells (tabS nm8) 9 (0, 0)) := heap_alloc_new w _
  have hM1 := hM.alloc (.cells #[.string ⟨#[97]⟩, .string ⟨#[98]⟩, .string ⟨#[99]⟩, .string ⟨#[100]⟩, .string ⟨#[120, 49]⟩, .string ⟨#[95, 121]⟩, .string ⟨#[113]⟩, .string ⟨#[114]⟩] 9)
  have hk1 := Keep.al0 (· = p) w (.cells #[.string ⟨#[97]⟩, .string ⟨#[98]⟩, .string ⟨#[99]⟩, .string ⟨#[100]⟩, .string ⟨#[120, 49]⟩, .string ⟨#[95, 121]⟩, .string ⟨#[113]⟩, .string ⟨#[114]⟩] 9)
  have hz : (w.alloc (.cells #[.string ⟨#[97]⟩, .string ⟨#[98]⟩, .string ⟨#[99]⟩, .string ⟨#[100]⟩, .string ⟨#[120, 49]⟩, .string ⟨#[95, 121]⟩, .string ⟨#[113]⟩, .string ⟨#[114]⟩] 9)).heap.size = w.heap.size + 1 := by simp
  unfold NX at hN
  replace hN := Lib.hid hN
  replace hR := Lib.hid hR
  replace hM1 := Lib.hid hM1
  replace hk1 := Lib.hid hk1
  replace hz := Lib.hid hz
  go_enter Try.func14, Try.ntmps14
  go_wp2_with fail
  (with_reducible refine (hN.out _ hM1.out).mono ?_)
  rintro e w1 ⟨r, hr, rfl, hM2, hk2⟩
  have hR1 := (hk2.block w.heap.size (by rw [hz.out]; omega) (by omega)).trans hR.out
  have cr := tab_cell hR1 r hr
  have hmem : (⟨(nm8[r]'hr).toArray⟩ : ByteArray).toList ∈ nm8 := by rw [tab_list]; exact List.getElem_mem hr
  have hl1 := lt_of_get hR1
  obtain ⟨s, hs⟩ : ∃ s, (⟨(nm8[r]'hr).toArray⟩ : ByteArray) = s := ⟨_, rfl⟩
  rw [hs] at cr hmem
  have hbw := hk1.out.then hk2
  clear hs hk2 hR1
  replace hbw := Lib.hid hbw
  replace hM2 := Lib.hid hM2
  replace hmem := Lib.hid hmem
  go_wp2_with fail
  go_ret
  exact ⟨s, rfl, hmem.out, hM2.out, hbw.out⟩
set_option maxRecDepth 100000 in
set_option maxHeartbeats 1600000 in
theorem mnumber_t (p B : Nat) (w : World) (hM : MKm w p B) : Calls Try.prog 15 #[.pointer (some ⟨p, 0, none⟩)] w (NS nu8 p B w) := by
  have hN : ∀ W, MKm W p B → Calls Try.prog 13 #[.pointer (some ⟨p, 0, none⟩), .int .i64 8] W (NX 8 p B W) := fun W q => Next_t p B 8 W (by decide) (by decide) q
  have hpl := hM.lt
  have hR : (w.alloc (.cells #[.string ⟨#[48]⟩, .string ⟨#[49]⟩, .string ⟨#[50]⟩, .string ⟨#[55]⟩, .string ⟨#[52, 39, 98, 49, 48, 49, 48]⟩, .string ⟨#[56, 39, 104, 102, 102]⟩, .string ⟨#[51, 39, 115, 100, 50]⟩, .string ⟨#[49, 95, 48]⟩] 9)).heap[w.heap.size]? = some (.cells (tabS nu8) 9 (0, 0)) := heap_alloc_new w _
  have hM1 := hM.alloc (.cells #[.string ⟨#[48]⟩, .string ⟨#[49]⟩, .string ⟨#[50]⟩, .string ⟨#[55]⟩, .string ⟨#[52, 39, 98, 49, 48, 49, 48]⟩, .string ⟨#[56, 39, 104, 102, 102]⟩, .string ⟨#[51, 39, 115, 100, 50]⟩, .string ⟨#[49, 95, 48]⟩] 9)
  have hk1 := Keep.al0 (· = p) w (.cells #[.string ⟨#[48]⟩, .string ⟨#[49]⟩, .string ⟨#[50]⟩, .string ⟨#[55]⟩, .string ⟨#[52, 39, 98, 49, 48, 49, 48]⟩, .string ⟨#[56, 39, 104, 102, 102]⟩, .string ⟨#[51, 39, 115, 100, 50]⟩, .string ⟨#[49, 95, 48]⟩] 9)
  have hz : (w.alloc (.cells #[.string ⟨#[48]⟩, .string ⟨#[49]⟩, .string ⟨#[50]⟩, .string ⟨#[55]⟩, .string ⟨#[52, 39, 98, 49, 48, 49, 48]⟩, .string ⟨#[56, 39, 104, 102, 102]⟩, .string ⟨#[51, 39, 115, 100, 50]⟩, .string ⟨#[49, 95, 48]⟩] 9)).heap.size = w.heap.size + 1 := by simp
  unfold NX at hN
  replace hN := Lib.hid hN
  replace hR := Lib.hid hR
  replace hM1 := Lib.hid hM1
  replace hk1 := Lib.hid hk1
  replace hz := Lib.hid hz
  go_enter Try.func15, Try.ntmps15
  go_wp2_with fail
  (with_reducible refine (hN.out _ hM1.out).mono ?_)
  rintro e w1 ⟨r, hr, rfl, hM2, hk2⟩
  have hR1 := (hk2.block w.heap.size (by rw [hz.out]; omega) (by omega)).trans hR.out
  have cr := tab_cell hR1 r hr
  have hmem : (⟨(nu8[r]'hr).toArray⟩ : ByteArray).toList ∈ nu8 := by rw [tab_list]; exact List.getElem_mem hr
  have hl1 := lt_of_get hR1
  obtain ⟨s, hs⟩ : ∃ s, (⟨(nu8[r]'hr).toArray⟩ : ByteArray) = s := ⟨_, rfl⟩
  rw [hs] at cr hmem
  have hbw := hk1.out.then hk2
  clear hs hk2 hR1
  replace hbw := Lib.hid hbw
  replace hM2 := Lib.hid hM2
  replace hmem := Lib.hid hmem
  go_wp2_with fail
  go_ret
  exact ⟨s, rfl, hmem.out, hM2.out, hbw.out⟩
/-- The operators of two, in a new row. -/
theorem mops_t (w : World) : Calls Try.prog 17 #[] w fun e w' => e = .returned (.slice (some ⟨w.heap.size, 0, none⟩) 21 21) ∧ w'.heap[w.heap.size]? = some (.cells (tabS op21) 9 (0, 0)) ∧ Below w.heap.size w w' := by
  have hR : (w.alloc (.cells #[.string ⟨#[43]⟩, .string ⟨#[45]⟩, .string ⟨#[42]⟩, .string ⟨#[47]⟩, .string ⟨#[37]⟩, .string ⟨#[38]⟩, .string ⟨#[124]⟩, .string ⟨#[94]⟩, .string ⟨#[126, 94]⟩, .string ⟨#[60, 60]⟩, .string ⟨#[62, 62]⟩, .string ⟨#[60, 60, 60]⟩, .string ⟨#[62, 62, 62]⟩, .string ⟨#[60]⟩, .string ⟨#[60, 61]⟩, .string ⟨#[62]⟩, .string ⟨#[62, 61]⟩, .string ⟨#[61, 61]⟩, .string ⟨#[33, 61]⟩, .string ⟨#[38, 38]⟩, .string ⟨#[124, 124]⟩] 9)).heap[w.heap.size]? = some (.cells (tabS op21) 9 (0, 0)) := heap_alloc_new w _
  have hb := (Below.refl w.heap.size w).alloc (Nat.le_refl _) (.cells #[.string ⟨#[43]⟩, .string ⟨#[45]⟩, .string ⟨#[42]⟩, .string ⟨#[47]⟩, .string ⟨#[37]⟩, .string ⟨#[38]⟩, .string ⟨#[124]⟩, .string ⟨#[94]⟩, .string ⟨#[126, 94]⟩, .string ⟨#[60, 60]⟩, .string ⟨#[62, 62]⟩, .string ⟨#[60, 60, 60]⟩, .string ⟨#[62, 62, 62]⟩, .string ⟨#[60]⟩, .string ⟨#[60, 61]⟩, .string ⟨#[62]⟩, .string ⟨#[62, 61]⟩, .string ⟨#[61, 61]⟩, .string ⟨#[33, 61]⟩, .string ⟨#[38, 38]⟩, .string ⟨#[124, 124]⟩] 9)
  replace hR := Lib.hid hR
  replace hb := Lib.hid hb
  go_enter Try.func17, Try.ntmps17
  go_wp2_with fail
  go_ret
  exact ⟨rfl, hR.out, hb.out⟩
end Go.Proofs.Ytljiiniocnljmaa
