/-
  Slices of strings in memory; an append of whatever slice of strings behind one that the call owns; what a name's text begins with.
-/
import Derived.Test.YtljiiniocnljmaaAf
import Derived.Maps.AppendAt
import Derived.Laws.AppendOwnNone
namespace Go.Proofs.Ytljiiniocnljmaa
open Go.RowKit Go.Lib
/-- A slice of strings that reads as l. -/
def SN (w : World) (A : Option Addr) (l : List NB) : Prop := 0 < l.length → ∃ b o : Nat, A = some ⟨b, o, none⟩ ∧ b < w.heap.size ∧ ∀ j (hj : j < l.length), w.cell? ⟨b, o + j, none⟩ = some (encStr l[j])
theorem SN.over {w w' : World} {A : Option Addr} {l : List NB} (h : SN w A l) (k : Below w.heap.size w w') : SN w' A l := fun h0 => by
  obtain ⟨b, o, e, hb, hc⟩ := h h0
  exact ⟨b, o, e, Nat.lt_of_lt_of_le hb k.size, fun j hj => (k.cell (p := ⟨b, o + j, none⟩) hb).trans (hc j hj)⟩
theorem SN.nil (w : World) (A : Option Addr) : SN w A [] := fun h => absurd h (by simp)
theorem SN.take {w : World} {A : Option Addr} {l : List NB} (h : SN w A l) (k : Nat) : SN w A (l.take k) := fun h0 => by
  rw [List.length_take] at h0
  obtain ⟨b, o, e, hb, hc⟩ := h (by omega)
  refine ⟨b, o, e, hb, fun j hj => ?_⟩
  rw [List.length_take] at hj
  rw [hc j (by omega), List.getElem_take]
theorem SN.drop {w : World} {b o : Nat} {l : List NB} (h : SN w (some ⟨b, o, none⟩) l) (k : Nat) : SN w (some ⟨b, o + k, none⟩) (l.drop k) := fun h0 => by
  rw [List.length_drop] at h0
  obtain ⟨b', o', e, hb, hc⟩ := h (by omega)
  cases e
  refine ⟨b, o + k, rfl, hb, fun j hj => ?_⟩
  rw [List.length_drop] at hj
  rw [Nat.add_assoc, hc (k + j) (by omega), List.getElem_drop]
theorem own_SN {w : World} {B n c : Nat} {A : Option Addr} {t : TypeId} {l : List NB} (h : w.ownsRow B t 1 (.slice A n c) l.length (l.map encStr)) : SN w A l ∧ n = l.length ∧ (A = none → c = 0) := by
  rcases h.2 with ⟨e, h0⟩ | ⟨g, cap, cur, e, hb, hgg, h1, h2, h3, h4⟩
  · cases e
    exact ⟨fun hp => by omega, h0.symm, fun _ => rfl⟩
  · cases e
    refine ⟨fun _ => ⟨g, 0, rfl, lt_of_get hgg, fun j hj => ?_⟩, rfl, fun e => by cases e⟩
    have := h.cellAt j (by omega)
    rw [Nat.zero_add, this]
    simp [List.getElem?_eq_getElem hj]
section
variable {w : World} {ops : Array Oper} {rest : List Oper} {o : Oper} {a : Act}
theorem run_append_SN (ty : TypeId) (base : Nat) (v : Value) (n : Nat) (xs : List Value) (hown : w.ownsRow base 9 1 v n xs)
    (A : Option Addr) (m c : Nat) (l : List NB) (hl : l.length = m) (hnil : A = none → c = 0) (hR : SN w A l) (hm : n + m ≤ 1000000000) (hbase : base ≤ w.heap.size) :
    ∃ v' w', (Builtin.append_ #[38, 38] ty #[v, .slice A m c]).run Try.prog w = .ok v' w' ∧ w'.ownsRow base 9 1 v' (n + m) (xs ++ l.map encStr) ∧ w.grownBy w' v.ownBlock ∧ (v'.ownBlock = v.ownBlock ∨ v'.ownBlock = some w.heap.size) := by
  obtain ⟨i0, hi, hz0, hz1, hz2⟩ := info_parts info_str
  cases A with
  | none =>
    have hl0 : l = [] := by
      cases l with
      | nil => rfl
      | cons y l => obtain ⟨b, off, e, _⟩ := hR (by simp); cases e
    subst hl0
    obtain rfl : m = 0 := by simpa using hl.symm
    rw [hnil rfl]
    exact ⟨v, w, run_append_owned_none w base 38 ty 9 i0 1 Try.underlying38 hi v n xs hown, by simpa using hown, ⟨rfl, rfl, rfl, Nat.le_refl _, fun _ _ _ => rfl⟩, .inl rfl⟩
  | some ad =>
    obtain ⟨v', w', hr, h2, h3, _, h5⟩ := run_append_own_at (P := Try.prog) w base 38 ty 9 i0 (.string ⟨#[]⟩) 1 16 Try.underlying38 hi hz0 hz1 hz2 rfl (by decide) v n xs hown ad m c (l.map encStr) (by simpa using hl) (fun j u hj => by
      have hlt : j < l.length := by
        rcases Nat.lt_or_ge j l.length with h' | h'
        · exact h'
        · rw [List.getElem?_eq_none (by simpa using h')] at hj; cases hj
      obtain ⟨b, off, e, _, hc⟩ := hR (by omega)
      cases e
      have hadd : (⟨b, off, none⟩ : Addr).add j = ⟨b, off + j, none⟩ := by unfold Addr.add; split <;> simp_all
      rw [hadd, hc j hlt]
      simpa [List.getElem?_eq_getElem hlt] using hj) (fun u hu => by
      obtain ⟨x, _, rfl⟩ := List.mem_map.1 hu
      simp [Value.oneCell']) (by unfold maxLen; omega) (by omega) hbase
    exact ⟨v', w', hr, h2, h3, h5⟩
theorem wp_append_SN {K : Act → World → Prop} {Q : Exit → Act → World → Prop} (s x : Operand) (ho : o.op = .call { callee := .builtin .append, args := #[s, x], argTypes := #[38, 38] })
    (base : Nat) (v : Value) (n : Nat) (xs : List Value) (hs : a.eval s = v) (hown : w.ownsRow base 9 1 v n xs)
    (A : Option Addr) (m c : Nat) (l : List NB) (hl : l.length = m) (hx : a.eval x = .slice A m c) (hnil : A = none → c = 0) (hR : SN w A l) (hm : n + m ≤ 1000000000) (hbase : base ≤ w.heap.size)
    (h : ∀ v' w', w'.ownsRow base 9 1 v' (n + m) (xs ++ l.map encStr) → w.grownBy w' v.ownBlock → (v'.ownBlock = v.ownBlock ∨ v'.ownBlock = some w.heap.size) → K (a.put o.dst v') w') : o.wp Try.prog a w K Q := by
  obtain ⟨v', w', hr, h2, h3, h5⟩ := run_append_SN (w := w) o.type base v n xs hown A m c l hl hnil hR hm hbase
  unfold Oper.wp execOp
  simp only [ho, resolve, invoke, builtin, Sem.run_bind, Sem.run_pure, Result.andThen_ok, List.map_toArray, List.map_cons, List.map_nil, hs, hx, hr]
  exact h v' w' h2 h3 h5
theorem wpList_append_SN {Q : Exit → Act → World → Prop} (hgd : o.guard = none) (s x : Operand) (ho : o.op = .call { callee := .builtin .append, args := #[s, x], argTypes := #[38, 38] })
    (base : Nat) (v : Value) (n : Nat) (xs : List Value) (hs : a.eval s = v) (hown : w.ownsRow base 9 1 v n xs)
    (A : Option Addr) (m c : Nat) (l : List NB) (hl : l.length = m) (hx : a.eval x = .slice A m c) (hnil : A = none → c = 0) (hR : SN w A l) (hm : n + m ≤ 1000000000) (hbase : base ≤ w.heap.size)
    (h : ∀ v' w', w'.ownsRow base 9 1 v' (n + m) (xs ++ l.map encStr) → w.grownBy w' v.ownBlock → (v'.ownBlock = v.ownBlock ∨ v'.ownBlock = some w.heap.size) → wpList Try.prog ops Q rest (a.put o.dst v') w') : wpList Try.prog ops Q (o :: rest) a w :=
  wpList_plain hgd fun _ hK => wp_append_SN s x ho base v n xs hs hown A m c l hl hx hnil hR hm hbase fun v' w' h2 h3 h4 => hK _ _ (h v' w' h2 h3 h4)
theorem step_append_SN {K : Act → World → Prop} {Q : Exit → Act → World → Prop} {E : Prop} (hgd : o.guard = none) (s x : Operand) (ho : o.op = .call { callee := .builtin .append, args := #[s, x], argTypes := #[38, 38] })
    (base : Nat) (v : Value) (n : Nat) (xs : List Value) (hs : a.eval s = v) (hown : w.ownsRow base 9 1 v n xs)
    (A : Option Addr) (m c : Nat) (l : List NB) (hl : l.length = m) (hx : a.eval x = .slice A m c) (hnil : A = none → c = 0) (hR : SN w A l) (hm : n + m ≤ 1000000000) (hbase : base ≤ w.heap.size)
    (h : ∀ v' w', w'.ownsRow base 9 1 v' (n + m) (xs ++ l.map encStr) → w.grownBy w' v.ownBlock → (v'.ownBlock = v.ownBlock ∨ v'.ownBlock = some w.heap.size) → K (a.put o.dst v') w') : if Region.wanted o (yielded ops a.tmps) = true then Oper.wp Try.prog o a w K Q else E := by
  have hw : Region.wanted o (yielded ops a.tmps) = true := by simp [Region.wanted, hgd]
  rw [if_pos hw]
  exact wp_append_SN s x ho base v n xs hs hown A m c l hl hx hnil hR hm hbase h
end
/-- A head that bears a name, or a call of what bears none: its text's first byte. -/
theorem nm_first (h : XH) (hN : NM h) (hk : h.k = 2 ∨ h.k = 8 ∨ h.k = 9 ∨ h.k = 10) : ∃ hz : 0 < h.s.size, (h.s[0].toNat = 36 ↔ hasN h = false) ∧ (h.s[0].toNat ≠ 36 ↔ hasN h = true) := by
  have key : ∀ l : List UInt8, h.s.toList = l → 0 < l.length → ∃ hz : 0 < h.s.size, h.s[0].toNat = (l[0]!).toNat := fun l hl h0 => by
    rw [Go.Lib.toList_data] at hl
    have hz : 0 < h.s.size := by
      show 0 < h.s.data.size
      rw [← Array.length_toList, hl]; exact h0
    refine ⟨hz, ?_⟩
    have : h.s[0] = l[0]! := by
      subst hl
      show h.s.data[0] = _
      have h0' : 0 < h.s.data.size := hz
      simp only [List.getElem!_eq_getElem?_getD, Array.getElem?_toList, Array.getElem?_eq_getElem h0', Option.getD_some]
    rw [this]
  have fin : ∀ l : List UInt8, h.s.toList = l → 0 < l.length → (((l[0]!).toNat = 36) ↔ hasN h = false) → ∃ hz : 0 < h.s.size, (h.s[0].toNat = 36 ↔ hasN h = false) ∧ (h.s[0].toNat ≠ 36 ↔ hasN h = true) := fun l hl h0 hq => by
    obtain ⟨hz, e⟩ := key l hl h0
    refine ⟨hz, by rw [e]; exact hq, ?_⟩
    rw [e]
    constructor
    · intro h1
      cases hh : hasN h with
      | true => rfl
      | false => exact absurd (hq.2 hh) h1
    · intro h1 h2
      have := hq.1 h2
      rw [h1] at this; cases this
  have h29 : h.k = 2 ∨ h.k = 8 ∨ h.k = 9 → hasN h = true := fun hk => by
    unfold hasN
    rcases hk with k | k | k
    · rw [if_pos k]
    · by_cases k2 : h.k = 2
      · rw [if_pos k2]
      · rw [if_neg k2, if_pos k]
    · by_cases k2 : h.k = 2
      · rw [if_pos k2]
      · by_cases k8 : h.k = 8
        · rw [if_neg k2, if_pos k8]
        · rw [if_neg k2, if_neg k8, if_pos k]
  by_cases hka : h.k = 10
  · have hs := hN.ka hka
    have hh : hasN h = decide (h.s.toList ≠ dolS ∧ h.s.toList ≠ dolU) := by
      unfold hasN
      rw [if_neg (by omega), if_neg (by omega), if_neg (by omega), if_pos hka]
    have hall : ∀ l ∈ cl4, 0 < l.length ∧ (((l[0]!).toNat = 36) ↔ decide (l ≠ dolS ∧ l ≠ dolU) = false) := by decide
    exact fin _ rfl (hall _ hs).1 (by rw [hh]; exact (hall _ hs).2)
  · have hk3 : h.k = 2 ∨ h.k = 8 ∨ h.k = 9 := by omega
    have hs := hN.k2 hk3
    have hall : ∀ l ∈ nm8, 0 < l.length ∧ ¬ (l[0]!).toNat = 36 := by decide
    exact fin _ rfl (hall _ hs).1 (by rw [h29 hk3]; exact ⟨fun h => absurd h (hall _ hs).2, fun h => by cases h⟩)
end Go.Proofs.Ytljiiniocnljmaa
