/-
  Cones, plain: the nodes on which literals depend; no other input matters.
-/
import Derived.Test.YtinfkjflomdhbaaGl
namespace Go.Proofs.Ytinfkjflomdhbaa
/-- One node: what it is made of is part, if it is. -/
def cst (F : List PN) (P : List Bool) (i : Nat) : List Bool :=
  if P.getD i false = true ∧ (F.getD i (0, 0)).1 ≠ 0 then (P.set ((F.getD i (0, 0)).1 / 2) true).set ((F.getD i (0, 0)).2 / 2) true else P
def cdn (F : List PN) : Nat → List Bool → List Bool
  | 0, P => P
  | k + 1, P => cdn F k (cst F P (k + 1))
theorem cst_len (F : List PN) (P : List Bool) (i : Nat) : (cst F P i).length = P.length := by unfold cst; split <;> simp
theorem cdn_len (F : List PN) : ∀ (k : Nat) (P : List Bool), (cdn F k P).length = P.length
  | 0, _ => rfl
  | k + 1, P => by rw [cdn, cdn_len F k, cst_len]
theorem getD_set (P : List Bool) (i j : Nat) (v : Bool) : (P.set i v).getD j false = if i = j ∧ j < P.length then v else P.getD j false := by
  rw [List.getD_eq_getElem?_getD, List.getElem?_set, List.getD_eq_getElem?_getD]
  by_cases h : i = j
  · subst h
    by_cases h2 : i < P.length
    · simp [h2]
    · simp [h2]
  · simp [h]
theorem wf_get {F : List PN} (h : WF F) (i : Nat) (ha : (F.getD i (0, 0)).1 ≠ 0) : ∃ a b, F[i]? = some (a, b) ∧ F.getD i (0, 0) = (a, b) ∧ 2 ≤ a ∧ a < b ∧ b / 2 < i := by
  rw [List.getD_eq_getElem?_getD] at ha ⊢
  cases e : F[i]? with
  | none => rw [e] at ha; exact absurd rfl ha
  | some q =>
    rw [e] at ha
    obtain h0 | ⟨h1, h2, h3, _⟩ := h.ok i q e
    · rw [h0] at ha; exact absurd rfl ha
    · exact ⟨q.1, q.2, rfl, rfl, h1, h2, h3⟩
theorem cst_ge {F : List PN} (h : WF F) (P : List Bool) (i j : Nat) (hj : i ≤ j) : (cst F P i).getD j false = P.getD j false := by
  unfold cst
  split
  · rename_i hc
    obtain ⟨a, b, _, e, h1, h2, h3⟩ := wf_get h i hc.2
    rw [e, getD_set, getD_set, if_neg (by simp only; omega), if_neg (by simp only; omega)]
  · rfl
theorem cst_mono (F : List PN) (P : List Bool) (i j : Nat) (hj : P.getD j false = true) : (cst F P i).getD j false = true := by
  unfold cst
  split
  · rw [getD_set, getD_set]
    split
    · rfl
    · split
      · rfl
      · exact hj
  · exact hj
theorem cdn_mono (F : List PN) (j : Nat) : ∀ (k : Nat) (P : List Bool), P.getD j false = true → (cdn F k P).getD j false = true
  | 0, _, h => h
  | k + 1, P, h => cdn_mono F j k _ (cst_mono F P _ _ h)
theorem cdn_ge {F : List PN} (h : WF F) (j : Nat) : ∀ (k : Nat) (P : List Bool), k ≤ j → (cdn F k P).getD j false = P.getD j false
  | 0, _, _ => rfl
  | k + 1, P, hk => by rw [cdn, cdn_ge h j k _ (by omega), cst_ge h P _ _ hk]
/-- The nodes of which a part is made are parts. -/
theorem cdn_closed {F : List PN} (h : WF F) {i a b : Nat} (hq : F[i]? = some (a, b)) (ha : a ≠ 0) : ∀ (k : Nat) (P : List Bool), i ≤ k → P.length = F.length → (cdn F k P).getD i false = true → (cdn F k P).getD (a / 2) false = true ∧ (cdn F k P).getD (b / 2) false = true
  | 0, P, hik, _, hc => by
    obtain h0 | ⟨h1, h2, h3, _⟩ := h.ok i _ hq
    · exact absurd (Prod.mk.inj h0).1 ha
    · simp only at h3; omega
  | k + 1, P, hik, hl, hc => by
    rw [cdn] at hc ⊢
    by_cases e : i = k + 1
    · rw [cdn_ge h i k _ (by omega), cst_ge h P _ _ (by omega)] at hc
      have hg : F.getD i (0, 0) = (a, b) := by rw [List.getD_eq_getElem?_getD, hq]; rfl
      obtain h0 | ⟨h1, h2, h3, _⟩ := h.ok i _ hq
      · exact absurd (Prod.mk.inj h0).1 ha
      simp only at h1 h2 h3
      have hil : i < F.length := (List.getElem?_eq_some_iff.1 hq).1
      have e1 : cst F P (k + 1) = (P.set (a / 2) true).set (b / 2) true := by
        unfold cst
        rw [← e, if_pos ⟨hc, by rw [hg]; exact ha⟩, hg]
      constructor
      · apply cdn_mono
        rw [e1, getD_set]
        split
        · rfl
        · rw [getD_set, if_pos ⟨rfl, by omega⟩]
      · apply cdn_mono
        rw [e1, getD_set, if_pos ⟨rfl, by rw [List.length_set]; omega⟩]
    · exact cdn_closed h hq ha k _ (by omega) (by rw [cst_len]; exact hl) hc
/-- Marks. -/
def mks (P : List Bool) (xs : List Nat) : List Bool := xs.foldl (fun P x => P.set x true) P
theorem mks_len : ∀ (xs : List Nat) (P : List Bool), (mks P xs).length = P.length
  | [], _ => rfl
  | x :: xs, P => by
    show (mks (P.set x true) xs).length = _
    rw [mks_len xs, List.length_set]
theorem mks_snoc (P : List Bool) (xs : List Nat) (x : Nat) : mks P (xs ++ [x]) = (mks P xs).set x true := by unfold mks; rw [List.foldl_append]; rfl
theorem mks_get (j : Nat) : ∀ (xs : List Nat) (P : List Bool), (∀ x ∈ xs, x < P.length) → (mks P xs).getD j false = (P.getD j false || decide (j ∈ xs))
  | [], P, _ => by simp [mks]
  | x :: xs, P, h => by
    show (mks (P.set x true) xs).getD j false = _
    rw [mks_get j xs _ (fun y hy => by rw [List.length_set]; exact h y (List.mem_cons_of_mem _ hy)), getD_set]
    by_cases e : x = j
    · subst e
      rw [if_pos ⟨rfl, h x (List.mem_cons_self ..)⟩]
      simp
    · rw [if_neg (fun c => e c.1)]
      have : (j ∈ x :: xs) ↔ j ∈ xs := by
        rw [List.mem_cons]
        exact ⟨fun h => h.resolve_left fun e2 => e e2.symm, .inr⟩
      simp [this]
/-- The parts beyond k, in ascending order. -/
def upC (C : List Bool) (k N : Nat) : List Nat := (List.range' (k + 1) (N - (k + 1))).filter fun n => C.getD n false
theorem upC_top (C : List Bool) (N : Nat) : upC C (N - 1) N = [] := by
  unfold upC
  rw [show N - (N - 1 + 1) = 0 by omega]
  rfl
theorem upC_step (C : List Bool) (k N : Nat) (hk : k + 1 < N) : upC C k N = if C.getD (k + 1) false then (k + 1) :: upC C (k + 1) N else upC C (k + 1) N := by
  unfold upC
  rw [show N - (k + 1) = (N - (k + 1 + 1)) + 1 by omega, List.range'_succ, List.filter_cons]
theorem upC_mem (C : List Bool) (N n : Nat) : n ∈ upC C 0 N ↔ 1 ≤ n ∧ n < N ∧ C.getD n false = true := by
  unfold upC
  rw [List.mem_filter, List.mem_range'_1]
  constructor
  · rintro ⟨h1, h2⟩; exact ⟨by omega, by omega, h2⟩
  · rintro ⟨h1, h2, h3⟩; exact ⟨by omega, h3⟩
theorem upC_asc (C : List Bool) (N : Nat) : (upC C 0 N).Pairwise (· < ·) := by
  unfold upC
  exact List.Pairwise.filter _ List.pairwise_lt_range'
/-- Values by literals of nodes. -/
theorem node_val {F : List PN} (h : WF F) {n : Nat} (hn : n < F.length) (hn0 : 0 < n) (ins : List Bool) (hq : (F.getD n (0, 0)).1 = 0) : VL F ins (2 * n) = ins.getD (cnt (F.take n)) false := by
  have hq' : F[n]? = some (0, 0) := by
    rw [List.getD_eq_getElem?_getD, List.getElem?_eq_getElem hn] at hq
    rw [List.getElem?_eq_getElem hn]
    obtain h0 | ⟨h1, _⟩ := h.ok n _ (List.getElem?_eq_getElem hn)
    · rw [h0]
    · exact absurd hq (by simp; omega)
  have ht : F.take (n + 1) = F.take n ++ [(0, 0)] := by rw [List.take_add_one, hq']; rfl
  have hl : (F.take n).length = n := by rw [List.length_take]; omega
  rw [VL_pre (List.take_prefix (n + 1) F) ins (2 * n) (by rw [List.length_take]; omega), ht]
  have := input_val (F.take n) (by omega) ins
  rw [hl] at this
  exact this
theorem VL_lit (F : List PN) (ins : List Bool) (a : Nat) (ha : a / 2 < F.length) : VL F ins a = (VL F ins (2 * (a / 2)) != (a % 2 == 1)) := by
  unfold VL isV
  have hl := evT_len F ins (by omega)
  rw [hl, if_pos ha, if_pos (by omega), show 2 * (a / 2) / 2 = a / 2 by omega, show 2 * (a / 2) % 2 = 0 by omega]
  simp
/-- Inputs outside of the cone don't matter. -/
theorem cone_val {F : List PN} (h : WF F) {C : List Bool} {ins o : List Bool}
    (hcl : ∀ i a b, F[i]? = some (a, b) → a ≠ 0 → C.getD i false = true → C.getD (a / 2) false = true ∧ C.getD (b / 2) false = true)
    (ho : ∀ n, 0 < n → n < F.length → (F.getD n (0, 0)).1 = 0 → C.getD n false = true → o.getD (cnt (F.take n)) false = ins.getD (cnt (F.take n)) false) :
    ∀ n, n < F.length → (n = 0 ∨ C.getD n false = true) → VL F o (2 * n) = VL F ins (2 * n) := by
  intro n
  induction n using Nat.strongRecOn with
  | _ n ih =>
    intro hn hc
    by_cases h0 : n = 0
    · subst h0; rw [VL_no, VL_no]
    have hc' := hc.resolve_left h0
    by_cases hq : (F.getD n (0, 0)).1 = 0
    · rw [node_val h hn (by omega) o hq, node_val h hn (by omega) ins hq, ho n (by omega) hn hq hc']
    · obtain ⟨a, b, hq1, _, h1, h2, h3⟩ := wf_get h n hq
      obtain ⟨k1, k2⟩ := hcl n a b hq1 (by omega) hc'
      rw [h.val hq1 h1 o, h.val hq1 h1 ins, VL_lit F o a (by omega), VL_lit F o b (by omega), VL_lit F ins a (by omega), VL_lit F ins b (by omega), ih (a / 2) (by omega) (by omega) (.inr k1), ih (b / 2) (by omega) (by omega) (.inr k2)]
/-- Distinct inputs have distinct numbers. -/
theorem cnt_mono {F : List PN} (n m : Nat) (h : n ≤ m) (hm : m ≤ F.length) (h0 : 0 < n) : cnt (F.take n) ≤ cnt (F.take m) := by
  induction m with
  | zero => omega
  | succ m ih =>
    by_cases e : n = m + 1
    · rw [e]; exact Nat.le_refl _
    · have h1 := ih (by omega) (by omega)
      have h2 : cnt (F.take (m + 1)) = cnt (F.take m) + if (F[m]'(by omega)).1 = 0 then 1 else 0 := by
        rw [List.take_succ_eq_append_getElem (by omega)]
        exact cnt_snoc _ _ (by rw [List.length_take]; omega)
      omega
theorem cnt_lt {F : List PN} {n m : Nat} (h0 : 0 < n) (h : n < m) (hm : m ≤ F.length) (hq : (F.getD n (0, 0)).1 = 0) : cnt (F.take n) < cnt (F.take m) := by
  have h1 := cnt_mono (F := F) (n + 1) m (by omega) hm (by omega)
  have h2 : cnt (F.take (n + 1)) = cnt (F.take n) + if (F[n]'(by omega)).1 = 0 then 1 else 0 := by
    rw [List.take_succ_eq_append_getElem (by omega)]
    exact cnt_snoc _ _ (by rw [List.length_take]; omega)
  rw [List.getD_eq_getElem?_getD, List.getElem?_eq_getElem (by omega)] at hq
  have hq' : (F[n]'(by omega)).1 = 0 := hq
  rw [if_pos hq'] at h2
  omega
end Go.Proofs.Ytinfkjflomdhbaa
