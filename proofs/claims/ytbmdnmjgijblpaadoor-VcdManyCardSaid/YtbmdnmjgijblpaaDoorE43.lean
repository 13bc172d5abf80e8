/-
  VcdMany's traces. Nothing here is walked.
-/
import Derived.Test.YtbmdnmjgijblpaaDoorE42
namespace Go.Proofs.YtbmdnmjgijblpaaDoor
open Go Go.RowKit Go.Lib Go.Maps
def mvr (i : Nat) : NV := (118 :: idL i, 1 + i % 3)
def mvc (i : Nat) : Nat × Nat := (1 + i % 3, i % 2 ^ (1 + i % 3))
def mvs (n : Nat) : List NV := (List.range n).map mvr
def mrow (n : Nat) : List (Nat × Nat) := (List.range n).map mvc
def mrows (n m : Nat) : RW := List.replicate m (mrow n)
theorem mvs_len (n : Nat) : (mvs n).length = n := by simp [mvs]
theorem mrow_len (n : Nat) : (mrow n).length = n := by simp [mrow]
theorem mvs_succ (n : Nat) : vcells (mvs (n + 1)) = vcells (mvs n) ++ [.string (bt (118 :: idL n)), iz ((1 + n % 3 : Nat) : Int)] := by
  unfold mvs
  rw [List.range_succ, List.map_append, vcells_app]
  rfl
theorem mrow_succ (n : Nat) : rcells (mrow (n + 1)) = rcells (mrow n) ++ [iz ((1 + n % 3 : Nat) : Int), .int .u64 ((lo (n % 2 ^ (1 + n % 3)) : Nat) : Int), .int .u64 ((hi (n % 2 ^ (1 + n % 3)) : Nat) : Int)] := by
  unfold mrow
  rw [List.range_succ, List.map_append, rcells_app]
  rfl
theorem mvs_get {n i : Nat} (h : i < n) : (mvs n)[i]? = some (mvr i) := by simp [mvs, h]
theorem mrow_get {n i : Nat} (h : i < n) : (mrow n)[i]? = some (mvc i) := by simp [mrow, h]
theorem mnm_ok (i : Nat) (h : i ≤ 1000) : wordB (118 :: idL i) = true := by
  unfold wordB idB
  have h1 := idL_len i
  have h2 := idL_all i
  simp only [Bool.and_eq_true, decide_eq_true_eq, List.length_cons, List.all_eq_true]
  refine ⟨⟨⟨by omega, by omega⟩, fun c hc => ?_⟩, rfl⟩
  rcases List.mem_cons.1 hc with rfl | hc
  · rfl
  · have := h2 c hc
    unfold vpr
    simp only [Bool.and_eq_true, decide_eq_true_eq]
    exact this
theorem mrows_ok (n m : Nat) : ∀ r ∈ mrows n m, ∀ x ∈ r, x.1 ≤ 128 ∧ x.2 < 2 ^ x.1 := fun r hr x hx => by
  rw [(List.mem_replicate.1 hr).2] at hx
  obtain ⟨i, _, rfl⟩ := List.mem_map.1 hx
  exact ⟨by show 1 + i % 3 ≤ 128; omega, Nat.mod_lt _ (Nat.pow_pos (by decide))⟩
theorem mchk (n m : Nat) (h : n ≤ 1000) : chkF [116] (mvs n) (mrows n m) = if 300 < n ∨ 200 < m then 19 else 0 := by
  have h1 : wordB [116] = true := by decide
  have hmem : ∀ x ∈ mvs n, ∃ i, i < n ∧ x = mvr i := fun x hx => by
    obtain ⟨i, hi, rfl⟩ := List.mem_map.1 hx
    exact ⟨i, List.mem_range.1 hi, rfl⟩
  have h2 : ((mvs n).any fun x => !wordB x.1) = false := by
    rw [List.any_eq_false]
    intro x hx
    obtain ⟨i, hi, rfl⟩ := hmem x hx
    show ¬ (!wordB (118 :: idL i)) = true
    rw [mnm_ok i (by omega)]
    decide
  have h3 : ((mvs n).map Prod.fst).Nodup := by
    unfold mvs
    rw [List.map_map]
    exact List.pairwise_map.2 (List.Pairwise.imp (fun h e => h (idL_inj (List.cons.inj e).2)) (List.nodup_range (n := n)))
  have h4 : ((mvs n).any fun x => !wdB x.2) = false := by
    rw [List.any_eq_false]
    intro x hx
    obtain ⟨i, hi, rfl⟩ := hmem x hx
    show ¬ (!wdB (1 + i % 3)) = true
    unfold wdB
    simp
    omega
  have h5 : ((mrows n m).any fun r => !isRowB (mvs n) r) = false := by
    rw [List.any_eq_false]
    intro r hr
    rw [(List.mem_replicate.1 hr).2]
    unfold isRowB mrow mvs
    simp [mvc, mvr]
  unfold chkF
  rw [h1, h2, h4, h5, mvs_len, show (mrows n m).length = m from List.length_replicate ..]
  simp [h3]
theorem mlen (n m : Nat) (h0 : chkF [116] (mvs n) (mrows n m) = 0) (hn : n ≤ 300) (hm : m ≤ 200) : (dumpT [116] (mvs n) (mrows n m)).length ≤ 1048576 := by
  obtain ⟨ok, _⟩ := chkF_ok h0 (mrows_ok n m)
  have h1 := dump_le ok
  rw [lnsAll_len, mvs_len] at h1
  have hr : (mrows n m).length = m := List.length_replicate ..
  have hC0 : ∀ a, 0 < a → a < m → ∀ k, k ≤ n → (lnsC (mrows n m) a k) = [] := by
    intro a ha ham k
    induction k with
    | zero => intro _; rfl
    | succ k ih =>
      intro hk
      rw [lnsC_succ, ih (by omega), List.nil_append]
      unfold cln
      rw [if_neg]
      have e : ∀ b, b < m → rvv (mrows n m) b k = (mrow n).getD k (0, 0) := fun b hb => by
        unfold rvv mrows
        simp only [List.getD_eq_getElem?_getD, List.getElem?_replicate, if_pos hb, Option.getD_some]
      rw [e a ham, e (a - 1) (by omega)]
      simp
      omega
  have hT : ∀ k, k ≤ m → (lnsT (mrows n m) n k).length ≤ k + n := by
    intro k
    induction k with
    | zero => intro _; simp [lnsT]
    | succ k ih =>
      intro hk
      rw [lnsT_succ, List.length_append, List.length_cons]
      rcases Nat.eq_zero_or_pos k with e | e
      · subst e
        have := lnsC_len (mrows n m) 0 n
        simp only [lnsT, List.range_zero, List.flatMap_nil, List.length_nil]
        omega
      · rw [hC0 k e (by omega) n (Nat.le_refl _)]
        have := ih (by omega)
        simp only [List.length_nil]
        omega
  have := hT m (Nat.le_refl _)
  rw [hr] at h1
  omega
end Go.Proofs.YtbmdnmjgijblpaaDoor
