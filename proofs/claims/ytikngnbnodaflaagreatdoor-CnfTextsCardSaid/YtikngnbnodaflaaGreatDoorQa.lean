/-
  Plain mathematics of a formula's text: numerals, the first line feed, the words of a clause's line; nothing here speaks of the program.
-/
import Derived.Test.YtikngnbnodaflaaGreatDoorKo
import Derived.Lib.CutLaws
import Derived.Lib.Split
import Derived.Lib.Atoi
import Derived.Lib.IndexBytes
namespace Go.Proofs.YtikngnbnodaflaaGreatDoor
open Go.RowKit Go.Lib
theorem index_at (b : UInt8) : ∀ (l r : List UInt8), b ∉ l → index (l ++ b :: r) [b] = l.length
  | [], r, _ => by simp [index, List.isPrefixOf]
  | a :: l, r, h => by
    have ih := index_at b l r (fun e => h (List.mem_cons_of_mem _ e))
    have ha : (b == a) = false := by
      simp only [beq_eq_false_iff_ne, ne_eq]
      exact fun e => h (e ▸ List.mem_cons_self ..)
    have hn : ((l.length : Int) == -1) = false := by simp only [beq_eq_false_iff_ne, ne_eq]; omega
    rw [List.cons_append, index, ih]
    simp only [List.isPrefixOf, ha, Bool.false_and, Bool.false_eq_true, if_false, hn, List.length_cons]
    omega
theorem index_no (b : UInt8) : ∀ (l : List UInt8), b ∉ l → index l [b] = -1
  | [], _ => rfl
  | a :: l, h => by
    have ih := index_no b l (fun e => h (List.mem_cons_of_mem _ e))
    have ha : (b == a) = false := by
      simp only [beq_eq_false_iff_ne, ne_eq]
      exact fun e => h (e ▸ List.mem_cons_self ..)
    rw [index, ih]
    simp [List.isPrefixOf, ha]
theorem cut_at (b : UInt8) (l r : List UInt8) (h : b ∉ l) : cut (l ++ b :: r) [b] = (l, r, true) := by
  have e := index_at b l r h
  unfold cut
  rw [e, if_pos (by omega)]
  simp
theorem dd_digit (u : Nat) : ∀ b, b ∈ decDigits u → 48 ≤ b.toNat ∧ b.toNat ≤ 57 := by
  induction u using Nat.strongRecOn with
  | _ u ih =>
    intro b hb
    rw [decDigits] at hb
    have hd : ∀ k : Nat, k < 10 → 48 ≤ (UInt8.ofNat (48 + k)).toNat ∧ (UInt8.ofNat (48 + k)).toNat ≤ 57 := by
      intro k hk
      rw [UInt8.toNat_ofNat']
      omega
    split at hb
    · rename_i h
      rw [List.mem_singleton.1 hb]
      exact hd u h
    · rcases List.mem_append.1 hb with e | e
      · exact ih (u / 10) (by omega) b e
      · rw [List.mem_singleton.1 e]
        exact hd (u % 10) (Nat.mod_lt _ (by decide))
theorem dd_ne (u : Nat) : decDigits u ≠ [] := by
  rw [decDigits]
  split <;> simp
theorem dd_len : ∀ (k u : Nat), u < 10 ^ (k + 1) → (decDigits u).length ≤ k + 1
  | 0, u, h => by
    rw [decDigits, dif_pos (by simpa using h)]
    simp
  | k + 1, u, h => by
    rw [decDigits]
    split
    · simp
    · rw [Nat.pow_succ] at h
      have := dd_len k (u / 10) (by omega)
      simp only [List.length_append, List.length_cons, List.length_nil]
      omega
theorem dd_head (u : Nat) (h0 : u ≠ 0) : ∃ b r, decDigits u = b :: r ∧ b.toNat ≠ 48 := by
  induction u using Nat.strongRecOn with
  | _ u ih =>
    rw [decDigits]
    split
    · refine ⟨_, _, rfl, ?_⟩
      rw [UInt8.toNat_ofNat']
      omega
    · obtain ⟨b, r, e, hb⟩ := ih (u / 10) (by omega) (by omega)
      rw [e]
      exact ⟨b, _, rfl, hb⟩
theorem dd_zero : decDigits 0 = [48] := by rw [decDigits, dif_pos (by decide)]; rfl
theorem decFrom_append (r : List UInt8) : ∀ (l : List UInt8) (acc n : Nat), decFrom acc l = some n → decFrom acc (l ++ r) = decFrom n r
  | [], acc, n, h => by
    simp only [decFrom, Option.some.injEq] at h
    rw [h]; rfl
  | a :: t, acc, n, h => by
    simp only [decFrom, List.cons_append] at h ⊢
    cases ha : digitVal a with
    | none => simp [ha] at h
    | some e =>
      simp only [ha] at h ⊢
      exact decFrom_append r t _ n h
theorem digitVal_of (k : Nat) (hk : k < 10) : digitVal (UInt8.ofNat (48 + k)) = some k := by
  have e : (UInt8.ofNat (48 + k)).toNat = 48 + k := by rw [UInt8.toNat_ofNat']; omega
  unfold digitVal
  rw [e, if_pos (by omega)]
  congr 1
  omega
theorem dd_val (u : Nat) : decFrom 0 (decDigits u) = some u := by
  induction u using Nat.strongRecOn with
  | _ u ih =>
    rw [decDigits]
    split
    · rename_i h
      simp only [decFrom, digitVal_of u h]
      congr 1; omega
    · rw [decFrom_append _ _ _ _ (ih (u / 10) (by omega))]
      simp only [decFrom, digitVal_of (u % 10) (Nat.mod_lt _ (by decide))]
      congr 1; omega
theorem dd_atoi (u : Nat) : atoi (decDigits u) = some (u : Int) := by
  have hv := dd_val u
  have hd := dd_digit u
  cases hl : decDigits u with
  | nil => exact absurd hl (dd_ne u)
  | cons b r =>
    rw [hl] at hv hd
    have hb := hd b (List.mem_cons_self ..)
    have h1 : (b == 45) = false := by
      simp only [beq_eq_false_iff_ne, ne_eq]
      rintro rfl
      simp at hb
    have h2 : (b == 43) = false := by
      simp only [beq_eq_false_iff_ne, ne_eq]
      rintro rfl
      simp at hb
    simp only [atoi, h1, h2, Bool.false_eq_true, if_false, decNat, List.isEmpty_cons, hv, Option.map_some]
theorem dd_no (u : Nat) (c : UInt8) (hc : c.toNat < 48 ∨ 57 < c.toNat) : c ∉ decDigits u := fun h => by
  have := dd_digit u c h
  omega
theorem itoa_no (x : Int) (c : UInt8) (hc : c.toNat < 45) : c ∉ itoa x := by
  unfold itoa
  split
  · intro h
    rcases List.mem_cons.1 h with e | e
    · rw [e] at hc; simp at hc
    · exact dd_no _ c (by omega) e
  · exact dd_no _ c (by omega)
/-- The line of a clause, without its line feed. -/
def lnT (c : List Int) : List UInt8 := c.flatMap litT ++ [48]
theorem clT_eq (c : List Int) (r : List UInt8) : clT c ++ r = lnT c ++ 10 :: r := by simp [clT, lnT]
theorem lits_no (c : List Int) (b : UInt8) (hb : b.toNat < 32) : b ∉ c.flatMap litT := by
  intro h
  obtain ⟨x, _, hx⟩ := List.mem_flatMap.1 h
  rcases List.mem_append.1 hx with e | e
  · exact itoa_no x b (by omega) e
  · rw [List.mem_singleton.1 e] at hb; simp at hb
theorem lnT_no (c : List Int) : (10 : UInt8) ∉ lnT c := by
  intro h
  rcases List.mem_append.1 h with e | e
  · exact lits_no c 10 (by decide) e
  · simp at e
theorem cut_clause (c : List Int) (r : List UInt8) : cut (clT c ++ r) [10] = (lnT c, r, true) := by rw [clT_eq, cut_at _ _ _ (lnT_no c)]
/-- The first line, without its line feed. -/
def h1T (V n : Nat) : List UInt8 := [112, 32, 99, 110, 102, 32] ++ (itoa (V : Int) ++ 32 :: itoa (n : Int))
theorem cut_head (V n : Nat) (r : List UInt8) : cut (hdT V n ++ r) [10] = (h1T V n, r, true) := by
  have e : hdT V n ++ r = h1T V n ++ 10 :: r := by simp [hdT, h1T]
  have h1 := itoa_no (V : Int) 10 (by decide)
  have h2 := itoa_no (n : Int) 10 (by decide)
  rw [e, cut_at]
  simp [h1T, h1, h2]
theorem cut_sizes (V n : Nat) : cut (itoa (V : Int) ++ 32 :: itoa (n : Int)) [32] = (itoa (V : Int), itoa (n : Int), true) := cut_at _ _ _ (itoa_no _ _ (by decide))
theorem words_t : ∀ (c : List Int) (k : Nat), c.length ≤ k → splitK [32] 0 k (lnT c) = c.map itoa ++ [[48]]
  | [], 0, _ => rfl
  | [], k + 1, _ => by
    have e : index (lnT []) [32] = -1 := by decide
    rw [splitK, e]
    simp [lnT]
  | x :: c, 0, h => by simp at h
  | x :: c, k + 1, h => by
    have el : lnT (x :: c) = itoa x ++ 32 :: lnT c := by simp [lnT, litT]
    have ei := index_at 32 (itoa x) (lnT c) (itoa_no x 32 (by decide))
    have ih := words_t c k (by simpa using h)
    rw [splitK, el, ei, if_neg (by simp only [beq_iff_eq]; omega)]
    rw [show (((itoa x).length : Nat) : Int).toNat = (itoa x).length from Int.toNat_natCast _]
    simp only [Nat.add_zero, List.take_left', List.length_cons, List.length_nil, Nat.zero_add, List.map_cons, List.cons_append]
    rw [show (itoa x ++ 32 :: lnT c) = (itoa x ++ [32]) ++ lnT c by simp, List.drop_left' (by simp), ih]
theorem lnT_len (c : List Int) : 2 * c.length + 1 ≤ (lnT c).length := by
  induction c with
  | nil => simp [lnT]
  | cons x c ih =>
    have h1 : 1 ≤ (itoa x).length := by
      unfold itoa
      split
      · simp
      · exact List.length_pos_iff.2 (dd_ne _)
    simp only [lnT, List.flatMap_cons, List.length_append, List.length_cons, List.length_nil, litT] at ih ⊢
    omega
theorem words_b (c : List Int) (k : Nat) (h : c.length ≤ k) : splitB ⟨#[32]⟩ 0 k ⟨(lnT c).toArray⟩ = (c.map itoa ++ [[48]]).map fun (l : List UInt8) => (⟨l.toArray⟩ : ByteArray) := by
  have e := splitB_data ⟨#[32]⟩ 0 k ⟨(lnT c).toArray⟩
  rw [show ((⟨#[32]⟩ : ByteArray).data.toList) = [32] from rfl, show ((⟨(lnT c).toArray⟩ : ByteArray).data.toList) = lnT c from rfl, words_t c k h] at e
  rw [← e, List.map_map]
  conv => lhs; rw [← List.map_id (splitB ⟨#[32]⟩ 0 k ⟨(lnT c).toArray⟩)]
  refine List.map_congr_left fun s _ => ?_
  exact (mk_data s).symm
/-- In a clause as Add leaves it, each literal's variable is greater than those ahead. -/
theorem good_vars {V : Nat} (hV : V ≤ 60000) {c : List Int} (h : c.Pairwise Lq) (ho : opB c = false) (hf : c.any (fgn V) = false) : c.Pairwise fun x y => max x (-x) < max y (-y) := by
  have hD := fgn_dom hV hf
  have h2 := List.Pairwise.and_mem.1 h
  refine h2.imp fun {x y} hxy => ?_
  obtain ⟨hx, hy, hl⟩ := hxy
  have dx := hD x hx
  have dy := hD y hy
  unfold Lq at hl
  rw [va_dom dx.2, va_dom dy.2] at hl
  rcases hl with hl | ⟨he, hl⟩
  · exact hl
  · have hno : ¬ (∃ x, x ∈ c ∧ -x ∈ c) := fun e => by rw [← opB_iff] at e; rw [e] at ho; cases ho
    exact absurd ⟨x, hx, (show -x = y by omega) ▸ hy⟩ hno
theorem addF_canon (V : Nat) (cs : List (List Int)) (c : List Int) (h : c.Pairwise Lq) (ho : opB c = false) (hf : c.any (fgn V) = false) (hl : c.length ≤ 1000) (hn : cs.length < 200000) : addF V cs c = (0, cs ++ [c]) := by
  unfold addF
  rw [hf, if_neg (by decide), if_neg (by omega), ho, if_neg (by decide), canon_of_sorted h]
end Go.Proofs.YtikngnbnodaflaaGreatDoor
