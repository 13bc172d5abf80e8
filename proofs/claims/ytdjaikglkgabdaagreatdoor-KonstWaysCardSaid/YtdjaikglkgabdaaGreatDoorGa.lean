/-
  Hexadecimal and decimal digits as lists of bytes. Nothing here is walked.
  The text of a literal, as a list of bytes, and what Parse reads out of it. Nothing here is walked.
  The library functions that lit's Text calls: strconv.Itoa, strings.Repeat, strings.TrimLeft by their contracts; the walk of strconv.FormatUint at base 16.
  The walk of strconv.FormatUint at base 16.
-/
import Derived.Lib.ItoaNum
import Derived.Lib.Repeat
import Derived.Lib.TrimByte
import Derived.Test.YtdjaikglkgabdaaGreatDoorFg
import Derived.Test.YtdjaikglkgabdaaGreatDoorLy
import Derived.Lib.AppendIntMem
import Derived.Test.YtdjaikglkgabdaaGreatDoorWt
namespace Go.Proofs.YtdjaikglkgabdaaGreatDoor
open Go.Lib
/-- A hexadecimal digit. -/
def hxd (d : Nat) : UInt8 := UInt8.ofNat (if d < 10 then 48 + d else 87 + d)
/-- The k lowest hexadecimal digits of a number, the highest first. -/
def hxf : Nat → Nat → List UInt8
  | 0, _ => []
  | k + 1, x => hxf k (x / 16) ++ [hxd (x % 16)]
/-- The hexadecimal digits, no zero ahead. -/
def hxs (x : Nat) : List UInt8 :=
  if _h : x < 16 then [hxd x] else hxs (x / 16) ++ [hxd (x % 16)]
termination_by x
decreasing_by omega
theorem hxs_small {x : Nat} (h : x < 16) : hxs x = [hxd x] := by rw [hxs, dif_pos h]
theorem hxs_big {x : Nat} (h : ¬ x < 16) : hxs x = hxs (x / 16) ++ [hxd (x % 16)] := by rw [hxs, dif_neg h]
theorem hxf_len : ∀ k x, (hxf k x).length = k
  | 0, _ => rfl
  | k + 1, x => by simp [hxf, hxf_len k]
theorem hxf_cat (a : Nat) : ∀ b x y, y < 16 ^ b → hxf a x ++ hxf b y = hxf (a + b) (x * 16 ^ b + y)
  | 0, x, y, h => by
    have : y = 0 := by simpa using h
    subst this
    simp [hxf]
  | b + 1, x, y, h => by
    have h16 : 16 ^ (b + 1) = 16 ^ b * 16 := Nat.pow_succ 16 b
    have e1 : (x * 16 ^ (b + 1) + y) / 16 = x * 16 ^ b + y / 16 := by
      rw [h16, ← Nat.mul_assoc]; omega
    have e2 : (x * 16 ^ (b + 1) + y) % 16 = y % 16 := by
      rw [h16, ← Nat.mul_assoc]; omega
    have ih := hxf_cat a b x (y / 16) (by rw [h16] at h; omega)
    show hxf a x ++ (hxf b (y / 16) ++ [hxd (y % 16)]) = hxf (a + b) ((x * 16 ^ (b + 1) + y) / 16) ++ [hxd ((x * 16 ^ (b + 1) + y) % 16)]
    rw [e1, e2, ← List.append_assoc, ih]
theorem hxf_zero : ∀ k, hxf k 0 = List.replicate k 48
  | 0 => rfl
  | k + 1 => by
    show hxf k 0 ++ [hxd 0] = _
    rw [hxf_zero k, List.replicate_succ']
    rfl
theorem hxs_pos (x : Nat) : 0 < (hxs x).length := by
  by_cases h : x < 16
  · rw [hxs_small h]; simp
  · rw [hxs_big h]; simp
theorem hxs_pad : ∀ k x, 1 ≤ k → x < 16 ^ k → (hxs x).length ≤ k ∧ hxf k x = List.replicate (k - (hxs x).length) 48 ++ hxs x
  | 0, x, h, _ => by omega
  | k + 1, x, _, h => by
    have h16 : 16 ^ (k + 1) = 16 ^ k * 16 := Nat.pow_succ 16 k
    by_cases hx : x < 16
    · rw [hxs_small hx]
      refine ⟨by simp, ?_⟩
      show hxf k (x / 16) ++ [hxd (x % 16)] = _
      rw [Nat.div_eq_of_lt hx, Nat.mod_eq_of_lt hx, hxf_zero]
      rfl
    · have hk : 1 ≤ k := by
        rcases Nat.eq_zero_or_pos k with e | e
        · subst e; simp at h; omega
        · exact e
      have ih := hxs_pad k (x / 16) hk (by rw [h16] at h; omega)
      rw [hxs_big hx]
      refine ⟨by simp; omega, ?_⟩
      show hxf k (x / 16) ++ [hxd (x % 16)] = _
      rw [ih.2, List.append_assoc, List.length_append]
      congr 2
      simp
theorem hxd_ne (d : Nat) (h : d < 16) (h0 : d ≠ 0) : (hxd d == 48) = false := by
  have : ∀ d : Fin 16, d.val ≠ 0 → (hxd d.val == 48) = false := by decide
  exact this ⟨d, h⟩ h0
theorem hxs_head (x : Nat) (h : x ≠ 0) : ∃ c r, hxs x = c :: r ∧ (c == 48) = false := by
  induction x using Nat.strongRecOn with
  | ind x ih =>
    by_cases hx : x < 16
    · exact ⟨hxd x, [], hxs_small hx, hxd_ne x hx h⟩
    · obtain ⟨c, r, e, hc⟩ := ih (x / 16) (by omega) (by omega)
      exact ⟨c, r ++ [hxd (x % 16)], by rw [hxs_big hx, e]; rfl, hc⟩
theorem drop_rep (m : Nat) (l : List UInt8) : (List.replicate m 48 ++ l).dropWhile (· == (48 : UInt8)) = l.dropWhile (· == (48 : UInt8)) := by
  induction m with
  | zero => rfl
  | succ m ih => rw [List.replicate_succ, List.cons_append, List.dropWhile_cons]; simp [ih]
theorem hx_trim (k x : Nat) (hk : 1 ≤ k) (h : x < 16 ^ k) : trimLeftB (hxf k x) 48 = if x = 0 then [] else hxs x := by
  unfold trimLeftB
  rw [(hxs_pad k x hk h).2, drop_rep]
  by_cases h0 : x = 0
  · subst h0; rw [if_pos rfl, hxs_small (by decide)]; decide
  · rw [if_neg h0]
    obtain ⟨c, r, e, hc⟩ := hxs_head x h0
    rw [e, List.dropWhile_cons, hc]
    rfl
theorem repeat_one (c : UInt8) : ∀ k, repeatL [c] k = List.replicate k c
  | 0 => rfl
  | k + 1 => by rw [repeatL, repeat_one c k]; rfl
end Go.Proofs.YtdjaikglkgabdaaGreatDoor
namespace Go.Proofs.YtdjaikglkgabdaaGreatDoor
open Go.RowKit Go.Lib
theorem bt_l (l : List UInt8) (k : Nat) : bt ⟨l.toArray⟩ k = (l[k]?.getD 0).toNat := by
  unfold bt
  by_cases h : k < l.length
  · rw [dif_pos (show k < (⟨l.toArray⟩ : ByteArray).size from h), List.getElem?_eq_getElem h]
    rfl
  · rw [dif_neg (show ¬ k < (⟨l.toArray⟩ : ByteArray).size from h), List.getElem?_eq_none (by omega)]
    rfl
theorem bt_app (a b : List UInt8) (k : Nat) (h : k < a.length) : bt ⟨(a ++ b).toArray⟩ k = bt ⟨a.toArray⟩ k := by
  rw [bt_l, bt_l, List.getElem?_append_left h]
theorem bt_at_len (a : List UInt8) (c : UInt8) (b : List UInt8) : bt ⟨(a ++ c :: b).toArray⟩ a.length = c.toNat := by
  rw [bt_l, List.getElem?_append_right (Nat.le_refl _)]; simp
theorem ext_r (a b : List UInt8) (n : Nat) (h : n = (a ++ b).length) : (⟨(a ++ b).toArray⟩ : ByteArray).extract a.length n = ⟨b.toArray⟩ := by
  subst h
  apply ByteArray.ext
  rw [ByteArray.data_extract, List.extract_toArray]
  congr 1
  simp [List.extract_eq_take_drop]
theorem ext_l (a b : List UInt8) (n : Nat) (h : n = a.length) : (⟨(a ++ b).toArray⟩ : ByteArray).extract 0 n = ⟨a.toArray⟩ := by
  subst h
  apply ByteArray.ext
  rw [ByteArray.data_extract, List.extract_toArray]
  congr 1
  simp [List.extract_eq_take_drop]
theorem numF_congr (s t : ByteArray) (b n : Nat) : ∀ m, (∀ k, k < m → bt s k = bt t k) → numF s b n m = numF t b n m
  | 0, _ => rfl
  | m + 1, h => by
    unfold numF
    rw [numF_congr s t b n m (fun k hk => h k (by omega)), h m (by omega)]
theorem decF_congr (s t : ByteArray) : ∀ m, (∀ k, k < m → bt s k = bt t k) → decF s m = decF t m
  | 0, _ => rfl
  | m + 1, h => by
    unfold decF
    rw [decF_congr s t m (fun k hk => h k (by omega)), h m (by omega)]
theorem numF_snoc (l : List UInt8) (c : UInt8) (b n : Nat) (hc : c.toNat ≠ 95) :
    numF ⟨(l ++ [c]).toArray⟩ b n (l ++ [c]).length = (numF ⟨l.toArray⟩ b n l.length * b + digV c.toNat) % 2 ^ n := by
  rw [show (l ++ [c]).length = l.length + 1 by simp]
  rw [numF, bt_at_len l c [], if_neg hc, numF_congr _ ⟨l.toArray⟩ b n l.length (fun k hk => bt_app l [c] k hk)]
theorem decF_snoc (l : List UInt8) (c : UInt8) (hc : c.toNat ≠ 95) :
    decF ⟨(l ++ [c]).toArray⟩ (l ++ [c]).length = decF ⟨l.toArray⟩ l.length * 10 + digV c.toNat := by
  rw [show (l ++ [c]).length = l.length + 1 by simp]
  rw [decF, bt_at_len l c [], if_neg hc, decF_congr _ ⟨l.toArray⟩ l.length (fun k hk => bt_app l [c] k hk)]
theorem hxd_dig (d : Nat) (h : d < 16) : digV (hxd d).toNat = d ∧ (hxd d).toNat ≠ 95 := by
  have : ∀ d : Fin 16, digV (hxd d.val).toNat = d.val ∧ (hxd d.val).toNat ≠ 95 := by decide
  exact this ⟨d, h⟩
theorem dcd_dig (d : Nat) (h : d < 10) : digV (UInt8.ofNat (48 + d)).toNat = d ∧ (UInt8.ofNat (48 + d)).toNat ≠ 95 := by
  have : ∀ d : Fin 10, digV (UInt8.ofNat (48 + d.val)).toNat = d.val ∧ (UInt8.ofNat (48 + d.val)).toNat ≠ 95 := by decide
  exact this ⟨d, h⟩
theorem hxs_dig (x : Nat) : ∀ c ∈ hxs x, digV c.toNat < 16 := by
  induction x using Nat.strongRecOn with
  | ind x ih =>
    intro c hc
    by_cases hx : x < 16
    · rw [hxs_small hx] at hc
      rw [List.mem_singleton.1 hc, (hxd_dig x hx).1]; exact hx
    · rw [hxs_big hx] at hc
      rcases List.mem_append.1 hc with h | h
      · exact ih (x / 16) (by omega) c h
      · rw [List.mem_singleton.1 h, (hxd_dig _ (Nat.mod_lt _ (by decide))).1]; exact Nat.mod_lt _ (by decide)
theorem dec_big {u : Nat} (h : ¬ u < 10) : decDigits u = decDigits (u / 10) ++ [UInt8.ofNat (48 + u % 10)] := by rw [decDigits, dif_neg h]
theorem dec_pos (u : Nat) : 0 < (decDigits u).length := by
  by_cases h : u < 10
  · rw [decDigits_one h]; simp
  · rw [dec_big h]; simp
theorem dec_dig (x : Nat) : ∀ c ∈ decDigits x, digV c.toNat < 10 := by
  induction x using Nat.strongRecOn with
  | ind x ih =>
    intro c hc
    by_cases hx : x < 10
    · rw [decDigits_one hx] at hc
      rw [List.mem_singleton.1 hc, (dcd_dig x hx).1]; exact hx
    · rw [dec_big hx] at hc
      rcases List.mem_append.1 hc with h | h
      · exact ih (x / 10) (by omega) c h
      · rw [List.mem_singleton.1 h, (dcd_dig _ (Nat.mod_lt _ (by decide))).1]; exact Nat.mod_lt _ (by decide)
theorem numF_hxs (n x : Nat) : numF ⟨(hxs x).toArray⟩ 16 n (hxs x).length = x % 2 ^ n := by
  induction x using Nat.strongRecOn with
  | ind x ih =>
    by_cases hx : x < 16
    · rw [hxs_small hx]
      have h := numF_snoc [] (hxd x) 16 n (hxd_dig x hx).2
      rw [List.nil_append, (hxd_dig x hx).1] at h
      rw [h]
      simp [numF]
    · rw [hxs_big hx, numF_snoc _ _ 16 n (hxd_dig _ (Nat.mod_lt _ (by decide))).2, ih (x / 16) (by omega), (hxd_dig _ (Nat.mod_lt _ (by decide))).1]
      rw [Nat.add_mod, Nat.mod_mul_mod, ← Nat.add_mod]
      congr 1
      omega
theorem decF_dec (x : Nat) : decF ⟨(decDigits x).toArray⟩ (decDigits x).length = x := by
  induction x using Nat.strongRecOn with
  | ind x ih =>
    by_cases hx : x < 10
    · rw [decDigits_one hx]
      have h := decF_snoc [] (UInt8.ofNat (48 + x)) (dcd_dig x hx).2
      rw [List.nil_append, (dcd_dig x hx).1] at h
      rw [h]
      simp [decF]
    · rw [dec_big hx, decF_snoc _ _ (dcd_dig _ (Nat.mod_lt _ (by decide))).2, ih (x / 10) (by omega), (dcd_dig _ (Nat.mod_lt _ (by decide))).1]
      omega
theorem cap_dec (x M : Nat) : capF ⟨(decDigits x).toArray⟩ M (decDigits x).length = min x M := by rw [capF_min, decF_dec]
/-- Digits at the beginning of a text are no end of the run. -/
theorem bad_app (a r : List UInt8) (b : Nat) (h : ∀ c ∈ a, digV c.toNat < b) (k : Nat) (hk : k < a.length) : badB ⟨(a ++ r).toArray⟩ b k = false := by
  unfold badB
  have e : bt ⟨(a ++ r).toArray⟩ k = (a[k]).toNat := by rw [bt_l, List.getElem?_append_left hk, List.getElem?_eq_getElem hk]; rfl
  have := h a[k] (List.getElem_mem hk)
  rw [e, show decide (b ≤ digV (a[k]).toNat) = false by simp; omega, Bool.false_and]
theorem dA_all (a : List UInt8) (b : Nat) (h : ∀ c ∈ a, digV c.toNat < b) : dA ⟨a.toArray⟩ b = a.length :=
  dA_eq _ b a.length (Nat.le_refl _) (fun k hk => by have := bad_app a [] b h k hk; rwa [List.append_nil] at this) (fun hl => absurd hl (Nat.lt_irrefl _))
theorem dA_quote (a r : List UInt8) (h : ∀ c ∈ a, digV c.toNat < 10) : dA ⟨(a ++ 39 :: r).toArray⟩ 10 = a.length :=
  dA_eq _ 10 a.length (show a.length ≤ (a ++ 39 :: r).length by simp) (fun k hk => bad_app a _ 10 h k hk) (fun _ => bad_39 _ 10 _ (by decide) (bt_at_len a 39 r))
/-- Is a number of n bits written at all? -/
def txB (n : Nat) (sz : Bool) : Bool := decide (n = 0) || (!sz && decide (n ≠ 32))
/-- The text of a literal. -/
def txL (n x : Nat) (sg sz : Bool) : List UInt8 :=
  if txB n sz then []
  else if sg && !sz && !x.testBit 31 then decDigits x
  else (if sz then decDigits n else []) ++ 39 :: ((if sg then [115] else []) ++ 104 :: hxs x)
theorem pa_dec (u : Nat) (h : u < 2147483648) : paV ⟨(decDigits u).toArray⟩ = ⟨32, u, true, false, 0⟩ := by
  have hd := dA_all _ 10 (dec_dig u)
  have hs : (⟨(decDigits u).toArray⟩ : ByteArray).size = (decDigits u).length := rfl
  have hp := dec_pos u
  unfold paV
  rw [if_pos (by rw [hd, hs]), if_neg (by rw [hs]; omega), hs, cap_dec, Nat.min_eq_left (by omega), if_pos h]
theorem pa_tail (a : List UInt8) (n : Nat) (ha : ∀ c ∈ a, digV c.toNat < 10) (hn : a = [] ∧ n = 32 ∨ a = decDigits n ∧ 1 ≤ n ∧ n ≤ 128) (s : ByteArray) (rest : List UInt8) (hs : s = ⟨(a ++ rest).toArray⟩) (x : Nat) (hx : x < 2 ^ n) (sg : Bool) :
    tlV s a.length sg ⟨(104 :: hxs x).toArray⟩ = ⟨n, x, sg, !decide (a = []), 0⟩ := by
  have e0 : bt ⟨(104 :: hxs x).toArray⟩ 0 = 104 := by rw [bt_l]; rfl
  have e1 : (⟨(104 :: hxs x).toArray⟩ : ByteArray).size = (hxs x).length + 1 := by rw [show (⟨(104 :: hxs x).toArray⟩ : ByteArray).size = (104 :: hxs x).length from rfl]; simp
  have e2 : (⟨(104 :: hxs x).toArray⟩ : ByteArray).extract 1 ((hxs x).length + 1) = ⟨(hxs x).toArray⟩ := ext_r [104] (hxs x) _ (by simp [Nat.add_comm])
  have e3 : (⟨(hxs x).toArray⟩ : ByteArray).size = (hxs x).length := rfl
  have hp := hxs_pos x
  have hb : baseV 104 = 16 := by decide
  unfold tlV
  rw [e1, if_neg (by omega), e0, hb, if_neg (by decide), e2, e3, if_neg (by omega), dA_all _ 16 (hxs_dig x), if_neg (by omega)]
  rcases hn with ⟨rfl, rfl⟩ | ⟨h1, h2, h3⟩
  · rw [if_pos (show ([] : List UInt8).length = 0 from rfl), numF_hxs, Nat.mod_eq_of_lt hx]
    rfl
  · have hq := dec_pos n
    have hq2 : ¬ a.length = 0 := by rw [h1]; omega
    have hq3 : ¬ a = [] := fun h => hq2 (by rw [h]; rfl)
    rw [if_neg hq2, hs, ext_l a rest _ rfl, h1, show (⟨(decDigits n).toArray⟩ : ByteArray).size = (decDigits n).length from rfl, cap_dec, Nat.min_eq_left (by omega), if_pos ⟨h2, h3⟩, numF_hxs, Nat.mod_eq_of_lt hx]
    rw [h1] at hq3
    simp [hq3]
theorem pa_hex (a : List UInt8) (n : Nat) (ha : ∀ c ∈ a, digV c.toNat < 10) (hn : a = [] ∧ n = 32 ∨ a = decDigits n ∧ 1 ≤ n ∧ n ≤ 128) (x : Nat) (hx : x < 2 ^ n) (sg : Bool) :
    paV ⟨(a ++ 39 :: ((if sg then [115] else []) ++ 104 :: hxs x)).toArray⟩ = ⟨n, x, sg, !decide (a = []), 0⟩ := by
  obtain ⟨r, hr⟩ : ∃ r, (if sg then [115] else []) ++ 104 :: hxs x = r := ⟨_, rfl⟩
  have hd := dA_quote a r ha
  have hz : (⟨(a ++ 39 :: r).toArray⟩ : ByteArray).size = a.length + 1 + r.length := by
    rw [show (⟨(a ++ 39 :: r).toArray⟩ : ByteArray).size = (a ++ 39 :: r).length from rfl]; simp; omega
  have hr0 : 0 < r.length := by rw [← hr]; simp; omega
  have he : (⟨(a ++ 39 :: r).toArray⟩ : ByteArray).extract (a.length + 1) (⟨(a ++ 39 :: r).toArray⟩ : ByteArray).size = ⟨r.toArray⟩ := by
    have h := ext_r (a ++ [39]) r (⟨(a ++ 39 :: r).toArray⟩ : ByteArray).size (by rw [hz]; simp; omega)
    simpa using h
  rw [hr]
  unfold paV
  rw [hd, if_neg (by rw [hz]; omega), bt_at_len a 39 r, if_pos (by decide), he]
  unfold bhV
  rw [show (⟨r.toArray⟩ : ByteArray).size = r.length from rfl, if_neg (by omega)]
  cases sg
  · have hr' : r = 104 :: hxs x := by rw [← hr]; simp
    have e0 : bt ⟨r.toArray⟩ 0 = 104 := by rw [hr', bt_l]; rfl
    rw [e0, if_neg (by decide), hr']
    exact pa_tail a n ha hn _ (39 :: 104 :: hxs x) rfl x hx false
  · have hr' : r = 115 :: 104 :: hxs x := by rw [← hr]; simp
    have e0 : bt ⟨r.toArray⟩ 0 = 115 := by rw [hr', bt_l]; rfl
    rw [e0, if_pos (by decide), hr']
    have e2 : (⟨(115 :: 104 :: hxs x).toArray⟩ : ByteArray).extract 1 (115 :: 104 :: hxs x).length = ⟨(104 :: hxs x).toArray⟩ := ext_r [115] (104 :: hxs x) _ rfl
    rw [e2]
    exact pa_tail a n ha hn _ (39 :: 115 :: 104 :: hxs x) rfl x hx true
/-- Parse reads the text of a literal back. -/
theorem pa_tx (n x : Nat) (sg sz : Bool) (hn : n ≤ 128) (hx : x < 2 ^ n) (hb : txB n sz = false) : paV ⟨(txL n x sg sz).toArray⟩ = ⟨n, x, sg, sz, 0⟩ := by
  unfold txL
  rw [hb, if_neg (by decide)]
  have h0 : 1 ≤ n := by
    unfold txB at hb; simp at hb; omega
  by_cases h1 : (sg && !sz && !x.testBit 31) = true
  · rw [if_pos h1]
    simp only [Bool.and_eq_true, Bool.not_eq_true'] at h1
    obtain ⟨⟨rfl, rfl⟩, h3⟩ := h1
    have e32 : n = 32 := by
      unfold txB at hb; simp at hb; omega
    subst e32
    have : x < 2147483648 := by
      have := Nat.lt_pow_two_of_testBit (n := 31) x (fun i hi => by
        rcases Nat.lt_or_ge i 32 with h | h
        · rw [show i = 31 by omega]; exact h3
        · exact Nat.testBit_lt_two_pow (Nat.lt_of_lt_of_le hx (Nat.pow_le_pow_right (by decide) h)))
      simpa using this
    exact pa_dec x this
  · rw [if_neg h1]
    cases sz
    · have e32 : n = 32 := by
        unfold txB at hb; simp at hb; omega
      exact pa_hex [] n (fun c h => by cases h) (.inl ⟨rfl, e32⟩) x hx sg
    · have := pa_hex (decDigits n) n (dec_dig n) (.inr ⟨rfl, h0, hn⟩) x hx sg
      have hq : ¬ decDigits n = [] := fun h => by have := dec_pos n; rw [h] at this; exact absurd this (by decide)
      simpa [hq] using this
theorem tx_nil (n x : Nat) (sg sz : Bool) : txL n x sg sz = [] ↔ txB n sz = true := by
  unfold txL
  cases h : txB n sz
  · rw [if_neg (by decide)]
    constructor
    · intro h2
      split at h2
      · have := dec_pos x; rw [h2] at this; exact absurd this (by decide)
      · simp at h2
    · intro h2; cases h2
  · simp
theorem tx_len (n x : Nat) (sg sz : Bool) (hn : n ≤ 128) (hx : x < 2 ^ n) : (txL n x sg sz).length ≤ 64 := by
  have hd : ∀ k u, u < 10 ^ (k + 1) → (decDigits u).length ≤ k + 1 := fun k => by
    induction k with
    | zero => intro u hu; rw [decDigits_one (by simpa using hu)]; simp
    | succ k ih =>
      intro u hu
      by_cases h : u < 10
      · rw [decDigits_one h]; simp
      · rw [dec_big h]
        have := ih (u / 10) (by rw [Nat.pow_succ] at hu; omega)
        simp; omega
  have h1 := hd 2 n (by omega)
  have h2 := (hxs_pad 32 x (by decide) (Nat.lt_of_lt_of_le hx (Nat.le_trans (Nat.pow_le_pow_right (by decide) hn) (by decide)))).1
  unfold txL
  split
  · simp
  · split
    · rename_i hb h3
      simp only [Bool.and_eq_true, Bool.not_eq_true'] at h3
      have e32 : n = 32 := by
        obtain ⟨⟨_, rfl⟩, _⟩ := h3
        unfold txB at hb; simp at hb; omega
      subst e32
      have := hd 9 x (Nat.lt_of_lt_of_le hx (by decide))
      omega
    · simp only [List.length_append, List.length_cons]
      cases sz <;> cases sg <;> simp <;> omega
end Go.Proofs.YtdjaikglkgabdaaGreatDoor
namespace Go.Proofs.YtdjaikglkgabdaaGreatDoor
open Go.RowKit Go.Lib
/-- The two tables of the library that Text looks into lie as they are laid. -/
def LT (w : World) : Prop := TabIs Tryz.prog w "internal/strconv.uint64pow10" .u64 pow10Tab ∧ w.cell? ⟨2, 15, none⟩ = some (.int .u8 4)
theorem cell_lt {w : World} {b o : Nat} {v : Value} (h : w.cell? ⟨b, o, none⟩ = some v) : b < w.heap.size := by
  unfold World.cell? at h
  rcases Nat.lt_or_ge b w.heap.size with h1 | h1
  · exact h1
  · simp only [Array.getElem?_eq_none h1] at h
    cases h
theorem LT.on {w w' : World} (h : LT w) (hb : Below w.heap.size w w') : LT w' :=
  ⟨tabBelow_of_tabIs h.1 w' hb, (hb.cell (p := ⟨2, 15, none⟩) (cell_lt h.2)).trans h.2⟩
theorem Itoa_t (x : Nat) (hx : x < 9223372036854775808) (w : World) (hT : LT w) :
    Calls Tryz.prog 22 #[.int .i64 (x : Int)] w (RV w (.string ⟨(decDigits x).toArray⟩)) := by
  refine (Tryz.strconv_Itoa (x : Int) (by omega) (by omega) w hT.1).mono ?_
  rintro e w' ⟨rfl, k, os, rfl⟩
  refine ⟨?_, below_grow _ w (Nat.le_refl _) k os⟩
  unfold itoa
  rw [if_neg (by omega), Int.toNat_natCast]
set_option maxRecDepth 100000 in
set_option maxHeartbeats 1600000 in
theorem tz64_t (w : World) (hT : w.cell? ⟨2, 15, none⟩ = some (.int .u8 4)) :
    Calls Tryz.prog 109 #[.int .u64 16] w fun e w' => e = .returned (.int .i64 4) ∧ w' = w := by
  have e1 : bits .and .u64 16 (IntKind.u64.wrap (-16)) = 16 := by decide +kernel
  have e2 : IntKind.u64.wrap (16 * 285870213051353865) = 4573923408821661840 := by decide +kernel
  have e3 : IntKind.u64.wrap 4573923408821661840 = 4573923408821661840 := by decide +kernel
  go_enter Tryz.func109, Tryz.ntmps109
  go_wp2
  go_ret
  exact ⟨rfl, rfl⟩
set_option maxRecDepth 100000 in
set_option maxHeartbeats 1600000 in
theorem tz_t (w : World) (hT : w.cell? ⟨2, 15, none⟩ = some (.int .u8 4)) :
    Calls Tryz.prog 95 #[.int .u64 16] w fun e w' => e = .returned (.int .i64 4) ∧ w' = w := by
  have h := Lib.hid (tz64_t w hT)
  go_enter Tryz.func95, Tryz.ntmps95
  go_wp2_with fail
  (with_reducible refine h.out.mono ?_)
  rintro e w' ⟨rfl, rfl⟩
  go_wp2
  go_ret
  exact ⟨rfl, rfl⟩
set_option maxRecDepth 100000 in
set_option maxHeartbeats 1600000 in
theorem pow2_t (w : World) :
    Calls Tryz.prog 94 #[.int .i64 16] w fun e w' => e = .returned (.bool true) ∧ w' = w := by
  go_enter Tryz.func94, Tryz.ntmps94
  go_wp2
  go_ret
  exact ⟨rfl, rfl⟩
end Go.Proofs.YtdjaikglkgabdaaGreatDoor
namespace Go.Proofs.YtdjaikglkgabdaaGreatDoor
open Go.RowKit Go.Lib
def dg36 : ByteArray := ⟨#[48, 49, 50, 51, 52, 53, 54, 55, 56, 57, 97, 98, 99, 100, 101, 102, 103, 104, 105, 106, 107, 108, 109, 110, 111, 112, 113, 114, 115, 116, 117, 118, 119, 120, 121, 122]⟩
theorem idx_dig (d c : Nat) (hd : d < 16) (hc : (hxd d).toNat = c) (w : World) :
    (Instr.index 9 (.string ⟨#[48, 49, 50, 51, 52, 53, 54, 55, 56, 57, 97, 98, 99, 100, 101, 102, 103, 104, 105, 106, 107, 108, 109, 110, 111, 112, 113, 114, 115, 116, 117, 118, 119, 120, 121, 122]⟩) (.int .u64 (d : Int))).run Tryz.prog w = .ok (.int .u8 (c : Int)) w := by
  subst hc
  change (Instr.index 9 (.string dg36) (.int .u64 (d : Int))).run Tryz.prog w = _
  have hs : dg36.size = 36 := by decide
  rw [run_index_string w 9 dg36 .u64 _ Tryz.underlying9, dif_pos ⟨by omega, by omega⟩]
  have : ∀ d : Fin 16, dg36.data.toList[d.val]? = some (hxd d.val) := by decide
  obtain ⟨h1, h2⟩ := List.getElem?_eq_some_iff.1 (this ⟨d, hd⟩)
  rw [← h2]
  rfl
/-- The cells of the library's own array when k digits are written. -/
def fdg (u k j : Nat) : Value := .int .u8 (if 65 ≤ j + k then ((hxd (u / 16 ^ (64 - j) % 16)).toNat : Int) else 0)
theorem push_bytes (l : List UInt8) : (l.map fun c => ((c.toNat : Nat) : Int)).foldl (fun r n => r.push (UInt8.ofNat n.toNat)) ByteArray.empty = ⟨l.toArray⟩ := by
  have : ∀ (l : List UInt8) (r : ByteArray), (l.map fun c => ((c.toNat : Nat) : Int)).foldl (fun r n => r.push (UInt8.ofNat n.toNat)) r = ⟨r.data ++ l.toArray⟩ := by
    intro l
    induction l with
    | nil => intro r; simp
    | cons c l ih =>
      intro r
      rw [List.map_cons, List.foldl_cons, ih]
      apply ByteArray.ext
      simp [ByteArray.push]
  rw [this]
  apply ByteArray.ext
  simp
theorem hxf_range : ∀ k u, hxf (k + 1) u = (List.range (k + 1)).map fun j => hxd (u / 16 ^ (k - j) % 16)
  | 0, u => by simp [hxf]
  | k + 1, u => by
    rw [hxf, hxf_range k (u / 16), List.range_succ (n := k + 1), List.map_append]
    congr 1
    · apply List.map_congr_left
      intro j hj
      have := List.mem_range.1 hj
      rw [Nat.div_div_eq_div_mul, show 16 * 16 ^ (k - j) = 16 ^ (k + 1 - j) by rw [show k + 1 - j = k - j + 1 by omega, Nat.pow_succ, Nat.mul_comm]]
    · simp
theorem hxs_of : ∀ k u, u / 16 ^ k < 16 → (k = 0 ∨ 16 ≤ u / 16 ^ (k - 1)) → hxs u = hxf (k + 1) u
  | 0, u, h, _ => by
    have : u < 16 := by simpa using h
    rw [hxs_small this]
    show _ = [] ++ [hxd (u % 16)]
    rw [Nat.mod_eq_of_lt this, List.nil_append]
  | k + 1, u, h, h2 => by
    have h3 : 16 ≤ u / 16 ^ k := by
      rcases h2 with h2 | h2
      · omega
      · exact h2
    have h4 : ¬ u < 16 := fun hu => by have := Nat.div_le_self u (16 ^ k); omega
    rw [hxs_big h4, hxf]
    congr 1
    refine hxs_of k (u / 16) ?_ ?_
    · rw [Nat.div_div_eq_div_mul, Nat.mul_comm, ← Nat.pow_succ]; exact h
    · rcases Nat.eq_zero_or_pos k with e | e
      · exact .inl e
      · refine .inr ?_
        rw [Nat.div_div_eq_div_mul, show 16 * 16 ^ (k - 1) = 16 ^ k by rw [Nat.mul_comm, ← Nat.pow_succ]; congr 1; omega]
        exact h3
theorem conv_hx (u k m g len : Nat) (w : World) (hk : k + m = 64) (hlen : len = k + 1) (h : w.rowIs g 134 65 (fdg u (k + 1))) :
    (convert 45 9 (.slice (some ⟨g, m, none⟩) len len)).run Tryz.prog w = .ok (.string ⟨(hxf (k + 1) u).toArray⟩) w := by
  subst hlen
  rw [run_convert_bytes_string w _ _ 5 _ _ _ Tryz.underlying45 Tryz.underlying5 Tryz.underlying9, ← push_bytes]
  refine run_bytesToString w _ _ _ ((hxf (k + 1) u).map fun c => ((c.toNat : Nat) : Int)) ?_
  have hl := run_loadCells_list (P := Tryz.prog) w ⟨g, m, none⟩ (((hxf (k + 1) u).map fun c => ((c.toNat : Nat) : Int)).map (Value.int .u8)) (fun j v hv => by
    rw [hxf_range, List.getElem?_map, List.getElem?_map, List.getElem?_map, Option.map_map, Option.map_map, Option.map_eq_some_iff] at hv
    obtain ⟨i, hi, rfl⟩ := hv
    have hj : j < k + 1 := by
      rcases Nat.lt_or_ge j (k + 1) with h' | h'
      · exact h'
      · rw [List.getElem?_eq_none (by simpa using h')] at hi; cases hi
    rw [List.getElem?_eq_getElem (by simpa using hj)] at hi
    simp only [List.getElem_range, Option.some.injEq] at hi
    subst hi
    have hadd : (⟨g, m, none⟩ : Addr).add j = ⟨g, m + j, none⟩ := by unfold Addr.add; split <;> simp_all
    rw [hadd, World.rowIs.cell h (by omega)]
    unfold fdg
    rw [if_pos (by omega), show 64 - (m + j) = k - j by omega]
    rfl)
  simpa [hxf_len] using hl
theorem fdg_set (u k m : Nat) (hk : k + m = 64) (w : World) (g : Nat) (c : Nat) (hc : (hxd (u / 16 ^ k % 16)).toNat = c) (h : w.rowIs g 134 65 (fdg u k)) :
    (w.setCell ⟨g, m, none⟩ (.int .u8 (c : Int))).rowIs g 134 65 (fdg u (k + 1)) := by
  refine World.rowIs.congr (World.rowIs.set h m _) fun j hj => ?_
  by_cases e : j = m
  · subst e
    simp only [if_true]
    unfold fdg
    rw [if_pos (by omega), show 64 - j = k by omega, hc]
  · rw [if_neg e]
    unfold fdg
    by_cases h2 : 65 ≤ j + k
    · rw [if_pos h2, if_pos (by omega)]
    · rw [if_neg h2, if_neg (by omega)]
theorem slice65 (g m : Nat) (hm : m < 65) (W : World) : (Instr.sliceAt 134 (.pointer (some ⟨g, 0, none⟩)) (some (.int .i64 (m : Int))) none none).run Tryz.prog W = .ok (.slice (some ⟨g, m, none⟩) (65 - m) (65 - m)) W := by
  have hal : Tryz.prog.arrayLen 134 = 65 := by simp [Program.arrayLen, Tryz.underlying134]
  rw [run_sliceAt_array_l W 134 ⟨g, 0, none⟩ (by simp [Program.arrayLen, Program.elem, Tryz.underlying134]) .i64 (m : Int) (by omega) (by rw [hal]; omega)]
  rw [hal]
  go_simp
  omega
theorem zero65 : Tryz.zeroCells134 = Array.replicate 65 (.int .u8 0) := by kernel_rfl
theorem row65 (w : World) (u : Nat) : (w.alloc (.cells Tryz.zeroCells134 134)).rowIs w.heap.size 134 65 (fdg u 0) := by
  rw [zero65]
  have h := World.rowIs_alloc w (Array.replicate 65 (.int .u8 0)) 134 (fdg u 0) (fun i hi => by
    unfold fdg
    rw [Array.size_replicate] at hi
    rw [if_neg (by omega), Array.getElem?_replicate, if_pos hi])
  rwa [Array.size_replicate] at h
set_option maxRecDepth 100000 in
set_option maxHeartbeats 3200000 in
theorem fbits_t (u : Nat) (hu : u < 2 ^ 64) (w : World) (hT : LT w) :
    Calls Tryz.prog 67 #[.slice none 0 0, .int .u64 (u : Int), .int .i64 16, .bool false, .bool false] w (RV w (.tuple #[.slice none 0 0, .string ⟨(hxs u).toArray⟩])) := by
  have hP := Lib.hid pow2_t
  have hZ := Lib.hid tz_t
  have hT1 := Lib.hid (fun o => (hT.on ((Below.refl w.heap.size w).alloc (Nat.le_refl _) o)).2)
  clear hT
  have R0 := Lib.hid (row65 w u)
  go_enter Tryz.func67, Tryz.ntmps67
  go_wp2_with (go_at_call 94; (with_reducible refine (hP.out _).mono ?_); rintro e w1 ⟨rfl, rfl⟩)
  (with_reducible refine (hZ.out _ (hT1.out _)).mono ?_)
  rintro e w1 ⟨rfl, rfl⟩
  clear hT1 hZ hP
  go_wp2
  go_loopw [1, 13] (fun vu vi wr => ∃ k m : Nat, k + m = 65 ∧ k ≤ 15 ∧ vu = .int .u64 ((u / 16 ^ k : Nat) : Int) ∧ vi = .int .i64 (m : Int) ∧ wr.rowIs w.heap.size 134 65 (fdg u k) ∧ (k = 0 ∨ 16 ≤ u / 16 ^ (k - 1)) ∧ Below w.heap.size w wr) (fun vu _ _ => (RowKit.intOf vu).toNat)
  case atStart =>
    exact ⟨0, 65, rfl, by omega, by simp, rfl, R0.out, .inl rfl, by go_grown⟩
  case round =>
    obtain ⟨k, m1, hkm, hk15, rfl, rfl, R, hpre, hbw⟩ := hrel
    clear R0
    obtain ⟨m, rfl⟩ : ∃ m, m1 = m + 1 := ⟨m1 - 1, by omega⟩
    have hm : k + m = 64 := by omega
    obtain ⟨v, hv⟩ : ∃ v, u / 16 ^ k = v := ⟨_, rfl⟩
    have hv64 : v < 2 ^ 64 := by rw [← hv]; exact Nat.lt_of_le_of_lt (Nat.div_le_self _ _) hu
    have hc0 := World.rowIs.cell R (i := m) (by omega)
    have hf := World.rowIs.frozen R
    rw [show fdg u k m = .int .u8 0 by unfold fdg; rw [if_neg (by omega)]] at hc0
    rw [hv]
    by_cases h16 : 16 ≤ v
    · obtain ⟨d, hd⟩ : ∃ d, v % 16 = d := ⟨_, rfl⟩
      have hd16 : d < 16 := by omega
      obtain ⟨c, hc⟩ : ∃ c, (hxd d).toNat = c := ⟨_, rfl⟩
      have eand : bits .and .u64 (v : Int) 15 = (d : Int) := by
        have := bits_and_mask v 4 hv64
        rw [show ((mask 4 : Nat) : Int) = 15 by decide, show v &&& mask 4 = v % 16 from Nat.and_two_pow_sub_one_eq_mod v 4, hd] at this
        exact this
      have hi := idx_dig d c hd16 hc
      have hk14 : k + 1 ≤ 15 := by
        rcases Nat.lt_or_ge k 15 with h' | h'
        · exact h'
        · have : k = 15 := by omega
          subst this
          have : u / 16 ^ 15 < 16 := Nat.div_lt_of_lt_mul (by simpa using hu)
          omega
      have hs := Lib.hid (fdg_set u k m hm wr w.heap.size c (by rw [hv, hd, hc]) R)
      have hnx : u / 16 ^ (k + 1) = v / 16 := by rw [← hv, Nat.div_div_eq_div_mul, Nat.pow_succ]
      have hpr : 16 ≤ u / 16 ^ k := by rw [hv]; exact h16
      replace hnx := Lib.hid hnx
      replace hpr := Lib.hid hpr
      clear hc hd hv R hpre
      go_wp2
      go_roundw
      case rel => exact ⟨k + 1, m, by omega, hk14, by rw [hnx.out]; go_num, by go_num, hs.out, .inr hpr.out, hbw.setCell (by simp) _⟩
      case measure => simp [RowKit.intOf]; omega
    · obtain ⟨c, hc⟩ : ∃ c, (hxd v).toNat = c := ⟨_, rfl⟩
      have hi := idx_dig v c (by omega) hc
      have hs := fdg_set u k m hm wr w.heap.size c (by rw [hv, Nat.mod_eq_of_lt (by omega), hc]) R
      have hconv := conv_hx u k m w.heap.size (65 - m) _ hm (by omega) hs
      rw [← hxs_of k u (by rw [hv]; omega) hpre] at hconv
      have hsl := slice65 w.heap.size m (by omega)
      clear hc hv R hpre hs
      go_wp2
      exact bodyPost_ret (v := .tuple #[.slice none 0 0, .string ⟨(hxs u).toArray⟩]) (by simp [results, Tryz.results67, go_sem]) rfl ⟨rfl, hbw.setCell (by simp) _⟩
end Go.Proofs.YtdjaikglkgabdaaGreatDoor
