/-
  Hexadecimal and decimal digits as lists of bytes. Nothing here is walked.
  The text of a literal, as a list of bytes, and what Parse reads out of it. Nothing here is walked.
  The library functions that lit's Text calls: strconv.Itoa, strings.Repeat, strings.TrimLeft by their contracts; the walk of strconv.FormatUint at base 16.
  The walk of strconv.FormatUint at base 16.
-/
import Derived.Lib.ItoaNum
import Derived.Lib.Repeat
import Derived.Lib.TrimByte
import Derived.Test.YtcifljbcoioogaaGreatDoorFa
import Derived.Test.YtcifljbcoioogaaGreatDoorLy
import Derived.Lib.AppendIntMem
import Derived.Test.YtcifljbcoioogaaGreatDoorWa
namespace Go.Proofs.YtcifljbcoioogaaGreatDoor
open Go.Lib
/-- A hexadecimal digit. -/
def hxd (d : Nat) : UInt8 := UInt8.ofNat (if d < 10 then 48 + d else 87 + d)
/-- The hexadecimal digits, no zero ahead. -/
def hxs (x : Nat) : List UInt8 :=
  if _h : x < 16 then [hxd x] else hxs (x / 16) ++ [hxd (x % 16)]
termination_by x
decreasing_by omega
end Go.Proofs.YtcifljbcoioogaaGreatDoor
namespace Go.Proofs.YtcifljbcoioogaaGreatDoor
open Go.RowKit Go.Lib
theorem bt_l (l : List UInt8) (k : Nat) : bt ⟨l.toArray⟩ k = (l[k]?.getD 0).toNat := by
  unfold bt
  by_cases h : k < l.length
  · rw [dif_pos (show k < (⟨l.toArray⟩ : ByteArray).size from h), List.getElem?_eq_getElem h]
    rfl
  · rw [dif_neg (show ¬ k < (⟨l.toArray⟩ : ByteArray).size from h), List.getElem?_eq_none (by omega)]
    rfl
theorem bt_app (a b : List UInt8) (k : Nat) (h : k < a.length) : bt ⟨(a ++ b).toArray⟩ k = bt ⟨a.toArray⟩ k := by
  rw [bt_l, bt_l, List.getElem?_append_left h]
theorem bt_at_len (a : List UInt8) (c : UInt8) (b : List UInt8) : bt ⟨(a ++ c :: b).toArray⟩ a.length = c.toNat := by
  rw [bt_l, List.getElem?_append_right (Nat.le_refl _)]; simp
theorem decF_congr (s t : ByteArray) : ∀ m, (∀ k, k < m → bt s k = bt t k) → decF s m = decF t m
  | 0, _ => rfl
  | m + 1, h => by
    unfold decF
    rw [decF_congr s t m (fun k hk => h k (by omega)), h m (by omega)]
theorem decF_snoc (l : List UInt8) (c : UInt8) (hc : c.toNat ≠ 95) :
    decF ⟨(l ++ [c]).toArray⟩ (l ++ [c]).length = decF ⟨l.toArray⟩ l.length * 10 + digV c.toNat := by
  rw [show (l ++ [c]).length = l.length + 1 by simp]
  rw [decF, bt_at_len l c [], if_neg hc, decF_congr _ ⟨l.toArray⟩ l.length (fun k hk => bt_app l [c] k hk)]
theorem dcd_dig (d : Nat) (h : d < 10) : digV (UInt8.ofNat (48 + d)).toNat = d ∧ (UInt8.ofNat (48 + d)).toNat ≠ 95 := by
  have : ∀ d : Fin 10, digV (UInt8.ofNat (48 + d.val)).toNat = d.val ∧ (UInt8.ofNat (48 + d.val)).toNat ≠ 95 := by decide
  exact this ⟨d, h⟩
theorem dec_big {u : Nat} (h : ¬ u < 10) : decDigits u = decDigits (u / 10) ++ [UInt8.ofNat (48 + u % 10)] := by rw [decDigits, dif_neg h]
theorem dec_pos (u : Nat) : 0 < (decDigits u).length := by
  by_cases h : u < 10
  · rw [decDigits_one h]; simp
  · rw [dec_big h]; simp
theorem dec_dig (x : Nat) : ∀ c ∈ decDigits x, digV c.toNat < 10 := by
  induction x using Nat.strongRecOn with
  | ind x ih =>
    intro c hc
    by_cases hx : x < 10
    · rw [decDigits_one hx] at hc
      rw [List.mem_singleton.1 hc, (dcd_dig x hx).1]; exact hx
    · rw [dec_big hx] at hc
      rcases List.mem_append.1 hc with h | h
      · exact ih (x / 10) (by omega) c h
      · rw [List.mem_singleton.1 h, (dcd_dig _ (Nat.mod_lt _ (by decide))).1]; exact Nat.mod_lt _ (by decide)
theorem decF_dec (x : Nat) : decF ⟨(decDigits x).toArray⟩ (decDigits x).length = x := by
  induction x using Nat.strongRecOn with
  | ind x ih =>
    by_cases hx : x < 10
    · rw [decDigits_one hx]
      have h := decF_snoc [] (UInt8.ofNat (48 + x)) (dcd_dig x hx).2
      rw [List.nil_append, (dcd_dig x hx).1] at h
      rw [h]
      simp [decF]
    · rw [dec_big hx, decF_snoc _ _ (dcd_dig _ (Nat.mod_lt _ (by decide))).2, ih (x / 10) (by omega), (dcd_dig _ (Nat.mod_lt _ (by decide))).1]
      omega
theorem cap_dec (x M : Nat) : capF ⟨(decDigits x).toArray⟩ M (decDigits x).length = min x M := by rw [capF_min, decF_dec]
/-- Digits at the beginning of a text are no end of the run. -/
theorem bad_app (a r : List UInt8) (b : Nat) (h : ∀ c ∈ a, digV c.toNat < b) (k : Nat) (hk : k < a.length) : badB ⟨(a ++ r).toArray⟩ b k = false := by
  unfold badB
  have e : bt ⟨(a ++ r).toArray⟩ k = (a[k]).toNat := by rw [bt_l, List.getElem?_append_left hk, List.getElem?_eq_getElem hk]; rfl
  have := h a[k] (List.getElem_mem hk)
  rw [e, show decide (b ≤ digV (a[k]).toNat) = false by simp; omega, Bool.false_and]
theorem dA_all (a : List UInt8) (b : Nat) (h : ∀ c ∈ a, digV c.toNat < b) : dA ⟨a.toArray⟩ b = a.length :=
  dA_eq _ b a.length (Nat.le_refl _) (fun k hk => by have := bad_app a [] b h k hk; rwa [List.append_nil] at this) (fun hl => absurd hl (Nat.lt_irrefl _))
theorem pa_dec (u : Nat) (h : u < 2147483648) : paV ⟨(decDigits u).toArray⟩ = ⟨32, u, true, false, 0⟩ := by
  have hd := dA_all _ 10 (dec_dig u)
  have hs : (⟨(decDigits u).toArray⟩ : ByteArray).size = (decDigits u).length := rfl
  have hp := dec_pos u
  unfold paV
  rw [if_pos (by rw [hd, hs]), if_neg (by rw [hs]; omega), hs, cap_dec, Nat.min_eq_left (by omega), if_pos h]
end Go.Proofs.YtcifljbcoioogaaGreatDoor
namespace Go.Proofs.YtcifljbcoioogaaGreatDoor
open Go.RowKit Go.Lib
/-- The two tables of the library that Text looks into lie as they are laid. -/
def LT (w : World) : Prop := TabIs Tryz.prog w "internal/strconv.uint64pow10" .u64 pow10Tab ∧ w.cell? ⟨2, 15, none⟩ = some (.int .u8 4)
theorem cell_lt {w : World} {b o : Nat} {v : Value} (h : w.cell? ⟨b, o, none⟩ = some v) : b < w.heap.size := by
  unfold World.cell? at h
  rcases Nat.lt_or_ge b w.heap.size with h1 | h1
  · exact h1
  · simp only [Array.getElem?_eq_none h1] at h
    cases h
theorem LT.on {w w' : World} (h : LT w) (hb : Below w.heap.size w w') : LT w' :=
  ⟨tabBelow_of_tabIs h.1 w' hb, (hb.cell (p := ⟨2, 15, none⟩) (cell_lt h.2)).trans h.2⟩
theorem Itoa_t (x : Nat) (hx : x < 9223372036854775808) (w : World) (hT : LT w) :
    Calls Tryz.prog 30 #[.int .i64 (x : Int)] w (RV w (.string ⟨(decDigits x).toArray⟩)) := by
  refine (Tryz.strconv_Itoa (x : Int) (by omega) (by omega) w hT.1).mono ?_
  rintro e w' ⟨rfl, k, os, rfl⟩
  refine ⟨?_, below_grow _ w (Nat.le_refl _) k os⟩
  unfold itoa
  rw [if_neg (by omega), Int.toNat_natCast]
end Go.Proofs.YtcifljbcoioogaaGreatDoor
namespace Go.Proofs.YtcifljbcoioogaaGreatDoor
open Go.RowKit Go.Lib
end Go.Proofs.YtcifljbcoioogaaGreatDoor
