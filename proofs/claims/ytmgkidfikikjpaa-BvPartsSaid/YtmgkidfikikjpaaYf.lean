/-
  The walk of bv's Of where it refuses; the six numbers of BvMakes; what the walk of BvMakes asks of New and Of, for every input.
  The walk of the statement BvMakes, at most five words.
  The walk of the statement BvMakes, more than five words.
  BvMakes for every input: what New and Of do at every width and length; a slice of words that is handed in, opened.
-/
import Derived.Test.YtmgkidfikikjpaaYe
import Derived.Test.YtmgkidfikikjpaaWx
import Derived.Test.YtmgkidfikikjpaaRt
import Derived.Deep.DeepCutAuto
import Derived.Test.YtmgkidfikikjpaaPa
namespace Go.Proofs.Ytmgkidfikikjpaa
open Go.RowKit
set_option maxHeartbeats 400000 in
theorem Of_bad (n c : Nat) (A : Option Addr) (w : World) (h : n < 1 ∨ 128 < n) :
    Calls Try.prog 25 #[.slice A n c] w (RV w (.tuple #[vv 0 0, .int .i64 2])) := by
  have hF := fun w => fits_t (n : Int) w
  have e : fitsB (n : Int) = false := by unfold fitsB; simp; omega
  rw [e] at hF
  clear e h
  replace hF := Lib.hid hF
  go_enter Try.func25, Try.ntmps25
  go_wp2_with (go_at_call 55; (with_reducible refine (hF.out _).mono ?_); rintro e w0 ⟨rfl, rfl⟩)
  refine bodyPost_ret (v := .tuple #[.agg #[.int .i64 0, .int .u64 0, .int .u64 0], .int .i64 2]) (by simp [results, Try.results25, go_sem]) rfl ⟨rfl, ?_⟩
  go_grown
def cstN : Nat → Nat
  | 0 => 0 | 1 => 0 | 2 => 1 | 3 => 7 | 4 => 1000 | _ => 4611686018427387904
def cst (j : Nat) : Int := if j = 0 then -1 else (cstN j : Int)
theorem cstN_lt (j : Nat) : cstN j < 2 ^ 63 := by unfold cstN; split <;> decide
theorem Num_c (n x j : Nat) (w : World) : Calls Try.prog 29 #[vv n x, .int .i64 (cst j)] w (RV w (.int .i64 ((min x (cstN j) : Nat) : Int))) := by
  by_cases hj : j = 0
  · subst hj
    have h := Num_neg n x w
    have e : min x (cstN 0) = 0 := Nat.min_zero x
    rw [e]
    exact h
  · have h := Num_v n x (cstN j) w (cstN_lt j)
    unfold cst
    rw [if_neg hj]
    exact h
theorem refNum_c (n c j : Nat) (A : Option Addr) (f : Nat → Bool) (w : World) (hn : n ≤ 128) (hA : RB w A n f) :
    Calls Try.prog 32 #[.slice A n c, .int .i64 (cst j)] w fun e w' => e = .returned (.int .i64 ((min (valB f n) (cstN j) : Nat) : Int)) ∧ w' = w := by
  by_cases hj : j = 0
  · subst hj
    have h := refNum_neg n c A f w hn hA
    have e : min (valB f n) (cstN 0) = 0 := Nat.min_zero _
    rw [e]
    exact h
  · have h := refNum_nat n c (cstN j) (cstN_lt j) A f w hn hA
    unfold cst
    rw [if_neg hj]
    exact h
theorem RU_words {w : World} {g n x : Nat} (h : w.rowIs g 25 n (wcell x)) : RU w (some ⟨g, 0, none⟩) n (wordN x) := fun _ => ⟨⟨g, 0, none⟩, rfl, World.rowIs.lt h, fun j hj => by
  have e : (⟨g, 0, none⟩ : Addr).add j = ⟨g, j, none⟩ := by unfold Addr.add; split <;> simp_all
  rw [e]
  exact World.rowIs.cell h hj⟩
theorem trim_words (n x : Nat) (hn : n ≤ 128) (hx : x < 2 ^ n) : trimN n (wd (wordN x) (wN n) 0) (wd (wordN x) (wN n) 1) = x := by
  unfold trimN
  by_cases h : 64 < n
  · have e : wN n = 2 := by unfold wN; omega
    rw [e]
    have : wd (wordN x) 2 0 + 2 ^ 64 * wd (wordN x) 2 1 = x := by unfold wd wordN; simp; exact lo_hi x
    rw [this, Nat.mod_eq_of_lt hx]
  · have hx64 : x < 2 ^ 64 := Nat.lt_of_lt_of_le hx (Nat.pow_le_pow_right (by decide) (by omega))
    by_cases h0 : n = 0
    · subst h0
      have : x = 0 := by simpa using hx
      subst this
      simp [Nat.mod_one]
    · have e : wN n = 1 := by unfold wN; omega
      rw [e]
      have : wd (wordN x) 1 0 + 2 ^ 64 * wd (wordN x) 1 1 = x := by unfold wd wordN; simp; unfold lo; exact Nat.mod_eq_of_lt hx64
      rw [this, Nat.mod_eq_of_lt hx]
end Go.Proofs.Ytmgkidfikikjpaa
namespace Go.Proofs.Ytmgkidfikikjpaa
open Go.RowKit
attribute [local go_sem ↓] Go.wp_at_zero Go.wp_at_succ
end Go.Proofs.Ytmgkidfikikjpaa
namespace Go.Proofs.Ytmgkidfikikjpaa
open Go.RowKit
attribute [local go_sem ↓] Go.wp_at_zero Go.wp_at_succ
end Go.Proofs.Ytmgkidfikikjpaa
namespace Go.Proofs.Ytmgkidfikikjpaa
open Go.ChangeShapes Go.WideShapes Go.ChangeAt Go.RowKit
theorem short_pack (n0 c : Nat) (B : Option Addr) (f : Nat → Bool) (w : World) (hB : RB w B n0 f) (hc : n0 ≤ c) :
    ∃ n, RB w B n f ∧ ∀ w, Calls Try.prog 7 #[.slice B n0 c] w fun e w' => e = .returned (.slice B n c) ∧ w' = w := by
  by_cases h : n0 ≤ 140
  · exact ⟨n0, hB, fun w => short_le n0 c B w h⟩
  · have hl := hB.less (show 140 ≤ n0 by omega)
    obtain ⟨b, off, rfl, _, _⟩ := hB (by omega)
    exact ⟨140, hl, fun w => short_gt n0 c b off w (by omega) hc⟩
theorem cellsU : Try.prog.cellsOf 25 = 1 := by kernel_rfl
/-- A slice of words that can be read as data: its words. -/
theorem words_of {H : Type} {enc : TypeId × Value → H} {W : World} {A : Option Addr} {n c : Nat} {d : DataW H} {p : List MemPlace}
    (h : DataW.Trod enc Try.prog W 0 (fun _ => true) true 69 (.slice A n c) d p) (lt : ∀ x ∈ p, x.block < W.heap.size) : n ≤ c ∧ ∃ g, RW W A n g ∧ ∀ j, j < n → g j < 2 ^ 64 := by
  obtain ⟨fuel, hf⟩ := h
  rcases Go.Deep.open_slice1 Try.underlying69 cellsU hf with ⟨hcs, _⟩ | ⟨a, len, cap, m, k, V, D, Pl, hcs, _, hl, _, hm, hx, hV⟩
  · simp [Value.cells] at hcs
    obtain ⟨rfl, rfl, rfl⟩ := hcs
    exact ⟨Nat.le_refl _, fun _ => 0, fun h => absurd h (by omega), fun j h => absurd h (by omega)⟩
  · simp [Value.cells] at hcs
    obtain ⟨rfl, rfl, rfl⟩ := hcs
    simp only [if_true] at hm
    subst hm
    refine ⟨hl, ?_⟩
    have hb : ∀ i, ∃ v : Nat, v < 2 ^ 64 ∧ (i < n → V i = .int .u64 (v : Int)) := fun i => by
      by_cases hi : i < n
      · obtain ⟨z, e, _, hw⟩ := DataW.trod_int Try.underlying25 (hV i (by omega)).2
        have hr : 0 ≤ z ∧ z ≤ 18446744073709551615 := by
          simp only [Lit.wf, Bool.and_eq_true, decide_eq_true_eq] at hw
          exact hw
        refine ⟨z.toNat, by omega, fun _ => ?_⟩
        rw [Int.toNat_of_nonneg hr.1]
        simpa using e
      · exact ⟨0, by decide, fun h => absurd h hi⟩
    refine ⟨fun i => Classical.choose (hb i), fun h0 => ?_, fun j _ => (Classical.choose_spec (hb j)).1⟩
    have hc0 := (hV 0 (by omega)).1
    obtain ⟨b, off, spot⟩ := a
    have hs : spot = none := by
      cases spot with
      | none => rfl
      | some s =>
        exfalso
        simp [World.cell?, Addr.add] at hc0
        split at hc0 <;> simp at hc0
    subst hs
    refine ⟨b, off, rfl, ?_, fun j hj => ?_⟩
    · have := lt (.cell b off) (by
        simp only [Prod.mk.injEq] at hx
        rw [hx.2]
        refine List.mem_append_left _ (List.mem_map.2 ⟨0, List.mem_range.2 (by omega), rfl⟩))
      exact this
    · have hj' := (hV j (by omega)).1
      rw [(Classical.choose_spec (hb j)).2 hj] at hj'
      have hadd : (⟨b, off, none⟩ : Addr).add j = ⟨b, off + j, none⟩ := by unfold Addr.add; split <;> simp_all
      rw [hadd] at hj'
      exact hj'
end Go.Proofs.Ytmgkidfikikjpaa
