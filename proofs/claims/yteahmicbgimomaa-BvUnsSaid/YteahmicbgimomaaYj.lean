/-
  BvMakes for every input: what New and Of do at every width and length; a slice of words that is handed in, opened.
-/
import Derived.Test.YteahmicbgimomaaYg
import Derived.Test.YteahmicbgimomaaYi
import Derived.Test.YteahmicbgimomaaPa
namespace Go.Proofs.Yteahmicbgimomaa
open Go.ChangeShapes Go.WideShapes Go.ChangeAt Go.RowKit
theorem new_pack (wi : Int) (m c : Nat) (A : Option Addr) (g : Nat → Nat) (hg : ∀ j, j < m → g j < 2 ^ 64) (hm5 : m ≤ 5) :
    ∃ (n1 : Nat) (e1 : Int) (h1 : Nat → Bool), n1 ≤ 128 ∧
      (∀ w, RW w A m g → Calls Try.prog 15 #[.int .i64 wi, .slice A m c] w (RV w (.tuple #[vv n1 (valB h1 n1), .int .i64 e1]))) ∧
      (∀ w, RW w A m g → Calls Try.prog 16 #[.int .i64 wi, .slice A m c] w (LB w n1 h1 e1)) := by
  by_cases h : 1 ≤ wi ∧ wi ≤ 128
  · obtain ⟨n, rfl⟩ : ∃ n : Nat, wi = (n : Int) := ⟨wi.toNat, by omega⟩
    refine ⟨n, 0, wbit g m, by omega, fun w hA => ?_, fun w hA => refNew_ok n m c A g w (by omega) (by omega) hA hg hm5⟩
    rw [wbit_val g m n (by omega) hg]
    exact New_ok n m c A g w (by omega) (by omega) hA.ru hg
  · exact ⟨0, 2, fun _ => false, by omega, fun w _ => New_bad wi m c A w (by omega), fun w _ => refNew_bad wi m c A _ w (by omega)⟩
theorem of_pack (n c : Nat) (B : Option Addr) (f : Nat → Bool) :
    ∃ (n2 : Nat) (e2 e3 : Int) (n3 x3 : Nat) (h2 : Nat → Bool), n2 ≤ 128 ∧
      (∀ w, RB w B n f → Calls Try.prog 18 #[.slice B n c] w (RV w (.tuple #[vv n2 (valB h2 n2), .int .i64 e2]))) ∧
      (∀ w, RB w B n f → Calls Try.prog 19 #[.slice B n c] w (LB w n2 h2 e2)) ∧
      (∀ w D, RU w D (wN n2) (wordN (valB h2 n2)) → Calls Try.prog 15 #[.int .i64 (n2 : Int), .slice D (wN n2) (wN n2)] w (RV w (.tuple #[vv n3 x3, .int .i64 e3]))) ∧
      ((n2 = 0 ∧ e3 = 2) ∨ (0 < n2 ∧ e3 = 0 ∧ n3 = n2 ∧ x3 = valB h2 n2)) := by
  by_cases h : 1 ≤ n ∧ n ≤ 128
  · refine ⟨n, 0, 0, n, valB f n, f, h.2, fun w hB => Of_ok n c B f w h.1 h.2 hB, fun w hB => refOf_ok n c B f w h.1 h.2 hB, fun w D hD => ?_, Or.inr ⟨h.1, rfl, rfl, rfl⟩⟩
    have hx := valB_lt f n
    have k := New_ok n (wN n) (wN n) D (wordN (valB f n)) w h.1 h.2 hD (fun j _ => by unfold wordN; split; exact lo_lt _; exact hi_lt hx h.2)
    rw [trim_words n _ h.2 hx] at k
    exact k
  · exact ⟨0, 2, 2, 0, 0, fun _ => false, by omega, fun w _ => Of_bad n c B w (by omega), fun w _ => refOf_bad n c B _ w (by omega), fun w D _ => New_bad 0 _ _ D w (by omega), Or.inl ⟨rfl, rfl⟩⟩
theorem short_pack (n0 c : Nat) (B : Option Addr) (f : Nat → Bool) (w : World) (hB : RB w B n0 f) (hc : n0 ≤ c) :
    ∃ n, RB w B n f ∧ ∀ w, Calls Try.prog 14 #[.slice B n0 c] w fun e w' => e = .returned (.slice B n c) ∧ w' = w := by
  by_cases h : n0 ≤ 140
  · exact ⟨n0, hB, fun w => short_le n0 c B w h⟩
  · have hl := hB.less (show 140 ≤ n0 by omega)
    obtain ⟨b, off, rfl, _, _⟩ := hB (by omega)
    exact ⟨140, hl, fun w => short_gt n0 c b off w (by omega) hc⟩
theorem Makes_all (wi : Int) (m c n0 c2 : Nat) (A B : Option Addr) (g : Nat → Nat) (f : Nat → Bool) (w : World) (hA : RW w A m g) (hg : ∀ j, j < m → g j < 2 ^ 64) (hc : m ≤ c) (hB : RB w B n0 f) (hc2 : n0 ≤ c2) :
    Calls Try.prog 3 #[.int .i64 wi, .slice A m c, .slice B n0 c2] w (RV w (.bool true)) := by
  obtain ⟨n, hBn, hS⟩ := short_pack n0 c2 B f w hB hc2
  obtain ⟨n2, e2, e3, n3, x3, h2, hn2, hO, hRO, hN3, hq⟩ := of_pack n c2 B f
  by_cases h5 : m ≤ 5
  · obtain ⟨n1, e1, h1, hn1, hN, hRN⟩ := new_pack wi m c A g hg h5
    exact Makes_a m c n0 n c2 n1 n2 n3 x3 wi e1 e2 e3 A B g f h1 h2 w hn1 hn2 h5 hA hBn hS hN hRN hO hRO hN3 hq
  · have hl := hA.less (show 5 ≤ m by omega)
    obtain ⟨b, off, rfl, _, _⟩ := hA (by omega)
    obtain ⟨n1, e1, h1, hn1, hN, hRN⟩ := new_pack wi 5 c (some ⟨b, off, none⟩) g (fun j hj => hg j (by omega)) (Nat.le_refl _)
    exact Makes_b m c n0 n c2 n1 n2 n3 x3 b off wi e1 e2 e3 B g f h1 h2 w hn1 hn2 (by omega) hc hl hBn hS hN hRN hO hRO hN3 hq
theorem cellsU : Try.prog.cellsOf 26 = 1 := by kernel_rfl
/-- A slice of words that can be read as data: its words. -/
theorem words_of {H : Type} {enc : TypeId × Value → H} {W : World} {A : Option Addr} {n c : Nat} {d : DataW H} {p : List MemPlace}
    (h : DataW.Trod enc Try.prog W 0 (fun _ => true) true 22 (.slice A n c) d p) (lt : ∀ x ∈ p, x.block < W.heap.size) : n ≤ c ∧ ∃ g, RW W A n g ∧ ∀ j, j < n → g j < 2 ^ 64 := by
  obtain ⟨fuel, hf⟩ := h
  rcases Go.Deep.open_slice1 Try.underlying22 cellsU hf with ⟨hcs, _⟩ | ⟨a, len, cap, m, k, V, D, Pl, hcs, _, hl, _, hm, hx, hV⟩
  · simp [Value.cells] at hcs
    obtain ⟨rfl, rfl, rfl⟩ := hcs
    exact ⟨Nat.le_refl _, fun _ => 0, fun h => absurd h (by omega), fun j h => absurd h (by omega)⟩
  · simp [Value.cells] at hcs
    obtain ⟨rfl, rfl, rfl⟩ := hcs
    simp only [if_true] at hm
    subst hm
    refine ⟨hl, ?_⟩
    have hb : ∀ i, ∃ v : Nat, v < 2 ^ 64 ∧ (i < n → V i = .int .u64 (v : Int)) := fun i => by
      by_cases hi : i < n
      · obtain ⟨z, e, _, hw⟩ := DataW.trod_int Try.underlying26 (hV i (by omega)).2
        have hr : 0 ≤ z ∧ z ≤ 18446744073709551615 := by
          simp only [Lit.wf, Bool.and_eq_true, decide_eq_true_eq] at hw
          exact hw
        refine ⟨z.toNat, by omega, fun _ => ?_⟩
        rw [Int.toNat_of_nonneg hr.1]
        simpa using e
      · exact ⟨0, by decide, fun h => absurd h hi⟩
    refine ⟨fun i => Classical.choose (hb i), fun h0 => ?_, fun j _ => (Classical.choose_spec (hb j)).1⟩
    have hc0 := (hV 0 (by omega)).1
    obtain ⟨b, off, spot⟩ := a
    have hs : spot = none := by
      cases spot with
      | none => rfl
      | some s =>
        exfalso
        simp [World.cell?, Addr.add] at hc0
        split at hc0 <;> simp at hc0
    subst hs
    refine ⟨b, off, rfl, ?_, fun j hj => ?_⟩
    · have := lt (.cell b off) (by
        simp only [Prod.mk.injEq] at hx
        rw [hx.2]
        refine List.mem_append_left _ (List.mem_map.2 ⟨0, List.mem_range.2 (by omega), rfl⟩))
      exact this
    · have hj' := (hV j (by omega)).1
      rw [(Classical.choose_spec (hb j)).2 hj] at hj'
      have hadd : (⟨b, off, none⟩ : Addr).add j = ⟨b, off + j, none⟩ := by unfold Addr.add; split <;> simp_all
      rw [hadd] at hj'
      exact hj'
end Go.Proofs.Yteahmicbgimomaa
