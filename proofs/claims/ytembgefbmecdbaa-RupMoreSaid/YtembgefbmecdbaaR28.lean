/-
  slices.IndexFunc and ContainsFunc with a function that may change memory; clear in both cases.
-/
import Derived.Test.YtembgefbmecdbaaR27
namespace Go.Proofs.Ytembgefbmecdbaa
open Go.RowKit Go.Lib
section
set_option maxHeartbeats 1600000 in
set_option maxRecDepth 100000 in
theorem idxS_t (g : Nat) (bnd lb : Array Value) (eg : ∀ args w, (callFunc g args).run Try.prog w = .ok (.enter g args) w) (f : Nat → Int) (n c : Nat) (A : Option Addr) (w : World) (hn : n ≤ 1000000000000) (I J : Nat → World → Prop)
    (hA : ∀ j wr, I j wr → j < n → ∃ b off : Nat, A = some ⟨b, off, none⟩ ∧ b < wr.heap.size ∧ wr.cell? ⟨b, off + j, none⟩ = some (.int .i64 (f j)))
    (hs : ∀ j wr, I j wr → j < n → Calls Try.prog g (bnd ++ #[.int .i64 (f j)] ++ lb) wr fun e w' => (e = .returned (.bool true) ∧ J j w') ∨ (e = .returned (.bool false) ∧ I (j + 1) w')) (h0 : I 0 w) :
    Calls Try.prog 32 #[.slice A n c, .func (.func g) bnd lb] w fun e w' => (∃ j, j < n ∧ e = .returned (.int .i64 (j : Int)) ∧ J j w') ∨ (e = .returned (.int .i64 (-1)) ∧ I n w') := by
  replace hA := Lib.hid hA
  replace hs := Lib.hid hs
  replace h0 := Lib.hid h0
  go_enter Try.func32, Try.ntmps32
  go_wp2_with fail
  go_loopw [8] (fun i wr => ∃ k : Nat, k ≤ n ∧ i = .int .i64 (k : Int) ∧ Hid (I k wr)) (fun i _ => n - (intOf i).toNat)
  case atStart => exact ⟨0, Nat.zero_le _, rfl, h0⟩
  case round =>
    obtain ⟨k, hk, rfl, hI⟩ := hrel
    by_cases hlt : k < n
    · obtain ⟨b, off, rfl, hb, c0⟩ := hA.out k wr hI.out hlt
      have cS := hs.out k wr hI.out hlt
      obtain ⟨x, hx⟩ : ∃ x, f k = x := ⟨_, rfl⟩
      rw [hx] at c0 cS
      replace cS := Lib.hid cS
      clear hx hI
      go_wp2_with fail
      go_at_fn g
      refine cS.out.mono ?_
      rintro e w1 (⟨rfl, hJ⟩ | ⟨rfl, hI⟩)
      · replace hJ := Lib.hid hJ
        clear cS
        go_wp2_with fail
        go_ret
        exact .inl ⟨k, hlt, rfl, hJ.out⟩
      · replace hI := Lib.hid hI
        clear cS
        go_wp2_with fail
        go_roundw
        case rel => exact ⟨k + 1, by omega, by go_num, hI⟩
        case measure => simp [intOf]; omega
    · obtain rfl : k = n := by omega
      go_wp2_with fail
      go_ret
      exact .inr ⟨rfl, hI.out⟩
end
end Go.Proofs.Ytembgefbmecdbaa
