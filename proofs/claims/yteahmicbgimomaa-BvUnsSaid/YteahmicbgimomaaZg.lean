/-
  BvUns for every list of bits.
-/
import Derived.Test.YteahmicbgimomaaZf
import Derived.Test.YteahmicbgimomaaYj
namespace Go.Proofs.Yteahmicbgimomaa
open Go.RowKit
theorem Uns_all (n0 c : Nat) (A : Option Addr) (f : Nat → Bool) (w : World) (hB : RB w A n0 f) (hc : n0 ≤ c) :
    Calls Try.prog 5 #[.slice A n0 c] w (RV w (.bool true)) := by
  obtain ⟨n, hA, hS⟩ := short_pack n0 c A f w hB hc
  by_cases hn : n ≤ 128
  · refine Uns_a n0 n c A f w hn hA hS (fun w h => ?_) (uns_pack n c A f hn)
    by_cases h0 : n = 0
    · subst h0
      exact Own_bad 0 c A w (by omega)
    · exact Own_ok n c A f w (by omega) hn h
  · exact Uns_b n0 n c 0 0 A f w (by omega) hA hS (fun w _ => Own_bad n c A w (by omega)) (fun w => Is_ok 0 0 none f w (by omega) (fun h => absurd h (by omega))) (uns_pack 0 0 none f (by omega))
end Go.Proofs.Yteahmicbgimomaa
