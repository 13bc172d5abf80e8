/-
  Graph.has: whether numbers are literals of a graph.
-/
import Derived.Test.YtinfkjflomdhbaaGc
namespace Go.Proofs.Ytinfkjflomdhbaa
open Go.RowKit Go.Lib Go.Maps
/-- Is a number no literal? -/
def foreign (N : Nat) (x : Int) : Bool := decide (x < 0) || decide ((N : Int) ≤ x / 2)
set_option maxRecDepth 100000 in
theorem has1_t {B p q : Nat} {F : List PN} (x : Int) (w : World) (h : GI w B p F) (hq : BI w q 26 (pg p)) (hx : x < 4611686018427387904) :
    Calls Try.prog 37 #[.int .i64 x, .pointer (some ⟨q, 0, none⟩)] w (RV w (.bool (foreign F.length x))) := by
  have hL := fun W (g : GI W B p F) => Len_t W g
  unfold RW at hL
  have c0 := hq.c
  have ql := hq.lt
  obtain ⟨N, hN⟩ : ∃ N, F.length = N := ⟨_, rfl⟩
  rw [hN] at hL ⊢
  replace hN := Lib.hid hN
  unfold foreign
  by_cases h0 : x < 0
  · have d0 : decide (x < 0) = true := by simpa using h0
    rw [d0]
    clear hL hq
    replace h := Lib.hid h
    go_enter Try.func37, Try.ntmps37
    go_wp2_with fail
    go_quiet (fail)
    go_wp2_with fail
    go_ret
    exact ⟨rfl, bdn w _⟩
  · obtain ⟨a, rfl⟩ : ∃ a : Nat, x = (a : Int) := ⟨x.toNat, by omega⟩
    have d0 : decide ((a : Int) < 0) = false := by simp
    have hn := fun W => node_t a W (by omega)
    unfold RW at hn
    have hL2 := fun k => hL (w.drewN k) (h.over (bdn w k))
    obtain ⟨r, hr⟩ : ∃ r, ((a / 2 : Nat) : Int) = r := ⟨_, rfl⟩
    have hr2 : (a : Int) / 2 = r := by rw [← hr]; simp
    rw [hr] at hn
    rw [d0, hr2]
    replace hn := Lib.hid hn
    replace hL2 := Lib.hid hL2
    replace hr := Lib.hid hr
    clear hL hq h hr2
    go_enter Try.func37, Try.ntmps37
    go_wp2_with fail
    go_quiet ((first | (go_at_call 27; (with_reducible refine (hn.out _).mono ?_); exact (fun e w1 ⟨he, hw1⟩ => ⟨he, _, hw1.symm⟩)) | (go_at_call 12; (with_reducible refine (hL2.out _).mono ?_); exact (fun e w1 ⟨he, hw1⟩ => ⟨he, _, hw1.symm⟩))))
    go_wp2_with fail
    go_ret
    exact ⟨rfl, bdn w _⟩
end Go.Proofs.Ytinfkjflomdhbaa
