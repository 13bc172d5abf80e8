/-
  MakeExpr whole: of whatever depth, a tree that is as it should be.
-/
import Derived.Test.YtljiiniocnljmaaVh
import Derived.Test.YtljiiniocnljmaaVi
namespace Go.Proofs.Ytljiiniocnljmaa
open Go.RowKit Go.Lib
set_option maxRecDepth 100000 in
set_option maxHeartbeats 1600000 in
theorem Next_d (p B n : Nat) (w : World) (hn : 0 < n) (hn2 : n ≤ 1000) (hM : MKm w p B) : ∃ r : Nat, r < n ∧ Calls Try.prog 13 #[.pointer (some ⟨p, 0, none⟩), .int .i64 (n : Int)] w fun e w' => e = .returned (.int .i64 (r : Int)) ∧ MKm w' p B ∧ Keep (· = p) w w' := by
  have hM0 := hM
  obtain ⟨hpB, hBs, A, m, c, k, hg, hk, hm, hd⟩ := hM
  have hpl := lt_of_get hg
  have c0 : w.cell? ⟨p, 0, none⟩ = some (.slice A m c) := by rw [Lib.cell_of_heap hg]; rfl
  have c1 : w.cell? ⟨p, 1, none⟩ = some (.int .i64 (k : Int)) := by rw [Lib.cell_of_heap hg]; rfl
  have cf : ∀ i, w.frozen? ⟨p, i, none⟩ = false := fun i => Lib.frozen_of_heap hg i
  by_cases h0 : k < m
  · obtain ⟨b, o, rfl, hbp, hbl, hc⟩ := hd (by omega)
    obtain ⟨u, hu, cu⟩ := hc k h0
    have hN1 : MKm (w.setCell ⟨p, 1, none⟩ (.int .i64 (((k + 1 : Nat) : Int)))) p B := by
      refine ⟨hpB, by rw [World.size_setCell]; exact hBs, _, m, c, k + 1, heap_set w p 1 _ _ _ hg, by omega, hm, fun _ => ⟨b, o, rfl, hbp, hbl, fun i hi => ?_⟩⟩
      obtain ⟨v, hv, cv⟩ := hc i hi
      refine ⟨v, hv, ?_⟩
      rw [← cv]
      exact World.cell?_of_block (Below.heap_setCell w ⟨p, 1, none⟩ _ b hbp)
    have hK1 : Keep (· = p) w (w.setCell ⟨p, 1, none⟩ (.int .i64 (((k + 1 : Nat) : Int)))) := (Keep.refl (fun x => x = p) w).set ⟨p, 1, none⟩ rfl _
    have ht : ((u : Int)).tmod (n : Int) = ((u % n : Nat) : Int) := rfl
    have hr := Nat.mod_lt u hn
    obtain ⟨r, hre⟩ : ∃ r, u % n = r := ⟨_, rfl⟩
    rw [hre] at ht hr
    have hcu : (w.setCell ⟨p, 1, none⟩ (.int .i64 (((k + 1 : Nat) : Int)))).cell? ⟨b, o + k, none⟩ = some (.int .u8 (u : Int)) := (World.cell?_of_block (Below.heap_setCell w ⟨p, 1, none⟩ _ b hbp)).trans cu
    have hkw : IntKind.i64.wrap ((k : Int) + 1) = ((k + 1 : Nat) : Int) := by rw [IntWalk.i64_in _ (by omega)]; rfl
    obtain ⟨q, hq⟩ : ∃ q, k + 1 = q := ⟨_, rfl⟩
    have hq1 : IntKind.i64.wrap ((q : Int) - 1) = (k : Int) := by rw [IntWalk.i64_in _ (by omega)]; omega
    have hqm : q ≤ m := by omega
    have hnz : ¬ n = 0 := by omega
    have hnz2 : ¬ (n : Int) = 0 := by omega
    rw [hq] at hN1 hK1 hcu hkw
    have hu64 : IntKind.i64.wrap (u : Int) = (u : Int) := IntWalk.i64_in _ (by omega)
    clear hd hM0 hg hre hc hq
    replace hN1 := Lib.hid hN1
    replace hK1 := Lib.hid hK1
    have hge : decide ((m : Int) ≤ (k : Int)) = false := by simp; omega
    refine ⟨r, hr, ?_⟩
    go_enter Try.func13, Try.ntmps13
    go_wp2_with fail
    go_region
    go_wp2_with fail
    go_region
    go_wp2_with fail
    go_ret
    exact ⟨rfl, hN1.out, hK1.out.dr.dr⟩
  · have hge : decide ((m : Int) ≤ (k : Int)) = true := by simp; omega
    have hge2 : (m : Int) ≤ (k : Int) := by omega
    replace hM0 := Lib.hid hM0
    clear hd hg
    refine ⟨0, hn, ?_⟩
    go_enter Try.func13, Try.ntmps13
    go_wp2_with fail
    go_region
    go_wp2_with fail
    go_ret
    exact ⟨rfl, hM0.out.drew, ⟨rfl, rfl, rfl, Nat.le_refl _, fun _ _ _ => rfl⟩⟩
theorem MakeExpr_t (p B : Nat) : ∀ (D : Nat) (d : Int) (w : World), d ≤ D + 1 → d ≤ 1000 → MKm w p B → Calls Try.prog 7 #[.pointer (some ⟨p, 0, none⟩), .int .i64 d] w (MXm (D + 1) p B w) := by
  have hNx : ∀ (n : Nat) W, 0 < n → n ≤ 1000 → MKm W p B → Calls Try.prog 13 #[.pointer (some ⟨p, 0, none⟩), .int .i64 (n : Int)] W (NX n p B W) := fun n W h1 h2 h3 => Next_t p B n W h1 h2 h3
  intro D
  induction D with
  | zero =>
    intro d w hd h1000 hM
    exact MakeExpr_low p B 0 d w hM (by omega) hNx (fun h => by omega)
  | succ D ih =>
    intro d w hd h1000 hM
    have hEs : 1 < d → ∀ (n : Nat) W, n ≤ 3 → MKm W p B → Calls Try.prog 16 #[.pointer (some ⟨p, 0, none⟩), .int .i64 (d - 1), .int .i64 (n : Int)] W (MXms (D + 1) p B n W) :=
      fun _ n W hn hW => MakeExprs_t p B n (D + 1) (d - 1) W hn hW fun W' hW' => ih (d - 1) W' (by omega) (by omega) hW'
    by_cases h1 : d ≤ 1
    · exact MakeExpr_low p B (D + 1) d w hM h1 hNx hEs
    · have hd1 : 1 < d := by omega
      obtain ⟨r, hr, hC⟩ := Next_d p B 12 (w.alloc (.cells #[.int .i64 0, .int .i64 0, .int .i64 0, .int .i64 0, .string ⟨#[]⟩, .slice none 0 0] 32)) (by decide) (by decide) (hM.alloc _)
      have hrr : r = 0 ∨ r = 1 ∨ r = 2 ∨ r = 3 ∨ r = 4 ∨ r = 5 ∨ r = 6 ∨ r = 7 ∨ r = 8 ∨ r = 9 ∨ r = 10 ∨ r = 11 := by omega
      rcases hrr with rfl | rfl | rfl | rfl | rfl | rfl | rfl | rfl | rfl | rfl | rfl | rfl
      · exact MakeExpr_0 p B (D + 1) d w hM hd1 h1000 hNx hEs hC
      · exact MakeExpr_1 p B (D + 1) d w hM hd1 h1000 hNx hEs hC
      · exact MakeExpr_2 p B (D + 1) d w hM hd1 h1000 hNx hEs hC
      · exact MakeExpr_3 p B (D + 1) d w hM hd1 h1000 hNx hEs hC
      · exact MakeExpr_4 p B (D + 1) d w hM hd1 h1000 hNx hEs hC
      · exact MakeExpr_5 p B (D + 1) d w hM hd1 h1000 hNx hEs hC
      · exact MakeExpr_6 p B (D + 1) d w hM hd1 h1000 hNx hEs hC
      · exact MakeExpr_7 p B (D + 1) d w hM hd1 h1000 hNx hEs hC
      · exact MakeExpr_8 p B (D + 1) d w hM hd1 h1000 hNx hEs hC
      · exact MakeExpr_9 p B (D + 1) d w hM hd1 h1000 hNx hEs hC
      · exact MakeExpr_10 p B (D + 1) d w hM hd1 h1000 hNx hEs hC
      · exact MakeExpr_11 p B (D + 1) d w hM hd1 h1000 hNx hEs hC
end Go.Proofs.Ytljiiniocnljmaa
