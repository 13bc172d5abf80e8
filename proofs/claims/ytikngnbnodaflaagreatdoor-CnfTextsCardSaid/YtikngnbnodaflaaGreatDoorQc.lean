/-
  The first line of a text: parseSizes, on what Text wrote.
-/
import Derived.Test.YtikngnbnodaflaaGreatDoorQb
namespace Go.Proofs.YtikngnbnodaflaaGreatDoor
open Go.RowKit Go.Lib
/-- The library's variable that Cut and SplitN look into lies there. -/
def MX (w : World) : Prop := ∃ m, w.cell? ⟨0, 0, none⟩ = some (.int .i64 m)
theorem MX.on {w w' : World} (h : MX w) (hb : Below w.heap.size w w') : MX w' := by
  obtain ⟨m, hm⟩ := h
  exact ⟨m, (hb.cell (lt_of_cell hm)).trans hm⟩
theorem itoa_nat (u : Nat) : itoa (u : Int) = decDigits u := by
  unfold itoa
  rw [if_neg (by omega)]
  rfl
theorem Cut_t (l c : List UInt8) (w : World) (hM : MX w) (hl : l.length < 4294967281) :
    Calls Tryz.prog 19 #[.string ⟨l.toArray⟩, .string ⟨c.toArray⟩] w (RV w (.tuple #[.string ⟨(cut l c).1.toArray⟩, .string ⟨(cut l c).2.1.toArray⟩, .bool (cut l c).2.2])) := by
  obtain ⟨m, hm⟩ := hM
  refine (Tryz.strings_Cut ⟨l.toArray⟩ ⟨c.toArray⟩ m w hl hm).mono ?_
  rintro e w' ⟨rfl, n, rfl⟩
  exact ⟨rfl, below_drewN' (Below.refl _ w) n⟩
theorem h1_cutp (l : List UInt8) : trimPrefix ([112, 32, 99, 110, 102, 32] ++ l) [112, 32, 99, 110, 102, 32] = l ∧ hasPrefix ([112, 32, 99, 110, 102, 32] ++ l) [112, 32, 99, 110, 102, 32] = true := by
  unfold trimPrefix hasPrefix
  simp [List.isPrefixOf]
theorem parseSizes_t (V n : Nat) (hV : V ≤ 60000) (hn : n ≤ 200000) (w : World) (hM : MX w) :
    Calls Tryz.prog 20 #[.string ⟨(h1T V n).toArray⟩] w (RV w (.tuple #[.int .i64 (V : Int), .int .i64 (n : Int), .int .i64 0])) := by
  have hP := fun w => Tryz.strings_CutPrefix ⟨(h1T V n).toArray⟩ ⟨#[112, 32, 99, 110, 102, 32]⟩ w
  rw [show ((⟨(h1T V n).toArray⟩ : ByteArray).data.toList) = [112, 32, 99, 110, 102, 32] ++ (itoa (V : Int) ++ 32 :: itoa (n : Int)) from rfl, show ((⟨#[112, 32, 99, 110, 102, 32]⟩ : ByteArray).data.toList) = [112, 32, 99, 110, 102, 32] from rfl, (h1_cutp _).1, (h1_cutp _).2] at hP
  have l1 := dd_len 5 V (by omega)
  have l2 := dd_len 5 n (by omega)
  have hC := fun w hM => Cut_t (itoa (V : Int) ++ 32 :: itoa (n : Int)) [32] w hM (by rw [itoa_nat, itoa_nat]; simp; omega)
  rw [cut_sizes, itoa_nat, itoa_nat] at hC
  rw [itoa_nat, itoa_nat] at hP
  have hN1 := fun w => parseNumber_t V (by omega) w
  have hN2 := fun w => parseNumber_t n (by omega) w
  dsimp only at hC
  obtain ⟨S, hS⟩ : ∃ S : ByteArray, (⟨(h1T V n).toArray⟩ : ByteArray) = S := ⟨_, rfl⟩
  obtain ⟨T, hT⟩ : ∃ T : ByteArray, (⟨(decDigits V ++ 32 :: decDigits n).toArray⟩ : ByteArray) = T := ⟨_, rfl⟩
  obtain ⟨D1, hD1⟩ : ∃ T : ByteArray, (⟨(decDigits V).toArray⟩ : ByteArray) = T := ⟨_, rfl⟩
  obtain ⟨D2, hD2⟩ : ∃ T : ByteArray, (⟨(decDigits n).toArray⟩ : ByteArray) = T := ⟨_, rfl⟩
  rw [hS, hT] at hP
  rw [hT, hD1, hD2] at hC
  rw [hD1] at hN1
  rw [hD2] at hN2
  rw [hS]
  have v1 : (V : Int) ≤ 60000 := by omega
  have v2 : (n : Int) ≤ 200000 := by omega
  replace hP := Lib.hid hP
  replace hN1 := Lib.hid hN1
  replace hN2 := Lib.hid hN2
  replace hC := Lib.hid hC
  replace hM := Lib.hid hM
  clear hS hT hD1 hD2 l1 l2 hV hn
  go_enter Tryz.func20, Tryz.ntmps20
  go_wp2_with fail
  (with_reducible refine (hP.out _).mono ?_)
  rintro e w1 ⟨rfl, rfl⟩
  go_wp2_with fail
  (with_reducible refine (hC.out _ hM.out).mono ?_)
  rintro e w2 ⟨rfl, hb2⟩
  go_wp2_with fail
  (with_reducible refine (hN1.out _).mono ?_)
  rintro e w3 ⟨rfl, hb3⟩
  have hb3' := below_call hb3 hb2 hb2.size
  clear hb2 hb3
  go_wp2_with fail
  (with_reducible refine (hN2.out _).mono ?_)
  rintro e w4 ⟨rfl, hb4⟩
  have hb4' := below_call hb4 hb3' hb3'.size
  clear hb3' hb4
  go_wp2_with fail
  go_ret3
  exact ⟨rfl, hb4'⟩
end Go.Proofs.YtikngnbnodaflaaGreatDoor
