/-
  The walk of awake: the fixed fact that the statements of layer 1 begin with holds.
-/
import Derived.Test.YtmgkidfikikjpaaWt
import Derived.Test.YtmgkidfikikjpaaWn
import Derived.Test.YtmgkidfikikjpaaWo
namespace Go.Proofs.Ytmgkidfikikjpaa
open Go.RowKit
theorem RU_one (w : World) (v : Nat) : RU (w.alloc (.cells #[.int .u64 (v : Int)] 25)) (some ⟨w.heap.size, 0, none⟩) 1 (fun _ => v) := fun _ =>
  ⟨⟨w.heap.size, 0, none⟩, rfl, by simp, fun j hj => by
    obtain rfl : j = 0 := by omega
    exact World.cell?_alloc_new w _ _ 0⟩
theorem New_one (n v : Nat) (w : World) (g : Nat) (hg : g = w.heap.size) (h1 : 1 ≤ n) (hn : n ≤ 128) (hv : v < 2 ^ 64) :
    Calls Try.prog 23 #[.int .i64 (n : Int), .slice (some ⟨g, 0, none⟩) 1 1] (w.alloc (.cells #[.int .u64 (v : Int)] 25))
      (RV (w.alloc (.cells #[.int .u64 (v : Int)] 25)) (.tuple #[vv n (v % 2 ^ n), .int .i64 0])) := by
  subst hg
  have h := New_ok n 1 1 (some ⟨w.heap.size, 0, none⟩) (fun _ => v) _ h1 hn (RU_one w v) (fun _ _ => hv)
  have e : trimN n (wd (fun _ => v) 1 0) (wd (fun _ => v) 1 1) = v % 2 ^ n := by unfold trimN wd; simp
  rw [e] at h
  exact h
set_option maxRecDepth 100000 in
set_option maxHeartbeats 400000 in
theorem awake_t (w : World) : Calls Try.prog 6 #[] w (RV w (.bool true)) := by
  have h9 : ∀ (w : World) (g : Nat), g = w.heap.size → Calls Try.prog 23 #[.int .i64 4, .slice (some ⟨g, 0, none⟩) 1 1] (w.alloc (.cells #[.int .u64 9] 25)) (RV (w.alloc (.cells #[.int .u64 9] 25)) (.tuple #[vv 4 9, .int .i64 0])) := fun w g hg => New_one 4 9 w g hg (by decide) (by decide) (by decide)
  have h8 : ∀ (w : World) (g : Nat), g = w.heap.size → Calls Try.prog 23 #[.int .i64 4, .slice (some ⟨g, 0, none⟩) 1 1] (w.alloc (.cells #[.int .u64 8] 25)) (RV (w.alloc (.cells #[.int .u64 8] 25)) (.tuple #[vv 4 8, .int .i64 0])) := fun w g hg => New_one 4 8 w g hg (by decide) (by decide) (by decide)
  have hA : ∀ w, Calls Try.prog 9 #[.int .i64 0, vv 4 9, vv 4 8] w (RV w (.tuple #[vv 4 1, .int .i64 0])) := fun w => Bin_0 4 9 8 w (by decide) (by decide)
  have t9 : ∀ w, Calls Try.prog 24 #[vv 4 9] w (RV w (.string ⟨#[49, 48, 48, 49]⟩)) := fun w => by have h := Text_v 4 9 w (by decide) (by decide); rw [txt_49] at h; exact h
  have t1 : ∀ w, Calls Try.prog 24 #[vv 4 1] w (RV w (.string ⟨#[48, 48, 48, 49]⟩)) := fun w => by have h := Text_v 4 1 w (by decide) (by decide); rw [txt_41] at h; exact h
  replace h9 := Lib.hid h9
  replace h8 := Lib.hid h8
  replace hA := Lib.hid hA
  replace t9 := Lib.hid t9
  replace t1 := Lib.hid t1
  go_enter Try.func6, Try.ntmps6
  go_wp2_with fail
  refine (h9.out _ _ rfl).mono ?_
  rintro e w1 ⟨rfl, hb1⟩
  have hbw1 : Below w.heap.size w w1 := below_call hb1 (by go_grown)
  have hz1 := hbw1.size
  clear hb1
  go_wp2_with fail
  refine (h8.out _ _ (by simp)).mono ?_
  rintro e w2 ⟨rfl, hb2⟩
  have hbw2 : Below w.heap.size w w2 := below_call hb2 (by go_grown)
  have hz2 := hbw2.size
  have V2 : HV 28 w2 w1.heap.size 4 9 := ((HV.new w1 28 4 9).alloc (.cells #[.int .u64 8] 25)).over hb2
  have v2 := V2.all
  have l2 := V2.lt
  clear hb2
  go_wp2_with fail
  refine (hA.out _).mono ?_
  rintro e w3 ⟨rfl, hb3⟩
  have hbw3 : Below w.heap.size w w3 := below_call hb3 (by go_grown)
  have hz3 := hbw3.size
  have V3 : HV 28 w3 w1.heap.size 4 9 := (V2.alloc _).over hb3
  have v3 := V3.all
  have l3 := V3.lt
  clear hb3 v2 V2
  go_wp2_with fail
  refine (t9.out _).mono ?_
  rintro e w4 ⟨rfl, hb4⟩
  have hbw4 : Below w.heap.size w w4 := below_call hb4 (by go_grown)
  have hz4 := hbw4.size
  have V4 : HV 28 w4 w3.heap.size 4 1 := (HV.new w3 28 4 1).over hb4
  have v4 := V4.all
  have l4 := V4.lt
  clear hb4 v3 V3
  go_wp2_with fail
  refine (t1.out _).mono ?_
  rintro e w5 ⟨rfl, hb5⟩
  have hbw5 : Below w.heap.size w w5 := below_call hb5 hbw4
  clear hb5
  go_wp2_with fail
  go_ret
  exact ⟨rfl, hbw5⟩
end Go.Proofs.Ytmgkidfikikjpaa
