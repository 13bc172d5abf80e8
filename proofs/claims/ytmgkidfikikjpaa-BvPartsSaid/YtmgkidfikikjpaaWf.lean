/-
  The walks of bv's difference, negate, product, shiftUp, shiftDown.
-/
import Derived.Test.YtmgkidfikikjpaaWe
namespace Go.Proofs.Ytmgkidfikikjpaa
open Go.RowKit
set_option maxHeartbeats 1000000 in
theorem difference_v (n x y : Nat) (w : World) (hn : n ≤ 128) (hy : y < 2 ^ n) :
    Calls Try.prog 60 #[vv n x, vv n y] w (RV w (vv n ((x + 2 ^ n - y) % 2 ^ n))) := by
  have hi := Lib.hid (fun w => invert_v n y w hn hy)
  have hs := fun w => sum_v n x (2 ^ n - 1 - y) 1 w hn (by decide)
  rw [diff_eq n x y hy] at hs
  have hs := Lib.hid hs
  clear hy
  go_enter Try.func60, Try.ntmps60
  go_wp2
  go_region_with (first | (go_at_call 57; refine (hi.out _).mono ?_; rintro e w1 ⟨rfl, hb1⟩; obtain ⟨hc1, hf1⟩ := bcell hb1; have hz1 := less3 (size_le hb1 (w.heap.size + 3) (by go_size))) | (go_at_call 59; refine (hs.out _).mono ?_; rintro e w2 ⟨rfl, hb2⟩; obtain ⟨hc2, hf2⟩ := bcell hb2))
  all_goals
    go_wp2
    have hbw1 : Below w.heap.size w w1 := below_call hb1 (by go_grown)
    have hbw : Below w.heap.size w w2 := below_call hb2 (by go_grown)
    refine bodyPost_ret (v := vv n ((x + 2 ^ n - y) % 2 ^ n)) (by simp [results, Try.results60, go_sem, hc1, hc2, hz1]) rfl ⟨rfl, ?_⟩
    clear hb1 hc1 hf1 hb2 hc2 hf2
    go_grown
set_option maxHeartbeats 1000000 in
theorem negate_v (n y : Nat) (w : World) (hn : n ≤ 128) (hy : y < 2 ^ n) :
    Calls Try.prog 79 #[vv n y] w (RV w (vv n ((0 + 2 ^ n - y) % 2 ^ n))) := by
  have hd := Lib.hid (fun w => difference_v n 0 y w hn hy)
  clear hy
  go_enter Try.func79, Try.ntmps79
  go_wp2_with (go_at_call 60; refine (hd.out _).mono ?_; rintro e w1 ⟨rfl, hb1⟩; obtain ⟨hc1, hf1⟩ := bcell hb1)
  have hbw : Below w.heap.size w w1 := below_call hb1 (by go_grown)
  refine bodyPost_ret (v := vv n ((0 + 2 ^ n - y) % 2 ^ n)) (by simp [results, Try.results79, go_sem, hc1]) rfl ⟨rfl, ?_⟩
  clear hb1 hc1 hf1
  go_grown
set_option maxHeartbeats 1000000 in
theorem product_v (n x y : Nat) (w : World) (hn : n ≤ 128) :
    Calls Try.prog 61 #[vv n x, vv n y] w (RV w (vv n (x * y % 2 ^ n))) := by
  have hp := prod_eq n x y hn
  have hm := Lib.hid (fun w => mul64_t (lo x) (lo y) w (lo_lt _) (lo_lt _))
  have ht := fun w => trimmed_w n (mulLo (lo x) (lo y)) (prodHi (lo x) (hi x) (lo y) (hi y)) w hn (Nat.mod_lt _ (by decide)) (Nat.mod_lt _ (by decide))
  rw [hp, ← prodHi_form] at ht
  have ht := Lib.hid ht
  clear hp
  go_enter Try.func61, Try.ntmps61
  go_wp2_with (first | (go_at_call 75; refine (hm.out _).mono ?_; rintro e w0 ⟨rfl, rfl⟩) | (go_at_call 58; refine (ht.out _).mono ?_; rintro e w1 ⟨rfl, hb1⟩; obtain ⟨hc1, hf1⟩ := bcell hb1))
  have hbw : Below w.heap.size w w1 := below_call hb1 (by go_grown)
  refine bodyPost_ret (v := vv n (x * y % 2 ^ n)) (by simp [results, Try.results61, go_sem, hc1]) rfl ⟨rfl, ?_⟩
  clear hb1 hc1 hf1
  go_grown
end Go.Proofs.Ytmgkidfikikjpaa
