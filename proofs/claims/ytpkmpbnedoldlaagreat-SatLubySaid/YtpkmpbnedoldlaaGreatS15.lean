/-
  newAssignment, newNotes, newOrder for two variables.
-/
import Derived.Test.YtpkmpbnedoldlaaGreatS14
namespace Go.Proofs.YtpkmpbnedoldlaaGreat
open Go.RowKit Go.Lib
theorem CB.nw {w : World} {n : Nat} {cs : Array Value} {T : TypeId} (h : n = w.heap.size) : CB (w.alloc (.cells cs T)) n cs T := by
  rw [h]; exact heap_alloc_new w _
theorem CB.al {w : World} {b : Nat} {cs : Array Value} {T : TypeId} {o : Obj} (h : CB w b cs T) : CB (w.alloc o) b cs T := h.over ((Below.refl w.heap.size w).alloc (Nat.le_refl _) o)
def NA (w : World) (e : Ending) (w' : World) : Prop := ∃ a b c, e = .returned (.agg #[.slice none 0 0, .slice none 0 0, iz 0, sl a 4, sl b 2, sl c 2]) ∧ CB w' a #[i8 0, i8 0, i8 0, i8 0] 112 ∧ CB w' b #[iz 0, iz 0] 3 ∧ CB w' c #[.pointer none, .pointer none] 75 ∧ w.heap.size ≤ a ∧ w.heap.size ≤ b ∧ w.heap.size ≤ c ∧ Below w.heap.size w w'
def NN (w : World) (e : Ending) (w' : World) : Prop := ∃ a b, e = .returned (.agg #[sl a 2, .slice none 0 0, sl b 3]) ∧ Below w.heap.size w w'
def NO (w : World) (e : Ending) (w' : World) : Prop := ∃ a b c, e = .returned (.agg #[sl a 2, sl b 2, sl c 2, iz 1048576]) ∧ CB w' a #[iz 0, iz 1] 3 ∧ CB w' b #[iz 0, iz 1] 3 ∧ a ≠ b ∧ w.heap.size ≤ a ∧ w.heap.size ≤ b ∧ Below w.heap.size w w'
set_option maxRecDepth 100000 in
set_option maxHeartbeats 1600000 in
theorem newA_t (w : World) : Calls Tryz.prog 30 #[iz 2] w (NA w) := by
  have m1 := mk_v4
  have m2 := mk_i2
  have m3 := mk_r2
  go_enter Tryz.func30, Tryz.ntmps30
  go_wp2_with fail
  go_region
  · go_wp2_with fail
    refine bodyPost_ret (v := .agg #[.slice none 0 0, .slice none 0 0, iz 0, sl (w.heap.size + 1) 4, sl (w.heap.size + 1 + 1) 2, sl (w.heap.size + 1 + 1 + 1) 2]) (by simp [results, Tryz.results30, go_sem]) rfl ⟨_, _, _, rfl, CB.al (CB.al (CB.nw (by simp))), CB.al (CB.nw (by simp)), CB.nw (by simp), by omega, by omega, by omega, by go_grown⟩
  · go_wp2_with fail
    refine bodyPost_ret (v := .agg #[.slice none 0 0, .slice none 0 0, iz 0, sl (w.heap.size + 1) 4, sl (w.heap.size + 1 + 1 + 1) 2, sl (w.heap.size + 1 + 1) 2]) (by simp [results, Tryz.results30, go_sem]) rfl ⟨_, _, _, rfl, CB.al (CB.al (CB.nw (by simp))), CB.nw (by simp), CB.al (CB.nw (by simp)), by omega, by omega, by omega, by go_grown⟩
  · go_wp2_with fail
    refine bodyPost_ret (v := .agg #[.slice none 0 0, .slice none 0 0, iz 0, sl (w.heap.size + 1 + 1) 4, sl (w.heap.size + 1) 2, sl (w.heap.size + 1 + 1 + 1) 2]) (by simp [results, Tryz.results30, go_sem]) rfl ⟨_, _, _, rfl, CB.al (CB.nw (by simp)), CB.al (CB.al (CB.nw (by simp))), CB.nw (by simp), by omega, by omega, by omega, by go_grown⟩
  · go_wp2_with fail
    refine bodyPost_ret (v := .agg #[.slice none 0 0, .slice none 0 0, iz 0, sl (w.heap.size + 1 + 1 + 1) 4, sl (w.heap.size + 1) 2, sl (w.heap.size + 1 + 1) 2]) (by simp [results, Tryz.results30, go_sem]) rfl ⟨_, _, _, rfl, CB.nw (by simp), CB.al (CB.al (CB.nw (by simp))), CB.al (CB.nw (by simp)), by omega, by omega, by omega, by go_grown⟩
  · go_wp2_with fail
    refine bodyPost_ret (v := .agg #[.slice none 0 0, .slice none 0 0, iz 0, sl (w.heap.size + 1 + 1) 4, sl (w.heap.size + 1 + 1 + 1) 2, sl (w.heap.size + 1) 2]) (by simp [results, Tryz.results30, go_sem]) rfl ⟨_, _, _, rfl, CB.al (CB.nw (by simp)), CB.nw (by simp), CB.al (CB.al (CB.nw (by simp))), by omega, by omega, by omega, by go_grown⟩
  · go_wp2_with fail
    refine bodyPost_ret (v := .agg #[.slice none 0 0, .slice none 0 0, iz 0, sl (w.heap.size + 1 + 1 + 1) 4, sl (w.heap.size + 1 + 1) 2, sl (w.heap.size + 1) 2]) (by simp [results, Tryz.results30, go_sem]) rfl ⟨_, _, _, rfl, CB.nw (by simp), CB.al (CB.nw (by simp)), CB.al (CB.al (CB.nw (by simp))), by omega, by omega, by omega, by go_grown⟩
set_option maxRecDepth 100000 in
set_option maxHeartbeats 1600000 in
theorem newN_t (w : World) : Calls Tryz.prog 32 #[iz 2] w (NN w) := by
  have m1 := mk_m2
  have m2 := mk_i3
  go_enter Tryz.func32, Tryz.ntmps32
  go_wp2_with fail
  go_region
  · go_wp2_with fail
    refine bodyPost_ret (v := .agg #[sl (w.heap.size + 1) 2, .slice none 0 0, sl (w.heap.size + 1 + 1) 3]) (by simp [results, Tryz.results32, go_sem]) rfl ⟨_, _, rfl, by go_grown⟩
  · go_wp2_with fail
    refine bodyPost_ret (v := .agg #[sl (w.heap.size + 1 + 1) 2, .slice none 0 0, sl (w.heap.size + 1) 3]) (by simp [results, Tryz.results32, go_sem]) rfl ⟨_, _, rfl, by go_grown⟩
end Go.Proofs.YtpkmpbnedoldlaaGreat
