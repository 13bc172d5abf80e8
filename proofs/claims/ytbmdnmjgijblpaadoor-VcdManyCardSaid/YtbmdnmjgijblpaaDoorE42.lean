/-
  awake of layer 25.
-/
import Derived.Test.YtbmdnmjgijblpaaDoorE41
namespace Go.Proofs.YtbmdnmjgijblpaaDoor
open Go Go.RowKit Go.Lib Go.Maps
theorem cv_new (w : World) (cs : Array Value) (T : TypeId) : CV (w.alloc (.cells cs T)) w.heap.size cs T := by unfold CV; exact Array.getElem?_push_size ..
set_option maxRecDepth 100000 in
set_option maxHeartbeats 3200000 in
theorem awake25_t (w : World) (hT : LT w) : Calls Tryd.prog 4 #[] w fun e w' => e = .returned (.bool true) ∧ Below w.heap.size w w' := by
  have hN1 : ∀ (w : World) (g : Nat), g = w.heap.size → Calls Tryd.prog 6 #[.int .i64 1, .slice (some ⟨g, 0, none⟩) 1 1] (w.alloc (.cells #[.int .u64 1] 31)) (RV (w.alloc (.cells #[.int .u64 1] 31)) (.tuple #[.agg #[iz 1, .int .u64 1, .int .u64 0], .int .i64 0])) := fun w g hg => New_one 1 1 w g hg (by decide) (by decide) (by decide)
  have hN0 : ∀ (w : World), Calls Tryd.prog 6 #[.int .i64 1, .slice none 0 0] w (RV w (.tuple #[.agg #[iz 1, .int .u64 0, .int .u64 0], .int .i64 0])) := fun w => New_none 1 w (by decide) (by decide)
  unfold RV at hN1 hN0
  have hb1 := vnew w (.cells #[.int .u64 1] 31)
  have hW : ∀ W : World, Below w.heap.size w W → ∀ w1 w2 w3 w4 w5 : World, W.alloc (.cells #[.string ⟨#[97]⟩, iz 1] 30) = w1 → w1.alloc (.cells #[iz 1, .int .u64 1, .int .u64 0] 34) = w2 → w2.alloc (.cells #[iz 1, .int .u64 1, .int .u64 0] 34) = w3 → w3.alloc (.cells #[iz 1, .int .u64 0, .int .u64 0] 34) = w4 → w4.alloc (.cells #[.slice (some ⟨w1.heap.size, 0, none⟩) 1 1, .slice (some ⟨w2.heap.size, 0, none⟩) 1 1, .slice (some ⟨w3.heap.size, 0, none⟩) 1 1] 27) = w5 →
      Calls Tryd.prog 7 #[.agg #[.string ⟨#[109]⟩, .slice (some ⟨W.heap.size, 0, none⟩) 1 1, .slice (some ⟨w4.heap.size, 0, none⟩) 3 3]] w5 fun e w' => e = .returned (.tuple #[.string (bt awD), .int .i64 0]) ∧ Below w.heap.size w w' := fun W hb w1 w2 w3 w4 w5 e1 e2 e3 e4 e5 => by
    have c1 : CV w1 W.heap.size #[.string ⟨#[97]⟩, iz 1] 30 := by rw [← e1]; exact cv_new ..
    have c2 : CV w2 w1.heap.size #[iz 1, .int .u64 1, .int .u64 0] 34 := by rw [← e2]; exact cv_new ..
    have c3 : CV w3 w2.heap.size #[iz 1, .int .u64 1, .int .u64 0] 34 := by rw [← e3]; exact cv_new ..
    have c4 : CV w4 w3.heap.size #[iz 1, .int .u64 0, .int .u64 0] 34 := by rw [← e4]; exact cv_new ..
    have c5 : CV w5 w4.heap.size #[.slice (some ⟨w1.heap.size, 0, none⟩) 1 1, .slice (some ⟨w2.heap.size, 0, none⟩) 1 1, .slice (some ⟨w3.heap.size, 0, none⟩) 1 1] 27 := by rw [← e5]; exact cv_new ..
    have k1 : Below W.heap.size W w1 := by rw [← e1]; exact vnew _ _
    have k2 : Below w1.heap.size w1 w2 := by rw [← e2]; exact vnew _ _
    have k3 : Below w2.heap.size w2 w3 := by rw [← e3]; exact vnew _ _
    have k4 : Below w3.heap.size w3 w4 := by rw [← e4]; exact vnew _ _
    have k5 : Below w4.heap.size w4 w5 := by rw [← e5]; exact vnew _ _
    have k25 := below_step (below_step k3 k4) k5
    have k35 := below_step k4 k5
    have k15 := below_step k2 k25
    have d1 := c1.over k15
    have d2 := c2.over k25
    have d3 := c3.over k35
    have d4 := c4.over k5
    have kw := below_step hb (below_step k1 k15)
    have hV : RVs w5 (some ⟨W.heap.size, 0, none⟩) awV := fun _ => ⟨_, rfl, d1.lt, fun i x hi => by
      match i, hi with
      | 0, hi =>
        cases hi
        exact ⟨d1.c 0, d1.c 1⟩⟩
    have r1 : ∀ (b u : Nat), CV w5 b #[iz 1, .int .u64 (u : Int), .int .u64 0] 34 → u < 2 → RD3 w5 (some ⟨b, 0, none⟩) [(1, u)] := fun b u hc hu _ => ⟨_, rfl, hc.lt, fun i x hix => by
      match i, hix with
      | 0, hix =>
        cases hix
        refine ⟨hc.c 0, (hc.c 1).trans ?_, (hc.c 2).trans ?_⟩
        · show some (Value.int .u64 (u : Int)) = some (.int .u64 ((lo u : Nat) : Int))
          unfold lo
          rw [Nat.mod_eq_of_lt (by omega)]
        · show some (Value.int .u64 0) = some (.int .u64 ((hi u : Nat) : Int))
          unfold hi
          rw [Nat.div_eq_of_lt (by omega)]
          rfl⟩
    have hR : RM w5 (some ⟨w4.heap.size, 0, none⟩) awR := fun _ => ⟨_, rfl, c5.lt, fun i x hi => by
      match i, hi with
      | 0, hi => cases hi; exact ⟨_, _, c5.c 0, r1 _ 1 d2 (by decide)⟩
      | 1, hi => cases hi; exact ⟨_, _, c5.c 1, r1 _ 1 d3 (by decide)⟩
      | 2, hi => cases hi; exact ⟨_, _, c5.c 2, r1 _ 0 d4 (by decide)⟩⟩
    have h := Write_t [109] awV awR _ _ 1 3 w5 (hT.on kw) hV hR (by decide) (by decide) (by decide) (by decide) (by decide) (by decide)
    unfold WRV at h
    rw [aw_chk, if_pos rfl, aw_dump] at h
    refine h.mono ?_
    rintro e w' ⟨rfl, hb'⟩
    exact ⟨rfl, below_step kw hb'⟩
  have e1 : (bt awD).toList = awD := bt_is rfl
  have e2 : ((bt awD).toList == awD) = true := by rw [e1]; exact beq_self_eq_true _
  replace hN1 := Lib.hid hN1
  replace hN0 := Lib.hid hN0
  replace hW := Lib.hid hW
  replace hb1 := Lib.hid hb1
  clear hT
  go_enter Tryd.func4, Tryd.ntmps4
  go_wp2_with fail
  (with_reducible refine (hN1.out w _ rfl).mono ?_)
  rintro e w2 ⟨rfl, hb2⟩
  have hb3 := below_step (below_step hb1.out hb2) (vnew w2 (.cells #[iz 1, .int .u64 1, .int .u64 0] 34))
  have hg3 := cv_new w2 #[iz 1, .int .u64 1, .int .u64 0] 34
  obtain ⟨w3, hw3⟩ : ∃ W, w2.alloc (.cells #[iz 1, .int .u64 1, .int .u64 0] 34) = W := ⟨_, rfl⟩
  obtain ⟨g3, hg3e⟩ : ∃ g, w2.heap.size = g := ⟨_, rfl⟩
  rw [hw3] at hb3 hg3
  rw [hg3e] at hg3
  replace hw3 := Lib.hid hw3
  replace hg3e := Lib.hid hg3e
  replace hb3 := Lib.hid hb3
  replace hg3 := Lib.hid hg3
  clear hN1 hb1 hb2
  go_wp2_with fail
  rw [hw3.out, hg3e.out]
  (with_reducible refine (hN0.out _).mono ?_)
  rintro e w4 ⟨rfl, hb4⟩
  have hb5 := below_step (below_step hb3.out hb4) (vnew w4 (.cells #[iz 1, .int .u64 0, .int .u64 0] 34))
  have hg5 := cv_new w4 #[iz 1, .int .u64 0, .int .u64 0] 34
  have hg35 := (hg3.out.over hb4).over (vnew w4 (.cells #[iz 1, .int .u64 0, .int .u64 0] 34))
  obtain ⟨w5, hw5⟩ : ∃ W, w4.alloc (.cells #[iz 1, .int .u64 0, .int .u64 0] 34) = W := ⟨_, rfl⟩
  obtain ⟨g5, hg5e⟩ : ∃ g, w4.heap.size = g := ⟨_, rfl⟩
  rw [hw5] at hb5 hg5 hg35
  rw [hg5e] at hg5
  have hC := hW.out w5 hb5 _ _ _ _ _ rfl rfl rfl rfl rfl
  simp only [World.size_alloc] at hC
  replace hC := Lib.hid hC
  have a0 : w5.cell? ⟨g3, 0, none⟩ = some (iz 1) := hg35.c 0
  have a1 : w5.cell? ⟨g3, 1, none⟩ = some (.int .u64 1) := hg35.c 1
  have a2 : w5.cell? ⟨g3, 2, none⟩ = some (.int .u64 0) := hg35.c 2
  have al := hg35.lt
  have b0 : w5.cell? ⟨g5, 0, none⟩ = some (iz 1) := hg5.c 0
  have b1 : w5.cell? ⟨g5, 1, none⟩ = some (.int .u64 0) := hg5.c 1
  have b2 : w5.cell? ⟨g5, 2, none⟩ = some (.int .u64 0) := hg5.c 2
  have bl := hg5.lt
  have hg6 := ((hg5.over (vnew w5 (.cells #[.string ⟨#[97]⟩, .int .i64 1] 30))).over (vnew _ (.cells #[iz 1, .int .u64 1, .int .u64 0] 34))).over (vnew _ (.cells #[iz 1, .int .u64 1, .int .u64 0] 34))
  have c0 := hg6.c 0
  have c1 := hg6.c 1
  have c2 := hg6.c 2
  rw [show (#[iz 1, .int .u64 0, .int .u64 0] : Array Value)[0]? = some (iz 1) from rfl] at c0
  rw [show (#[iz 1, .int .u64 0, .int .u64 0] : Array Value)[1]? = some (.int .u64 0) from rfl] at c1
  rw [show (#[iz 1, .int .u64 0, .int .u64 0] : Array Value)[2]? = some (.int .u64 0) from rfl] at c2
  clear b0 b1 b2 hg6
  replace hw5 := Lib.hid hw5
  replace hg5e := Lib.hid hg5e
  clear hN0 hb3 hb4 hb5 hg3 hg5 hg35 hW
  go_upto_region 3 with fail
  rw [hw5.out, hg5e.out]
  go_wp2_with fail
  (with_reducible refine hC.out.mono ?_)
  rintro e w6 ⟨rfl, hb6⟩
  replace hb6 := Lib.hid hb6
  clear hC
  go_wp2_with fail
  go_ret
  exact ⟨rfl, hb6.out⟩
end Go.Proofs.YtbmdnmjgijblpaaDoor
