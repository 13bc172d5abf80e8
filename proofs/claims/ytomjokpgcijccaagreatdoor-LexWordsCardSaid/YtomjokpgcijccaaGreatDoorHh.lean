/-
  The walk of lex's next.
-/
import Derived.Test.YtomjokpgcijccaaGreatDoorHg
import Derived.Deep.RegionHeld3
import Derived.Deep.OwnRows
namespace Go.Proofs.YtomjokpgcijccaaGreatDoor
open Go.RowKit Go.Lib
/-- Block b is a variable of five cells. -/
def C5 (w : World) (b : Nat) (ty : TypeId) (x0 x1 x2 x3 x4 : Value) : Prop := w.heap[b]? = some (.cells #[x0, x1, x2, x3, x4] ty (0, 0))
section
variable {w w' : World} {b : Nat} {ty : TypeId} {x0 x1 x2 x3 x4 : Value}
theorem C5.lt (h : C5 w b ty x0 x1 x2 x3 x4) : b < w.heap.size := (Array.getElem?_eq_some_iff.1 h).1
theorem C5.vals (h : C5 w b ty x0 x1 x2 x3 x4) : w.cell? ⟨b, 0, none⟩ = some x0 ∧ w.cell? ⟨b, 1, none⟩ = some x1 ∧ w.cell? ⟨b, 2, none⟩ = some x2 ∧ w.cell? ⟨b, 3, none⟩ = some x3 ∧ w.cell? ⟨b, 4, none⟩ = some x4 := by
  unfold C5 at h
  exact ⟨by simp [World.cell?, h], by simp [World.cell?, h], by simp [World.cell?, h], by simp [World.cell?, h], by simp [World.cell?, h]⟩
theorem C5.all (h : C5 w b ty x0 x1 x2 x3 x4) : w.cell? ⟨b, 0, none⟩ = some x0 ∧ w.cell? ⟨b, 1, none⟩ = some x1 ∧ w.cell? ⟨b, 2, none⟩ = some x2 ∧ w.cell? ⟨b, 3, none⟩ = some x3 ∧ w.cell? ⟨b, 4, none⟩ = some x4 ∧ (∀ i, w.frozen? ⟨b, i, none⟩ = false) := by
  obtain ⟨h0, h1, h2, h3, h4⟩ := h.vals
  unfold C5 at h
  exact ⟨h0, h1, h2, h3, h4, fun i => by simp [World.frozen?, h]⟩
theorem C5.over (h : C5 w b ty x0 x1 x2 x3 x4) (k : Below w.heap.size w w') : C5 w' b ty x0 x1 x2 x3 x4 := (k.block b h.lt).trans h
theorem C5.keep (h : C5 w b ty x0 x1 x2 x3 x4) {c : Nat} (k : KB c w w') (hc : b ≠ c) : C5 w' b ty x0 x1 x2 x3 x4 := (k.blk b hc h.lt).trans h
theorem C5.drew (h : C5 w b ty x0 x1 x2 x3 x4) : C5 w.drew b ty x0 x1 x2 x3 x4 := h
theorem C5.far (h : C5 w b ty x0 x1 x2 x3 x4) {p : Addr} (hp : b ≠ p.block) (v : Value) : C5 (w.setCell p v) b ty x0 x1 x2 x3 x4 := (Below.heap_setCell w p v b hp).trans h
theorem C5.s0 (h : C5 w b ty x0 x1 x2 x3 x4) (v : Value) : C5 (w.setCell ⟨b, 0, none⟩ v) b ty v x1 x2 x3 x4 := by
  unfold C5 at *
  simp [World.setCell, Array.getElem?_modify, h]
theorem C5.s1 (h : C5 w b ty x0 x1 x2 x3 x4) (v : Value) : C5 (w.setCell ⟨b, 1, none⟩ v) b ty x0 v x2 x3 x4 := by
  unfold C5 at *
  simp [World.setCell, Array.getElem?_modify, h]
theorem C5.s2 (h : C5 w b ty x0 x1 x2 x3 x4) (v : Value) : C5 (w.setCell ⟨b, 2, none⟩ v) b ty x0 x1 v x3 x4 := by
  unfold C5 at *
  simp [World.setCell, Array.getElem?_modify, h]
theorem C5.s3 (h : C5 w b ty x0 x1 x2 x3 x4) (v : Value) : C5 (w.setCell ⟨b, 3, none⟩ v) b ty x0 x1 x2 v x4 := by
  unfold C5 at *
  simp [World.setCell, Array.getElem?_modify, h]
theorem C5.s4 (h : C5 w b ty x0 x1 x2 x3 x4) (v : Value) : C5 (w.setCell ⟨b, 4, none⟩ v) b ty x0 x1 x2 x3 v := by
  unfold C5 at *
  simp [World.setCell, Array.getElem?_modify, h]
theorem C5.new (w : World) (ty : TypeId) (x0 x1 x2 x3 x4 : Value) : C5 (w.alloc (.cells #[x0, x1, x2, x3, x4] ty)) w.heap.size ty x0 x1 x2 x3 x4 := Go.Deep.blk_alloc_new _ _
theorem C5.alloc (h : C5 w b ty x0 x1 x2 x3 x4) (o : Obj) : C5 (w.alloc o) b ty x0 x1 x2 x3 x4 := (Go.Deep.blk_alloc_lt _ _ _ h.lt).trans h
end
theorem C5.far5 {w : World} {b : Nat} {ty : TypeId} {x0 x1 x2 x3 x4 : Value} (h : C5 w b ty x0 x1 x2 x3 x4) {d : Nat} (hd : b ≠ d) {y0 y1 y2 y3 y4 : Value} :
    C5 (((((w.setCell ⟨d, 0, none⟩ y0).setCell ⟨d, 1, none⟩ y1).setCell ⟨d, 2, none⟩ y2).setCell ⟨d, 3, none⟩ y3).setCell ⟨d, 4, none⟩ y4) b ty x0 x1 x2 x3 x4 :=
  ((((h.far (p := ⟨d, 0, none⟩) hd _).far (p := ⟨d, 1, none⟩) hd _).far (p := ⟨d, 2, none⟩) hd _).far (p := ⟨d, 3, none⟩) hd _).far (p := ⟨d, 4, none⟩) hd _
theorem C5.set5 {w : World} {b : Nat} {ty : TypeId} {x0 x1 x2 x3 x4 : Value} (h : C5 w b ty x0 x1 x2 x3 x4) (y0 y1 y2 y3 y4 : Value) :
    C5 (((((w.setCell ⟨b, 0, none⟩ y0).setCell ⟨b, 1, none⟩ y1).setCell ⟨b, 2, none⟩ y2).setCell ⟨b, 3, none⟩ y3).setCell ⟨b, 4, none⟩ y4) b ty y0 y1 y2 y3 y4 :=
  ((((h.s0 y0).s1 y1).s2 y2).s3 y3).s4 y4
theorem KB.set9 {b : Nat} {w w' : World} (h : KB b w w') {p : Addr} (hp : w.heap.size ≤ p.block) (v : Value) : KB b w (w'.setCell p v) :=
  ⟨h.os, h.tape, h.output, by simpa using h.size, fun k hk hw => (Below.heap_setCell w' p v k (by omega)).trans (h.blk k hk hw)⟩
theorem RD_is {w : World} {b : Nat} {S : ByteArray} {p : PS} {fx : Bool} : RD w b S p fx = C5 w b 45 (.string S) (.int .i64 p.f) (.int .i64 p.l) (.int .i64 p.c) (.bool fx) := rfl
set_option maxRecDepth 100000 in
set_option maxHeartbeats 3200000 in
theorem next_t (b : Nat) (l : List UInt8) (p : PS) (fx : Bool) (w : World) (h : RD w b (tx l) p fx) (hp : p.ok) (hl : l.length < 4611686018427387900) (h0 : l ≠ []) (hL : LS w) :
    Calls Tryz.prog 10 #[.pointer (some ⟨b, 0, none⟩)] w fun e w' =>
      e = .returned (.tuple #[tkV ⟨(me l).1, l.take (me l).2, p⟩, .int .i64 (ck nbP (me l).1 (l.take (me l).2))]) ∧ RD w' b (tx (l.drop (me l).2)) (adv fx p (l.take (me l).2)) fx ∧ KB b w w' := by
  have hM := fun w (hL : LS w) => measure_t l w (by omega) h0 hL
  have hS := fun w (h : RD w b (tx l) p fx) => skip_t b l p fx (me l).2 (me_le l) w h hp (by omega)
  have hC := fun w => check_t (me l).1 (me_kind l) (l.take (me l).2) p w (by rw [List.length_take]; omega)
  unfold MR at hM
  unfold SK at hS
  unfold tkV at hC ⊢
  simp only at hC ⊢
  obtain ⟨b0, c0, c1, c2, c3, c4, hf⟩ := h.cells
  have hLs : ∀ w', Below w.heap.size w w' → LS w' := fun w' hb => by
    obtain ⟨cs, t, fr, hg, h1, h2⟩ := hL
    exact ⟨cs, t, fr, (hb.block _ (Array.getElem?_eq_some_iff.1 hg).1).trans hg, h1, h2⟩
  obtain ⟨S, hS0⟩ : ∃ S, tx l = S := ⟨_, rfl⟩
  obtain ⟨T, hT0⟩ : ∃ T, tx (l.take (me l).2) = T := ⟨_, rfl⟩
  obtain ⟨U, hU0⟩ : ∃ U, tx (l.drop (me l).2) = U := ⟨_, rfl⟩
  obtain ⟨q, hq0⟩ : ∃ q, adv fx p (l.take (me l).2) = q := ⟨_, rfl⟩
  obtain ⟨e0, he0⟩ : ∃ e, ck nbP (me l).1 (l.take (me l).2) = e := ⟨_, rfl⟩
  rw [hS0] at hM hS h c0
  rw [hT0] at hS hC ⊢
  rw [hU0] at hS ⊢
  rw [hq0] at hS ⊢
  rw [he0] at hC ⊢
  generalize (me l).1 = k at *
  generalize (me l).2 = n at *
  clear hS0 hT0 hU0 hq0 he0 hp hl h0 hL
  have hbA : Below w.heap.size w ((w.alloc (.cells #[.int .i64 0, .string ⟨#[]⟩, .int .i64 0, .int .i64 0, .int .i64 0] 37)).alloc (.cells #[.int .i64 0, .string ⟨#[]⟩, .int .i64 p.f, .int .i64 p.l, .int .i64 p.c] 37)) := by go_grown
  have R0 := (C5.new w 37 (.int .i64 0) (.string ⟨#[]⟩) (.int .i64 0) (.int .i64 0) (.int .i64 0)).alloc (.cells #[.int .i64 0, .string ⟨#[]⟩, .int .i64 p.f, .int .i64 p.l, .int .i64 p.c] 37)
  have T0 : C5 _ (w.heap.size + 1) _ _ _ _ _ _ := (World.size_alloc w (.cells #[.int .i64 0, .string ⟨#[]⟩, .int .i64 0, .int .i64 0, .int .i64 0] 37)) ▸ C5.new (w.alloc (.cells #[.int .i64 0, .string ⟨#[]⟩, .int .i64 0, .int .i64 0, .int .i64 0] 37)) 37 (.int .i64 0) (.string ⟨#[]⟩) (.int .i64 p.f) (.int .i64 p.l) (.int .i64 p.c)
  have hRD := (RD_is ▸ h).over hbA
  replace hM := Lib.hid hM
  replace hS := Lib.hid hS
  replace hC := Lib.hid hC
  replace hLs := Lib.hid hLs
  replace h := Lib.hid h
  replace hRD := Lib.hid hRD
  replace R0 := Lib.hid R0
  replace T0 := Lib.hid T0
  replace hbA := Lib.hid hbA
  go_enter Tryz.func10, Tryz.ntmps10
  go_wp2_with fail
  (with_reducible refine (hM.out _ (hLs.out _ hbA.out)).mono ?_)
  rintro e w1 ⟨rfl, rfl⟩
  go_wp2_with fail
  (with_reducible refine (hS.out _ (RD_is ▸ hRD.out)).mono ?_)
  rintro e w1 ⟨rfl, hR1, hK1⟩
  have T1 := T0.out.keep hK1 (by omega)
  have R1 := R0.out.keep hK1 (by omega)
  have z1 := hK1.size
  have zz : w.heap.size + 1 + 1 ≤ w1.heap.size := by simpa using z1
  have t1 := T1.all
  have r1 := R1.all
  have tl := T1.lt
  have rl := R1.lt
  have b1 : b < w1.heap.size := by omega
  have K1 : KB b w w1 := (KB.ofBelow hbA.out).trans hK1
  clear hK1 T0 R0 hRD c0 c1 c2 c3 c4 hf hbA z1 h
  replace K1 := Lib.hid K1
  replace hR1 := Lib.hid hR1
  replace T1 := Lib.hid T1
  replace R1 := Lib.hid R1
  go_wp2_with fail
  have T2 := (T1.out.s0 (.int .i64 (k : Int))).s1 (.string T)
  have R2 := (R1.out.far (p := ⟨w.heap.size + 1, 0, none⟩) (by simp) (.int .i64 (k : Int))).far (p := ⟨w.heap.size + 1, 1, none⟩) (by simp) (.string T)
  have Q2 : RD ((w1.setCell ⟨w.heap.size + 1, 0, none⟩ (.int .i64 (k : Int))).setCell ⟨w.heap.size + 1, 1, none⟩ (.string T)) b U q fx := ((RD_is ▸ hR1.out).far (p := ⟨w.heap.size + 1, 0, none⟩) (by show b ≠ w.heap.size + 1; omega) (.int .i64 (k : Int))).far (p := ⟨w.heap.size + 1, 1, none⟩) (by show b ≠ w.heap.size + 1; omega) (.string T)
  have K2 : KB b w ((w1.setCell ⟨w.heap.size + 1, 0, none⟩ (.int .i64 (k : Int))).setCell ⟨w.heap.size + 1, 1, none⟩ (.string T)) := (K1.out.set9 (by simp) (.int .i64 (k : Int))).set9 (by simp) (.string T)
  have zW : w.heap.size + 1 + 1 ≤ ((w1.setCell ⟨w.heap.size + 1, 0, none⟩ (.int .i64 (k : Int))).setCell ⟨w.heap.size + 1, 1, none⟩ (.string T)).heap.size := by simpa using zz
  generalize ((w1.setCell ⟨w.heap.size + 1, 0, none⟩ (.int .i64 (k : Int))).setCell ⟨w.heap.size + 1, 1, none⟩ (.string T)) = W at *
  clear t1 r1 tl rl zz b1 T1 R1 hR1 K1
  have t2 := T2.all
  have r2 := R2.all
  have k1 := T2.vals
  replace K2 := Lib.hid K2
  replace Q2 := Lib.hid Q2
  go_region_held3 (fun w' => w'.cell? ⟨w.heap.size + 1, 0, none⟩ = some (.int .i64 (k : Int)) ∧ w'.cell? ⟨w.heap.size + 1, 1, none⟩ = some (.string T) ∧ w'.cell? ⟨w.heap.size + 1, 2, none⟩ = some (.int .i64 p.f) ∧ w'.cell? ⟨w.heap.size + 1, 3, none⟩ = some (.int .i64 p.l) ∧ w'.cell? ⟨w.heap.size + 1, 4, none⟩ = some (.int .i64 p.c))
    (first | (with_reducible exact k1) | (with_reducible exact k3) | (with_reducible exact T2.drew.vals) | (with_reducible exact T3.vals) | (exact (T3.far5 (by simp)).vals))
    (first | (go_at_call 17; (with_reducible refine (hC.out _).mono ?_); rintro e w3 ⟨rfl, hb3⟩; have T3 := T2.drew.over hb3; have R3 := R2.drew.over hb3; have k3 := T3.vals; have r3 := R3.all; have z3 := hb3.size))
  have R4 := (R3.set5 (.int .i64 (k : Int)) (.string T) (.int .i64 p.f) (.int .i64 p.l) (.int .i64 p.c)).all
  have Q4 : RD _ b U q fx := ((RD_is ▸ Q2.out : C5 W b _ _ _ _ _ _).drew.over hb3).far5 (d := w.heap.size) (by omega) (y0 := .int .i64 (k : Int)) (y1 := .string T) (y2 := .int .i64 p.f) (y3 := .int .i64 p.l) (y4 := .int .i64 p.c)
  have K4 := ((((((K2.out.trans (KB.drew b W)).trans (KB.ofBelow hb3)).set9 (p := ⟨w.heap.size, 0, none⟩) (Nat.le_refl _) (.int .i64 (k : Int))).set9 (p := ⟨w.heap.size, 1, none⟩) (Nat.le_refl _) (.string T)).set9 (p := ⟨w.heap.size, 2, none⟩) (Nat.le_refl _) (.int .i64 p.f)).set9 (p := ⟨w.heap.size, 3, none⟩) (Nat.le_refl _) (.int .i64 p.l)).set9 (p := ⟨w.heap.size, 4, none⟩) (Nat.le_refl _) (.int .i64 p.c)
  replace Q4 := Lib.hid Q4
  replace K4 := Lib.hid K4
  clear hb3 t2 r2 k1 k3 r3
  go_wp2_with fail
  refine bodyPost_ret (v := .tuple #[.agg #[.int .i64 (k : Int), .string T, .int .i64 p.f, .int .i64 p.l, .int .i64 p.c], .int .i64 e0]) (by simp [results, Tryz.results10, go_sem, R4]) rfl ⟨rfl, Q4.out, K4.out⟩
end Go.Proofs.YtomjokpgcijccaaGreatDoor
