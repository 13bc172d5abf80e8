/-
  The evaluator's name; the operators of konst.
-/
import Derived.Test.YtelbpmemkockeaaGreatDoorXf
namespace Go.Proofs.YtelbpmemkockeaaGreatDoor
open Go.RowKit Go.Lib Go.Maps
theorem Keep.drew {F : Nat → Prop} {w w' : World} (h : Keep F w w') : Keep F w w'.drew := ⟨h.os, h.tape, h.output, h.size, h.block⟩
theorem EVB.drew {w : World} {p : Nat} {M : Value} {f l c e : Int} (h : EVB w p M f l c e) : EVB w.drew p M f l c e := h
theorem BX.drew {w : World} {g : Nat} {T : TypeId} {h : XH} {A : Option Addr} {n c : Nat} (x : BX w g T h A n c) : BX w.drew g T h A n c := x
theorem EnvIs.drew {w : World} {M : Value} {es : List (List UInt8 × Int)} (h : EnvIs w M es) : EnvIs w.drew M es := h
theorem EnvIs.alloc {w : World} {M : Value} {es : List (List UInt8 × Int)} (h : EnvIs w M es) (o : Obj) : EnvIs (w.alloc o) M es := h.over ((Keep.refl (fun _ => False) w).alloc o) fun _ _ hf => hf
abbrev envB (es : List (List UInt8 × Int)) : ByteArray → Option Int := fun s => envL es s.data.toList
set_option maxRecDepth 100000 in
set_option maxHeartbeats 1600000 in
theorem name_t (h : XH) (A : Option Addr) (n c : Nat) (p : Nat) (M : Value) (es : List (List UInt8 × Int)) (w : World) (hp : EVB w p M 0 0 0 0) (hM : EnvIs w M es) (hs : h.s.size ≤ maxLen) :
    Calls Tryz.prog 49 #[pe p, xv h A n c] w (VP p M w (namR (envB es) h)) := by
  unfold namR envB
  have hF := fun (W : World) (hb : EVB W p M 0 0 0 0) => fail_t h A n c 9 p M W hb
  have hD := fun (W : World) (hb : EnvIs W M es) => Find_t h.s M es W hs hb
  unfold FI at hD
  have hB := BX.new w 47 h A n c
  have hM1 := (hM.alloc (.cells #[.int .i64 h.k, .int .i64 h.f, .int .i64 h.l, .int .i64 h.c, .string h.s, .slice A n c] 47)).drew
  have hp1 := hp.alloc (.cells #[.int .i64 h.k, .int .i64 h.f, .int .i64 h.l, .int .i64 h.c, .string h.s, .slice A n c] 47)
  have hk1 := (Keep.refl (· = p) w).alloc (.cells #[.int .i64 h.k, .int .i64 h.f, .int .i64 h.l, .int .i64 h.c, .string h.s, .slice A n c] 47)
  obtain ⟨a0, a1, a2, a3, a4, af⟩ := hp1.all
  obtain ⟨b0, b1, b2, b3, b4, b5⟩ := hB.all
  have bl := hB.lt
  have al := hp1.lt
  have k1 : (w.alloc (.cells #[.int .i64 h.k, .int .i64 h.f, .int .i64 h.l, .int .i64 h.c, .string h.s, .slice A n c] 47)).drew.cell? ⟨p, 0, none⟩ = some M ∧ (w.alloc (.cells #[.int .i64 h.k, .int .i64 h.f, .int .i64 h.l, .int .i64 h.c, .string h.s, .slice A n c] 47)).drew.cell? ⟨w.heap.size, 4, none⟩ = some (.string h.s) := ⟨a0, b4⟩
  obtain ⟨o, ho⟩ : ∃ o, envL es h.s.data.toList = o := ⟨_, rfl⟩
  rw [ho] at hD ⊢
  replace hF := Lib.hid hF
  replace hD := Lib.hid hD
  replace hB := Lib.hid hB
  replace hM1 := Lib.hid hM1
  replace hp1 := Lib.hid hp1
  replace hk1 := Lib.hid hk1
  replace hp := Lib.hid hp
  replace ho := Lib.hid ho
  clear hM hs b0 b1 b2 b3 b5 a1 a2 a3 a4
  go_enter Tryz.func49, Tryz.ntmps49
  go_wp2_with fail
  go_region_held3 (fun w' => w'.cell? ⟨p, 0, none⟩ = some M ∧ w'.cell? ⟨w.heap.size, 4, none⟩ = some (.string h.s))
    (first | (with_reducible exact k1) | (exact k1) | (with_reducible exact k2))
    (first | (go_at_call 18; (with_reducible refine (hD.out _ hM1.out).mono ?_); rintro e w1 ⟨rfl, hb1⟩; have hB1 := hB.out.drew.over hb1; have hp2 := hp1.out.drew.over hb1; have hk2 := hk1.out.drew.then_below hb1; have k2 : w1.cell? ⟨p, 0, none⟩ = some M ∧ w1.cell? ⟨w.heap.size, 4, none⟩ = some (.string h.s) := ⟨hp2.all.1, hB1.all.2.2.2.2.1⟩))
  obtain ⟨e0, e1, e2, e3, e4, e5⟩ := hB1.all
  have el := hB1.lt
  clear hb1 k1
  replace hB1 := Lib.hid hB1
  replace hp2 := Lib.hid hp2
  replace hk2 := Lib.hid hk2
  cases o with
  | some v =>
    go_wp2_with fail
    go_ret
    exact ⟨_, rfl, fun _ => rfl, hp2.out, hk2.out⟩
  | none =>
    go_wp2_with fail
    (with_reducible refine (hF.out _ hp2.out).mono ?_)
    rintro e w2 ⟨rfl, hp3, hk3⟩
    have hk4 := hk2.out.both hk3
    clear hk3
    replace hp3 := Lib.hid hp3
    replace hk4 := Lib.hid hk4
    go_wp2_with fail
    go_ret
    exact ⟨_, rfl, fun h => absurd h (by simp [badR]), hp3.out, hk4.out⟩
end Go.Proofs.YtelbpmemkockeaaGreatDoor
