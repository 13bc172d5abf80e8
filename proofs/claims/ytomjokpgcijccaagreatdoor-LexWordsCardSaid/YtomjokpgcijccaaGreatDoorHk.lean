/-
  The walk of lex's fixed fact.
-/
import Derived.Test.YtomjokpgcijccaaGreatDoorHj
namespace Go.Proofs.YtomjokpgcijccaaGreatDoor
open Go.RowKit Go.Lib
def awT : List UInt8 := [97, 60, 61, 56, 39, 104, 70, 43, 98, 59]
def awL : List TK := [⟨1, [97], ⟨1, 1, 1⟩⟩, ⟨3, [60, 61], ⟨1, 1, 2⟩⟩, ⟨2, [56, 39, 104, 70], ⟨1, 1, 4⟩⟩, ⟨3, [43], ⟨1, 1, 8⟩⟩, ⟨1, [98], ⟨1, 1, 9⟩⟩, ⟨3, [59], ⟨1, 1, 10⟩⟩]
theorem nb_aw : nbP [56, 39, 104, 70] = true := by decide +kernel
theorem lex_aw : lexL nbP [⟨awT, ⟨1, 1, 1⟩, false⟩] [] = .ok awL := by kernel_rfl
theorem join_aw : Lib.join (awL.map TK.t) [32] = [97, 32, 60, 61, 32, 56, 39, 104, 70, 32, 43, 32, 98, 32, 59] := by kernel_rfl
theorem C5.PCL {w : World} {b : Nat} {ty : TypeId} {q : PC} (h : C5 w b ty (.string (tx q.t)) (.int .i64 q.p.f) (.int .i64 q.p.l) (.int .i64 q.p.c) (.bool q.fx)) : PCL w (some ⟨b, 0, none⟩) [q] := fun _ => by
  refine ⟨b, 0, rfl, h.lt, fun j hj => ?_⟩
  obtain rfl : j = 0 := by simp at hj; omega
  obtain ⟨h0, h1, h2, h3, h4⟩ := h.vals
  exact ⟨h0, h1, h2, h3, h4⟩
set_option maxRecDepth 100000 in
set_option maxHeartbeats 3200000 in
theorem awake_t (w : World) (hL : LS w) : Calls Tryz.prog 4 #[] w (RV w (.bool true)) := by
  have hLx := fun (W : World) (b : Nat) (h : C5 W b 41 (.string ⟨#[97, 60, 61, 56, 39, 104, 70, 43, 98, 59]⟩) (.int .i64 1) (.int .i64 1) (.int .i64 1) (.bool false)) (hL : LS W) =>
    Lex_t (some ⟨b, 0, none⟩) 1 [⟨awT, ⟨1, 1, 1⟩, false⟩] W (C5.PCL h) (by decide) hL (fun q hq => by rw [List.mem_singleton.1 hq]; exact ⟨⟨by decide, by decide, by decide⟩, by decide⟩)
  rw [lex_aw] at hLx
  unfold LR at hLx
  have hTx := fun (W : World) (A : Option Addr) (c : Nat) (h : TLr W A awL) => Text_t A c awL W h (by decide) (by rw [join_aw]; decide)
  rw [join_aw] at hTx
  have B0 := C5.new w 41 (.string ⟨#[97, 60, 61, 56, 39, 104, 70, 43, 98, 59]⟩) (.int .i64 1) (.int .i64 1) (.int .i64 1) (.bool false)
  have hL0 := hL.over ((Below.refl _ w).alloc (Nat.le_refl _) (.cells #[.string ⟨#[97, 60, 61, 56, 39, 104, 70, 43, 98, 59]⟩, .int .i64 1, .int .i64 1, .int .i64 1, .bool false] 41))
  have hb0 := (Below.refl w.heap.size w).alloc (Nat.le_refl _) (.cells #[.string ⟨#[97, 60, 61, 56, 39, 104, 70, 43, 98, 59]⟩, .int .i64 1, .int .i64 1, .int .i64 1, .bool false] 41)
  have hC := hLx _ _ B0 hL0
  have hlen : ([⟨awT, ⟨1, 1, 1⟩, false⟩] : List PC).length = 1 := rfl
  rw [hlen] at hC
  replace hC := Lib.hid hC
  replace hTx := Lib.hid hTx
  replace hb0 := Lib.hid hb0
  clear hLx B0 hL0 hlen hL
  go_enter Tryz.func4, Tryz.ntmps4
  go_wp2_with fail
  (with_reducible refine hC.out.mono ?_)
  rintro e w1 ⟨hb1, v, rfl, ho⟩
  obtain ⟨Av, cv, rfl⟩ := own_form ho
  obtain ⟨hT, _, _, hoff⟩ := own_TLr ho
  obtain ⟨b, off, rfl, hb, hc⟩ := hT (by decide)
  obtain rfl : off = 0 := (hoff _ rfl).1
  have h1 : w1.cell? ⟨b, 6, none⟩ = some (.string (tx [60, 61])) := (hc 1 (by decide)).2.1
  have h2 : w1.cell? ⟨b, 10, none⟩ = some (.int .i64 2) := (hc 2 (by decide)).1
  have h3 : w1.cell? ⟨b, 19, none⟩ = some (.int .i64 8) := (hc 3 (by decide)).2.2.2.2
  have hbw1 : Below w.heap.size w w1 := below_call hb1 hb0.out
  have z1 := hbw1.size
  obtain ⟨S1, hS1⟩ : ∃ S : ByteArray, tx [60, 61] = S := ⟨_, rfl⟩
  have q1 : (S1.toList == [60, 61]) = true := by rw [← hS1, tx_toList]; rfl
  rw [hS1] at h1
  have hTw := fun (W : World) (hbW : Below w1.heap.size w1 W) => hTx.out W (some ⟨b, 0, none⟩) cv (hT.over hbW)
  obtain ⟨S2, hS2⟩ : ∃ S : ByteArray, tx [97, 32, 60, 61, 32, 56, 39, 104, 70, 32, 43, 32, 98, 32, 59] = S := ⟨_, rfl⟩
  have q2 : (S2.toList == [97, 32, 60, 61, 32, 56, 39, 104, 70, 32, 43, 32, 98, 32, 59]) = true := by rw [← hS2, tx_toList]; rfl
  rw [hS2] at hTw
  rw [show awL.length = 6 from rfl] at hTw ⊢
  have hbW := (Below.refl w1.heap.size w1).alloc (Nat.le_refl _) (.cells #[.int .i64 0, .int .i64 0, .int .i64 0] 29)
  have hTw2 := hTw _ hbW
  have hbX := hbw1.alloc z1 (.cells #[.int .i64 0, .int .i64 0, .int .i64 0] 29)
  have q3 : S2.toList = [97, 32, 60, 61, 32, 56, 39, 104, 70, 32, 43, 32, 98, 32, 59] := by rw [← hS2, tx_toList]
  have q4 : S1.toList = [60, 61] := by rw [← hS1, tx_toList]
  replace q3 := Lib.hid q3
  replace q4 := Lib.hid q4
  replace hTw2 := Lib.hid hTw2
  replace hbX := Lib.hid hbX
  clear hTw hbW hbw1 hT hc hb1 hoff ho hS1 hS2 hC hTx
  go_wp2_with fail
  (with_reducible refine hTw2.out.mono ?_)
  rintro e w2 ⟨rfl, hb2⟩
  have hbw2 := below_call hb2 hbX.out
  clear hb2
  go_wp2_with fail
  go_ret
  exact ⟨rfl, hbw2⟩
end Go.Proofs.YtomjokpgcijccaaGreatDoor
