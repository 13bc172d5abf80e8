/-
  The walks of lex's reader: skip.
-/
import Derived.Test.YtomjokpgcijccaaGreatDoorHc
import Derived.Test.YtomjokpgcijccaaGreatDoorLc
namespace Go.Proofs.YtomjokpgcijccaaGreatDoor
open Go.RowKit Go.Lib
/-- The text of these bytes. -/
abbrev tx (l : List UInt8) : ByteArray := ⟨l.toArray⟩
theorem tx_take (l : List UInt8) (n : Nat) : (tx l).extract 0 n = tx (l.take n) := by
  apply ByteArray.ext
  rw [ByteArray.data_extract]
  simp
theorem tx_drop (l : List UInt8) (n : Nat) : (tx l).extract n l.length = tx (l.drop n) := by
  apply ByteArray.ext
  rw [ByteArray.data_extract]
  simp
  rw [List.take_of_length_le (by simp)]
theorem tx_size (l : List UInt8) : (tx l).size = l.length := rfl
theorem tx_list (l : List UInt8) : (tx l).data.toList = l := rfl
/-- Nothing but block b has changed. -/
structure KB (b : Nat) (w w' : World) : Prop where
  os : w'.os = w.os
  tape : w'.tape = w.tape
  output : w'.output = w.output
  size : w.heap.size ≤ w'.heap.size
  blk : ∀ k, k ≠ b → k < w.heap.size → w'.heap[k]? = w.heap[k]?
theorem KB.refl (b : Nat) (w : World) : KB b w w := ⟨rfl, rfl, rfl, Nat.le_refl _, fun _ _ _ => rfl⟩
theorem KB.trans {b : Nat} {u v w : World} (h : KB b u v) (k : KB b v w) : KB b u w :=
  ⟨k.os.trans h.os, k.tape.trans h.tape, k.output.trans h.output, Nat.le_trans h.size k.size, fun i hi hu => (k.blk i hi (Nat.lt_of_lt_of_le hu h.size)).trans (h.blk i hi hu)⟩
theorem KB.ofBelow {b : Nat} {w w' : World} (h : Below w.heap.size w w') : KB b w w' := ⟨h.os, h.tape, h.output, h.size, fun k _ hk => h.block k hk⟩
theorem KB.set (b i : Nat) (w : World) (v : Value) : KB b w (w.setCell ⟨b, i, none⟩ v) :=
  ⟨rfl, rfl, rfl, by simp, fun k hk _ => Below.heap_setCell w _ v k hk⟩
theorem KB.drew (b : Nat) (w : World) : KB b w w.drew := ⟨rfl, rfl, rfl, Nat.le_refl _, fun _ _ _ => rfl⟩
theorem KB.below {b B : Nat} {w w' : World} (h : KB b w w') (hB : B ≤ b) (hw : B ≤ w.heap.size) : Below B w w' :=
  ⟨h.os, h.tape, h.output, h.size, fun k hk => h.blk k (by omega) (by omega)⟩
/-- A reader lies at block b. -/
def RD (w : World) (b : Nat) (S : ByteArray) (p : PS) (fx : Bool) : Prop :=
  w.heap[b]? = some (.cells #[.string S, .int .i64 p.f, .int .i64 p.l, .int .i64 p.c, .bool fx] 45 (0, 0))
theorem RD.cells {w : World} {b : Nat} {S : ByteArray} {p : PS} {fx : Bool} (h : RD w b S p fx) :
    b < w.heap.size ∧ w.cell? ⟨b, 0, none⟩ = some (.string S) ∧ w.cell? ⟨b, 1, none⟩ = some (.int .i64 p.f) ∧ w.cell? ⟨b, 2, none⟩ = some (.int .i64 p.l) ∧ w.cell? ⟨b, 3, none⟩ = some (.int .i64 p.c) ∧ w.cell? ⟨b, 4, none⟩ = some (.bool fx) ∧ (∀ i, w.frozen? ⟨b, i, none⟩ = false) := by
  unfold RD at h
  refine ⟨(Array.getElem?_eq_some_iff.1 h).1, ?_, ?_, ?_, ?_, ?_, fun i => ?_⟩
  · simp [World.cell?, h]
  · simp [World.cell?, h]
  · simp [World.cell?, h]
  · simp [World.cell?, h]
  · simp [World.cell?, h]
  · simp [World.frozen?, h]
theorem RD.rest {w : World} {b : Nat} {S : ByteArray} {p : PS} {fx : Bool} (h : RD w b S p fx) (T : ByteArray) : RD (w.setCell ⟨b, 0, none⟩ (.string T)) b T p fx := by
  unfold RD at *
  simp [World.setCell, Array.getElem?_modify, h]
theorem RD.line {w : World} {b : Nat} {S : ByteArray} {p : PS} {fx : Bool} (h : RD w b S p fx) (x : Int) : RD (w.setCell ⟨b, 2, none⟩ (.int .i64 x)) b S ⟨p.f, x, p.c⟩ fx := by
  unfold RD at *
  simp [World.setCell, Array.getElem?_modify, h]
theorem RD.col {w : World} {b : Nat} {S : ByteArray} {p : PS} {fx : Bool} (h : RD w b S p fx) (x : Int) : RD (w.setCell ⟨b, 3, none⟩ (.int .i64 x)) b S ⟨p.f, p.l, x⟩ fx := by
  unfold RD at *
  simp [World.setCell, Array.getElem?_modify, h]
theorem RD.over {w w' : World} {b : Nat} {S : ByteArray} {p : PS} {fx : Bool} (h : RD w b S p fx) (k : Below w.heap.size w w') : RD w' b S p fx := by
  have := h.cells.1
  unfold RD at *
  rw [k.block b this]; exact h
/-- What a call that moves the reader at b leaves: a value, the reader's rest and place. -/
def SK (w : World) (b : Nat) (v : Value) (l : List UInt8) (p : PS) (fx : Bool) (e : Ending) (w' : World) : Prop :=
  e = .returned v ∧ RD w' b (tx l) p fx ∧ KB b w w'
theorem adv_skip (p : PS) (hp : p.ok) (t : List UInt8) (h : t.length < 4611686018427387904) : adv false p t = if t.count 10 = 0 then ⟨p.f, p.l, wr (p.c + t.length)⟩ else ⟨p.f, wr (p.l + t.count 10), t.length - liL t⟩ := adv_chunk p hp _ t rfl h
set_option maxRecDepth 100000 in
set_option maxHeartbeats 3200000 in
theorem skip_t (b : Nat) (l : List UInt8) (p : PS) (fx : Bool) (n : Nat) (hn : n ≤ l.length) (w : World) (h : RD w b (tx l) p fx) (hp : p.ok) (hl : l.length < 4611686018427387904) :
    Calls Tryz.prog 13 #[.pointer (some ⟨b, 0, none⟩), .int .i64 (n : Int)] w (SK w b (.string (tx (l.take n))) (l.drop n) (adv fx p (l.take n)) fx) := by
  have e1 := tx_take l n
  have e2 := tx_drop l n
  have hz : (tx l).size = l.length := rfl
  have hC := fun w => Tryz.strings_Count_one (tx (l.take n)) 10 w
  have hI := fun w => Tryz.strings_LastIndexByte (tx (l.take n)) 10 (by show (l.take n).length < _; rw [List.length_take]; omega) w
  rw [tx_list] at hC
  have hT : (tx (l.take n)).size = n := by show (l.take n).length = n; rw [List.length_take]; omega
  have htl : (l.take n).length = n := hT
  have hA := adv_skip p hp (l.take n) (by omega)
  have hlr := liL_ran _ (l.take n) rfl
  have hliL : lastIndexByte (tx (l.take n)) 10 = liL (l.take n) := rfl
  rw [hliL] at hI
  rw [htl] at hA hlr
  have hR := h
  have hcnt : Lib.countByte (l.take n) 10 = (l.take n).count 10 := rfl
  rw [hcnt] at hC
  have hcb : (l.take n).count 10 ≤ n := by have := List.count_le_length (a := (10 : UInt8)) (l := l.take n); omega
  obtain ⟨T, hT0⟩ : ∃ T, tx (l.take n) = T := ⟨_, rfl⟩
  obtain ⟨U, hU0⟩ : ∃ U, tx (l.drop n) = U := ⟨_, rfl⟩
  obtain ⟨S, hS0⟩ : ∃ S, tx l = S := ⟨_, rfl⟩
  obtain ⟨N, hN0⟩ : ∃ N, l.length = N := ⟨_, rfl⟩
  unfold SK
  rw [hT0] at e1 hC hI hT ⊢
  rw [hU0] at e2 ⊢
  rw [hS0] at e1 e2 h hz hR
  rw [hN0] at e2 hz hn hl
  obtain ⟨c, hc0⟩ : ∃ c, (l.take n).count 10 = c := ⟨_, rfl⟩
  obtain ⟨q, hq0⟩ : ∃ q, liL (l.take n) = q := ⟨_, rfl⟩
  rw [hc0] at hC hA hcb
  rw [hq0] at hI hA hlr
  obtain ⟨b0, c0, c1, c2, c3, c4, hf⟩ := h.cells
  have hP1 : wr (p.l + c) = IntKind.i64.wrap (p.l + c) := rfl
  have hP2 : wr (p.c + n) = IntKind.i64.wrap (p.c + n) := rfl
  rw [hP1, hP2] at hA
  have hA2 : adv true p (l.take n) = p := rfl
  obtain ⟨al, hal⟩ : ∃ a, IntKind.i64.wrap (p.l + c) = a := ⟨_, rfl⟩
  obtain ⟨ac, hac⟩ : ∃ a, IntKind.i64.wrap (p.c + n) = a := ⟨_, rfl⟩
  rw [hal, hac] at hA
  obtain ⟨pf, pl, pc⟩ := p
  simp only at c1 c2 c3 hal hac hA hR
  replace hC := Lib.hid hC
  replace hI := Lib.hid hI
  replace hR := Lib.hid hR
  replace hA2 := Lib.hid hA2
  replace hA := Lib.hid hA
  clear hT0 hU0 hS0 hN0 hc0 hq0 htl hliL hcnt hP1 hP2 h hp
  cases fx
  · by_cases h0 : c = 0
    · have hA' := hA.out
      rw [if_pos h0] at hA'
      subst h0
      replace hA' := Lib.hid hA'
      clear hA hI
      go_enter Tryz.func13, Tryz.ntmps13
      go_wp2_with (go_at_call 25; (with_reducible refine (hC.out _).mono ?_); rintro e w' ⟨rfl, rfl⟩)
      go_ret
      exact ⟨rfl, by rw [hA'.out]; exact (hR.out.rest U).col ac, (KB.set b 0 w _).trans (KB.set b 3 _ _)⟩
    · have hA' := hA.out
      rw [if_neg h0] at hA'
      have h1 : ((0 : Int) < (c : Int)) := by omega
      have hw : IntKind.i64.wrap ((n : Int) - q) = (n : Int) - q := IntWalk.i64_in _ (by omega)
      replace hA' := Lib.hid hA'
      clear hA
      go_enter Tryz.func13, Tryz.ntmps13
      go_wp2_with (first | (go_at_call 25; (with_reducible refine (hC.out _).mono ?_); rintro e w' ⟨rfl, rfl⟩) | (go_at_call 26; (with_reducible refine (hI.out _).mono ?_); rintro e w' ⟨rfl, rfl⟩))
      go_ret
      exact ⟨rfl, by rw [hA'.out]; exact ((hR.out.rest U).line al).col _, ((KB.set b 0 w _).trans (KB.set b 2 _ _)).trans (KB.set b 3 _ _)⟩
  · clear hA hC hI
    go_enter Tryz.func13, Tryz.ntmps13
    go_wp2_with fail
    go_ret
    exact ⟨rfl, by rw [hA2.out]; exact hR.out.rest U, KB.set b 0 w _⟩
end Go.Proofs.YtomjokpgcijccaaGreatDoor
