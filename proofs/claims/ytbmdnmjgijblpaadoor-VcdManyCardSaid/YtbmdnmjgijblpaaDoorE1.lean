/-
  vcd's conditions on bytes, names and widths.
  vcd's reader in memory; pass.
-/
import Derived.Test.YtbmdnmjgijblpaaDoorRows
import Derived.WalkKit
import Derived.Below
import Derived.Lib.Hide
import Derived.WalkSpells
import Derived.WalkLawsBesides
import Derived.StillTailTactics
import Derived.Deep.QuietTactic
import Derived.Deep.AppendLies
import Derived.Deep.RegionLaw
import Derived.Deep.Cut
import Derived.Deep.LoopGhost
import Derived.Deep.RegionHeld3
import Derived.Deep.OwnRows
import Derived.IntWalk
import Derived.Lib.Strings
import Derived.Shelf.Abstract
import Derived.BigQuiet
namespace Go.Proofs.YtbmdnmjgijblpaaDoor
open Go Go.RowKit Go.Lib
/-- Returned v, and the world is as it was. -/
def RQ (w : World) (v : Value) (e : Ending) (w' : World) : Prop := e = .returned v ∧ w = w'
/-- The text of these bytes. -/
abbrev bt (l : List UInt8) : ByteArray := ⟨l.toArray⟩
theorem ret_b {a b : Bool} (h : a = b) : Ending.returned (.bool a) = .returned (.bool b) := by rw [h]
def vblk (c : Nat) : Bool := decide (c = 32) || decide (c = 9) || decide (c = 13) || decide (c = 10)
def vpr (c : Nat) : Bool := decide (33 ≤ c) && decide (c ≤ 126)
set_option maxHeartbeats 1600000 in
theorem vblk_t (c : Nat) (hc : c < 256) (w : World) : Calls Tryd.prog 66 #[.int .u8 (c : Int)] w (RQ w (.bool (vblk c))) := by
  have hr := Lib.hid (show vblk c = (decide (c = 32) || decide (c = 9) || decide (c = 13) || decide (c = 10)) from rfl)
  have h : c = 32 ∨ c = 9 ∨ c = 13 ∨ c = 10 ∨ (c ≠ 32 ∧ c ≠ 9 ∧ c ≠ 13 ∧ c ≠ 10) := by omega
  rcases h with rfl | rfl | rfl | rfl | ⟨h1, h2, h3, h4⟩
  case inr.inr.inr.inr =>
    have n1 : ((c : Int) == 32) = false := by simp; omega
    have n2 : ((c : Int) == 9) = false := by simp; omega
    have n3 : ((c : Int) == 13) = false := by simp; omega
    have n4 : ((c : Int) == 10) = false := by simp; omega
    go_enter Tryd.func66, Tryd.ntmps66
    go_wp2
    go_ret
    exact ⟨by rw [hr.out]; simp [h1, h2, h3, h4], rfl⟩
  all_goals
    go_enter Tryd.func66, Tryd.ntmps66
    go_wp2
    go_ret
    exact ⟨rfl, rfl⟩
set_option maxHeartbeats 1600000 in
theorem vpr_t (c : Nat) (hc : c < 256) (w : World) : Calls Tryd.prog 63 #[.int .u8 (c : Int)] w (RQ w (.bool (vpr c))) := by
  have h : c < 33 ∨ (33 ≤ c ∧ c ≤ 126) ∨ 126 < c := by omega
  obtain ⟨b, hb⟩ : ∃ b, vpr c = b := ⟨_, rfl⟩
  rw [hb]
  have hv : b = decide (33 ≤ c ∧ c ≤ 126) := by
    rw [← hb, Bool.eq_iff_iff]; unfold vpr; simp
  clear hb
  replace hv := Lib.hid hv
  rcases h with h | ⟨h, h'⟩ | h
  all_goals
    go_enter Tryd.func63, Tryd.ntmps63
    go_wp2
    all_goals
      go_ret
      exact ⟨ret_b (by rw [hv.out, Bool.eq_iff_iff]; simp; omega), rfl⟩
/-- every, with any condition on bytes. -/
theorem all_take_succ (p : Nat → Bool) (l : List UInt8) (k : Nat) (h : k < l.length) : (l.take (k + 1)).all (fun c => p c.toNat) = ((l.take k).all (fun c => p c.toNat) && p (l[k]).toNat) := by
  rw [List.take_succ_eq_append_getElem h, List.all_append]
  simp
set_option maxHeartbeats 1600000 in
set_option maxRecDepth 100000 in
theorem every_t (g : Nat) (lb : Array Value) (eg : ∀ args w, (callFunc g args).run Tryd.prog w = .ok (.enter g args) w) (p : Nat → Bool) (hp : ∀ c w, c < 256 → Calls Tryd.prog g (#[.int .u8 (c : Int)] ++ lb) w (RQ w (.bool (p c)))) (l : List UInt8) (hl : l.length ≤ 1000000000) (w : World) :
    Calls Tryd.prog 60 #[.string (bt l), .func (.func g) #[] lb] w (RQ w (.bool (l.all fun c => p c.toNat))) := by
  replace hp := Lib.hid hp
  obtain ⟨S, hS⟩ : ∃ S, bt l = S := ⟨_, rfl⟩
  have hsz : S.size = l.length := by rw [← hS]; rfl
  have hat : ∀ k c, (h : k < S.size) → (S[k]).toNat = c → ∃ h2 : k < l.length, (l[k]).toNat = c := fun k c h e => by subst hS; exact ⟨h, e⟩
  have hlm : S.size ≤ 1000000000 := by omega
  rw [hS]
  have hsz' := Lib.hid hsz
  replace hat := Lib.hid hat
  replace hS := Lib.hid hS
  clear hsz hl
  go_enter Tryd.func60, Tryd.ntmps60
  go_wp2_with fail
  go_loopw [8] (fun i wr => ∃ k : Nat, k ≤ S.size ∧ i = .int .i64 (k : Int) ∧ Hid ((l.take k).all (fun c => p c.toNat) = true) ∧ w = wr) (fun i _ => S.size - (intOf i).toNat)
  case atStart => exact ⟨0, Nat.zero_le _, rfl, Lib.hid rfl, rfl⟩
  case round =>
    obtain ⟨k, hk, rfl, hI, hw⟩ := hrel
    subst hw
    by_cases hlt : k < S.size
    · have hkl : k < l.length := by have := hsz'.out; omega
      have hs := Lib.hid (all_take_succ p l k hkl)
      obtain ⟨c, hc⟩ : ∃ c, (S[k]).toNat = c := ⟨_, rfl⟩
      have hc256 : c < 256 := by rw [← hc]; exact (S[k]).toNat_lt
      have hcS := hp.out c w hc256
      have hcl : (l[k]).toNat = c := (hat.out k c hlt hc).2
      have hck : (S[k]'hlt).toNat = c := hc
      replace hcl := Lib.hid hcl
      clear hc
      cases hpc : p c
      · rw [hpc] at hcS
        have hfin : (l.all fun c => p c.toNat) = false := by
          rw [List.all_eq_false]
          exact ⟨l[k], List.getElem_mem hkl, by rw [hcl.out, hpc]; decide⟩
        replace hcS := Lib.hid hcS
        replace hfin := Lib.hid hfin
        clear hpc hs
        go_wp2_with fail
        go_at_fn g
        refine hcS.out.mono ?_
        rintro e w1 ⟨rfl, hw1⟩
        subst hw1
        go_wp2_with fail
        go_ret
        exact ⟨ret_b hfin.out.symm, rfl⟩
      · rw [hpc] at hcS
        have hfin : (l.take (k + 1)).all (fun c => p c.toNat) = true := by rw [hs.out, hI.out, hcl.out, hpc]; rfl
        replace hcS := Lib.hid hcS
        replace hfin := Lib.hid hfin
        clear hpc hs
        go_wp2_with fail
        go_at_fn g
        refine hcS.out.mono ?_
        rintro e w1 ⟨rfl, hw1⟩
        subst hw1
        go_wp2_with fail
        go_roundw
        case rel => exact ⟨k + 1, by omega, by go_num, hfin, trivial⟩
        case measure => simp [intOf]; omega
    · obtain rfl : k = S.size := by omega
      have hfin : (l.all fun c => p c.toNat) = true := by have := hI.out; rwa [List.take_of_length_le (by have := hsz'.out; omega)] at this
      replace hfin := Lib.hid hfin
      go_wp2_with fail
      go_ret
      exact ⟨ret_b hfin.out.symm, rfl⟩
/-- May it be an Id? a name? -/
def idB (l : List UInt8) : Bool := decide (0 < l.length) && decide (l.length ≤ 200) && l.all fun c => vpr c.toNat
def wordB (l : List UInt8) : Bool := idB l && !(l.getD 0 0 == 36)
set_option maxHeartbeats 1600000 in
theorem isId_t (l : List UInt8) (hl : l.length ≤ 1000000000) (w : World) : Calls Tryd.prog 44 #[.string (bt l)] w (RQ w (.bool (idB l))) := by
  have hE := every_t 63 #[] (enters_of Tryd.func63 (by kernel_rfl) rfl) vpr (fun c w hc => vpr_t c hc w) l hl w
  by_cases h0 : l = []
  · subst h0
    go_enter Tryd.func44, Tryd.ntmps44
    go_wp2_with fail
    go_ret
    exact ⟨rfl, rfl⟩
  · have h1 : 0 < l.length := by
      cases l with
      | nil => exact absurd rfl h0
      | cons a r => simp
    have hv : idB l = (decide (l.length ≤ 200) && l.all fun c => vpr c.toNat) := by unfold idB; simp [h1]
    obtain ⟨S, hS⟩ : ∃ S, bt l = S := ⟨_, rfl⟩
    have hn : S.toList.isEmpty = false := by
      rw [← hS, Lib.toList_data]
      cases l with
      | nil => exact absurd rfl h0
      | cons a r => rfl
    have hn2 : ¬ S.toList = [] := by
      intro e
      rw [e] at hn
      cases hn
    have hsz : S.size = l.length := by rw [← hS]; rfl
    rw [hS] at hE ⊢
    obtain ⟨A, hA⟩ : ∃ A, (l.all fun c => vpr c.toNat) = A := ⟨_, rfl⟩
    rw [hA] at hE hv
    obtain ⟨B, hB⟩ : ∃ B, idB l = B := ⟨_, rfl⟩
    rw [hB] at hv ⊢
    obtain ⟨n, hnn⟩ : ∃ n, l.length = n := ⟨_, rfl⟩
    rw [hnn] at hsz hv hl h1
    clear hA hB hS h0 hnn
    by_cases h2 : n ≤ 200
    · have hv2 : B = A := by rw [hv]; simp [h2]
      subst hv2
      replace hE := Lib.hid hE
      clear hv
      subst hsz
      have t2 : decide (S.size ≤ 200) = true := by simpa using h2
      go_enter Tryd.func44, Tryd.ntmps44
      go_wp2_with fail
      (with_reducible refine hE.out.mono ?_)
      rintro e w1 ⟨rfl, hw1⟩
      subst hw1
      go_wp2_with fail
      go_ret
      exact ⟨rfl, rfl⟩
    · have hv2 : B = false := by rw [hv]; simp [h2]
      subst hv2
      clear hv hE
      subst hsz
      have t2 : decide (S.size ≤ 200) = false := by simpa using h2
      go_enter Tryd.func44, Tryd.ntmps44
      go_wp2_with fail
      go_ret
      exact ⟨rfl, rfl⟩
set_option maxHeartbeats 1600000 in
theorem isWord_t (l : List UInt8) (hl : l.length ≤ 1000000000) (w : World) : Calls Tryd.prog 22 #[.string (bt l)] w (RQ w (.bool (wordB l))) := by
  have hI := isId_t l hl w
  cases hid : idB l
  · rw [hid] at hI
    have hv : wordB l = false := by unfold wordB; rw [hid]; rfl
    rw [hv]
    obtain ⟨S, hS⟩ : ∃ S, bt l = S := ⟨_, rfl⟩
    rw [hS] at hI ⊢
    replace hI := Lib.hid hI
    clear hid hv hS
    go_enter Tryd.func22, Tryd.ntmps22
    go_wp2_with fail
    (with_reducible refine hI.out.mono ?_)
    rintro e w1 ⟨rfl, hw1⟩
    subst hw1
    go_wp2_with fail
    go_ret
    exact ⟨rfl, rfl⟩
  · rw [hid] at hI
    cases l with
    | nil => cases hid
    | cons a r =>
      have hv : wordB (a :: r) = !(a == 36) := by unfold wordB; rw [hid]; rfl
      rw [hv]
      obtain ⟨S, hS⟩ : ∃ S, bt (a :: r) = S := ⟨_, rfl⟩
      have h0 : 0 < S.size := by rw [← hS]; show 0 < (a :: r).length; simp
      have ha : (S[0]'h0) = a := by subst hS; rfl
      rw [hS] at hI ⊢
      replace hI := Lib.hid hI
      clear hid hv hS hl
      by_cases e : a = 36
      · subst e
        have t0 : ((S[0]'h0).toNat : Int) = 36 := by rw [ha]; rfl
        have t1 : (((S[0]'h0).toNat : Int) != 36) = false := by rw [t0]; rfl
        replace ha := Lib.hid ha
        replace t0 := Lib.hid t0
        go_enter Tryd.func22, Tryd.ntmps22
        go_wp2_with fail
        (with_reducible refine hI.out.mono ?_)
        rintro e w1 ⟨rfl, hw1⟩
        subst hw1
        go_wp2_with fail
        go_ret
        exact ⟨rfl, rfl⟩
      · have e2 : (!(a == 36)) = true := by simpa using e
        rw [e2]
        have t0 : ¬ ((S[0]'h0).toNat : Int) = 36 := by
          rw [ha]
          intro f
          apply e
          apply UInt8.toNat_inj.1
          show a.toNat = 36
          omega
        have t1 : (((S[0]'h0).toNat : Int) != 36) = true := by simpa using t0
        replace ha := Lib.hid ha
        clear t0 e2
        replace e := Lib.hid e
        go_enter Tryd.func22, Tryd.ntmps22
        go_wp2_with fail
        (with_reducible refine hI.out.mono ?_)
        rintro e w1 ⟨rfl, hw1⟩
        subst hw1
        go_wp2_with fail
        go_ret
        exact ⟨rfl, rfl⟩
theorem isWidth_t (n : Int) (w : World) : Calls Tryd.prog 24 #[.int .i64 n] w (RQ w (.bool (decide (1 ≤ n) && decide (n ≤ 128)))) := by
  by_cases h1 : 1 ≤ n
  · by_cases h2 : n ≤ 128
    · have e1 : decide (1 ≤ n) = true := by simpa using h1
      have e2 : decide (n ≤ 128) = true := by simpa using h2
      rw [e1, e2]
      go_enter Tryd.func24, Tryd.ntmps24
      go_wp2_with fail
      go_ret
      exact ⟨rfl, rfl⟩
    · have e1 : decide (1 ≤ n) = true := by simpa using h1
      have e2 : decide (n ≤ 128) = false := by simpa using h2
      rw [e1, e2]
      go_enter Tryd.func24, Tryd.ntmps24
      go_wp2_with fail
      go_ret
      exact ⟨rfl, rfl⟩
  · have e1 : decide (1 ≤ n) = false := by simpa using h1
    rw [e1]
    go_enter Tryd.func24, Tryd.ntmps24
    go_wp2_with fail
    go_ret
    exact ⟨rfl, rfl⟩
end Go.Proofs.YtbmdnmjgijblpaaDoor
namespace Go.Proofs.YtbmdnmjgijblpaaDoor
open Go Go.RowKit Go.Lib
abbrev CV (w : World) (b : Nat) (cs : Array Value) (T : TypeId) : Prop := w.heap[b]? = some (.cells cs T (0, 0))
theorem CV.c {w : World} {b : Nat} {cs : Array Value} {T : TypeId} (h : CV w b cs T) (i : Nat) : w.cell? ⟨b, i, none⟩ = cs[i]? := by rw [Lib.cell_of_heap h]
theorem CV.fz {w : World} {b : Nat} {cs : Array Value} {T : TypeId} (h : CV w b cs T) (i : Nat) : w.frozen? ⟨b, i, none⟩ = false := Lib.frozen_of_heap h i
theorem CV.lt {w : World} {b : Nat} {cs : Array Value} {T : TypeId} (h : CV w b cs T) : b < w.heap.size := (Array.getElem?_eq_some_iff.1 h).1
theorem CV.over {w w' : World} {b : Nat} {cs : Array Value} {T : TypeId} (h : CV w b cs T) (k : Below w.heap.size w w') : CV w' b cs T := (k.block b h.lt).trans h
theorem CV.set {w : World} {b : Nat} {cs : Array Value} {T : TypeId} (h : CV w b cs T) (i : Nat) (u : Value) : CV (w.setCell ⟨b, i, none⟩ u) b (cs.setIfInBounds i u) T := by
  unfold CV at *
  unfold World.setCell
  simp [Array.getElem?_modify, h]
theorem CV.far {w : World} {b : Nat} {cs : Array Value} {T : TypeId} (h : CV w b cs T) (p : Addr) (u : Value) (hp : b ≠ p.block) : CV (w.setCell p u) b cs T := (Below.heap_setCell w p u b hp).trans h
/-- Nothing but block b has changed. -/
structure KV (b : Nat) (w w' : World) : Prop where
  os : w'.os = w.os
  tape : w'.tape = w.tape
  output : w'.output = w.output
  size : w.heap.size ≤ w'.heap.size
  blk : ∀ k, k ≠ b → k < w.heap.size → w'.heap[k]? = w.heap[k]?
theorem KV.refl (b : Nat) (w : World) : KV b w w := ⟨rfl, rfl, rfl, Nat.le_refl _, fun _ _ _ => rfl⟩
theorem KV.trans {b : Nat} {u v w : World} (h : KV b u v) (k : KV b v w) : KV b u w :=
  ⟨k.os.trans h.os, k.tape.trans h.tape, k.output.trans h.output, Nat.le_trans h.size k.size, fun i hi hu => (k.blk i hi (Nat.lt_of_lt_of_le hu h.size)).trans (h.blk i hi hu)⟩
theorem KV.below {b : Nat} {w w' : World} (h : Below w.heap.size w w') : KV b w w' := ⟨h.os, h.tape, h.output, h.size, fun k _ hk => h.block k hk⟩
theorem KV.set (b i : Nat) (w : World) (v : Value) : KV b w (w.setCell ⟨b, i, none⟩ v) :=
  ⟨rfl, rfl, rfl, by simp, fun k hk _ => Below.heap_setCell w _ v k hk⟩
theorem KV.toBelow {b B : Nat} {w w' : World} (h : KV b w w') (hB : B ≤ b) (hw : B ≤ w.heap.size) : Below B w w' :=
  ⟨h.os, h.tape, h.output, h.size, fun k hk => h.blk k (by omega) (by omega)⟩
theorem KV.keep {b c : Nat} {w w' : World} {cs : Array Value} {T : TypeId} (h : KV b w w') (k : CV w c cs T) (hn : c ≠ b) : CV w' c cs T := (h.blk c hn k.lt).trans k
theorem vbdn (w : World) (q : Nat) : Below w.heap.size w (w.drewN q) := ⟨rfl, rfl, rfl, Nat.le_refl _, fun _ _ => rfl⟩
/-- The reader of a text T. -/
structure VR where
  T : List UInt8
  i : Nat
  ln : Nat
  top : List UInt8
  vars : Value
  vals : Value
  nums : Value
  err : Int
  el : Int
abbrev iz (k : Int) : Value := .int .i64 k
abbrev pp (p : Nat) : Value := .pointer (some ⟨p, 0, none⟩)
abbrev vrc (s : VR) : Array Value := #[.string (bt s.T), iz (s.i : Int), iz (s.ln : Int), .string (bt s.top), s.vars, s.vals, s.nums, iz s.err, iz s.el]
abbrev VX (w : World) (q : Nat) (s : VR) : Prop := CV w q (vrc s) 64
theorem byte_at (T : List UInt8) (k : Nat) (h : k < (bt T).size) (c : UInt8) (hc : T[k]? = some c) : (bt T)[k] = c := by
  have h2 : k < T.length := h
  rw [List.getElem?_eq_getElem h2] at hc
  exact Option.some.inj hc
set_option maxRecDepth 100000 in
set_option maxHeartbeats 1600000 in
theorem pass_t (w : World) (q : Nat) (s : VR) (h : VX w q s) (hi : s.i < s.T.length) (hT : s.T.length ≤ 1048576) (hl : s.ln ≤ s.i + 1) :
    Calls Tryd.prog 67 #[pp q] w fun e w' => e = .returned (.tuple #[]) ∧ ∃ ln, VX w' q { s with i := s.i + 1, ln := ln } ∧ ln ≤ s.i + 2 ∧ KV q w w' := by
  have b0 : w.cell? ⟨q, 0, none⟩ = some (.string (bt s.T)) := h.c 0
  have b1 : w.cell? ⟨q, 1, none⟩ = some (iz (s.i : Int)) := h.c 1
  have b2 : w.cell? ⟨q, 2, none⟩ = some (iz (s.ln : Int)) := h.c 2
  have bl := h.lt
  have f1 := h.fz 1
  have f2 := h.fz 2
  obtain ⟨c, hc⟩ : ∃ c, s.T[s.i]? = some c := ⟨_, List.getElem?_eq_getElem hi⟩
  have hfin : ∀ ln : Nat, ln ≤ s.i + 2 → ∀ w', VX w' q { s with i := s.i + 1, ln := ln } → KV q w w' → ∃ ln, VX w' q { s with i := s.i + 1, ln := ln } ∧ ln ≤ s.i + 2 ∧ KV q w w' := fun ln h1 w' h2 h3 => ⟨ln, h2, h1, h3⟩
  have hs1 : VX (w.setCell ⟨q, 1, none⟩ (iz ((s.i : Int) + 1))) q { s with i := s.i + 1 } := by
    have := h.set 1 (iz ((s.i : Int) + 1))
    exact this
  have hs2 : VX ((w.setCell ⟨q, 1, none⟩ (iz ((s.i : Int) + 1))).setCell ⟨q, 2, none⟩ (iz ((s.ln : Int) + 1))) q { s with i := s.i + 1, ln := s.ln + 1 } := by
    have := hs1.set 2 (iz ((s.ln : Int) + 1))
    exact this
  have hk1 : KV q w (w.setCell ⟨q, 1, none⟩ (iz ((s.i : Int) + 1))) := KV.set q 1 w _
  have hk2 := hk1.trans (KV.set q 2 _ (iz ((s.ln : Int) + 1)))
  have g1 : ∀ n, ∃ ln, VX ((w.setCell ⟨q, 1, none⟩ (iz ((s.i : Int) + 1))).drewN n) q { s with i := s.i + 1, ln := ln } ∧ ln ≤ s.i + 2 ∧ KV q w ((w.setCell ⟨q, 1, none⟩ (iz ((s.i : Int) + 1))).drewN n) := fun n => ⟨s.ln, hs1.over (vbdn _ n), by omega, hk1.trans (KV.below (vbdn _ n))⟩
  have g2 : ∀ n, ∃ ln, VX (((w.setCell ⟨q, 1, none⟩ (iz ((s.i : Int) + 1))).setCell ⟨q, 2, none⟩ (iz ((s.ln : Int) + 1))).drewN n) q { s with i := s.i + 1, ln := ln } ∧ ln ≤ s.i + 2 ∧ KV q w (((w.setCell ⟨q, 1, none⟩ (iz ((s.i : Int) + 1))).setCell ⟨q, 2, none⟩ (iz ((s.ln : Int) + 1))).drewN n) := fun n => ⟨s.ln + 1, hs2.over (vbdn _ n), by omega, hk2.trans (KV.below (vbdn _ n))⟩
  obtain ⟨S, hS⟩ : ∃ S, bt s.T = S := ⟨_, rfl⟩
  have hsz : S.size = s.T.length := by rw [← hS]; rfl
  have hby : ∀ k (hk : k < S.size), s.i = k → S[k] = c := fun k hk e => by subst hS; subst e; exact byte_at s.T s.i hk c hc
  rw [hS] at b0
  obtain ⟨P, hP⟩ : ∃ P : World → Prop, P = fun w' => ∃ ln, VX w' q { s with i := s.i + 1, ln := ln } ∧ ln ≤ s.i + 2 ∧ KV q w w' := ⟨_, rfl⟩
  change Calls _ _ _ _ fun e w' => e = .returned (.tuple #[]) ∧ (fun w' => ∃ ln, VX w' q { s with i := s.i + 1, ln := ln } ∧ ln ≤ s.i + 2 ∧ KV q w w') w'
  have g1' : ∀ n, P ((w.setCell ⟨q, 1, none⟩ (iz ((s.i : Int) + 1))).drewN n) := by rw [hP]; exact g1
  have g2' : ∀ n, P (((w.setCell ⟨q, 1, none⟩ (iz ((s.i : Int) + 1))).setCell ⟨q, 2, none⟩ (iz ((s.ln : Int) + 1))).drewN n) := by rw [hP]; exact g2
  rw [← hP]
  have hi2 : s.i < S.size := by omega
  have hS2 : S.size ≤ 1048576 := by omega
  clear hfin hs1 hs2 hk1 hk2 g1 g2 hP hS h hc hT hi
  obtain ⟨i, hii⟩ : ∃ i, s.i = i := ⟨_, rfl⟩
  obtain ⟨ln, hln⟩ : ∃ i, s.ln = i := ⟨_, rfl⟩
  simp only [hii, hln] at b1 b2 hi2 g1' g2' hl
  have hc2 := hby i hi2 hii
  replace g1' := Lib.hid g1'
  replace g2' := Lib.hid g2'
  clear hby hii hln hsz
  by_cases h1 : i + 1 < S.size
  · have t1 : decide ((i : Int) + 1 < (S.size : Int)) = true := by simp; omega
    by_cases h10 : c = 10
    · subst h10
      have t2 : ((S[i]'hi2).toNat : Int) = 10 := by rw [hc2]; rfl
      have t3 : (((S[i]'hi2).toNat : Int) == 10) = true := by rw [t2]; rfl
      replace t2 := Lib.hid t2
      replace hc2 := Lib.hid hc2
      go_enter Tryd.func67, Tryd.ntmps67
      go_wp2_with fail
      go_quiet (fail)
      go_wp2_with fail
      exact bodyPost_end (v := .tuple #[]) (by simp [results, Tryd.results67, go_sem]) rfl ⟨rfl, g2'.out _⟩
    · have t3 : (((S[i]'hi2).toNat : Int) == 10) = false := by
        rw [hc2]
        apply beq_eq_false_iff_ne.2
        intro f
        apply h10
        apply UInt8.toNat_inj.1
        show c.toNat = 10
        omega
      replace hc2 := Lib.hid hc2
      go_enter Tryd.func67, Tryd.ntmps67
      go_wp2_with fail
      go_quiet (fail)
      go_wp2_with fail
      exact bodyPost_end (v := .tuple #[]) (by simp [results, Tryd.results67, go_sem]) rfl ⟨rfl, g1'.out _⟩
  · have t1 : decide ((i : Int) + 1 < (S.size : Int)) = false := by simp; omega
    go_enter Tryd.func67, Tryd.ntmps67
    go_wp2_with fail
    go_quiet (fail)
    go_wp2_with fail
    exact bodyPost_end (v := .tuple #[]) (by simp [results, Tryd.results67, go_sem]) rfl ⟨rfl, g1'.out _⟩
end Go.Proofs.YtbmdnmjgijblpaaDoor
