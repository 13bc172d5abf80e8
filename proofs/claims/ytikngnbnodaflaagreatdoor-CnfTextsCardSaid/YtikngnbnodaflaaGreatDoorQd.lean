/-
  A clause's line: parseClause, on what Text wrote.
-/
import Derived.Test.YtikngnbnodaflaaGreatDoorQc
import Derived.Test.YtikngnbnodaflaaGreatDoorNg
import Derived.Deep.OwnRows
namespace Go.Proofs.YtikngnbnodaflaaGreatDoor
open Go.RowKit Go.Lib
/-- What parseClause returns: a new slice of the literals, and no error. -/
def PC (c : List Int) (w : World) (e : Ending) (w' : World) : Prop :=
  ∃ B : Nat, e = .returned (.tuple #[.slice (some ⟨B, 0, none⟩) c.length c.length, .int .i64 0]) ∧ w'.rowIs B 3 c.length (fun j => .int .i64 (c.getD j 0)) ∧ w.heap.size ≤ B ∧ Below w.heap.size w w'
/-- The words of a clause's line lie in a new slice. -/
def WD (c : List Int) (w : World) (e : Ending) (w' : World) : Prop :=
  ∃ N : Nat, e = .returned (.slice (some ⟨w.heap.size, 0, none⟩) (c.length + 1) N) ∧ c.length + 1 ≤ N ∧ N ≤ 1001 ∧ Below w.heap.size w w' ∧ w.heap.size < w'.heap.size ∧ (∀ j, j < c.length → w'.cell? ⟨w.heap.size, j, none⟩ = some (.string ⟨(itoa (c.getD j 0)).toArray⟩)) ∧ w'.cell? ⟨w.heap.size, c.length, none⟩ = some (.string ⟨#[48]⟩)
theorem getD_i (c : List Int) (j : Nat) (h : j < c.length) : c.getD j 0 = c[j] := by rw [List.getD_eq_getElem?_getD, List.getElem?_eq_getElem h]; rfl
theorem SplitN_t (c : List Int) (hc : c.length ≤ 1000) (w : World) (hM : MX w) (hl : (lnT c).length < 4294967281) :
    Calls Tryz.prog 38 #[.string ⟨(lnT c).toArray⟩, .string ⟨#[32]⟩, .int .i64 1001] w (WD c w) := by
  obtain ⟨m, hm⟩ := hM
  have hk := lnT_len c
  refine (Tryz.strings_SplitN ⟨(lnT c).toArray⟩ ⟨#[32]⟩ 1001 m w hl hm (by decide) (by decide) (by decide)).mono ?_
  rintro e w' ⟨rfl, rfl⟩
  have hs : (⟨(lnT c).toArray⟩ : ByteArray).size = (lnT c).length := rfl
  have hb := words_b c (min 1001 ((⟨(lnT c).toArray⟩ : ByteArray).size + 1) - 1) (by rw [hs]; omega)
  rw [hb]
  have hlen : ((c.map itoa ++ [[48]]).map fun (l : List UInt8) => (⟨l.toArray⟩ : ByteArray)).length = c.length + 1 := by simp
  rw [hlen]
  refine ⟨min 1001 ((⟨(lnT c).toArray⟩ : ByteArray).size + 1), rfl, by rw [hs]; omega, by omega, (Below.refl _ w).alloc (Nat.le_refl _) _, by simp, fun j hj => ?_, ?_⟩
  · rw [World.cell?_alloc_new]
    unfold cellsOf
    rw [List.getElem?_toArray, List.getElem?_append_left (by simp; omega)]
    simp only [List.getElem?_map, List.getElem?_append_left (show j < (c.map itoa).length by simp; omega)]
    rw [List.getElem?_eq_getElem hj, ← getD_i c j hj]
    rfl
  · rw [World.cell?_alloc_new]
    unfold cellsOf
    rw [List.getElem?_toArray, List.getElem?_append_left (by simp)]
    simp
theorem rowIs_keep {w w' : World} {b : Nat} {t : TypeId} {n : Nat} {f : Nat → Value} (R : w.rowIs b t n f) (hb : Below w.heap.size w w') : w'.rowIs b t n f := by
  obtain ⟨c0, h1, h2, h3⟩ := R
  exact ⟨c0, (hb.block _ (lt_of_get h1)).trans h1, h2, h3⟩
def clC (c : List Int) (k j : Nat) : Value := if j < k then .int .i64 (c.getD j 0) else .int .i64 0
def gr (c : List Int) (k : Nat) : Int := if k = 0 then 0 else max (c.getD (k - 1) 0) (-(c.getD (k - 1) 0))
theorem gr_lt {c : List Int} (hv : c.Pairwise fun x y => max x (-x) < max y (-y)) (hD : Dom c) {k : Nat} (hk : k < c.length) : gr c k < max (c.getD k 0) (-(c.getD k 0)) := by
  unfold gr
  split
  · have := hD (c.getD k 0) (getD_mem c k hk)
    omega
  · rename_i h0
    have := List.pairwise_iff_getElem.1 hv (k - 1) k (by omega) hk (by omega)
    rw [getD_i c k hk, getD_i c (k - 1) (by omega)]
    exact this
theorem gr_le {c : List Int} {V : Nat} (hV : ∀ x, x ∈ c → max x (-x) ≤ (V : Int)) (k : Nat) (hk : k ≤ c.length) : gr c k ≤ (V : Int) := by
  unfold gr
  split
  · omega
  · exact hV _ (getD_mem c (k - 1) (by omega))
set_option maxRecDepth 100000 in
set_option maxHeartbeats 3200000 in
theorem parseClause_t (c : List Int) (V : Nat) (hc : c.length ≤ 1000) (hv : c.Pairwise fun x y => max x (-x) < max y (-y)) (hD : Dom c) (hV : ∀ x, x ∈ c → max x (-x) ≤ (V : Int)) (w : World) (hM : MX w) :
    Calls Tryz.prog 21 #[.string ⟨(lnT c).toArray⟩, .int .i64 (V : Int)] w (PC c w) := by
  have hll : (lnT c).length < 4294967281 := by
    have := lits_len c hD
    simp only [lnT, List.length_append, List.length_cons, List.length_nil]
    omega
  have hS := fun w hM => SplitN_t c hc w hM hll
  have hgl := fun k (hk : k < c.length) => gr_lt hv hD hk
  have hgV := fun k (hk : k ≤ c.length) => gr_le hV k hk
  have hP := fun k (hk : k < c.length) w => parseLiteral_t (c.getD k 0) (hD _ (getD_mem c k hk)) w
  have hva := fun k (hk : k < c.length) w => variable_t (c.getD k 0) w
  have hvm := fun k (hk : k < c.length) => va_dom (hD _ (getD_mem c k hk)).2
  obtain ⟨S, hS0⟩ : ∃ S : ByteArray, (⟨(lnT c).toArray⟩ : ByteArray) = S := ⟨_, rfl⟩
  rw [hS0] at hS ⊢
  unfold PC
  unfold WD at hS
  obtain ⟨n, hn⟩ : ∃ n, c.length = n := ⟨_, rfl⟩
  rw [hn] at hS hgl hgV hP hva hvm hc ⊢
  have hmk := run_make_row' 39 3 (.int .i64 0) 8 Tryz.underlying39 info_int rfl .i64 .i64 n (by omega) (by omega)
  replace hS := Lib.hid hS
  replace hgl := Lib.hid hgl
  replace hgV := Lib.hid hgV
  replace hP := Lib.hid hP
  replace hva := Lib.hid hva
  replace hvm := Lib.hid hvm
  replace hM := Lib.hid hM
  clear hS0 hv hV hll hD
  go_enter Tryz.func21, Tryz.ntmps21
  go_wp2_with fail
  (with_reducible refine (hS.out _ hM.out).mono ?_)
  rintro e w1 ⟨N, rfl, hN1, hN2, hb1, hz1, hwc, hwl⟩
  have hw0 : (n : Int) + 1 - 1 = (n : Int) := by omega
  have hwr : IntKind.i64.wrap ((n : Int) + 1 - 1) = (n : Int) := by rw [hw0]; exact IntWalk.i64_in _ (by omega)
  have R0 := Lib.hid (World.rowIs_made w1 (.int .i64 0) n 3)
  have hbA : Below w.heap.size w (w1.alloc (.cells (madeCells #[.int .i64 0] n) 3)) := hb1.alloc hb1.size _
  have hkA : Below w1.heap.size w1 (w1.alloc (.cells (madeCells #[.int .i64 0] n) 3)) := (Below.refl _ w1).alloc (Nat.le_refl _) _
  replace hwc := Lib.hid hwc
  replace hbA := Lib.hid hbA
  replace hkA := Lib.hid hkA
  go_wp2_with fail
  go_loopw [9, 30] (fun gv iv wr => ∃ k : Nat, k ≤ n ∧ iv = .int .i64 (k : Int) ∧ gv = .int .i64 (gr c k) ∧ wr.rowIs w1.heap.size 3 n (clC c k) ∧ Below w.heap.size w wr ∧ Below w1.heap.size w1 wr) (fun _ iv _ => n - (intOf iv).toNat)
  case atStart => exact ⟨0, Nat.zero_le _, rfl, rfl, World.rowIs.congr R0.out fun j hj => by unfold clC; simp, hbA.out, hkA.out⟩
  case round =>
    obtain ⟨k, hk, rfl, rfl, R, hbw, hkw⟩ := hrel
    clear R0 hmk hbA hkA hS
    by_cases hlt : k < n
    · have hck := (hkw.cell (p := ⟨w.heap.size, k, none⟩) hz1).trans (hwc.out k hlt)
      have hpk := Lib.hid (hP.out k hlt)
      have hvk := Lib.hid (hva.out k hlt)
      have hg := hgl.out k hlt
      have hgn : gr c (k + 1) = va (c.getD k 0) := by
        rw [hvm.out k hlt]
        unfold gr
        rw [if_neg (by omega), Nat.add_sub_cancel]
      rw [← hvm.out k hlt] at hg
      have hcl : clC c k = clC c k := rfl
      have hcs : ∀ j, j < n → (if j = k then Value.int .i64 (c.getD k 0) else clC c k j) = clC c (k + 1) j := fun j hj => by
        unfold clC
        by_cases hj1 : j = k
        · subst hj1; rw [if_pos rfl, if_pos (by omega)]
        · rw [if_neg hj1]
          by_cases hj2 : j < k
          · rw [if_pos hj2, if_pos (by omega)]
          · rw [if_neg hj2, if_neg (by omega)]
      obtain ⟨x, hx⟩ : ∃ x, c.getD k 0 = x := ⟨_, rfl⟩
      rw [hx] at hck hpk hvk hg hgn hcs
      obtain ⟨T, hT⟩ : ∃ T : ByteArray, (⟨(itoa x).toArray⟩ : ByteArray) = T := ⟨_, rfl⟩
      rw [hT] at hck hpk
      obtain ⟨g, hgg⟩ : ∃ g, gr c k = g := ⟨_, rfl⟩
      obtain ⟨vx, hvx⟩ : ∃ v, va x = v := ⟨_, rfl⟩
      rw [hgg] at hg ⊢
      rw [hvx] at hg hvk hgn
      replace hgn := Lib.hid hgn
      replace hcs := Lib.hid hcs
      have hgle : ¬ vx ≤ g := by omega
      clear hx hT hgg hvx hcl hg
      go_wp2_with fail
      (with_reducible refine (hpk.out _).mono ?_)
      rintro e w2 ⟨rfl, hb2⟩
      have hbw2 := below_call hb2 hbw hbw.size
      have hkw2 := below_call hb2 hkw hkw.size
      have R2 : w2.rowIs w1.heap.size 3 n (clC c k) := rowIs_keep R hb2
      have hf := World.rowIs.frozen R2
      have hcr := World.rowIs.cell R2 hlt
      clear hb2 R hbw hkw hck
      go_wp2_with fail
      (with_reducible refine (hvk.out _).mono ?_)
      rintro e w3 ⟨rfl, rfl⟩
      go_wp2_with fail
      (with_reducible refine (hvk.out _).mono ?_)
      rintro e w4 ⟨rfl, rfl⟩
      go_wp2_with fail
      go_roundw
      case rel => exact ⟨k + 1, by omega, by go_num, by rw [hgn.out], World.rowIs.congr (World.rowIs.set R2 k _) fun j hj => hcs.out j hj, hbw2.setCell (by first | exact hb1.size | (simp; exact hb1.size)) _, hkw2.setCell (by simp) _⟩
      case measure => simp [intOf]; omega
    · obtain rfl : k = n := by omega
      have hfin := hgV.out k (Nat.le_refl _)
      have R2 : wr.rowIs w1.heap.size 3 k (fun j => .int .i64 (c.getD j 0)) := World.rowIs.congr R fun j hj => by unfold clC; rw [if_pos hj]
      obtain ⟨g, hgg⟩ : ∃ g, gr c k = g := ⟨_, rfl⟩
      rw [hgg] at hfin ⊢
      have hngv : ¬ (V : Int) < g := by omega
      replace R2 := Lib.hid R2
      clear R hgg
      go_wp2_with fail
      go_ret2
      exact ⟨w1.heap.size, rfl, R2.out, hb1.size, hbw⟩
end Go.Proofs.YtikngnbnodaflaaGreatDoor
