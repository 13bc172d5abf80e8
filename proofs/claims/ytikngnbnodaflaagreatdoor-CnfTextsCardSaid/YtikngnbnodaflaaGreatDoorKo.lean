/-
  The text of a formula.
-/
import Derived.Test.YtikngnbnodaflaaGreatDoorKf
import Derived.Test.YtikngnbnodaflaaGreatDoorKh
import Derived.Lib.ItoaLen
import Derived.Lib.LaidTab
namespace Go.Proofs.YtikngnbnodaflaaGreatDoor
open Go.RowKit Go.Lib
/-- The table of the library that Text looks into lies as it is laid. -/
def LT (w : World) : Prop := TabIs Tryz.prog w "internal/strconv.uint64pow10" .u64 pow10Tab
theorem LT.on {w w' : World} (h : LT w) (hb : Below w.heap.size w w') : LT w' := tabBelow_of_tabIs h w' hb
def SZ (n : Nat) (w : World) (e : Ending) (w' : World) : Prop := ∃ s : ByteArray, e = .returned (.string s) ∧ s.size ≤ n ∧ Below w.heap.size w w'
theorem Itoa_t (x : Int) (h0 : -9223372036854775808 ≤ x) (h1 : x ≤ 9223372036854775807) (w : World) (hT : LT w) :
    Calls Tryz.prog 15 #[.int .i64 x] w (RV w (.string ⟨(itoa x).toArray⟩)) := by
  refine (Tryz.strconv_Itoa x h0 h1 w hT).mono ?_
  rintro e w' ⟨rfl, k, os, rfl⟩
  exact ⟨rfl, below_grow _ w (Nat.le_refl _) k os⟩
theorem own_keep1 {B n : Nat} {e : TypeId} {v : Value} {xs : List Value} {w w' : World} (h : w.ownsRow B e 1 v n xs) (k : Below w.heap.size w w') : w'.ownsRow B e 1 v n xs := own_keep h fun b hb => k.block b (h.lt b hb).2
theorem bu_over {B b : Nat} {l : List UInt8} {w w' : World} (h : BU B b l w) (k : Below w.heap.size w w') : BU B b l w' := by
  have one : ∀ p, Lib.BuilderAt 45 5 B b p (Lib.byteCells l) w → Lib.BuilderAt 45 5 B b p (Lib.byteCells l) w' := by
    rintro p ⟨hB, v, hb, ho, hne⟩
    exact ⟨hB, v, (k.block b (lt_of_get hb)).trans hb, own_keep1 ho k, hne⟩
  rcases h with h | h
  · exact Or.inl (one _ h)
  · exact Or.inr (one _ h)
def litT (x : Int) : List UInt8 := itoa x ++ [32]
def clT (c : List Int) : List UInt8 := c.flatMap litT ++ [48, 10]
def hdT (V n : Nat) : List UInt8 := [112, 32, 99, 110, 102, 32] ++ itoa (V : Int) ++ [32] ++ itoa (n : Int) ++ [10]
/-- The text of a formula. -/
def txT (V : Nat) (cs : List (List Int)) : List UInt8 := hdT V cs.length ++ cs.flatMap clT
theorem litT_len (x : Int) (h : -60000 ≤ x ∧ x ≤ 60000) : (litT x).length ≤ 22 := by
  have := itoa_length_le x (by omega) (by omega)
  simp [litT]; omega
theorem lits_len : ∀ l : List Int, Dom l → (l.flatMap litT).length ≤ 22 * l.length
  | [], _ => by simp
  | x :: l, h => by
    have h1 := litT_len x (h x (List.mem_cons_self ..)).2
    have h2 := lits_len l fun y hy => h y (List.mem_cons_of_mem _ hy)
    simp only [List.flatMap_cons, List.length_append, List.length_cons]
    omega
theorem cls_len : ∀ cs : List (List Int), (∀ c, c ∈ cs → Dom c) → (cs.flatMap clT).length ≤ 22 * cs.flatten.length + 2 * cs.length
  | [], _ => by simp
  | c :: cs, h => by
    have h1 := lits_len c (h c (List.mem_cons_self ..))
    have h2 := cls_len cs fun y hy => h y (List.mem_cons_of_mem _ hy)
    simp only [List.flatMap_cons, List.length_append, List.length_cons, List.flatten_cons, clT, List.length_nil]
    omega
theorem take_flat {α : Type} (f : α → List UInt8) (l : List α) (k : Nat) (h : k < l.length) : (l.take (k + 1)).flatMap f = (l.take k).flatMap f ++ f l[k] := by
  rw [List.take_succ_eq_append_getElem h, List.flatMap_append]
  simp
theorem take_flat_le {α : Type} (f : α → List UInt8) (l : List α) (k : Nat) : ((l.take k).flatMap f).length ≤ (l.flatMap f).length := by
  have h : l.flatMap f = (l.take k).flatMap f ++ (l.drop k).flatMap f := by rw [← List.flatMap_append, List.take_append_drop]
  rw [h, List.length_append]
  omega
theorem hdT_len (V n : Nat) (hV : V ≤ 60000) (hn : n ≤ 200000) : (hdT V n).length ≤ 60 := by
  have h1 := itoa_length_le (V : Int) (by omega) (by omega)
  have h2 := itoa_length_le (n : Int) (by omega) (by omega)
  simp [hdT]; omega
section
variable {base : Nat} {w : World} {p V : Nat} {cs : List (List Int)} {vl ve : Value}
set_option maxRecDepth 100000 in
set_option maxHeartbeats 3200000 in
theorem Text_t (h : CF base w p V cs vl ve) (hT : LT w) : Calls Tryz.prog 6 #[pv p] w (RV w (.string ⟨(txT V cs).toArray⟩)) := by
  have hV := h.hV
  have hn := h.hn
  have hfl := h.fl
  have hcl := cls_len cs h.hd
  have hhd := hdT_len V cs.length hV hn
  have hVt := fun (W : World) (hb : Below w.heap.size w W) => Vars_t (h.over hb)
  have hLt := fun (W : World) (hb : Below w.heap.size w W) => Len_t (h.over hb)
  have hSt := fun (W : World) (hb : Below w.heap.size w W) (i : Nat) (hi : i < cs.length) => (show Calls Tryz.prog 17 #[pv p, .int .i64 (i : Int)] W (SV vl W (cs.getD i [])) from getD_get cs i hi ▸ stored_t (h.over hb) i hi)
  have hI1 := fun (W : World) (hb : Below w.heap.size w W) => Itoa_t (V : Int) (by omega) (by omega) W (hT.on hb)
  have hI2 := fun (W : World) (hb : Below w.heap.size w W) => Itoa_t (cs.length : Int) (by omega) (by omega) W (hT.on hb)
  have hIx := fun (x : Int) (hx : -60000 ≤ x ∧ x ≤ 60000) (W : World) (hb : Below w.heap.size w W) => Itoa_t x (by omega) (by omega) W (hT.on hb)
  have hWr := fun (W : World) (b : Nat) (l : List UInt8) (s : ByteArray) (hb : BU w.heap.size b l W) (hl : l.length + s.size ≤ 140737488355328) (hz : w.heap.size ≤ W.heap.size) => write_t w.heap.size b l s W hb hl hz
  have hStr := fun (W : World) (b : Nat) (l : List UInt8) (hb : BU w.heap.size b l W) (hz : w.heap.size ≤ W.heap.size) => Tryz.Builder_String_any w.heap.size b l W hb hz
  have hs1 := itoa_length_le (V : Int) (by omega) (by omega)
  have hs2 := itoa_length_le (cs.length : Int) (by omega) (by omega)
  have hD := h.hd
  obtain ⟨I1, hI1e⟩ : ∃ I1 : ByteArray, (⟨(itoa (V : Int)).toArray⟩ : ByteArray) = I1 := ⟨_, rfl⟩
  obtain ⟨I2, hI2e⟩ : ∃ I2 : ByteArray, (⟨(itoa (cs.length : Int)).toArray⟩ : ByteArray) = I2 := ⟨_, rfl⟩
  have z1 : I1.size ≤ 21 := by rw [← hI1e]; exact hs1
  have z2 : I2.size ≤ 21 := by rw [← hI2e]; exact hs2
  have hhdr : [] ++ (((((⟨#[112, 32, 99, 110, 102, 32]⟩ ++ I1) ++ ⟨#[32]⟩) ++ I2) ++ ⟨#[10]⟩) : ByteArray).data.toList = hdT V cs.length := by
    rw [← hI1e, ← hI2e]
    simp [hdT]
  have hhz : ((((((⟨#[112, 32, 99, 110, 102, 32]⟩ ++ I1) ++ ⟨#[32]⟩) ++ I2) ++ ⟨#[10]⟩) : ByteArray)).size ≤ 60 := by
    rw [ByteArray.size_append, ByteArray.size_append, ByteArray.size_append, ByteArray.size_append]
    have e6 : (⟨#[112, 32, 99, 110, 102, 32]⟩ : ByteArray).size = 6 := rfl
    have e1 : (⟨#[32]⟩ : ByteArray).size = 1 := rfl
    have e2 : (⟨#[10]⟩ : ByteArray).size = 1 := rfl
    omega
  rw [hI1e] at hI1
  rw [hI2e] at hI2
  have q1 : 6 + I1.size ≤ 9223372036854775807 := by omega
  have q2 : 6 + I1.size + 1 ≤ 9223372036854775807 := by omega
  have q3 : 6 + I1.size + 1 + I2.size ≤ 9223372036854775807 := by omega
  have q4 : 6 + I1.size + 1 + I2.size + 1 ≤ 9223372036854775807 := by omega
  obtain ⟨nc, hnc⟩ : ∃ nc, cs.length = nc := ⟨_, rfl⟩
  have htx : txT V cs = hdT V nc ++ cs.flatMap clT := by rw [← hnc]; rfl
  rw [htx]
  rw [hnc] at hLt hSt hI2 hn hhd hhdr hcl
  obtain ⟨H, hH⟩ : ∃ H, hdT V nc = H := ⟨_, rfl⟩
  rw [hH] at hhd hhdr ⊢
  replace hV := Lib.hid hV
  have hn2 : nc ≤ 9000000000000000000 := by omega
  replace hn := Lib.hid hn
  replace hfl := Lib.hid hfl
  replace hcl := Lib.hid hcl
  replace hhd := Lib.hid hhd
  replace hVt := Lib.hid hVt
  replace hLt := Lib.hid hLt
  replace hSt := Lib.hid hSt
  replace hI1 := Lib.hid hI1
  replace hI2 := Lib.hid hI2
  replace hIx := Lib.hid hIx
  replace hWr := Lib.hid hWr
  replace hStr := Lib.hid hStr
  replace hhdr := Lib.hid hhdr
  replace hhz := Lib.hid hhz
  replace hD := Lib.hid hD
  replace h := Lib.hid h
  replace hnc := Lib.hid hnc
  clear htx hH hI1e hI2e hs1 hs2 z1 z2
  go_enter Tryz.func6, Tryz.ntmps6
  have hbu : BU w.heap.size w.heap.size [] (w.alloc (.cells #[.pointer none, .slice none 0 0] 45)) := fresh_isBuilder _ _ w
  have hbw0 : Below w.heap.size w (w.alloc (.cells #[.pointer none, .slice none 0 0] 45)) := (Below.refl _ w).alloc (Nat.le_refl _) _
  replace hbu := Lib.hid hbu
  go_wp2_with fail
  (with_reducible refine (hVt.out _ hbw0).mono ?_)
  rintro e w1 ⟨rfl, rfl⟩
  go_wp2_with fail
  (with_reducible refine (hI1.out _ hbw0).mono ?_)
  rintro e w2 ⟨rfl, hb2⟩
  have hbw2 : Below w.heap.size w w2 := below_call hb2 hbw0 hbw0.size
  have B2 : BU w.heap.size w.heap.size [] w2 := bu_over hbu.out hb2
  clear hb2 hbu
  replace B2 := Lib.hid B2
  go_wp2_with fail
  (with_reducible refine (hLt.out _ hbw2).mono ?_)
  rintro e w3 ⟨rfl, rfl⟩
  go_wp2_with fail
  (with_reducible refine (hI2.out _ hbw2).mono ?_)
  rintro e w4 ⟨rfl, hb4⟩
  have hbw4 : Below w.heap.size w w4 := below_call hb4 hbw2 hbw2.size
  have B4 : BU w.heap.size w.heap.size [] w4 := bu_over B2.out hb4
  clear hb4 B2
  replace B4 := Lib.hid B4
  go_wp2_with fail
  (with_reducible refine (hWr.out _ _ _ _ B4.out (by have := hhz.out; simp only [List.length_nil]; omega) hbw4.size).mono ?_)
  rintro e w5 ⟨rfl, B5, hb5⟩
  rw [hhdr.out] at B5
  have hbw5 : Below w.heap.size w w5 := hbw4.trans hb5
  replace B5 := Lib.hid B5
  clear hb5 B4 hhdr hhz q1 q2 q3 q4
  go_wp2_with fail
  (with_reducible refine (hLt.out _ hbw5).mono ?_)
  rintro e w6 ⟨rfl, rfl⟩
  go_wp2_with fail
  go_loopw [20] (fun i wr => ∃ k : Nat, k ≤ nc ∧ i = .int .i64 (k : Int) ∧ BU w.heap.size w.heap.size (H ++ (cs.take k).flatMap clT) wr ∧ Below w.heap.size w wr) (fun i _ => nc - (intOf i).toNat)
  case atStart => exact ⟨0, Nat.zero_le _, rfl, by simpa using B5.out, hbw5⟩
  case round =>
    obtain ⟨k, hk, rfl, hB, hbw⟩ := hrel
    clear hbw0 hbw2 hbw4 hbw5 B5
    by_cases hlt : k < nc
    · have hlc : k < cs.length := by rw [hnc.out]; exact hlt
      have hpre := take_flat_le clT cs (k + 1)
      rw [take_flat clT cs k hlc, getD_get cs k hlc, List.length_append] at hpre
      have hnext := take_flat clT cs k hlc
      rw [getD_get cs k hlc] at hnext
      have hDl : Dom (cs.getD k []) := by rw [← getD_get cs k hlc]; exact hD.out _ (List.getElem_mem hlc)
      have hl1 : (cs.getD k []).length ≤ 1000 := by rw [← getD_get cs k hlc]; exact h.out.hc _ (List.getElem_mem hlc)
      have hS := hSt.out wr hbw k hlt
      obtain ⟨l, hl⟩ : ∃ l, cs.getD k [] = l := ⟨_, rfl⟩
      rw [hl] at hpre hnext hDl hS hl1
      obtain ⟨P, hP⟩ : ∃ P, H ++ (cs.take k).flatMap clT = P := ⟨_, rfl⟩
      have hPl : P.length + (clT l).length ≤ 10000000000 := by
        rw [← hP, List.length_append]
        have := hhd.out; have := hcl.out; have := hfl.out; have := hn.out
        omega
      have hnx : H ++ (cs.take (k + 1)).flatMap clT = P ++ clT l := by rw [hnext, ← hP, List.append_assoc]
      rw [hP] at hB
      replace hB := Lib.hid hB
      replace hS := Lib.hid hS
      replace hPl := Lib.hid hPl
      replace hnx := Lib.hid hnx
      replace hDl := Lib.hid hDl
      clear hpre hnext hl hP hlc
      go_wp2_with fail
      (with_reducible refine hS.out.mono ?_)
      rintro e w7 ⟨A, c, rfl, hR, hb7, hAb⟩
      have hAlow : ∀ a, A = some a → a.block < w.heap.size := fun a ha => (h.out.fp a.block (Or.inr (Or.inl (hAb a ha)))).2
      have B7 : BU w.heap.size w.heap.size P w7 := bu_over hB.out hb7
      have hbw7 : Below w.heap.size w w7 := below_call hb7 hbw hbw.size
      obtain ⟨m, hm⟩ : ∃ m, l.length = m := ⟨_, rfl⟩
      rw [hm]
      have hm1 : m ≤ 1000 := by rw [← hm]; exact hl1
      clear hl1
      replace B7 := Lib.hid B7
      replace hR := Lib.hid hR
      replace hm := Lib.hid hm
      clear hb7 hB hS
      go_wp2_with fail
      replace hAlow := Lib.hid hAlow
      clear hAb
      go_loopw [27] (fun i wr => ∃ j : Nat, j ≤ m ∧ i = .int .i64 (j : Int) ∧ BU w.heap.size w.heap.size (P ++ (l.take j).flatMap litT) wr ∧ RL wr A l ∧ Below w.heap.size w wr) (fun i _ => m - (intOf i).toNat)
      case atStart => exact ⟨0, Nat.zero_le _, rfl, by simpa using B7.out, hR.out, hbw7⟩
      case round =>
        obtain ⟨j, hj, rfl, hBj, hRj, hbwj⟩ := hrel
        clear hbw7 hbw B7 hR
        by_cases hjm : j < m
        · have hjl : j < l.length := by rw [hm.out]; exact hjm
          obtain ⟨b, off, rfl, hb, hc⟩ := hRj (by omega)
          have c0 := hc j hjl
          have hxj : l.getD j 0 = l[j] := by simp [List.getD, List.getElem?_eq_getElem hjl]
          have hxd := (hDl.out _ (List.getElem_mem hjl)).2
          have hnext := take_flat litT l j hjl
          have hle := take_flat_le litT l (j + 1)
          rw [hnext, List.length_append] at hle
          rw [hxj] at c0
          have hcT : (clT l).length = (l.flatMap litT).length + 2 := by simp [clT]
          obtain ⟨x, hx⟩ : ∃ x, l[j] = x := ⟨_, rfl⟩
          rw [hx] at c0 hxd hnext hle
          have hI := hIx.out x hxd _ hbwj
          obtain ⟨Q, hQ⟩ : ∃ Q, P ++ (l.take j).flatMap litT = Q := ⟨_, rfl⟩
          have hQl : Q.length + (litT x).length ≤ 10000000000 := by
            rw [← hQ, List.length_append]
            have := hPl.out
            omega
          have hnx2 : P ++ (l.take (j + 1)).flatMap litT = Q ++ litT x := by rw [hnext, ← hQ, List.append_assoc]
          rw [hQ] at hBj
          obtain ⟨I3, hI3⟩ : ∃ I3 : ByteArray, (⟨(itoa x).toArray⟩ : ByteArray) = I3 := ⟨_, rfl⟩
          have hI3z : I3.size = (itoa x).length := by rw [← hI3]; rfl
          have hw3 : (I3 ++ (⟨#[32]⟩ : ByteArray)).data.toList = litT x := by rw [← hI3]; simp [litT]
          have hw3z : (I3 ++ (⟨#[32]⟩ : ByteArray)).size = (litT x).length := by rw [ByteArray.size_append, hI3z]; simp [litT]; rfl
          rw [hI3] at hI
          have q5 : I3.size + 1 ≤ 9223372036854775807 := by
            have : (litT x).length = (itoa x).length + 1 := by simp [litT]
            omega
          replace hI := Lib.hid hI
          replace hBj := Lib.hid hBj
          replace hQl := Lib.hid hQl
          replace hnx2 := Lib.hid hnx2
          replace hw3 := Lib.hid hw3
          replace hw3z := Lib.hid hw3z
          replace hRj := Lib.hid hRj
          clear hc hxj hxd hnext hle hcT hx hQ hI3 hI3z hjl
          go_wp2_with fail
          (with_reducible refine hI.out.mono ?_)
          rintro e w9 ⟨rfl, hb9⟩
          have B9 := bu_over hBj.out hb9
          have hbw9 : Below w.heap.size w w9 := below_call hb9 hbwj hbwj.size
          have R9 := hRj.out.over hb9
          replace B9 := Lib.hid B9
          replace R9 := Lib.hid R9
          clear hb9 hBj hRj hI
          go_wp2_with fail
          (with_reducible refine (hWr.out _ _ _ _ B9.out (by have := hw3z.out; have := hQl.out; omega) hbw9.size).mono ?_)
          rintro e w10 ⟨rfl, B10, hb10⟩
          rw [hw3.out] at B10
          have hbw10 : Below w.heap.size w w10 := hbw9.trans hb10
          have R10 := R9.out.low hAlow.out hb10
          replace B10 := Lib.hid B10
          replace R10 := Lib.hid R10
          clear hb10 B9 R9 q5
          go_wp2_with fail
          go_roundw
          case rel => exact ⟨j + 1, by omega, by go_num, by rw [hnx2.out]; exact B10.out, R10.out, hbw10⟩
          case measure => simp [intOf]; omega
        · obtain rfl : j = m := by omega
          have hBm : BU w.heap.size w.heap.size (P ++ l.flatMap litT) wr := by
            have := hBj
            rw [← hm.out, List.take_length] at this
            exact this
          have hcT : P ++ l.flatMap litT ++ ([48, 10] : List UInt8) = P ++ clT l := by rw [List.append_assoc]; rfl
          have hcl2 : (P ++ l.flatMap litT).length + 2 ≤ 10000000000 := by
            have := hPl.out
            have e : (clT l).length = (l.flatMap litT).length + 2 := by simp [clT]
            rw [List.length_append]; omega
          rw [← hcT] at hnx
          obtain ⟨Q, hQ⟩ : ∃ Q, P ++ l.flatMap litT = Q := ⟨_, rfl⟩
          rw [hQ] at hnx hcl2 hBm
          replace hnx := Lib.hid hnx.out
          replace hcl2 := Lib.hid hcl2
          replace hBm := Lib.hid hBm
          clear hBj hRj hcT hQ hPl
          go_wp2_with fail
          (with_reducible refine (hWr.out _ _ _ _ hBm.out (by have := hcl2.out; have e : (⟨#[48, 10]⟩ : ByteArray).size = 2 := rfl; omega) hbwj.size).mono ?_)
          rintro e w11 ⟨rfl, B11, hb11⟩
          have hbw11 : Below w.heap.size w w11 := hbwj.trans hb11
          replace B11 := Lib.hid B11
          clear hb11 hBm
          go_wp2_with fail
          go_roundw
          case rel => exact ⟨k + 1, by omega, by go_num, by rw [hnx.out]; exact B11.out, hbw11⟩
          case measure => simp [intOf]; omega
    · obtain rfl : k = nc := by omega
      have hB2 : BU w.heap.size w.heap.size (H ++ cs.flatMap clT) wr := by
        have := hB
        rw [← hnc.out, List.take_length] at this
        exact this
      replace hB2 := Lib.hid hB2
      clear hB
      go_wp2_with fail
      (with_reducible refine (hStr.out _ _ _ hB2.out hbw.size).mono ?_)
      rintro e w8 ⟨rfl, hb8⟩
      go_wp2_with fail
      go_ret
      exact ⟨rfl, hbw.trans hb8⟩
end
end Go.Proofs.YtikngnbnodaflaaGreatDoor
