/-
  Check of a proof each of whose clauses follows; Check of one whose first clause does not.
  Check of a proof whose first clause does not follow.
-/
import Derived.Test.YtembgefbmecdbaaR40
import Derived.Test.YtembgefbmecdbaaKu
namespace Go.Proofs.Ytembgefbmecdbaa
open Go.RowKit Go.Lib
section
variable {base p V : Nat} {cs : List (List Int)} {vl ve : Value}
theorem RL.rb {w w' : World} {B : Nat} {A : Option Addr} {l : List Int} (h : RL w A l) (hB : w.heap.size ≤ B) (hb : Below B w w') : RB B w' A l := fun h0 => by
  obtain ⟨b, off, e, h1, h2⟩ := h h0
  exact ⟨b, off, e, by omega, fun j hj => (hb.cell (p := ⟨b, off + j, none⟩) (by show b < B; omega)).trans (h2 j hj)⟩
/-- The calls of one round of Check. -/
theorem check_round (w : World) (h : CF base w p V cs vl ve) (hV : V ≤ 60) {L : List (List Int)} {A : Option Addr} (hA : RLL w A L) (hlens : ∀ l, l ∈ L → l.length ≤ 1000) (_hcl : ∀ c, c ∈ cs → ∀ y, y ∈ c → y ≠ 0 ∧ y ≤ V ∧ -y ≤ V) (hn : cs.length + L.length < 80000) (q j : Nat) (fl : Bool) (wr : World) (hj : j < L.length) (hz : PZ w.heap.size wr q V (cs ++ L.take j) (cs.length + j) fl) (hb : Below w.heap.size w wr) (hin : (L.getD j []).any (fgn V) = false) :
    ∃ b off A' c', A = some ⟨b, off, none⟩ ∧ b < wr.heap.size ∧ wr.cell? ⟨b, off + j, none⟩ = some (.slice A' (L.getD j []).length c') ∧
      Calls Try.prog 12 #[pp p, .slice A' (L.getD j []).length c'] wr (RV wr (.bool false)) ∧
      ∀ w1, Below wr.heap.size wr w1 → Calls Try.prog 14 #[pp q, .slice A' (L.getD j []).length c'] w1 fun e w2 => ∃ t, e = .returned (.bool t) ∧ (t = true ↔ Fails (cs ++ L.take j) (fun x => -x ∈ L.getD j [])) ∧ Below w.heap.size w w2 ∧
        Calls Try.prog 15 #[.slice A' (L.getD j []).length c'] w2 fun e w3 => ∃ v, e = .returned v ∧ Calls Try.prog 23 #[pp q, v] w3 fun e w4 => e = .returned (.tuple #[]) ∧ ∃ fl', PZ w.heap.size w4 q V (cs ++ L.take (j + 1)) (cs.length + (j + 1)) fl' ∧ Below w.heap.size w w4 := by
  obtain ⟨b, off, e1, h1, h2⟩ := hA (by omega)
  obtain ⟨A', c', hc, hR, _, _⟩ := h2 j hj
  obtain ⟨l, hl⟩ : ∃ l, L.getD j [] = l := ⟨_, rfl⟩
  have hlm : l ∈ L := by
    rw [← hl, List.getD_eq_getElem?_getD, List.getElem?_eq_getElem hj]
    exact List.getElem_mem hj
  rw [hl] at hc hR hin ⊢
  have hF := hasF_t wr (h.over hb) hV A' l c' (hR.over hb) (by have := hlens l hlm; omega)
  rw [hin] at hF
  refine ⟨b, off, A', c', e1, Nat.lt_of_lt_of_le h1 hb.size, (hb.cell (p := ⟨b, off + j, none⟩) h1).trans hc, hF, fun w1 hb1 => ?_⟩
  have hb01 : Below w.heap.size w w1 := hb.trans (hb1.mono hb.size)
  refine (refutes_t w1 (hz.over hb1) (by omega) hb01.size A' l c' (hR.rb (Nat.le_refl _) hb01) (fgn_in hin) (by have := hlens l hlm; omega)).mono ?_
  rintro e w2 ⟨t, rfl, hF, hz2, hb2⟩
  have hb02 := hb01.trans hb2
  refine ⟨t, rfl, hF, hb02, (Clone_s A' c' l w2 (hR.over hb02) (by have := hlens l hlm; omega)).mono ?_⟩
  rintro e w3 ⟨v, rfl, ho, hb3⟩
  refine ⟨v, rfl, (add_t w2 w3 hz2 (by omega) hb02.size hb3 v ho (fgn_in hin) (hlens l hlm)).mono ?_⟩
  rintro e w4 ⟨rfl, fl', q1, q2⟩
  refine ⟨rfl, fl', ?_, (hb02.trans (hb3.mono hb02.size)).trans q2⟩
  have e : L.take (j + 1) = L.take j ++ [l] := by
    rw [List.take_add_one, List.getElem?_eq_getElem hj]
    rw [List.getD_eq_getElem?_getD, List.getElem?_eq_getElem hj] at hl
    rw [show L[j] = l from hl]
    rfl
  rw [e, ← List.append_assoc]
  exact q1
set_option maxRecDepth 100000 in
set_option maxHeartbeats 3200000 in
theorem Check_ok (w : World) (h : CF base w p V cs vl ve) (hV : V ≤ 60) (hcl : ∀ c, c ∈ cs → ∀ y, y ∈ c → y ≠ 0 ∧ y ≤ V ∧ -y ≤ V) (L : List (List Int)) (A : Option Addr) (c : Nat) (hA : RLL w A L) (hlens : ∀ l, l ∈ L → l.length ≤ 1000) (hn : cs.length + L.length < 80000) (h0 : 0 < L.length) (hlast : L.getD (L.length - 1) [] = []) (hok : ∀ j, j < L.length → (L.getD j []).any (fgn V) = false ∧ Fails (cs ++ L.take j) (fun x => -x ∈ L.getD j [])) :
    Calls Try.prog 10 #[pp p, .slice A L.length c] w fun e w' => e = .returned (.tuple #[iz 0, iz 0]) ∧ Below w.heap.size w w' := by
  have hN := newP_t w h hV hcl (by omega)
  have hr := fun q j fl wr (hj : j < L.length) (hz : PZ w.heap.size wr q V (cs ++ L.take j) (cs.length + j) fl) hb => check_round w h hV hA hlens hcl hn q j fl wr hj hz hb (hok j hj).1
  have hFl := fun j hj => (hok j hj).2
  obtain ⟨n, hnn⟩ : ∃ n, L.length = n := ⟨_, rfl⟩
  simp only [hnn] at hr hFl hn h0 hlast ⊢
  replace hN := Lib.hid hN
  replace hr := Lib.hid hr
  replace hFl := Lib.hid hFl
  replace hlast := Lib.hid hlast
  clear h hA hlens hcl hok hnn
  go_enter Try.func10, Try.ntmps10
  go_wp2_with fail
  (with_reducible refine hN.out.mono ?_)
  rintro e w1 ⟨q, fl, rfl, hz, hb⟩
  have hst : PZ w.heap.size w1 q V (cs ++ L.take 0) (cs.length + 0) fl := by simpa using hz
  replace hst := Lib.hid hst
  replace hb := Lib.hid hb
  clear hN hz
  go_wp2_with fail
  go_loopw [7, 14] (fun ev iv wr => ∃ (j : Nat) (f : Bool), j ≤ n ∧ iv = .int .i64 (j : Int) ∧ ev = .bool (decide (0 < j) && (L.getD (j - 1) []).isEmpty) ∧ Hid (PZ w.heap.size wr q V (cs ++ L.take j) (cs.length + j) f) ∧ Hid (Below w.heap.size w wr)) (fun _ iv _ => n - (RowKit.intOf iv).toNat)
  case atStart => exact ⟨0, fl, by omega, rfl, rfl, hst, hb⟩
  case round =>
    obtain ⟨j, f, hj, rfl, rfl, hI, hbr⟩ := hrel
    by_cases hlt : j < n
    · obtain ⟨b, off, A', c', e1, e2, e3, hF, hR⟩ := hr.out q j f wr hlt hI.out hbr.out
      have hfl := Lib.hid (hFl.out j hlt)
      obtain ⟨E, hE⟩ : ∃ E, (decide (0 < j) && (L.getD (j - 1) []).isEmpty) = E := ⟨_, rfl⟩
      rw [hE]
      obtain ⟨len, hlen⟩ : ∃ len, (L.getD j []).length = len := ⟨_, rfl⟩
      rw [hlen] at e3 hF
      simp only [hlen] at hR
      have hle : (decide (len = 0)) = (decide (0 < j + 1) && (L.getD (j + 1 - 1) []).isEmpty) := by
        rw [← hlen, Nat.add_sub_cancel]
        cases L.getD j [] <;> simp
      replace hle := Lib.hid hle
      replace hF := Lib.hid hF
      replace hR := Lib.hid hR
      subst e1
      clear hr hFl hI hbr hE hlen hst hb hlast
      go_wp2_with fail
      (with_reducible refine hF.out.mono ?_)
      rintro e w2 ⟨rfl, hb2⟩
      have hR2 := Lib.hid (hR.out w2 hb2)
      clear hF hR hb2
      go_wp2_with fail
      (with_reducible refine hR2.out.mono ?_)
      rintro e w3 ⟨t, rfl, ht, hb3, hC⟩
      obtain rfl : t = true := ht.2 hfl.out
      replace hC := Lib.hid hC
      clear hR2 ht hfl hb3
      go_wp2_with fail
      (with_reducible refine hC.out.mono ?_)
      rintro e w4 ⟨v, rfl, hAd⟩
      replace hAd := Lib.hid hAd
      clear hC
      go_wp2_with fail
      (with_reducible refine hAd.out.mono ?_)
      rintro e w5 ⟨rfl, fl', hz5, hb5⟩
      replace hz5 := Lib.hid hz5
      replace hb5 := Lib.hid hb5
      clear hAd
      by_cases hl0 : len = 0
      · subst hl0
        go_wp2_with fail
        go_roundw
        case rel => exact ⟨j + 1, fl', by omega, by go_num, by rw [← hle.out]; rfl, hz5, hb5⟩
        case measure => (change n - ((j : Int) + 1).toNat < n - ((j : Int)).toNat; omega)
      · have g0 : ((len : Int) == 0) = false := beq_eq_false_iff_ne.2 (by omega)
        have hle2 : false = (decide (0 < j + 1) && (L.getD (j + 1 - 1) []).isEmpty) := by rw [← hle.out]; simp [hl0]
        replace hle2 := Lib.hid hle2
        clear hle
        go_wp2_with fail
        go_roundw
        case rel => exact ⟨j + 1, fl', by omega, by go_num, by rw [← hle2.out], hz5, hb5⟩
        case measure => (change n - ((j : Int) + 1).toNat < n - ((j : Int)).toNat; omega)
    · obtain rfl : j = n := by omega
      have hE : (decide (0 < j) && (L.getD (j - 1) []).isEmpty) = true := by rw [hlast.out]; simp [h0]
      rw [hE]
      clear hr hFl hI hst hb hlast hE
      go_wp2_with fail
      go_ret2
      exact ⟨rfl, hbr.out⟩
end
end Go.Proofs.Ytembgefbmecdbaa
namespace Go.Proofs.Ytembgefbmecdbaa
open Go.RowKit Go.Lib
section
variable {base p V : Nat} {cs : List (List Int)} {vl ve : Value}
set_option maxRecDepth 100000 in
set_option maxHeartbeats 3200000 in
theorem Check_bad (w : World) (h : CF base w p V cs vl ve) (hV : V ≤ 60) (hcl : ∀ c, c ∈ cs → ∀ y, y ∈ c → y ≠ 0 ∧ y ≤ V ∧ -y ≤ V) (L : List (List Int)) (A : Option Addr) (c : Nat) (hA : RLL w A L) (hlens : ∀ l, l ∈ L → l.length ≤ 1000) (hn : cs.length + L.length < 80000) (h0 : 0 < L.length) (hin : (L.getD 0 []).any (fgn V) = false) (hno : ¬ Fails cs (fun x => -x ∈ L.getD 0 [])) :
    Calls Try.prog 10 #[pp p, .slice A L.length c] w fun e w' => e = .returned (.tuple #[iz 0, iz 20]) ∧ Below w.heap.size w w' := by
  have hN := newP_t w h hV hcl (by omega)
  have hr := fun q fl wr (hz : PZ w.heap.size wr q V (cs ++ L.take 0) (cs.length + 0) fl) hb => check_round w h hV hA hlens hcl hn q 0 fl wr h0 hz hb hin
  have hno' : ¬ Fails (cs ++ L.take 0) (fun x => -x ∈ L.getD 0 []) := by simpa using hno
  obtain ⟨n, hnn⟩ : ∃ n, L.length = n := ⟨_, rfl⟩
  simp only [hnn] at hr hn h0 ⊢
  replace hN := Lib.hid hN
  replace hr := Lib.hid hr
  replace hno' := Lib.hid hno'
  clear h hA hlens hcl hnn hno
  go_enter Try.func10, Try.ntmps10
  go_wp2_with fail
  (with_reducible refine hN.out.mono ?_)
  rintro e w1 ⟨q, fl, rfl, hz, hb⟩
  have hst : PZ w.heap.size w1 q V (cs ++ L.take 0) (cs.length + 0) fl := by simpa using hz
  replace hst := Lib.hid hst
  replace hb := Lib.hid hb
  clear hN hz
  go_wp2_with fail
  go_loopw [14] (fun iv wr => iv = .int .i64 0 ∧ wr = w1) (fun _ _ => 0)
  case atStart => exact ⟨rfl, rfl⟩
  case round =>
    obtain ⟨rfl, rfl⟩ := hrel
    obtain ⟨b, off, A', c', e1, e2, e3, hF, hR⟩ := hr.out q fl wr hst.out hb.out
    rw [Nat.add_zero] at e3
    obtain ⟨len, hlen⟩ : ∃ len, (L.getD 0 []).length = len := ⟨_, rfl⟩
    rw [hlen] at e3 hF
    simp only [hlen] at hR
    replace hF := Lib.hid hF
    replace hR := Lib.hid hR
    subst e1
    clear hr hlen hst hb
    go_wp2_with fail
    (with_reducible refine hF.out.mono ?_)
    rintro e w2 ⟨rfl, hb2⟩
    have hR2 := Lib.hid (hR.out w2 hb2)
    clear hF hR hb2
    go_wp2_with fail
    (with_reducible refine hR2.out.mono ?_)
    rintro e w3 ⟨t, rfl, ht, hb3, hC⟩
    obtain rfl : t = false := by
      cases t
      · rfl
      · exact absurd (ht.1 rfl) hno'.out
    replace hb3 := Lib.hid hb3
    clear hR2 ht hno' hC
    go_wp2_with fail
    go_ret2
    exact ⟨rfl, hb3.out⟩
end
end Go.Proofs.Ytembgefbmecdbaa
