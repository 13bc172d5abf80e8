/-
  time: the first time.
-/
import Derived.Test.YtbmdnmjgijblpaaDoorE17
namespace Go.Proofs.YtbmdnmjgijblpaaDoor
open Go Go.RowKit Go.Lib Go.Maps
theorem own_low {w : World} {B B' n : Nat} {e : TypeId} {sz : Nat} {v : Value} {xs : List Value} (h : w.ownsRow B' e sz v n xs) (hB : B ≤ B') : w.ownsRow B e sz v n xs := by
  refine ⟨h.1, ?_⟩
  rcases h.2 with hn | ⟨g, cap, cur, rfl, hb, rest⟩
  · exact .inl hn
  · exact .inr ⟨g, cap, cur, rfl, Nat.le_trans hB hb, rest⟩
/-- The text behind the first byte. -/
theorem bt_rest (c : UInt8) (l : List UInt8) : (bt (c :: l)).extract 1 (bt (c :: l)).size = bt l := by
  apply ByteArray.ext
  rw [ByteArray.data_extract]
  apply Array.toList_inj.1
  simp [ByteArray.size]
/-- The first row. -/
theorem TX.first {w : World} {B : Nat} {v : Value} {r : List (Nat × Nat)} (hB : B ≤ w.heap.size) (h : RW3 w B v r) : TX (w.alloc (.cells #[v] 27)) B [r] (.slice (some ⟨w.heap.size, 0, none⟩) 1 1) [v] where
  row := ⟨rfl, .inr ⟨w.heap.size, 1, #[v], rfl, hB, heap_alloc_new w _, Nat.le_refl _, by unfold maxLen; omega, rfl, rfl⟩⟩
  rl := rfl
  is := fun i r' v' h1 h2 => by
    have hi : i = 0 := by
      have := (List.getElem?_eq_some_iff.1 h1).1
      simp at this
      omega
    subst hi
    simp at h1 h2
    subst h1 h2
    exact h.over (vnew w _)
  ap := fun i j v1 v2 b hne h1 h2 => by
    have := (List.getElem?_eq_some_iff.1 h1).1
    have := (List.getElem?_eq_some_iff.1 h2).1
    simp at *
    omega
  sm := by simp
  nl := fun h => by simp at h
set_option maxRecDepth 100000 in
set_option maxHeartbeats 3200000 in
theorem time_0 {B q : Nat} {T top : List UInt8} {ids : List (List UInt8)} {vs : List NV} {l : List (UInt8 × List UInt8)} {ds : List UInt8} (w : World) (h : TQ w B q T top ids vs [] l) (hds : ds.length ≤ 6) (hu : Lib.parseUintB 32 ds = .ok 0) (hok : ∀ x ∈ vs, 1 ≤ x.2 ∧ x.2 ≤ 128) (ln : Nat) :
    Calls Tryd.prog 41 #[pp q, .agg #[.string (bt (35 :: ds)), iz (ln : Int)]] w fun e w' => e = .returned (.tuple #[]) ∧ TE w B q T top ids vs [zrow vs] l w' := by
  obtain ⟨v, vals, m, n, D, rv, p, h⟩ := h
  have hb1 := vnew w (.cells #[.string (bt (35 :: ds)), iz (ln : Int)] 76)
  have hg1 : CV (w.alloc (.cells #[.string (bt (35 :: ds)), iz (ln : Int)] 76)) w.heap.size #[.string (bt (35 :: ds)), iz (ln : Int)] 76 := by unfold CV; exact Array.getElem?_push_size ..
  obtain ⟨w1, hw1⟩ : ∃ W, w.alloc (.cells #[.string (bt (35 :: ds)), iz (ln : Int)] 76) = W := ⟨_, rfl⟩
  rw [hw1] at hb1 hg1
  have h1 := h.over hb1
  have hBw : B ≤ w.heap.size := by have := h.b; have := h.r.lt; omega
  have hD : Calls Tryd.prog 56 #[.string (bt ds), .int .i64 6] w1 fun e w' => e = .returned (.tuple #[iz 0, .bool true]) ∧ Below w1.heap.size w1 w' := dec_t ds 6 0 hds (by omega) hu (by omega) w1
  have hvals := h.t.nl rfl
  subst hvals
  obtain ⟨cs, hcs, q4, q5, q6⟩ := h.r.cvT
  have hql := hcs.lt
  have hst : ∀ W, Below w1.heap.size w1 W → TR W B q T top ids vs [] v (.slice none 0 0) m n D rv p l ∧ VW B q w W := fun W hb => ⟨h1.over hb, (VW.below hb1).trans (VW.below hb)⟩
  have hzr : ∀ W, TR W B q T top ids vs [] v (.slice none 0 0) m n D rv p l → VW B q w W → Calls Tryd.prog 57 #[v] W fun e W' => ∃ A3 c3, e = .returned (.slice A3 vs.length c3) ∧ TE w B q T top ids vs [zrow vs] l ((W'.setCell ⟨q, 5, none⟩ (.slice (some ⟨W'.heap.size, 0, none⟩) 1 1)).alloc (.cells #[.slice A3 vs.length c3] 27)) ∧ W'.cell? ⟨q, 5, none⟩ = some (.slice none 0 0) ∧ q < W'.heap.size ∧ W'.frozen? ⟨q, 5, none⟩ = false := fun W hT hV => by
    obtain ⟨A, c, e, hrv⟩ := hT.d.rv
    have hz := zeros_t vs A c W hrv hok hT.d.sm
    rw [← e] at hz
    refine hz.mono ?_
    rintro e2 W' ⟨v', rfl, ho, hn, hb⟩
    have hB2 : B ≤ W.heap.size := by have := hT.b; have := hT.r.lt; omega
    have hrow : RW3 W' B v' (zrow vs) := ⟨by have := own_low ho hB2; rw [show (zrow vs).length = vs.length from by simp]; exact this, fun e => hn (by simpa using e)⟩
    have hT2 := hT.over hb
    have hb3 := vnew W' (.cells #[v'] 27)
    have hT3 := hT2.over hb3
    have hTX := TX.first (Nat.le_trans hB2 hb.size) hrow
    have hput := TR.put hT3.b hT3.d hT3.r hTX
    obtain ⟨cs2, hcs2, _, q52, _⟩ := hT2.r.cvT
    obtain ⟨A3, c3, e3⟩ := own_shape ho
    subst e3
    rw [World.setCell_alloc_past _ q 5 _ hcs2.lt] at hput
    exact ⟨A3, c3, rfl, ⟨hput.1, ((hV.trans (VW.below hb)).trans (VW.below hb3)).trans hput.2⟩, q52, hcs2.lt, hcs2.fz 5⟩
  have hx := bt_rest 35 ds
  obtain ⟨S, hS⟩ : ∃ S, bt (35 :: ds) = S := ⟨_, rfl⟩
  obtain ⟨S2, hS2⟩ : ∃ S, bt ds = S := ⟨_, rfl⟩
  have hSl : 1 ≤ S.size := by rw [← hS]; show 1 ≤ (35 :: ds).length; simp
  have hSm : S.size ≤ 7 := by rw [← hS]; show (35 :: ds).length ≤ 7; simp; omega
  rw [hS, hS2] at hx
  rw [hS2] at hD
  rw [hS] at hw1 hg1 ⊢
  have a0 : w1.cell? ⟨w.heap.size, 0, none⟩ = some (.string S) := hg1.c 0
  have al := hg1.lt
  obtain ⟨g, hg⟩ : ∃ g, w.heap.size = g := ⟨_, rfl⟩
  rw [hg] at a0 al
  have k5 : w1.cell? ⟨q, 5, none⟩ = some (.slice none 0 0) := (hb1.cell (p := ⟨q, 5, none⟩) hql).trans q5
  have k4 : w1.cell? ⟨q, 4, none⟩ = some v := (hb1.cell (p := ⟨q, 4, none⟩) hql).trans q4
  have kl : q < w1.heap.size := Nat.lt_of_lt_of_le hql hb1.size
  have hst4 : ∀ W, TR W B q T top ids vs [] v (.slice none 0 0) m n D rv p l → W.cell? ⟨q, 4, none⟩ = some v ∧ q < W.heap.size := fun W hT => by
    obtain ⟨cs2, hcs2, q42, _⟩ := hT.r.cvT
    exact ⟨q42, hcs2.lt⟩
  replace hD := Lib.hid hD
  replace hst := Lib.hid hst
  replace hzr := Lib.hid hzr
  replace hst4 := Lib.hid hst4
  replace hw1 := Lib.hid hw1
  replace hg := Lib.hid hg
  replace hBw := Lib.hid hBw
  clear h h1 hcs hb1 hg1 hS hS2 hds hu hok q4 q6
  go_enter Tryd.func41, Tryd.ntmps41
  go_wp2_with fail
  rw [hw1.out, hg.out]
  (with_reducible refine hD.out.mono ?_)
  rintro e w2 ⟨rfl, hb2⟩
  obtain ⟨hT2, hV2⟩ := hst.out w2 hb2
  obtain ⟨k42, kl2⟩ := hst4.out w2 hT2
  have hZ := Lib.hid (hzr.out w2 hT2 hV2)
  clear hD hst hst4 hzr hb2 hT2 hV2 a0 al k5 k4 kl hw1 hg
  go_wp2_with fail
  (with_reducible refine hZ.out.mono ?_)
  rintro e w3 ⟨A3, c3, rfl, hE, k53, kl3, kf3⟩
  replace hE := Lib.hid hE
  clear hZ k42 kl2
  go_wp2_with fail
  exact bodyPost_end (v := .tuple #[]) (by simp [results, Tryd.results41, go_sem]) rfl ⟨rfl, hE.out⟩
end Go.Proofs.YtbmdnmjgijblpaaDoor
