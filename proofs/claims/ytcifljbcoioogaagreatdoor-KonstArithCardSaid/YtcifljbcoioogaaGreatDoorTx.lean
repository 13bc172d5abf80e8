/-
  The reference's Eval: the number of a name.
-/
import Derived.Test.YtcifljbcoioogaaGreatDoorTz
namespace Go.Proofs.YtcifljbcoioogaaGreatDoor
open Go.RowKit Go.Lib Go.Maps
/-- What the reference looks a name up with: the last of its places. -/
def lookN (l : List NE) : ByteArray → Option Int := fun s => envL (keyL l) s.data.toList
theorem look_fold : ∀ (l : List NE) (e0 : List UInt8 → Option Int) (s : ByteArray), (∀ j (hj : j < l.length), l[j].1 ≠ s) → ((keyL l).foldl stepE e0) s.data.toList = e0 s.data.toList
  | [], _, _, _ => rfl
  | x :: l, e0, s, h => by
    have ih := look_fold l (stepE e0 (x.1.data.toList, x.2)) s (fun j hj => h (j + 1) (Nat.succ_lt_succ hj))
    have h0 : x.1 ≠ s := h 0 (Nat.zero_lt_succ _)
    show ((keyL l).foldl stepE (stepE e0 (x.1.data.toList, x.2))) s.data.toList = _
    rw [ih]
    unfold stepE
    rw [if_neg]
    intro hc
    apply h0
    cases x; rename_i a b
    cases a; cases s
    simp only at hc
    have := Array.ext' hc.symm
    rw [this]
theorem look_hit (l : List NE) (s : ByteArray) (j : Nat) (hj : j < l.length) (h0 : l[j].1 = s) (h : ∀ i (hi : i < l.length), j < i → l[i].1 ≠ s) : lookN l s = some l[j].2 := by
  have e : l = l.take j ++ l[j] :: l.drop (j + 1) := by rw [List.getElem_cons_drop, List.take_append_drop]
  unfold lookN envL
  obtain ⟨x, hx⟩ : ∃ x, l[j] = x := ⟨_, rfl⟩
  rw [hx] at h0 e ⊢
  rw [e]
  show ((l.take j ++ x :: l.drop (j + 1)).map fun x => (x.1.data.toList, x.2)).foldl stepE _ _ = _
  rw [List.map_append, List.foldl_append]
  have hd : ∀ i (hi : i < (l.drop (j + 1)).length), (l.drop (j + 1))[i].1 ≠ s := fun i hi => by
    rw [List.getElem_drop]
    exact h _ (by rw [List.length_drop] at hi; omega) (by omega)
  have := look_fold (l.drop (j + 1)) (stepE (((l.take j).map fun x => (x.1.data.toList, x.2)).foldl stepE (fun _ => none)) (x.1.data.toList, x.2)) s hd
  refine Eq.trans this ?_
  unfold stepE
  rw [if_pos (by rw [h0])]
theorem look_none (l : List NE) (s : ByteArray) (h : ∀ i (hi : i < l.length), l[i].1 ≠ s) : lookN l s = none := look_fold l _ s h
theorem rgood_in (h : XH) (A : Option Addr) (n c : Nat) (m : Int) (hm : InR m) (w : World) : Calls Tryz.prog 26 #[xv h A n c, .int .i64 m] w (RV w (ov (okR m))) := by
  have e := rgood_t h A n c m w
  rw [chk_in hm] at e
  exact e
theorem far1 (w : World) (g i : Nat) (u : Value) (b o : Nat) (h : b ≠ g) : (w.setCell ⟨g, i, none⟩ u).cell? ⟨b, o, none⟩ = w.cell? ⟨b, o, none⟩ := by
  unfold World.cell?
  rw [Below.heap_setCell w ⟨g, i, none⟩ u b h]
theorem far5 (w : World) (g : Nat) (u0 u1 u2 u3 u4 : Value) (b o : Nat) (h : b ≠ g) : (((((w.setCell ⟨g, 0, none⟩ u0).setCell ⟨g, 1, none⟩ u1).setCell ⟨g, 2, none⟩ u2).setCell ⟨g, 3, none⟩ u3).setCell ⟨g, 4, none⟩ u4).cell? ⟨b, o, none⟩ = w.cell? ⟨b, o, none⟩ := by
  rw [far1 _ _ _ _ _ _ h, far1 _ _ _ _ _ _ h, far1 _ _ _ _ _ _ h, far1 _ _ _ _ _ _ h, far1 _ _ _ _ _ _ h]
theorem RI.drew {w : World} {h : XH} {A : Option Addr} {n c : Nat} {a : World} (i : RI w h A n c a) : RI w h A n c a.drew := ⟨i.x, i.o, ⟨i.k.os, i.k.tape, i.k.output, i.k.size, i.k.block⟩⟩
set_option maxRecDepth 100000 in
set_option maxHeartbeats 3200000 in
theorem rev_name (k f ln cc : Int) (s : ByteArray) (A E : Option Addr) (c ec : Nat) (l : List NE) (w : World) (hk : k = 2) (hs : s.size ≤ maxLen) (hsz : ∀ j (hj : j < l.length), l[j].1.size ≤ maxLen) (hE : NL w E l) (hm : l.length ≤ 9223372036854775807) (hr : ∀ j (hj : j < l.length), InR l[j].2) :
    Calls Tryz.prog 12 #[xv ⟨k, f, ln, cc, s⟩ A 0 c, .slice E l.length ec] w (RE w (namR (lookN l) ⟨k, f, ln, cc, s⟩)) := by
    have hB := fun (e : Int) W => rbad_t ⟨k, f, ln, cc, s⟩ A 0 c e W
    have hG := fun (m : Int) (hm : InR m) W => rgood_in ⟨k, f, ln, cc, s⟩ A 0 c m hm W
    have hI0 := RI.new w ⟨k, f, ln, cc, s⟩ A 0 c
    have hE0 := hE.over hI0.k
    subst hk
    have hHit := fun j hj h0 h => look_hit l s j hj h0 h
    have hNo := fun h => look_none l s h
    obtain ⟨R, hR⟩ : ∃ R, namR (lookN l) ⟨2, f, ln, cc, s⟩ = R := ⟨_, rfl⟩
    rw [hR]
    have hR1 : ∀ j (hj : j < l.length), l[j].1 = s → (∀ i (hi : i < l.length), j < i → l[i].1 ≠ s) → R = okR l[j].2 := fun j hj h0 h => by rw [← hR]; unfold namR; dsimp only; rw [hHit j hj h0 h]
    have hR2 : (∀ i (hi : i < l.length), l[i].1 ≠ s) → R = badR ⟨2, f, ln, cc, s⟩ 9 := fun h => by rw [← hR]; unfold namR; dsimp only; rw [hNo h]
    unfold RE ov at *
    unfold okR at hG
    unfold badR at hB
    obtain ⟨b0, b1, b2, b3, b4, b5⟩ := hI0.x.all
    have bl := hI0.x.lt
    obtain ⟨w0, hw0⟩ : ∃ w0, ((w.alloc (.cells #[.int .i64 2, .int .i64 f, .int .i64 ln, .int .i64 cc, .string s, .slice A 0 c] 33)).alloc (.cells #[.int .i64 0, .int .i64 0, .int .i64 0, .int .i64 0, .int .i64 0] 50)) = w0 := ⟨_, rfl⟩
    rw [hw0] at hI0 hE0 b0 b1 b2 b3 b4 b5 bl
    replace hB := Lib.hid hB
    replace hG := Lib.hid hG
    replace hI0 := Lib.hid hI0
    replace hR1 := Lib.hid hR1
    replace hR2 := Lib.hid hR2
    replace hr := Lib.hid hr
    replace hsz := Lib.hid hsz
    replace hE := Lib.hid hE
    clear hHit hNo hR hE0
    go_enter Tryz.func12, Tryz.ntmps12
    go_wp2_with fail
    try rw [hw0]
    replace hw0 := Lib.hid hw0
    go_loopw [8] (fun iv wr => ∃ j : Nat, j ≤ l.length ∧ iv = .int .i64 ((j : Int) - 1) ∧ (∀ i (hi : i < l.length), j ≤ i → l[i].1 ≠ s) ∧ RI w ⟨2, f, ln, cc, s⟩ A 0 c wr) (fun iv _ => (RowKit.intOf iv + 1).toNat)
    case atStart => exact ⟨l.length, Nat.le_refl _, rfl, fun i hi hj => absurd hi (by omega), hI0.out⟩
    case round =>
      obtain ⟨j, hj, rfl, hno, hIr⟩ := hrel
      clear b0 b1 b2 b3 b4 b5 bl hw0 hI0
      obtain ⟨b0, b1, b2, b3, b4, b5⟩ := hIr.x.all
      have bl := hIr.x.lt
      have hE1 := hE.out.over hIr.k
      have hI0 := Lib.hid hIr
      clear hIr
      replace hE1 := Lib.hid hE1
      rcases j with _ | j
      · have hR := hR2.out (fun i hi => hno i hi (by omega))
        replace hR := Lib.hid hR
        replace hno := Lib.hid hno
        go_wp2_with fail
        (with_reducible refine (hB.out _ _).mono ?_)
        rintro e0 w1 ⟨rfl, hb1⟩
        have hI1 := Lib.hid (hI0.out.over hb1)
        obtain ⟨o10, o11, o12, o13, o14, o1f, o1l⟩ := hI1.out.o.all
        clear hb1
        go_wp2_with fail
        refine bodyPost_ret (v := .agg #[.int .i64 R.n, .int .i64 R.f, .int .i64 R.l, .int .i64 R.c, .int .i64 R.e]) (by rw [hR.out]; simp [results, Tryz.results12, go_sem, o10, o11, o12, o13, o14, badR]) rfl ⟨rfl, ?_⟩
        have hz := hI1.out.k
        go_grown
      · obtain ⟨eb, eo, rfl, hel, hcs⟩ := hE.out (by omega)
        have hel2 : eb < wr.heap.size := by have := hI0.out.k.size; omega
        obtain ⟨x, hx⟩ : ∃ x, l[j].1 = x := ⟨_, rfl⟩
        obtain ⟨v, hv⟩ : ∃ v, l[j].2 = v := ⟨_, rfl⟩
        obtain ⟨p0, p1⟩ := hcs j (by omega)
        rw [hx] at p0
        rw [hv] at p1
        have q0 := (hI0.out.k.cell (p := ⟨eb, eo + j * 2, none⟩) hel).trans p0
        have q1 := (hI0.out.k.cell (p := ⟨eb, eo + j * 2 + 1, none⟩) hel).trans p1
        replace p0 := Lib.hid p0
        replace p1 := Lib.hid p1
        have hxz := hsz.out j (by omega)
        rw [hx] at hxz
        have hjl : j < l.length := by omega
        have ej : ((j + 1 : Nat) : Int) - 1 = (j : Int) := by omega
        rw [ej]
        replace hno := Lib.hid hno
        replace hcs := Lib.hid hcs
        by_cases hxs : x = s
        · have hR := hR1.out j hjl (by rw [hx]; exact hxs) (fun i hi h1 => hno.out i hi (by omega))
          rw [hv] at hR
          have hvi := hr.out j hjl
          rw [hv] at hvi
          subst hxs
          replace hR := Lib.hid hR
          replace hvi := Lib.hid hvi
          go_wp2_with fail
          go_region
          go_wp2_with fail
          obtain ⟨w5, hw5⟩ : ∃ w5, wr.drew = w5 := ⟨_, rfl⟩
          have hI5 := hI0.out.drew
          have q5 : wr.drew.cell? ⟨eb, eo + j * 2 + 1, none⟩ = some (.int .i64 v) := q1
          have el5 : eb < wr.drew.heap.size := hel2
          rw [hw5] at hI5 q5 el5 ⊢
          clear b0 b1 b2 b3 b4 b5 bl q0 q1 hw5 hel2
          clear hI0 hcs hE1 hno
          obtain ⟨b0, b1, b2, b3, b4, b5⟩ := hI5.x.all
          have bl := hI5.x.lt
          have hI6 := Lib.hid hI5.drew
          clear hI5
          have k1 : w5.drew.cell? ⟨eb, eo + j * 2 + 1, none⟩ = some (.int .i64 v) ∧ w5.drew.cell? ⟨w.heap.size, 0, none⟩ = some (.int .i64 2) ∧ w5.drew.cell? ⟨w.heap.size, 1, none⟩ = some (.int .i64 f) ∧ w5.drew.cell? ⟨w.heap.size, 2, none⟩ = some (.int .i64 ln) ∧ w5.drew.cell? ⟨w.heap.size, 3, none⟩ = some (.int .i64 cc) ∧ w5.drew.cell? ⟨w.heap.size, 4, none⟩ = some (.string x) ∧ w5.drew.cell? ⟨w.heap.size, 5, none⟩ = some (.slice A 0 c) := ⟨q5, b0, b1, b2, b3, b4, b5⟩
          go_region_held3 (fun w' => w'.cell? ⟨eb, eo + j * 2 + 1, none⟩ = some (.int .i64 v) ∧ w'.cell? ⟨w.heap.size, 0, none⟩ = some (.int .i64 2) ∧ w'.cell? ⟨w.heap.size, 1, none⟩ = some (.int .i64 f) ∧ w'.cell? ⟨w.heap.size, 2, none⟩ = some (.int .i64 ln) ∧ w'.cell? ⟨w.heap.size, 3, none⟩ = some (.int .i64 cc) ∧ w'.cell? ⟨w.heap.size, 4, none⟩ = some (.string x) ∧ w'.cell? ⟨w.heap.size, 5, none⟩ = some (.slice A 0 c))
            (first | (with_reducible exact k1) | (with_reducible exact k2) | (with_reducible exact k3 _ _ _ _ _))
            (first | (go_at_call 26; (with_reducible refine (hG.out _ hvi.out _).mono ?_); rintro e0 w1 ⟨rfl, hb1⟩; have hI1 := hI6.out.over hb1; have k2 : w1.cell? ⟨eb, eo + j * 2 + 1, none⟩ = some (.int .i64 v) ∧ w1.cell? ⟨w.heap.size, 0, none⟩ = some (.int .i64 2) ∧ w1.cell? ⟨w.heap.size, 1, none⟩ = some (.int .i64 f) ∧ w1.cell? ⟨w.heap.size, 2, none⟩ = some (.int .i64 ln) ∧ w1.cell? ⟨w.heap.size, 3, none⟩ = some (.int .i64 cc) ∧ w1.cell? ⟨w.heap.size, 4, none⟩ = some (.string x) ∧ w1.cell? ⟨w.heap.size, 5, none⟩ = some (.slice A 0 c) := ⟨(hI1.k.cell (p := ⟨eb, eo + j * 2 + 1, none⟩) hel).trans p1.out, hI1.x.all⟩; have k3 : ∀ u0 u1 u2 u3 u4 : Value, (((((w1.setCell ⟨w.heap.size + 1, 0, none⟩ u0).setCell ⟨w.heap.size + 1, 1, none⟩ u1).setCell ⟨w.heap.size + 1, 2, none⟩ u2).setCell ⟨w.heap.size + 1, 3, none⟩ u3).setCell ⟨w.heap.size + 1, 4, none⟩ u4).cell? ⟨eb, eo + j * 2 + 1, none⟩ = some (.int .i64 v) ∧ (((((w1.setCell ⟨w.heap.size + 1, 0, none⟩ u0).setCell ⟨w.heap.size + 1, 1, none⟩ u1).setCell ⟨w.heap.size + 1, 2, none⟩ u2).setCell ⟨w.heap.size + 1, 3, none⟩ u3).setCell ⟨w.heap.size + 1, 4, none⟩ u4).cell? ⟨w.heap.size, 0, none⟩ = some (.int .i64 2) ∧ (((((w1.setCell ⟨w.heap.size + 1, 0, none⟩ u0).setCell ⟨w.heap.size + 1, 1, none⟩ u1).setCell ⟨w.heap.size + 1, 2, none⟩ u2).setCell ⟨w.heap.size + 1, 3, none⟩ u3).setCell ⟨w.heap.size + 1, 4, none⟩ u4).cell? ⟨w.heap.size, 1, none⟩ = some (.int .i64 f) ∧ (((((w1.setCell ⟨w.heap.size + 1, 0, none⟩ u0).setCell ⟨w.heap.size + 1, 1, none⟩ u1).setCell ⟨w.heap.size + 1, 2, none⟩ u2).setCell ⟨w.heap.size + 1, 3, none⟩ u3).setCell ⟨w.heap.size + 1, 4, none⟩ u4).cell? ⟨w.heap.size, 2, none⟩ = some (.int .i64 ln) ∧ (((((w1.setCell ⟨w.heap.size + 1, 0, none⟩ u0).setCell ⟨w.heap.size + 1, 1, none⟩ u1).setCell ⟨w.heap.size + 1, 2, none⟩ u2).setCell ⟨w.heap.size + 1, 3, none⟩ u3).setCell ⟨w.heap.size + 1, 4, none⟩ u4).cell? ⟨w.heap.size, 3, none⟩ = some (.int .i64 cc) ∧ (((((w1.setCell ⟨w.heap.size + 1, 0, none⟩ u0).setCell ⟨w.heap.size + 1, 1, none⟩ u1).setCell ⟨w.heap.size + 1, 2, none⟩ u2).setCell ⟨w.heap.size + 1, 3, none⟩ u3).setCell ⟨w.heap.size + 1, 4, none⟩ u4).cell? ⟨w.heap.size, 4, none⟩ = some (.string x) ∧ (((((w1.setCell ⟨w.heap.size + 1, 0, none⟩ u0).setCell ⟨w.heap.size + 1, 1, none⟩ u1).setCell ⟨w.heap.size + 1, 2, none⟩ u2).setCell ⟨w.heap.size + 1, 3, none⟩ u3).setCell ⟨w.heap.size + 1, 4, none⟩ u4).cell? ⟨w.heap.size, 5, none⟩ = some (.slice A 0 c) := fun u0 u1 u2 u3 u4 => ⟨(far5 _ _ _ _ _ _ _ _ _ (by omega)).trans k2.1, (far5 _ _ _ _ _ _ _ _ _ (by omega)).trans k2.2.1, (far5 _ _ _ _ _ _ _ _ _ (by omega)).trans k2.2.2.1, (far5 _ _ _ _ _ _ _ _ _ (by omega)).trans k2.2.2.2.1, (far5 _ _ _ _ _ _ _ _ _ (by omega)).trans k2.2.2.2.2.1, (far5 _ _ _ _ _ _ _ _ _ (by omega)).trans k2.2.2.2.2.2.1, (far5 _ _ _ _ _ _ _ _ _ (by omega)).trans k2.2.2.2.2.2.2⟩; obtain ⟨o10, o11, o12, o13, o14, o1f, o1l⟩ := hI1.o.all))
          have hz := hI1.k
          replace hI1 := Lib.hid hI1
          clear k1 k2 k3
          go_wp2_with fail
          refine bodyPost_ret (v := .agg #[.int .i64 R.n, .int .i64 R.f, .int .i64 R.l, .int .i64 R.c, .int .i64 R.e]) (by rw [hR.out]; simp [results, Tryz.results12, go_sem, o10, o11, o12, o13, o14, okR]) rfl ⟨rfl, ?_⟩
          go_grown
        · have hno2 : Hid (∀ i (hi : i < l.length), j ≤ i → l[i].1 ≠ s) := Lib.hid (fun i hi h1 => by
            rcases Nat.lt_or_ge j i with h2 | h2
            · exact hno.out i hi h2
            · have e : i = j := by omega
              subst e
              rw [hx]; exact hxs)
          have hd : (x.toList == s.toList) = false := by
            rw [beq_eq_false_iff_ne]
            intro hc
            rw [Go.Lib.toList_data, Go.Lib.toList_data] at hc
            exact hxs (congrArg ByteArray.mk (Array.ext' hc))
          go_wp2_with fail
          go_region
          go_wp2_with fail
          go_roundw
          case rel => exact ⟨j, by omega, by first | rfl | go_num, hno2.out, (by first | exact hI0.out | exact hI0.out.drew)⟩
          case measure => simp [RowKit.intOf]
end Go.Proofs.YtcifljbcoioogaaGreatDoor
