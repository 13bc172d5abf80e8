/-
  add.
  add, whole.
-/
import Derived.Test.YtembgefbmecdbaaR35
namespace Go.Proofs.Ytembgefbmecdbaa
open Go.RowKit Go.Lib
section
variable {B p : Nat} {k : PB} {s : PS} {W : Int → List Nat} {K : List (List Int)} {C : Nat → CAt} {V m : Nat} {cs : List (List Int)} {c : List Int}
theorem own_open {B : Nat} {v : Value} {l : List Int} {w : World} (h : w.ownsRow B 3 1 v l.length (iv l)) (h0 : 0 < l.length) : ∃ (b cap : Nat) (cur : Array Value), v = .slice (some ⟨b, 0, none⟩) l.length cap ∧ B ≤ b ∧ CB w b cur 3 ∧ cur.toList.take l.length = iv l ∧ l.length ≤ cap := by
  rcases h.2 with ⟨e, e0⟩ | ⟨g, cap, cur, rfl, hb, hgg, h1, h2, h3, h4⟩
  · omega
  · exact ⟨g, cap, cur, rfl, hb, hgg, by rw [Nat.mul_one] at h4; exact h4, h1⟩
theorem row_cell {w : World} {b : Nat} {cur : Array Value} {l : List Int} (hb : CB w b cur 3) (hc : cur.toList.take l.length = iv l) {j : Nat} {x : Int} (hj : l[j]? = some x) : w.cell? ⟨b, j, none⟩ = some (iz x) := by
  have hl := lt_of_some hj
  rw [hb.c]
  have e : (cur.toList.take l.length)[j]? = (iv l)[j]? := by rw [hc]
  rw [List.getElem?_take, if_pos hl, Array.getElem?_toList] at e
  rw [e]
  simp [iv, hj]
/-- The clause's slice, when no literal of it is true. -/
def AE (B : Nat) (w : World) (p V m : Nat) (cs : List (List Int)) (c : List Int) (w' : World) : Prop := ∃ fl', PZ B w' p V (cs ++ [c]) (m + 1) fl' ∧ Below B w w'
set_option maxRecDepth 100000 in
set_option maxHeartbeats 3200000 in
theorem add_1 (w0 w : World) (hp0 : PIx B w0 p k s) (hl0 : LM B w0 k s W K C) (hv : VAL s.val s.tr) (hV : s.V = V) (hf : s.failed = false) (hh : s.head = s.tr.length) (hG : GI V cs (fun _ => False) (· ∈ s.tr) s.tr s.tr s.tr.length K W) (hK : K.length ≤ m) (hm : m < 80000) (hB : B ≤ w0.heap.size) (hb0 : Below w0.heap.size w0 w)
    (v : Value) (hr : w.ownsRow w0.heap.size 3 1 v c.length (iv c)) (hc : ∀ y, y ∈ c → y ≠ 0 ∧ y ≤ V ∧ -y ≤ V) (hlen : c.length ≤ 1000) :
    Calls Try.prog 23 #[pp p, v] w fun e w' => e = .returned (.tuple #[]) ∧ AE B w p V m cs c w' := by
  have hP : ∀ W0, Below w0.heap.size w W0 → PIx B W0 p k s := fun W0 h => hp0.over (hb0.trans h)
  have hL : ∀ W0, Below w0.heap.size w W0 → LM B W0 k s W K C := fun W0 h => hl0.over (hb0.trans h)
  have hsz : w0.heap.size ≤ w.heap.size := hb0.size
  have b5 : w.cell? ⟨p, 5, none⟩ = some (.bool s.failed) := (hP w (Below.refl _ _)).blk.c 5
  rw [hf] at b5
  have bl := lt_of_get (hP w (Below.refl _ _)).blk
  obtain ⟨A, cc, ev⟩ := own_shape' hr
  have hcont : Calls Try.prog 18 #[v, .func (.func 38) #[pp p] #[]] w fun e w' => (e = .returned (.bool true) ∧ ∃ j, j < c.length ∧ Below w.heap.size w w' ∧ c.getD j 0 ∈ s.tr) ∨ (e = .returned (.bool false) ∧ Below w.heap.size w w' ∧ ∀ i, i < c.length → c.getD i 0 ∉ s.tr) := by
    subst ev
    refine contS_t 38 #[pp p] #[] (enters_of Try.func38 (by kernel_rfl) rfl) (fun j => c.getD j 0) c.length cc A w (by omega) (fun j wr => Below w.heap.size w wr ∧ ∀ i, i < j → c.getD i 0 ∉ s.tr) (fun j wr => Below w.heap.size w wr ∧ c.getD j 0 ∈ s.tr) ?_ ?_ ⟨Below.refl _ _, fun i hi => absurd hi (by omega)⟩
    · rintro j wr ⟨hb, _⟩ hj
      rcases hr.2 with ⟨e, e0⟩ | ⟨g', cap, cur, e, b1, b2, b3, b4, b5, b6⟩
      · omega
      · cases e
        refine ⟨g', 0, rfl, Nat.lt_of_lt_of_le (lt_of_get b2) hb.size, (hb.cell (p := ⟨g', 0 + j, none⟩) (lt_of_get b2)).trans ?_⟩
        rw [Nat.zero_add, hr.cellAt j (by omega)]
        simp [iv, List.getD, List.getElem?_eq_getElem hj]
    · rintro j wr ⟨hb, hall⟩ hj
      have hx := hc _ (getD_mem' c j hj)
      refine (isTru_t wr (hP wr (hb.mono hsz)) (c.getD j 0) (by omega) (by omega)).mono ?_
      rintro e w' ⟨rfl, hb2⟩
      have hb3 := hb.trans (hb2.mono hb.size)
      by_cases hq : c.getD j 0 ∈ s.tr
      · refine .inl ⟨?_, hb3, hq⟩
        rw [hv.one.2 hq]
        rfl
      · refine .inr ⟨?_, hb3, fun i hi => ?_⟩
        · have h1 : s.val (c.getD j 0) ≠ 1 := fun e => hq (hv.one.1 e)
          show Ending.returned (.bool (s.val (c.getD j 0) == 1)) = _
          rw [show (s.val (c.getD j 0) == 1) = false from beq_eq_false_iff_ne.2 h1]
        · by_cases e : i < j
          · exact hall i e
          · obtain rfl : i = j := by omega
            exact hq
  have hdel : ∀ w1, Below w.heap.size w w1 → Calls Try.prog 39 #[v, .func (.func 40) #[pp p] #[]] w1 fun e w' => ∃ v', e = .returned v' ∧ OS w0.heap.size v' (c.filter fun x => !(s.val x == 2)) w1 w' := fun w1 hb1 =>
    del_t (B := w0.heap.size) (pr := fun x => s.val x == 2) 40 #[pp p] #[] (enters_of Try.func40 (by kernel_rfl) rfl) v c w1 (own_keep hr fun b e => hb1.block b (own_ltT hr b e).2) (by omega) (Nat.le_trans hsz hb1.size) fun x hx W0 hW0 => by
      have hxx := hc x hx
      exact isFal_t W0 (hP W0 ((hb1.mono hsz).trans hW0)) x (by omega) (by omega)
  have htrue : ∀ w1 j, Below w.heap.size w w1 → j < c.length → c.getD j 0 ∈ s.tr → AE B w p V m cs c w1 := by
    intro w1 j hb1 hj hq
    have hb2 := hb1.mono hsz
    refine ⟨false, ⟨k, s, hP w1 hb2, hv, hV, hf, ?_⟩, hb2.mono hB⟩
    rw [if_neg (by decide)]
    exact ⟨hh, W, K, C, hL w1 hb2, by omega, hG.true_ ⟨_, getD_mem' c j hj, hq⟩⟩
  replace hcont := Lib.hid hcont
  replace hdel := Lib.hid hdel
  replace htrue := Lib.hid htrue
  replace hP := Lib.hid hP
  replace hL := Lib.hid hL
  replace hV := Lib.hid hV
  replace hh := Lib.hid hh
  replace hf := Lib.hid hf
  replace hc := Lib.hid hc
  replace hv := Lib.hid hv
  have hp0' := Lib.hid hp0
  have hl0' := Lib.hid hl0
  clear ev hp0 hl0 hb0 hr
  go_enter Try.func23, Try.ntmps23
  go_wp2_with fail
  (with_reducible refine hcont.out.mono ?_)
  rintro e w1 (⟨rfl, j, hj, hb1, hq⟩ | ⟨rfl, hb1, hall⟩)
  · have hE := Lib.hid (htrue.out w1 j hb1 hj hq)
    clear hcont hdel htrue hb1 hq hj
    go_wp2_with fail
    refine bodyPost_ret (results_none rfl _ _ _) rfl ?_
    exact ⟨rfl, hE.out⟩
  · have hD := Lib.hid (hdel.out w1 hb1)
    have hb1' := hb1.mono hsz
    replace hall := Lib.hid hall
    clear hcont hdel htrue hb1
    go_wp2_with fail
    (with_reducible refine hD.out.mono ?_)
    rintro e w2 ⟨v2, rfl, ho2, hb2⟩
    have hs2 : w0.heap.size ≤ w2.heap.size := Nat.le_trans hsz (Nat.le_trans hb1'.size hb2.size)
    have hS := Lib.hid (Sort_i v2 _ w2 ho2 (Nat.le_trans (List.length_filter_le _ _) (by omega)) hs2)
    replace hb2 := hb1'.trans hb2
    clear hD ho2 hb1'
    go_wp2_with fail
    (with_reducible refine hS.out.mono ?_)
    rintro e w3 ⟨rfl, ho3, hb3⟩
    have hs3 : w0.heap.size ≤ w3.heap.size := Nat.le_trans hs2 hb3.size
    have hCm := Lib.hid (Compact_s w0.heap.size v2 _ w3 ho3 (by rw [List.length_mergeSort]; exact Nat.le_trans (List.length_filter_le _ _) (by omega)) hs3)
    replace hb3 := hb2.trans hb3
    clear hS ho3 hb2
    go_wp2_with fail
    (with_reducible refine hCm.out.mono ?_)
    rintro e w4 ⟨v3, rfl, ho4, hb4⟩
    have hs4 : w0.heap.size ≤ w4.heap.size := Nat.le_trans hs3 hb4.size
    replace hb4 := hb3.trans hb4
    change w4.ownsRow w0.heap.size 3 1 v3 (kept s.val c).length (iv (kept s.val c)) at ho4
    have hkm := kept_mem s.val c
    have hkn := kept_nodup s.val c
    have hkl := kept_len s.val c
    clear hCm hb3 hs2 hs3
    have hP4 := hP.out w4 hb4
    have hL4 := hL.out w4 hb4
    have hbB : Below B w w4 := hb4.mono hB
    have hB4 : B ≤ w4.heap.size := Nat.le_trans hB hs4
    have hto := hG.wf.to
    obtain ⟨l, hl⟩ : ∃ l, kept s.val c = l := ⟨_, rfl⟩
    rw [hl] at ho4 hkn hkl
    simp only [hl] at hkm
    replace hbB := Lib.hid hbB
    have f5 := hP4.blk.fz 5
    have c5 : w4.cell? ⟨p, 5, none⟩ = some (.bool s.failed) := hP4.blk.c 5
    have pl := lt_of_get hP4.blk
    -- what is known of the clause's literals
    have hfalse : ∀ y, y ∈ c → y ∉ l → -y ∈ s.tr := fun y hy hn => by
      have h2 : s.val y = 2 := by
        by_cases e : s.val y = 2
        · exact e
        · exact absurd ((hkm y).2 ⟨hy, e⟩) hn
      exact (hv.out.two hto).1 h2
    have hopen : ∀ y, y ∈ l → y ∈ c ∧ y ∉ s.tr ∧ -y ∉ s.tr := fun y hy => by
      obtain ⟨h1, h2⟩ := (hkm y).1 hy
      refine ⟨h1, fun q => ?_, fun q => h2 ((hv.out.two hto).2 q)⟩
      obtain ⟨i, hi⟩ := List.getElem?_of_mem h1
      have := hall.out i (lt_of_some hi)
      rw [List.getD_eq_getElem?_getD, hi, Option.getD_some] at this
      exact this q
    replace hl := Lib.hid hl
    replace hkm := Lib.hid hkm
    replace hall := Lib.hid hall
    replace hP4 := Lib.hid hP4
    replace hL4 := Lib.hid hL4
    replace hG := Lib.hid hG
    replace hfalse := Lib.hid hfalse
    replace hopen := Lib.hid hopen
    replace hkn := Lib.hid hkn
    replace hto := Lib.hid hto
    replace hb4 := Lib.hid hb4
    match l with
    | [] =>
      obtain ⟨A3, c3, e3⟩ := own_shape' ho4
      subst e3
      have hE : AE B w p V m cs c (w4.setCell ⟨p, 5, none⟩ (.bool true)) := ⟨true, add_end0 hP4.out hv.out hV.out hG.out fun y hy => hfalse.out y hy (by simp), hbB.out.trans (hP4.out.fail true).2.2⟩
      replace hE := Lib.hid hE
      replace ho4 := Lib.hid ho4
      clear hfalse hopen hkn hkm hP hL
      go_wp2_with fail
      first
        | (refine bodyPost_ret (results_none rfl _ _ _) rfl ?_; exact ⟨rfl, hE.out⟩)
        | exact bodyPost_end (v := .tuple #[]) (by simp [results, Try.results23, go_sem]) rfl ⟨rfl, hE.out⟩
    | [x] =>
      obtain ⟨b, cap, cur, e3, q1, q2, q3, q4⟩ := own_open ho4 (by simp)
      subst e3
      have c0 : w4.cell? ⟨b, 0, none⟩ = some (iz x) := row_cell q2 q3 rfl
      have cl := lt_of_get q2
      obtain ⟨o1, o2, o3⟩ := hopen.out x (by simp)
      have hxv := hc.out x o1
      have hlT := hG.out.wf.len
      have hpV := hP4.out.hV
      have hV' := hV.out
      have hA := Lib.hid (assign_l w4 hP4.out hL4.out x hxv.1 (by omega) (by omega) (by omega) hB4)
      have hPr := Lib.hid (fun w' (q : Q1 B w4 p k s W K C x w') => add_prop hv.out hV' hh.out hG.out o1 hxv o2 o3 (fun y hy hne => hfalse.out y hy (by simpa using hne)) hK hm hB4 w' q)
      replace q1 := Lib.hid q1
      replace q2 := Lib.hid q2
      replace q3 := Lib.hid q3
      replace ho4 := Lib.hid ho4
      clear hfalse hopen hkn hkm hP hL hxv hV' hlT hpV o1 o2 o3
      go_wp2_with fail
      (with_reducible refine hA.out.mono ?_)
      rintro e w5 ⟨rfl, hQ⟩
      have hPr5 := Lib.hid (hPr.out w5 hQ)
      clear hA hPr hQ c0 cl f5 c5 pl
      go_wp2_with fail
      (with_reducible refine hPr5.out.mono ?_)
      rintro e w6 ⟨t, rfl, pl, ⟨u, c5⟩, f5, hZ, hbz⟩
      have hE : AE B w p V m cs c (w6.setCell ⟨p, 5, none⟩ (.bool (!t))) := ⟨!t, hZ, hbB.out.trans hbz⟩
      clear hZ hbz hPr5
      cases t
      · replace hE := Lib.hid hE
        go_wp2_with fail
        first
          | (refine bodyPost_ret (results_none rfl _ _ _) rfl ?_; exact ⟨rfl, hE.out⟩)
          | exact bodyPost_end (v := .tuple #[]) (by simp [results, Try.results23, go_sem]) rfl ⟨rfl, hE.out⟩
      · replace hE := Lib.hid hE
        go_wp2_with fail
        first
          | (refine bodyPost_ret (results_none rfl _ _ _) rfl ?_; exact ⟨rfl, hE.out⟩)
          | exact bodyPost_end (v := .tuple #[]) (by simp [results, Try.results23, go_sem]) rfl ⟨rfl, hE.out⟩
    | a :: b' :: r =>
      obtain ⟨b, cap, cur, e3, q1, q2, q3, q4⟩ := own_open ho4 (by simp)
      subst e3
      have c0 : w4.cell? ⟨b, 0, none⟩ = some (iz a) := row_cell q2 q3 rfl
      have cl := lt_of_get q2
      have hnew : ∀ i e, K[i]? = some e → (C i).b ≠ b := fun i e hi => by
        obtain ⟨_, _, _, cu, u1, _⟩ := hl0'.out.cl i e hi
        have := lt_of_get u1
        have := q1
        omega
      have htv : ∀ g, k.tv.ownBlock = some g → g ≠ b := fun g hg => by
        have := (own_ltT hp0'.out.tro g hg).2
        omega
      have hW := Lib.hid (add_watch (c := c) w4 hP4.out hL4.out hv.out hV.out hf.out hh.out hG.out hkn.out (fun x hx => hc.out x (hopen.out x hx).1) (fun x hx => (hopen.out x hx).1) (fun x hx => by by_cases e : x ∈ a :: b' :: r; exact .inl e; exact .inr (hfalse.out x hx e)) (fun x hx => (hopen.out x hx).2.2) hK hm hB4 q2 q3 (Nat.le_trans hB q1) q4 hnew htv)
      obtain ⟨n, hn⟩ : ∃ n, (a :: b' :: r).length = n := ⟨_, rfl⟩
      have hn2 : 2 ≤ n := by rw [← hn]; simp
      have hn3 : n ≤ 1000 := by omega
      rw [hn] at hW ho4 q4 ⊢
      have g0 : ((n : Int) == 0) = false := beq_eq_false_iff_ne.2 (by omega)
      have g1 : ((n : Int) == 1) = false := beq_eq_false_iff_ne.2 (by omega)
      replace hn := Lib.hid hn
      replace q1 := Lib.hid q1
      replace q2 := Lib.hid q2
      replace q3 := Lib.hid q3
      replace ho4 := Lib.hid ho4
      clear hfalse hopen hkn hkm hP hL hnew htv hkl
      go_wp2_with fail
      (with_reducible refine hW.out.mono ?_)
      rintro e w5 ⟨rfl, d1, d2, hW2⟩
      replace hW2 := Lib.hid hW2
      clear hW c0 cl f5 c5 pl
      go_wp2_with fail
      (with_reducible refine hW2.out.mono ?_)
      rintro e w6 ⟨rfl, hZ, hbz⟩
      have hE : AE B w p V m cs c w6 := ⟨false, hZ, hbB.out.trans hbz⟩
      replace hE := Lib.hid hE
      clear hW2 hZ hbz
      go_wp2_with fail
      first
        | (refine bodyPost_ret (results_none rfl _ _ _) rfl ?_; exact ⟨rfl, hE.out⟩)
        | exact bodyPost_end (v := .tuple #[]) (by simp [results, Try.results23, go_sem]) rfl ⟨rfl, hE.out⟩
end
end Go.Proofs.Ytembgefbmecdbaa
namespace Go.Proofs.Ytembgefbmecdbaa
open Go.RowKit Go.Lib
section
variable {B p : Nat} {V m : Nat} {cs : List (List Int)} {c : List Int}
set_option maxRecDepth 100000 in
set_option maxHeartbeats 1600000 in
theorem add_0 (w : World) (_bl : p < w.heap.size) (b5 : w.cell? ⟨p, 5, none⟩ = some (.bool true)) (v : Value) : Calls Try.prog 23 #[pp p, v] w fun e w' => e = .returned (.tuple #[]) ∧ w = w' := by
  go_enter Try.func23, Try.ntmps23
  go_wp2_with fail
  refine bodyPost_ret (results_none rfl _ _ _) rfl ?_
  exact ⟨rfl, rfl⟩
/-- ADD: a clause more. -/
theorem add_t (w0 w : World) {fl : Bool} (h : PZ B w0 p V cs m fl) (hm : m < 80000) (hB : B ≤ w0.heap.size) (hb0 : Below w0.heap.size w0 w) (v : Value) (hr : w.ownsRow w0.heap.size 3 1 v c.length (iv c)) (hc : ∀ y, y ∈ c → y ≠ 0 ∧ y ≤ V ∧ -y ≤ V) (hlen : c.length ≤ 1000) :
    Calls Try.prog 23 #[pp p, v] w fun e w' => e = .returned (.tuple #[]) ∧ AE B w p V m cs c w' := by
  have hz := h.over hb0
  obtain ⟨k, s, h1, h2, h3, h4, h5⟩ := h
  cases fl
  · rw [if_neg (by decide)] at h5
    obtain ⟨e, W, K, C, q1, q2, q3⟩ := h5
    exact add_1 w0 w h1 q1 h2 h3 h4 e q3 q2 hm hB hb0 v hr hc hlen
  · rw [if_pos rfl] at h5
    have h1' := h1.over hb0
    have b5 : w.cell? ⟨p, 5, none⟩ = some (.bool s.failed) := h1'.blk.c 5
    rw [h4] at b5
    refine (add_0 w (lt_of_get h1'.blk) b5 v).mono ?_
    rintro e w' ⟨rfl, hw⟩
    subst hw
    refine ⟨rfl, true, ⟨k, s, h1', h2, h3, h4, ?_⟩, Below.refl _ _⟩
    rw [if_pos rfl]
    exact ⟨h5.1, h5.2.wk⟩
end
end Go.Proofs.Ytembgefbmecdbaa
