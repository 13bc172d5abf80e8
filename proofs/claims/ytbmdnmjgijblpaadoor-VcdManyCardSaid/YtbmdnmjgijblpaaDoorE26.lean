/-
  times: the events of a dump behind its definitions, and what the loop over them leaves.
  times: the walk.
  Read on the text of a dump as Write leaves it.
-/
import Derived.Test.YtbmdnmjgijblpaaDoorE25
namespace Go.Proofs.YtbmdnmjgijblpaaDoor
open Go Go.RowKit Go.Lib Go.Maps
/-- A time, or a change. -/
inductive EV where
  | tm (ds : List UInt8)
  | ch (ds id : List UInt8)
/-- Its first word, the words behind that. -/
def EV.wd : EV → List UInt8
  | .tm ds => 35 :: ds
  | .ch ds _ => 98 :: ds
def EV.tl : EV → List (UInt8 × List UInt8)
  | .tm _ => []
  | .ch _ id => [(32, id)]
def evw (evs : List EV) : List (UInt8 × List UInt8) := evs.flatMap fun e => (10, e.wd) :: e.tl
abbrev RW := List (List (Nat × Nat))
/-- The events lead from these rows to those. -/
inductive ES (ids : List (List UInt8)) (vs : List NV) (F : RW) : RW → List EV → Prop
  | done : ES ids vs F F []
  | first (ds : List UInt8) (evs : List EV) : ds.length ≤ 6 → Lib.parseUintB 32 ds = .ok 0 → ES ids vs F [zrow vs] evs → ES ids vs F [] (.tm ds :: evs)
  | time (rows : RW) (k : Nat) (r : List (Nat × Nat)) (ds : List UInt8) (evs : List EV) : rows.length = k + 1 → rows[k]? = some r → r.length ≤ 300 → rows.length < 200 → ds.length ≤ 6 → Lib.parseUintB 32 ds = .ok (k + 1) → ES ids vs F (rows ++ [r]) evs → ES ids vs F rows (.tm ds :: evs)
  | change (rows : RW) (k i : Nat) (r : List (Nat × Nat)) (x : NV) (ds id : List UInt8) (evs : List EV) : rows.length = k + 1 → rows[k]? = some r → r.length = vs.length → idn ids id = some i → vs[i]? = some x → ds.length ≤ x.2 → x.2 ≤ 128 → ds ≠ [] → ds.all (fun c => vbin c.toNat) = true → id.length ≤ 1000 → ES ids vs F (rows.set k (r.set i (x.2, valB (dgs ds) x.2))) evs → ES ids vs F rows (.ch ds id :: evs)
/-- The reader at the end of its text. -/
def TZ (w : World) (B q : Nat) (T top : List UInt8) (ids : List (List UInt8)) (vs : List NV) (rows : RW) : Prop := ∃ v vals m n D rv p ln, B ≤ q ∧ DX w B ids vs v m n D ∧ TX w B rows vals rv ∧ VX w q (mkT T top v vals m p ln)
section
variable {w wr w' : World} {B q : Nat} {T top : List UInt8} {ids : List (List UInt8)} {vs : List NV} {F rows : RW}
theorem TZ.over (h : TZ w B q T top ids vs rows) (k : Below w.heap.size w w') : TZ w' B q T top ids vs rows := by
  obtain ⟨v, vals, m, n, D, rv, p, ln, h1, h2, h3, h4⟩ := h
  exact ⟨v, vals, m, n, D, rv, p, ln, h1, h2.over k, h3.over k, h4.over k⟩
theorem TZ.far (h : TZ w B q T top ids vs rows) {b i : Nat} {cs : Array Value} (u : Value) (hb : CV w b cs 76) : TZ (w.setCell ⟨b, i, none⟩ u) B q T top ids vs rows := by
  obtain ⟨v, vals, m, n, D, rv, p, ln, h1, h2, h3, h4⟩ := h
  have hn : q ≠ b := fun e => by
    subst e
    have h5 : CV w q _ 64 := h4
    have : some (Obj.cells cs 76 (0, 0)) = some (.cells _ 64 (0, 0)) := hb.symm.trans h5
    cases this
  exact ⟨v, vals, m, n, D, rv, p, ln, h1, h2.kp fun g hg => Below.heap_setCell w _ u g (h2.ne hb (by decide) g hg), h3.kp fun g hg => Below.heap_setCell w _ u g (h3.ne hb (by decide) (by decide) g hg), h4.far _ _ hn⟩
/-- The loop: cur has been read, g events are still to be dealt with. -/
def TL (w : World) (B q : Nat) (T top : List UInt8) (ids : List (List UInt8)) (vs : List NV) (F : RW) (g : Nat) (cur : List UInt8) (wr : World) : Prop :=
  VW B q w wr ∧ ((g = 0 ∧ cur = [] ∧ TZ wr B q T top ids vs F) ∨ ∃ (ev : EV) (evs : List EV) (rows : RW), g = evs.length + 1 ∧ cur = ev.wd ∧ ES ids vs F rows (ev :: evs) ∧ TQ wr B q T top ids vs rows (ev.tl ++ evw evs))
theorem TL.over {g : Nat} {cur : List UInt8} (h : TL w B q T top ids vs F g cur wr) (k : Below wr.heap.size wr w') : TL w B q T top ids vs F g cur w' := by
  obtain ⟨h1, h2⟩ := h
  refine ⟨h1.trans (VW.below k), ?_⟩
  rcases h2 with ⟨a, b, c⟩ | ⟨ev, evs, rows, a, b, c, d⟩
  · exact .inl ⟨a, b, c.over k⟩
  · exact .inr ⟨ev, evs, rows, a, b, c, d.over k⟩
theorem TL.far {g b i : Nat} {cur : List UInt8} {cs : Array Value} (u : Value) (h : TL w B q T top ids vs F g cur wr) (hb : CV wr b cs 76) (hlow : w.heap.size ≤ b) (_hB : B ≤ b) : TL w B q T top ids vs F g cur (wr.setCell ⟨b, i, none⟩ u) := by
  obtain ⟨h1, h2⟩ := h
  refine ⟨⟨h1.os, h1.tape, h1.output, Nat.le_trans h1.size (by simp), fun k hk hs => ?_, fun k cs T f hc a1 a2 a3 a4 => ?_⟩, ?_⟩
  · exact (Below.heap_setCell wr _ u k (fun e => by have e' : k = b := e; omega)).trans (h1.low k hk hs)
  · exact (Below.heap_setCell wr _ u k (fun e => by have e' : k = b := e; have := lt_of_get hc; omega)).trans (h1.oth k cs T f hc a1 a2 a3 a4)
  rcases h2 with ⟨a, b, c⟩ | ⟨ev, evs, rows, a, b, c, d⟩
  · exact .inl ⟨a, b, c.far u hb⟩
  · exact .inr ⟨ev, evs, rows, a, b, c, d.far u hb⟩
theorem TL.ne {g b : Nat} {cur : List UInt8} {cs : Array Value} (h : TL w B q T top ids vs F g cur wr) (hb : CV wr b cs 76) : b ≠ q := by
  rcases h.2 with ⟨a, b, v, vals, m, n, D, rv, p, ln, h1, h2, h3, h4⟩ | ⟨ev, evs, rows, a, b, c, d⟩
  · intro e
    subst e
    have h5 : CV wr _ _ 64 := h4
    have : some (Obj.cells cs 76 (0, 0)) = some (.cells _ 64 (0, 0)) := hb.symm.trans h5
    cases this
  · exact d.ne hb
theorem EV.wd_ne (e : EV) : e.wd ≠ sCom ∧ e.wd ≠ [] := by
  cases e <;> exact ⟨fun h => by simp [EV.wd] at h, fun h => by simp [EV.wd] at h⟩
/-- The next word, with these events still to come. -/
theorem TL.next {evs : List EV} (hT : T.length ≤ 1048576) (hv : VW B q w wr) (hE : ES ids vs F rows evs) (h : TQ wr B q T top ids vs rows (evw evs)) :
    Calls Tryd.prog 36 #[pp q] wr fun e w' => ∃ (cur : List UInt8) (ln : Nat), e = .returned (.agg #[.string (bt cur), iz (ln : Int)]) ∧ VW B q wr w' ∧ TL w B q T top ids vs F evs.length cur w' := by
  cases evs with
  | nil =>
    cases hE
    obtain ⟨v, vals, m, n, D, rv, p, h⟩ := h
    refine (elem_e (mkT_MK T top v vals m) hT wr h.r).mono ?_
    rintro e w' ⟨ln, rfl, ⟨p2, ln2, h1⟩, h2⟩
    obtain ⟨cs, hc, _⟩ := h.r.cvT
    have hV := VW.kv h2 h.b
    exact ⟨[], ln, rfl, hV, hv.trans hV, .inl ⟨rfl, rfl, v, vals, m, n, D, rv, p2, ln2, h.b, h.d.kv hc h2, h.t.kv hc h2, h1⟩⟩
  | cons ev evs =>
    have h' : TQ wr B q T top ids vs rows ((10, ev.wd) :: (ev.tl ++ evw evs)) := h
    refine (h'.elem hT ev.wd_ne.1).mono ?_
    rintro e w' ⟨ln, rfl, h1, h2⟩
    exact ⟨ev.wd, ln, rfl, h2, hv.trans h2, .inr ⟨ev, evs, rows, rfl, rfl, hE, h1⟩⟩
/-- Ahead of the next word: g events are still to be read. -/
def TN (w : World) (B q : Nat) (T top : List UInt8) (ids : List (List UInt8)) (vs : List NV) (F : RW) (g : Nat) (wr : World) : Prop := VW B q w wr ∧ ∃ (evs : List EV) (rows : RW), evs.length = g ∧ ES ids vs F rows evs ∧ TQ wr B q T top ids vs rows (evw evs)
theorem TN.over {g : Nat} (h : TN w B q T top ids vs F g wr) (k : Below wr.heap.size wr w') : TN w B q T top ids vs F g w' := by
  obtain ⟨h1, evs, rows, h2, h3, h4⟩ := h
  exact ⟨h1.trans (VW.below k), evs, rows, h2, h3, h4.over k⟩
theorem TN.next {g : Nat} (hT : T.length ≤ 1048576) (h : TN w B q T top ids vs F g wr) : Calls Tryd.prog 36 #[pp q] wr fun e w' => ∃ (cur : List UInt8) (ln : Nat), e = .returned (.agg #[.string (bt cur), iz (ln : Int)]) ∧ VW B q wr w' ∧ TL w B q T top ids vs F g cur w' := by
  obtain ⟨h1, evs, rows, rfl, h3, h4⟩ := h
  exact TL.next hT h1 h3 h4
/-- A time. -/
theorem TL.time {g : Nat} {ds : List UInt8} (hok : ∀ x ∈ vs, 1 ≤ x.2 ∧ x.2 ≤ 128) (ln : Nat) (h : TL w B q T top ids vs F g (35 :: ds) wr) :
    ∃ g', g = g' + 1 ∧ Calls Tryd.prog 41 #[pp q, .agg #[.string (bt (35 :: ds)), iz (ln : Int)]] wr fun e w' => e = .returned (.tuple #[]) ∧ VW B q wr w' ∧ TN w B q T top ids vs F g' w' := by
  obtain ⟨h1, ⟨_, h2, _⟩ | ⟨ev, evs, rows, a, b, c, d⟩⟩ := h
  · cases h2
  refine ⟨evs.length, a, ?_⟩
  cases ev with
  | ch ds2 id => simp [EV.wd] at b
  | tm ds2 =>
    obtain rfl : ds = ds2 := by simpa [EV.wd] using b
    cases c with
    | first _ _ q1 q2 q3 =>
      refine (time_0 wr d q1 q2 hok ln).mono ?_
      rintro e w' ⟨rfl, h3, h4⟩
      exact ⟨rfl, h4, h1.trans h4, evs, _, rfl, q3, h3⟩
    | time _ k r _ _ q1 q2 q3 q4 q5 q6 q7 =>
      refine (time_n wr d q1 q2 q3 q4 q5 q6 ln).mono ?_
      rintro e w' ⟨rfl, h3, h4⟩
      exact ⟨rfl, h4, h1.trans h4, evs, _, rfl, q7, h3⟩
/-- A change. -/
theorem TL.change {g : Nat} {ds : List UInt8} (hT : T.length ≤ 1048576) (ln : Nat) (h : TL w B q T top ids vs F g (98 :: ds) wr) :
    ∃ g', g = g' + 1 ∧ (∃ N A c, wr.cell? ⟨q, 5, none⟩ = some (.slice A (N + 1) c) ∧ q < wr.heap.size) ∧ Calls Tryd.prog 42 #[pp q, .agg #[.string (bt (98 :: ds)), iz (ln : Int)]] wr fun e w' => e = .returned (.tuple #[]) ∧ VW B q wr w' ∧ TN w B q T top ids vs F g' w' := by
  obtain ⟨h1, ⟨_, h2, _⟩ | ⟨ev, evs, rows, a, b, c, d⟩⟩ := h
  · cases h2
  refine ⟨evs.length, a, ?_⟩
  cases ev with
  | tm ds2 => simp [EV.wd] at b
  | ch ds2 id =>
    obtain rfl : ds = ds2 := by simpa [EV.wd] using b
    cases c with
    | change _ k i r x _ _ _ q1 q2 q3 q4 q5 q6 q7 q8 q9 q10 q11 =>
      refine ⟨?_, (change_t hT wr d (by omega) q8 q9 q10 ln q4 q5 q6 q7 q1 q2 q3).mono ?_⟩
      · obtain ⟨v, vals, m, n, D, rv, p, h⟩ := d
        obtain ⟨A, c, e⟩ := own_shape h.t.row
        obtain ⟨cs, hc, _, h5, _⟩ := h.r.cvT
        rw [e, q1] at h5
        exact ⟨k, A, c, h5, hc.lt⟩
      · rintro e w' ⟨rfl, h3, h4⟩
        exact ⟨rfl, h4, h1.trans h4, evs, _, rfl, q11, h3⟩
/-- The word at hand: none, a time, a change. -/
theorem TL.cases {g : Nat} {cur : List UInt8} (h : TL w B q T top ids vs F g cur wr) : (g = 0 ∧ cur = [] ∧ TZ wr B q T top ids vs F) ∨ (∃ ds, cur = 35 :: ds) ∨ ∃ ds, cur = 98 :: ds := by
  rcases h.2 with h2 | ⟨ev, evs, rows, a, b, c, d⟩
  · exact .inl h2
  · cases ev with
    | tm ds => exact .inr (.inl ⟨ds, b⟩)
    | ch ds id => exact .inr (.inr ⟨ds, b⟩)
end
end Go.Proofs.YtbmdnmjgijblpaaDoor
namespace Go.Proofs.YtbmdnmjgijblpaaDoor
open Go Go.RowKit Go.Lib Go.Maps
set_option maxRecDepth 100000 in
set_option maxHeartbeats 6400000 in
theorem times_t {B q : Nat} {T top : List UInt8} {ids : List (List UInt8)} {vs : List NV} {F : RW} {evs : List EV} (hT : T.length ≤ 1048576) (w : World) (hB : B ≤ q) (hok : ∀ x ∈ vs, 1 ≤ x.2 ∧ x.2 ≤ 128) (hE : ES ids vs F [] evs) (h : TQ w B q T top ids vs [] (evw evs)) :
    Calls Tryd.prog 19 #[pp q] w fun e w' => e = .returned (.tuple #[]) ∧ TZ w' B q T top ids vs F ∧ VW B q w w' := by
  have hC := Lib.hid (TL.next hT (VW.refl B q w) hE h)
  have hBw : Hid (B ≤ w.heap.size) := Lib.hid (by
    obtain ⟨v, vals, m, n, D, rv, p, h⟩ := h
    have := h.r.lt
    omega)
  replace hok := Lib.hid hok
  clear hE h hB
  go_enter Tryd.func19, Tryd.ntmps19
  go_wp2_with fail
  (with_reducible refine hC.out.mono ?_)
  rintro e w9 ⟨cur, ln9, rfl, hv9, hI⟩
  have hwn9 : w.heap.size ≤ w9.heap.size := hv9.size
  have hI10 := hI.over (vnew w9 (.cells #[.string (bt cur), iz (ln9 : Int)] 76))
  have hg10 : CV (w9.alloc (.cells #[.string (bt cur), iz (ln9 : Int)] 76)) w9.heap.size #[.string (bt cur), iz (ln9 : Int)] 76 := by unfold CV; exact Array.getElem?_push_size ..
  obtain ⟨w10, hw10⟩ : ∃ W, w9.alloc (.cells #[.string (bt cur), iz (ln9 : Int)] 76) = W := ⟨_, rfl⟩
  obtain ⟨g, hg⟩ : ∃ g, w9.heap.size = g := ⟨_, rfl⟩
  rw [hw10] at hI10 hg10
  rw [hg] at hg10 hwn9
  obtain ⟨n0, hn0⟩ : ∃ n, evs.length = n := ⟨_, rfl⟩
  rw [hn0] at hI10
  replace hI10 := Lib.hid (And.intro hwn9 (And.intro hg10 hI10))
  replace hn0 := Lib.hid hn0
  replace hw10 := Lib.hid hw10
  replace hg := Lib.hid hg
  clear hC hv9 hI hwn9 hg10
  go_wp2_with fail
  rw [hw10.out, hg.out]
  clear hw10 hg
  go_loopg [2] n0 (fun gk v wr => ∃ (g : Nat) (cur : List UInt8) (ln : Nat), v = pp g ∧ Hid (w.heap.size ≤ g ∧ CV wr g #[.string (bt cur), iz (ln : Int)] 76 ∧ TL w B q T top ids vs F gk cur wr))
  case atStart => exact ⟨g, cur, ln9, rfl, hI10⟩
  case round =>
    obtain ⟨g2, cur2, ln2, rfl, hH⟩ := hrel
    clear hI10
    obtain ⟨hwn, hv, hI⟩ := hH.out
    clear hH
    have v0 : wr.cell? ⟨g2, 0, none⟩ = some (.string (bt cur2)) := hv.c 0
    have v1 : wr.cell? ⟨g2, 1, none⟩ = some (iz (ln2 : Int)) := hv.c 1
    have vl := hv.lt
    have hgq := hI.ne hv
    have hBg : B ≤ g2 := Nat.le_trans hBw.out hwn
    have hcopy : ∀ (w2 : World) (g' : Nat), VW B q wr w2 → TN w B q T top ids vs F g' w2 → (w2.cell? ⟨g2, 0, none⟩ = some (.string (bt cur2)) ∧ w2.cell? ⟨g2, 1, none⟩ = some (iz (ln2 : Int)) ∧ g2 < w2.heap.size) ∧ Hid (Calls Tryd.prog 36 #[pp q] (w2.alloc (.cells #[.string (bt cur2), iz (ln2 : Int)] 76)) fun e w3 => ∃ (cur : List UInt8) (ln : Nat), e = .returned (.agg #[.string (bt cur), iz (ln : Int)]) ∧ (w3.cell? ⟨w2.heap.size, 0, none⟩ = some (.string (bt cur2)) ∧ w3.cell? ⟨w2.heap.size, 1, none⟩ = some (iz (ln2 : Int)) ∧ w2.heap.size < w3.heap.size ∧ w3.frozen? ⟨w2.heap.size, 0, none⟩ = false ∧ w3.frozen? ⟨w2.heap.size, 1, none⟩ = false) ∧ Hid (w.heap.size ≤ w2.heap.size ∧ CV ((w3.setCell ⟨w2.heap.size, 0, none⟩ (.string (bt cur))).setCell ⟨w2.heap.size, 1, none⟩ (iz (ln : Int))) w2.heap.size #[.string (bt cur), iz (ln : Int)] 76 ∧ TL w B q T top ids vs F g' cur ((w3.setCell ⟨w2.heap.size, 0, none⟩ (.string (bt cur))).setCell ⟨w2.heap.size, 1, none⟩ (iz (ln : Int))))) := fun w2 g' hV hN => by
      have h2 := hV.cv hv hgq (by decide) (by decide) (by decide)
      have hle : w.heap.size ≤ w2.heap.size := by have := h2.lt; omega
      refine ⟨⟨h2.c 0, h2.c 1, h2.lt⟩, Lib.hid ?_⟩
      have hb := vnew w2 (.cells #[.string (bt cur2), iz (ln2 : Int)] 76)
      have hg3 : CV (w2.alloc (.cells #[.string (bt cur2), iz (ln2 : Int)] 76)) w2.heap.size #[.string (bt cur2), iz (ln2 : Int)] 76 := by unfold CV; exact Array.getElem?_push_size ..
      refine ((hN.over hb).next hT).mono ?_
      rintro e w3 ⟨cur, ln, rfl, hV3, hL⟩
      have hq3 : w2.heap.size ≠ q := by
        obtain ⟨_, _, _, _, _, v, vals, m, n, D, rv, p, hr⟩ := hN
        have := hr.r.lt
        omega
      have h3 := hV3.cv hg3 hq3 (by decide) (by decide) (by decide)
      have hB2 : B ≤ w2.heap.size := by have := hBw.out; omega
      have hL4 := hL.far (i := 0) (.string (bt cur)) h3 hle hB2
      have h4 := h3.set 0 (.string (bt cur))
      have hL5 := hL4.far (i := 1) (iz (ln : Int)) h4 hle hB2
      have h5 : CV ((w3.setCell ⟨w2.heap.size, 0, none⟩ (.string (bt cur))).setCell ⟨w2.heap.size, 1, none⟩ (iz (ln : Int))) w2.heap.size #[.string (bt cur), iz (ln : Int)] 76 := h4.set 1 (iz (ln : Int))
      exact ⟨cur, ln, rfl, ⟨h3.c 0, h3.c 1, h3.lt, h3.fz 0, h3.fz 1⟩, Lib.hid ⟨hle, h5, hL5⟩⟩
    replace hcopy := Lib.hid hcopy
    rcases hI.cases with ⟨rfl, rfl, hZ⟩ | ⟨ds, rfl⟩ | ⟨ds, rfl⟩
    · have hF := Lib.hid (And.intro hZ hI.1)
      have e1 : (bt []).toList = [] := bt_is rfl
      clear hcopy hI hv hgq hBg hwn hZ
      go_wp2_with fail
      exact bodyPost_end (v := .tuple #[]) (by simp [results, Tryd.results19, go_sem]) rfl ⟨rfl, hF.out⟩
    · obtain ⟨g', rfl, hC⟩ := TL.time hok.out ln2 hI
      replace hC := Lib.hid hC
      obtain ⟨n1, n2⟩ := bt_ne (show (35 :: ds) ≠ [] by simp)
      have hsz : 0 < (bt (35 :: ds)).size := by show 0 < (35 :: ds).length; simp
      obtain ⟨S, hS⟩ : ∃ S, bt (35 :: ds) = S := ⟨_, rfl⟩
      have hby : ∀ h : 0 < S.size, (((S[0]'h).toNat : Int) == 35) = true := by subst hS; intro _; rfl
      simp only [hS] at v0 hC n1 n2 hcopy hsz
      have hb35 := hby hsz
      clear hI hv hgq hBg hwn hS hby
      go_wp2_with fail
      (with_reducible refine hC.out.mono ?_)
      rintro e w2 ⟨rfl, hV2, hN2⟩
      obtain ⟨⟨x0, x1, xl⟩, hE⟩ := hcopy.out w2 g' hV2 hN2
      clear hC hV2 hN2 hcopy v0 v1 vl hb35
      go_wp2_with fail
      (with_reducible refine hE.out.mono ?_)
      rintro e w3 ⟨cur3, ln3, rfl, ⟨y0, y1, yl, yf0, yf1⟩, hR⟩
      obtain ⟨g3, hg3⟩ : ∃ g, w2.heap.size = g := ⟨_, rfl⟩
      rw [hg3] at y0 y1 yl yf0 yf1 hR ⊢
      clear hg3
      clear hE x0 x1 xl
      go_wp2_with fail
      go_roundg g'
      case measure => exact Nat.lt_succ_self g'
      case rel => exact ⟨g3, cur3, ln3, rfl, hR⟩
    · obtain ⟨g', rfl, ⟨N, A5, c5, k5, kl5⟩, hC⟩ := TL.change hT ln2 hI
      replace hC := Lib.hid hC
      obtain ⟨n1, n2⟩ := bt_ne (show (98 :: ds) ≠ [] by simp)
      have hsz : 0 < (bt (98 :: ds)).size := by show 0 < (98 :: ds).length; simp
      obtain ⟨S, hS⟩ : ∃ S, bt (98 :: ds) = S := ⟨_, rfl⟩
      have hby : ∀ h : 0 < S.size, (((S[0]'h).toNat : Int) == 35) = false := by subst hS; intro _; rfl
      simp only [hS] at v0 hC n1 n2 hcopy hsz
      have hb35 := hby hsz
      clear hI hv hgq hBg hwn hS hby
      have t2 : 0 < N + 1 := by omega
      obtain ⟨N1, hN1⟩ : ∃ N1, N + 1 = N1 := ⟨_, rfl⟩
      rw [hN1] at k5 t2
      clear hN1
      go_wp2_with fail
      (with_reducible refine hC.out.mono ?_)
      rintro e w2 ⟨rfl, hV2, hN2⟩
      obtain ⟨⟨x0, x1, xl⟩, hE⟩ := hcopy.out w2 g' hV2 hN2
      clear hC hV2 hN2 hcopy v0 v1 vl hb35
      go_wp2_with fail
      (with_reducible refine hE.out.mono ?_)
      rintro e w3 ⟨cur3, ln3, rfl, ⟨y0, y1, yl, yf0, yf1⟩, hR⟩
      obtain ⟨g3, hg3⟩ : ∃ g, w2.heap.size = g := ⟨_, rfl⟩
      rw [hg3] at y0 y1 yl yf0 yf1 hR ⊢
      clear hg3
      clear hE x0 x1 xl
      go_wp2_with fail
      go_roundg g'
      case measure => exact Nat.lt_succ_self g'
      case rel => exact ⟨g3, cur3, ln3, rfl, hR⟩
end Go.Proofs.YtbmdnmjgijblpaaDoor
namespace Go.Proofs.YtbmdnmjgijblpaaDoor
open Go Go.RowKit Go.Lib Go.Maps
/-- What Read hands back: the trace's name, variables and rows, no error. -/
def RDP (w : World) (top : List UInt8) (ids : List (List UInt8)) (vs : List NV) (F : RW) (e : Ending) (w' : World) : Prop := ∃ v vals m n D rv, e = .returned (.tuple #[.agg #[.string (bt top), v, vals], .int .i64 0, .int .i64 0]) ∧ DX w' w.heap.size ids vs v m n D ∧ TX w' w.heap.size F vals rv ∧ Below w.heap.size w w'
set_option maxRecDepth 100000 in
set_option maxHeartbeats 3200000 in
theorem Read_t {T top n1 n2 : List UInt8} {a1 a2 a3 a4 a5 a6 a7 a8 a9 a10 a11 : UInt8} {L : List VD} {F : RW} {evs : List EV} (hT : T.length ≤ 1048576) (w : World)
    (hTe : T = sTime ++ RT (wHead a1 a2 a3 a4 a5 a6 a7 n1 n2 top (wVars a8 L (wTail a8 a9 a10 a11 (evw evs))))) (hw : WD (wHead a1 a2 a3 a4 a5 a6 a7 n1 n2 top (wVars a8 L (wTail a8 a9 a10 a11 (evw evs))))) (hn1 : n1 ≠ sEnd) (hn2 : n2 ≠ sEnd) (htop : wordB top = true)
    (hok : ∀ x ∈ L, x.ok) (hi : (vids L).Nodup) (hn : (L.map VD.nm).Nodup) (hl : L.length ≤ 300) (hE : ES (vids L) (vnvs L) F [] evs) :
    Calls Tryd.prog 8 #[.string (bt T)] w (RDP w top (vids L) (vnvs L) F) := by
  obtain ⟨B, hB⟩ : ∃ B, w.heap.size = B := ⟨_, rfl⟩
  obtain ⟨w1, hw1⟩ : ∃ W, w.alloc (.cells #[.string (bt []), .slice none 0 0, .slice none 0 0] 26) = W := ⟨_, rfl⟩
  obtain ⟨w3, hw3⟩ : ∃ W, (w1.alloc (.map #[] 0)).alloc (.cells (vrc (mkD T [] (.slice none 0 0) (B + 1) 0 1)) 64) = W := ⟨_, rfl⟩
  have s1 : w1.heap.size = B + 1 := by rw [← hw1, ← hB]; simp
  have hg1 : CV w1 B #[.string (bt []), .slice none 0 0, .slice none 0 0] 26 := by rw [← hw1, ← hB]; unfold CV; exact Array.getElem?_push_size ..
  have hb2 := vnew w1 (.map #[] 0)
  have hb3 := below_step hb2 (vnew (w1.alloc (.map #[] 0)) (.cells (vrc (mkD T [] (.slice none 0 0) (B + 1) 0 1)) 64))
  have hm := (World.ownsMap_made (H := Unit) w1 Tryd.prog 9 (plainElem (H := Unit) Tryd.prog 3)).alloc (.cells (vrc (mkD T [] (.slice none 0 0) (B + 1) 0 1)) 64)
  have hg3 : CV ((w1.alloc (.map #[] 0)).alloc (.cells (vrc (mkD T [] (.slice none 0 0) (B + 1) 0 1)) 64)) (w1.alloc (.map #[] 0)).heap.size (vrc (mkD T [] (.slice none 0 0) (B + 1) 0 1)) 64 := by unfold CV; exact Array.getElem?_push_size ..
  have s2 : (w1.alloc (.map #[] 0)).heap.size = B + 2 := by simp [s1]
  rw [hw3] at hb3 hm hg3
  rw [s2] at hg3
  rw [s1] at hm
  have hx : DX w3 B [] [] (.slice none 0 0) (B + 1) 0 (.map []) := { bm := by omega, row := World.ownsRow_nil _ _ _ _, mp := hm, ag := AgI.new, nl := Nat.le_refl _, le := rfl, sm := by simp }
  have hD := Lib.hid (defs_t (q := B + 2) hT w3 (by omega) hx hg3 hTe hw hn1 hn2 htop hok hi hn hl)
  have hokv : ∀ x ∈ vnvs L, 1 ≤ x.2 ∧ x.2 ≤ 128 := by
    intro x hx
    obtain ⟨y, hy, rfl⟩ := List.mem_map.1 hx
    exact ⟨(hok y hy).u1, (hok y hy).u2⟩
  have hTm := Lib.hid (fun W (h : DQ W B (B + 2) T top (vids L) (vnvs L) (evw evs)) => times_t hT W h.ge.1 hokv hE h.tq)
  have hfin : ∀ W, VW B (B + 2) w3 W → TZ W B (B + 2) T top (vids L) (vnvs L) F → ∃ v vals, (∃ A1 N1 c1 A2 N2 c2, v = .slice A1 N1 c1 ∧ vals = .slice A2 N2 c2) ∧ (CV W B #[.string (bt []), .slice none 0 0, .slice none 0 0] 26 ∧ W.cell? ⟨B + 2, 5, none⟩ = some vals ∧ W.cell? ⟨B + 2, 3, none⟩ = some (.string (bt top)) ∧ W.cell? ⟨B + 2, 4, none⟩ = some v ∧ W.cell? ⟨B + 2, 7, none⟩ = some (iz 0) ∧ B + 2 < W.heap.size) ∧ ∀ e, (e = .returned (.tuple #[.agg #[.string (bt top), v, vals], .int .i64 0, .int .i64 0])) → RDP w top (vids L) (vnvs L) F e (((W.setCell ⟨B, 0, none⟩ (.string (bt top))).setCell ⟨B, 1, none⟩ v).setCell ⟨B, 2, none⟩ vals) := by
    intro W hV hZ
    have hgB : CV W B _ 26 := hV.cv (hg1.over hb3) (by omega) (by decide) (by decide) (by decide)
    obtain ⟨v, vals, m, n, D, rv, p, ln, hBq, hd, ht, hr⟩ := hZ
    obtain ⟨A1, c1, sv⟩ := own_shape hd.row
    obtain ⟨A2, c2, svl⟩ := own_shape ht.row
    refine ⟨v, vals, ⟨_, _, _, _, _, _, sv, svl⟩, ⟨hgB, hr.c 5, hr.c 3, hr.c 4, hr.c 7, hr.lt⟩, fun e he => ⟨v, vals, m, n, D, rv, he, ?_, ?_, ?_⟩⟩
    · rw [hB]
      have k1 := hd.ne hgB (by decide)
      exact hd.kp fun g hg => (Below.heap_setCell _ _ _ g (k1 g hg)).trans ((Below.heap_setCell _ _ _ g (k1 g hg)).trans (Below.heap_setCell _ _ _ g (k1 g hg)))
    · rw [hB]
      have k1 := ht.ne hgB (by decide) (by decide)
      exact ht.kp fun g hg => (Below.heap_setCell _ _ _ g (k1 g hg)).trans ((Below.heap_setCell _ _ _ g (k1 g hg)).trans (Below.heap_setCell _ _ _ g (k1 g hg)))
    · rw [hB]
      have hb1 : Below B w w1 := by rw [← hw1, ← hB]; exact vnew _ _
      have hb13 : Below B w1 w3 := ⟨hb3.os, hb3.tape, hb3.output, hb3.size, fun k hk => hb3.block k (by omega)⟩
      have hb3W := hV.toBelow (by have := hb3.size; omega)
      exact ((((hb1.trans hb13).trans hb3W).setCell (p := ⟨B, 0, none⟩) (Nat.le_refl B) _).setCell (p := ⟨B, 1, none⟩) (Nat.le_refl B) _).setCell (p := ⟨B, 2, none⟩) (Nat.le_refl B) _
  replace hfin := Lib.hid hfin
  obtain ⟨S, hS⟩ : ∃ S, bt T = S := ⟨_, rfl⟩
  have hSz : S.size ≤ 1048576 := by rw [← hS]; exact hT
  have hw3' : (w1.alloc (.map #[] 0)).alloc (.cells #[.string S, iz 0, iz 1, .string (bt []), .slice none 0 0, .slice none 0 0, .map (some (B + 1)), iz 0, iz 0] 64) = w3 := by rw [← hw3, ← hS]; rfl
  rw [hS]
  obtain ⟨P, hP⟩ : ∃ P, RDP w top (vids L) (vnvs L) F = P := ⟨_, rfl⟩
  rw [hP] at hfin ⊢
  have hmm := @run_makeMap Tryd.prog
  have t1 : decide ((1048576 : Int) < (S.size : Int)) = false := by simp; omega
  have hwA : ((w.alloc (.cells #[.string (bt []), .slice none 0 0, .slice none 0 0] 26)).alloc (.map #[] 0)).alloc (.cells #[.string S, iz 0, iz 1, .string (bt []), .slice none 0 0, .slice none 0 0, .map (some (B + 1)), iz 0, iz 0] 64) = w3 := by rw [hw1]; exact hw3'
  obtain ⟨q, hq⟩ : ∃ q, B + 2 = q := ⟨_, rfl⟩
  rw [hq] at hD hTm hfin
  have hq2 : w.heap.size + 1 + 1 = q := by omega
  have hBl : B < q := by omega
  rw [← hB] at hwA
  replace hwA := Lib.hid hwA
  replace hq2 := Lib.hid hq2
  replace hB := Lib.hid hB
  clear hw3' hw1 hq s1 s2 hg1 hb2 hb3 hm hg3 hx hokv hw3 hTe hw hn1 hn2 htop hok hi hn hl hE hT hS hP
  go_enter Tryd.func8, Tryd.ntmps8
  go_wp2_with fail
  rw [hwA.out, hq2.out]
  (with_reducible refine hD.out.mono ?_)
  rintro e w4 ⟨rfl, hQ, hV4⟩
  have hC := Lib.hid (hTm.out w4 hQ)
  replace hV4 := Lib.hid hV4
  clear hD hTm hQ
  go_wp2_with fail
  (with_reducible refine hC.out.mono ?_)
  rintro e w5 ⟨rfl, hZ, hV5⟩
  obtain ⟨v, vals, ⟨A1, N1, c1, A2, N2, c2, rfl, rfl⟩, ⟨hg, c5, c3, c4, c7, cl⟩, hF⟩ := hfin.out w5 (hV4.out.trans hV5) hZ
  replace hF := Lib.hid hF
  have b0 : w5.cell? ⟨B, 0, none⟩ = some (.string (bt [])) := hg.c 0
  have b1 : w5.cell? ⟨B, 1, none⟩ = some (.slice none 0 0) := hg.c 1
  have b2 : w5.cell? ⟨B, 2, none⟩ = some (.slice none 0 0) := hg.c 2
  have bl := hg.lt
  have f0 := hg.fz 0
  have f1 := hg.fz 1
  have f2 := hg.fz 2
  clear hC hZ hV5 hV4 hfin hg
  rw [hB.out]
  go_wp2_with fail
  exact bodyPost_ret (v := .tuple #[.agg #[.string (bt top), .slice A1 N1 c1, .slice A2 N2 c2], .int .i64 0, .int .i64 0]) (by simp [results, Tryd.results8, go_sem, b0, b1, b2]) rfl (hF.out _ rfl)
end Go.Proofs.YtbmdnmjgijblpaaDoor
