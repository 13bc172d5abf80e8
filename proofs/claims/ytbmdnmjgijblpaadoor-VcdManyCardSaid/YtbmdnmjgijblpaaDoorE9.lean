/-
  vcd's reader while it reads definitions: the row of its variables, the map of their Ids.
  slices.ContainsFunc over variables; a name known already.
  variable: a variable more: the map's store, the row's append.
-/
import Derived.Test.YtbmdnmjgijblpaaDoorE8
import Derived.Lib.OwnBridge
import Derived.Maps.OwnSet
import Derived.Maps.OwnOps
import Derived.Maps.Ext
import Derived.OwnWalk
namespace Go.Proofs.YtbmdnmjgijblpaaDoor
open Go Go.RowKit Go.Lib Go.Maps
theorem lt_of_get {w : World} {b : Nat} {o : Obj} (h : w.heap[b]? = some o) : b < w.heap.size := (Array.getElem?_eq_some_iff.1 h).1
theorem own_ltT {w : World} {B n s : Nat} {e : TypeId} {v : Value} {xs : List Value} (h : w.ownsRow B e s v n xs) : ∀ g, v.ownBlock = some g → B ≤ g ∧ g < w.heap.size := by
  rcases h.2 with ⟨rfl, _⟩ | ⟨g, cap, cur, rfl, hb, hg, h3⟩
  · intro g hg; cases hg
  · intro g' hg'
    cases hg'
    exact ⟨hb, (Array.getElem?_eq_some_iff.1 hg).1⟩
theorem own_keepT {w w' : World} {B n : Nat} {e : TypeId} {sz : Nat} {v : Value} {xs : List Value} (h : w.ownsRow B e sz v n xs) (hk : ∀ b, v.ownBlock = some b → w'.heap[b]? = w.heap[b]?) : w'.ownsRow B e sz v n xs := by
  refine ⟨h.1, ?_⟩
  rcases h.2 with hn | ⟨g, cap, cur, rfl, hb, hgg, rest⟩
  · exact .inl hn
  · exact .inr ⟨g, cap, cur, rfl, hb, (hk g rfl).trans hgg, rest⟩
theorem own_shape {w : World} {B n : Nat} {e : TypeId} {sz : Nat} {v : Value} {xs : List Value} (h : w.ownsRow B e sz v n xs) : ∃ A c, v = .slice A n c := by
  rcases h.2 with ⟨rfl, hn⟩ | ⟨g, cap, cur, rfl, _⟩
  · exact ⟨none, 0, by rw [hn]⟩
  · exact ⟨_, _, rfl⟩
theorem own_some {w : World} {B n : Nat} {e : TypeId} {sz : Nat} {v : Value} {xs : List Value} (h : w.ownsRow B e sz v n xs) (hn : 0 < n) : ∃ g c, v = .slice (some ⟨g, 0, none⟩) n c ∧ B ≤ g ∧ ∃ cur, w.heap[g]? = some (.cells cur e (0, 0)) ∧ cur.toList.take (n * sz) = xs := by
  rcases h.2 with ⟨rfl, h0⟩ | ⟨g, cap, cur, rfl, hb, hg, _, _, _, ht⟩
  · omega
  · exact ⟨g, cap, rfl, hb, cur, hg, ht⟩
theorem own_blk {w : World} {B n : Nat} {e : TypeId} {sz : Nat} {v : Value} {xs : List Value} (h : w.ownsRow B e sz v n xs) (b : Nat) (hb : v.ownBlock = some b) : ∃ cur, w.heap[b]? = some (.cells cur e (0, 0)) := by
  rcases h.2 with ⟨rfl, h0⟩ | ⟨g, cap, cur, rfl, hb2, hg, _⟩
  · cases hb
  · cases hb; exact ⟨cur, hg⟩
/-- A variable: its name and its Width. -/
abbrev NV := List UInt8 × Nat
def vcells (vs : List NV) : List Value := vs.flatMap fun x => [.string (bt x.1), iz (x.2 : Int)]
theorem vcells_app (F G : List NV) : vcells (F ++ G) = vcells F ++ vcells G := by simp [vcells]
theorem vcells_get : ∀ (F : List NV) (i : Nat) (p : NV), F[i]? = some p → (vcells F)[i * 2]? = some (.string (bt p.1)) ∧ (vcells F)[i * 2 + 1]? = some (iz (p.2 : Int))
  | [], i, p, h => by simp at h
  | q :: F, 0, p, h => by
    simp at h
    subst h
    exact ⟨rfl, rfl⟩
  | q :: F, i + 1, p, h => by
    have := vcells_get F i p (by simpa using h)
    rw [show (i + 1) * 2 = i * 2 + 1 + 1 by omega]
    simpa [vcells] using this
/-- The number of an Id. -/
def idn (ids : List (List UInt8)) (s : List UInt8) : Option Nat := ids.findIdx? (· == s)
theorem idn_app (ids : List (List UInt8)) (x s : List UInt8) : idn (ids ++ [x]) s = (idn ids s).or (if x = s then some ids.length else none) := by
  unfold idn
  rw [List.findIdx?_append]
  by_cases e : x = s
  · subst e; simp [List.findIdx?_cons]
  · simp [List.findIdx?_cons, e]
theorem idn_none {ids : List (List UInt8)} {s : List UInt8} (h : s ∉ ids) : idn ids s = none := by
  unfold idn
  rw [List.findIdx?_eq_none_iff]
  intro x hx
  apply beq_eq_false_iff_ne.2
  intro e
  exact h (e ▸ hx)
abbrev DU := DataW Unit
def AgI (D : DU) (ids : List (List UInt8)) : Prop := IsMap D ∧ ∀ s, Maps.has D (.string s) = (idn ids s).isSome ∧ ∀ i, idn ids s = some i → ∀ z, D.atKey (.string s) z = .lit (.int .i64 (i : Int))
theorem AgI.new : AgI (.map []) [] := ⟨isMap_empty, fun _ => ⟨rfl, fun _ h => by cases h⟩⟩
theorem AgI.put {D : DU} {ids : List (List UInt8)} (h : AgI D ids) {x : List UInt8} (hx : x ∉ ids) : AgI (D.put (.string x) (.lit (.int .i64 (ids.length : Int)))) (ids ++ [x]) := by
  refine ⟨h.1.put _ _, fun s => ?_⟩
  rw [idn_app]
  by_cases e : x = s
  · subst e
    rw [idn_none hx, if_pos rfl]
    exact ⟨has_put_same h.1 (by exact trivial) _, fun i hi z => by cases hi; exact atKey_put_same h.1 (by exact trivial) _ _⟩
  · rw [if_neg e, Option.or_none]
    have hne : Lit.string s ≠ Lit.string x := fun h' => e (by injection h' with h'; exact h'.symm)
    refine ⟨by rw [has_put_other hne]; exact (h.2 s).1, fun i hi z => ?_⟩
    rw [atKey_put_other hne]
    exact (h.2 s).2 i hi z
theorem kS : Keyed Tryd.prog 9 := string_keyed Tryd.underlying9
theorem zI (w : World) : (zeroValue 3).run Tryd.prog w = .ok (.int .i64 0) w := by kernel_rfl
/-- Block m is a map that reads as D. -/
abbrev MapIs (w : World) (m n : Nat) (D : DU) : Prop := w.ownsMap Tryd.prog 9 (plainElem (H := Unit) Tryd.prog 3) m n D
theorem map_keep {w w' : World} {m n : Nat} {D : DU} (h : MapIs w m n D) (k : w'.heap[m]? = w.heap[m]?) : MapIs w' m n D := by
  unfold MapIs World.ownsMap at *
  rw [k]
  exact h
theorem key_s (l : List UInt8) (hl : l.length ≤ 1000) : keyOf Tryd.prog 9 (.string (bt l)) = some (.string l) := WideMaps.keyOf_string_mk Tryd.underlying9 (by show l.length ≤ maxLen; unfold maxLen; omega)
theorem look_id {w : World} {m n : Nat} {D : DU} {ids : List (List UInt8)} (h : MapIs w m n D) (ha : AgI D ids) (x : List UInt8) (hx : x.length ≤ 1000) :
    ∃ c : Int, (∀ k, (Instr.lookup 62 (.map (some m)) (.string (bt x)) true).run Tryd.prog (w.drewN k) = .ok (.tuple #[.int .i64 c, .bool (idn ids x).isSome]) (w.drewN k)) ∧ ∀ i : Nat, idn ids x = some i → c = (i : Int) := by
  have hk : ∀ k, ∃ v ps, (Instr.lookup 62 (.map (some m)) (.string (bt x)) true).run Tryd.prog (w.drewN k) = .ok (.tuple #[v, .bool (Maps.has D (.string x))]) (w.drewN k) ∧ plainElem Tryd.prog 3 v = some (D.atKey (.string x) (.lit (.int .i64 ((0 : Nat) : Int))), ps) := fun k =>
    World.ownsMap.look_ok (map_keep (w' := w.drewN k) h rfl) kS Tryd.underlying62 (zI _) (plainElem_int Tryd.underlying3 (WalkArith.wf_i64 (by omega))) (key_s x hx)
  obtain ⟨e1, e2⟩ := ha.2 x
  obtain ⟨v, ps, hr, hv⟩ := hk 0
  obtain ⟨c, rfl, hc, _⟩ := plainElem_int_inv Tryd.underlying3 hv
  refine ⟨c, fun k => ?_, fun i hi => ?_⟩
  · obtain ⟨v', ps', hr', hv'⟩ := hk k
    obtain ⟨c', rfl, hc', _⟩ := plainElem_int_inv Tryd.underlying3 hv'
    have ea := (Prod.mk.inj hc).1
    have eb := (Prod.mk.inj hc').1
    have hcc : c = c' := by
      have h3 := ea.symm.trans eb
      exact (Lit.int.inj (DataW.lit.inj h3)).2
    rw [← e1, hcc]
    exact hr'
  have h3 := (Prod.mk.inj hc).1
  rw [e2 i hi] at h3
  exact (Lit.int.inj (DataW.lit.inj h3)).2.symm
/-- What reading a dump may change: the reader, its rows, its map. -/
structure VW (B q : Nat) (w w' : World) : Prop where
  os : w'.os = w.os
  tape : w'.tape = w.tape
  output : w'.output = w.output
  size : w.heap.size ≤ w'.heap.size
  low : ∀ k, k < B → k < w.heap.size → w'.heap[k]? = w.heap[k]?
  oth : ∀ k cs T f, w.heap[k]? = some (.cells cs T f) → k ≠ q → T ≠ 30 → T ≠ 34 → T ≠ 27 → w'.heap[k]? = some (.cells cs T f)
theorem VW.refl (B q : Nat) (w : World) : VW B q w w := ⟨rfl, rfl, rfl, Nat.le_refl _, fun _ _ _ => rfl, fun _ _ _ _ h _ _ _ _ => h⟩
theorem VW.trans {B q : Nat} {u v w : World} (h : VW B q u v) (k : VW B q v w) : VW B q u w :=
  ⟨k.os.trans h.os, k.tape.trans h.tape, k.output.trans h.output, Nat.le_trans h.size k.size, fun i hi hu => (k.low i hi (Nat.lt_of_lt_of_le hu h.size)).trans (h.low i hi hu), fun i cs T f hc h1 h2 h3 h4 => k.oth i cs T f (h.oth i cs T f hc h1 h2 h3 h4) h1 h2 h3 h4⟩
theorem VW.kv {B q : Nat} {w w' : World} (h : KV q w w') (hB : B ≤ q) : VW B q w w' :=
  ⟨h.os, h.tape, h.output, h.size, fun k hk hs => h.blk k (by omega) hs, fun k _ _ _ hc h1 _ _ _ => (h.blk k h1 (lt_of_get hc)).trans hc⟩
theorem VW.below {B q : Nat} {w w' : World} (h : Below w.heap.size w w') : VW B q w w' :=
  ⟨h.os, h.tape, h.output, h.size, fun k _ hs => h.block k hs, fun k _ _ _ hc _ _ _ _ => (h.block k (lt_of_get hc)).trans hc⟩
theorem VW.toBelow {B q : Nat} {w w' : World} (h : VW B q w w') (hB : B ≤ w.heap.size) : Below B w w' := ⟨h.os, h.tape, h.output, h.size, fun k hk => h.low k hk (by omega)⟩
theorem VW.cv {B q : Nat} {w w' : World} (h : VW B q w w') {b : Nat} {cs : Array Value} {T : TypeId} (hb : CV w b cs T) (hq : b ≠ q) (h1 : T ≠ 30) (h2 : T ≠ 34) (h3 : T ≠ 27) : CV w' b cs T := h.oth b cs T (0, 0) hb hq h1 h2 h3
/-- The reader while it reads definitions. -/
abbrev mkD (T top : List UInt8) (v : Value) (m : Nat) : Nat → Nat → VR := fun i ln => { T := T, i := i, ln := ln, top := top, vars := v, vals := .slice none 0 0, nums := .map (some m), err := 0, el := 0 }
theorem mkD_MK (T top : List UInt8) (v : Value) (m : Nat) : MK T (mkD T top v m) := ⟨fun _ _ => rfl, fun _ _ => rfl, fun _ _ => rfl, fun _ _ _ _ => rfl⟩
/-- The variables vs with the Ids ids: a row and a map. -/
structure DX (w : World) (B : Nat) (ids : List (List UInt8)) (vs : List NV) (v : Value) (m n : Nat) (D : DU) : Prop where
  bm : B ≤ m
  row : w.ownsRow B 30 2 v vs.length (vcells vs)
  mp : MapIs w m n D
  ag : AgI D ids
  nl : n ≤ ids.length
  le : ids.length = vs.length
  sm : vs.length ≤ 300
section
variable {w w' : World} {B q m n : Nat} {ids : List (List UInt8)} {vs : List NV} {v : Value} {D : DU}
theorem DX.vm (h : DX w B ids vs v m n D) : v.ownBlock ≠ some m := fun e => by
  obtain ⟨cur, hc⟩ := own_blk h.row m e
  obtain ⟨es, c, hm, _⟩ := h.mp
  rw [hm] at hc
  cases hc
theorem DX.map_obj (h : DX w B ids vs v m n D) : ∃ es c, w.heap[m]? = some (.map es c) := by
  obtain ⟨es, c, e, _⟩ := h.mp
  exact ⟨es, c, e⟩
theorem DX.kp (h : DX w B ids vs v m n D) (k : ∀ g, v.ownBlock = some g ∨ g = m → w'.heap[g]? = w.heap[g]?) : DX w' B ids vs v m n D :=
  { bm := h.bm, row := own_keepT h.row fun b hb => k b (.inl hb), mp := map_keep h.mp (k m (.inr rfl)), ag := h.ag, nl := h.nl, le := h.le, sm := h.sm }
theorem DX.lt (h : DX w B ids vs v m n D) (g : Nat) (hg : v.ownBlock = some g ∨ g = m) : B ≤ g ∧ g < w.heap.size := by
  rcases hg with e | rfl
  · exact own_ltT h.row g e
  · exact ⟨h.bm, h.mp.lt⟩
theorem DX.over (h : DX w B ids vs v m n D) (k : Below w.heap.size w w') : DX w' B ids vs v m n D := h.kp fun g hg => k.block g (h.lt g hg).2
/-- A block of another type is none of them. -/
theorem DX.ne (h : DX w B ids vs v m n D) {b : Nat} {cs : Array Value} {T : TypeId} (hb : CV w b cs T) (hT : T ≠ 30) (g : Nat) (hg : v.ownBlock = some g ∨ g = m) : g ≠ b := fun e => by
  subst e
  rcases hg with e | e
  · obtain ⟨cur, hc⟩ := own_blk h.row g e
    have : some (Obj.cells cs T (0, 0)) = some (.cells cur 30 (0, 0)) := hb.symm.trans hc
    cases this
    exact hT rfl
  · obtain ⟨es, c, hm⟩ := h.map_obj
    rw [← e, show w.heap[g]? = _ from hb] at hm
    cases hm
theorem DX.kv (h : DX w B ids vs v m n D) {cs : Array Value} (hq : CV w q cs 64) (k : KV q w w') : DX w' B ids vs v m n D := h.kp fun g hg => k.blk g (h.ne hq (by decide) g hg) (h.lt g hg).2
theorem DX.cell (h : DX w B ids vs v m n D) {g c : Nat} (hv : v = .slice (some ⟨g, 0, none⟩) vs.length c) {i : Nat} {x : NV} (hi : vs[i]? = some x) :
    w.cell? ⟨g, i * 2, none⟩ = some (.string (bt x.1)) ∧ w.cell? ⟨g, i * 2 + 1, none⟩ = some (iz (x.2 : Int)) := by
  obtain ⟨h1, h2⟩ := vcells_get vs i x hi
  have hb : v.ownBlock = some g := by rw [hv]; rfl
  have e : ∀ x, (⟨g, 0, none⟩ : Addr).add x = ⟨g, x, none⟩ := fun x => by unfold Addr.add; split <;> simp_all
  exact ⟨by rw [← e]; exact h.row.cells hb _ _ h1, by rw [← e]; exact h.row.cells hb _ _ h2⟩
end
/-- The reader stands at p of T; vs with ids are read; the words l are still to come. -/
def DR (w : World) (B q : Nat) (T top : List UInt8) (ids : List (List UInt8)) (vs : List NV) (p : Nat) (l : List (UInt8 × List UInt8)) : Prop := B ≤ q ∧ ∃ v m n D, DX w B ids vs v m n D ∧ RX w q (mkD T top v m) T p l
theorem RX.cv {w : World} {q : Nat} {T top : List UInt8} {v : Value} {m p : Nat} {l : List (UInt8 × List UInt8)} (h : RX w q (mkD T top v m) T p l) : ∃ cs, CV w q cs 64 ∧ w.cell? ⟨q, 4, none⟩ = some v ∧ w.cell? ⟨q, 5, none⟩ = some (.slice none 0 0) ∧ w.cell? ⟨q, 6, none⟩ = some (.map (some m)) := by
  obtain ⟨ln, h1, _, _⟩ := h
  exact ⟨_, h1, h1.c 4, h1.c 5, h1.c 6⟩
end Go.Proofs.YtbmdnmjgijblpaaDoor
namespace Go.Proofs.YtbmdnmjgijblpaaDoor
open Go Go.RowKit Go.Lib
/-- A slice of variables reads as vs. -/
def RVs (w : World) (A : Option Addr) (vs : List NV) : Prop := 0 < vs.length → ∃ b, A = some ⟨b, 0, none⟩ ∧ b < w.heap.size ∧ ∀ i x, vs[i]? = some x → w.cell? ⟨b, i * 2, none⟩ = some (.string (bt x.1)) ∧ w.cell? ⟨b, i * 2 + 1, none⟩ = some (iz (x.2 : Int))
theorem RVs.over {w w' : World} {A : Option Addr} {vs : List NV} (h : RVs w A vs) (k : Below w.heap.size w w') : RVs w' A vs := fun h0 => by
  obtain ⟨b, e, hb, hc⟩ := h h0
  exact ⟨b, e, Nat.lt_of_lt_of_le hb k.size, fun i x hi => ⟨(k.cell (p := ⟨b, i * 2, none⟩) hb).trans (hc i x hi).1, (k.cell (p := ⟨b, i * 2 + 1, none⟩) hb).trans (hc i x hi).2⟩⟩
theorem DX.rv {w : World} {B m n : Nat} {ids : List (List UInt8)} {vs : List NV} {v : Value} {D : DU} (h : DX w B ids vs v m n D) : ∃ A c, v = .slice A vs.length c ∧ RVs w A vs := by
  rcases Nat.eq_zero_or_pos vs.length with h0 | h0
  · obtain ⟨A, c, e⟩ := own_shape h.row
    exact ⟨A, c, e, fun hp => by omega⟩
  · obtain ⟨g, c, e, _, cur, hg, _⟩ := own_some h.row h0
    exact ⟨_, c, e, fun _ => ⟨g, rfl, lt_of_get hg, fun i x hi => h.cell e hi⟩⟩
theorem any_take_f {vs : List NV} {p : NV → Bool} {k : Nat} {x : NV} (h : vs[k]? = some x) : (vs.take (k + 1)).any p = ((vs.take k).any p || p x) := by
  obtain ⟨h1, h2⟩ := List.getElem?_eq_some_iff.1 h
  rw [List.take_succ_eq_append_getElem h1, List.any_append, h2]
  simp
theorem below_step {a b c : World} (h : Below a.heap.size a b) (k : Below b.heap.size b c) : Below a.heap.size a c :=
  ⟨k.os.trans h.os, k.tape.trans h.tape, k.output.trans h.output, Nat.le_trans h.size k.size, fun i hi => (k.block i (Nat.lt_of_lt_of_le hi h.size)).trans (h.block i hi)⟩
set_option maxHeartbeats 1600000 in
set_option maxRecDepth 100000 in
theorem idxV_t (g : Nat) (lb : Array Value) (eg : ∀ args w, (callFunc g args).run Tryd.prog w = .ok (.enter g args) w) (p : NV → Bool) (vs : List NV) (c : Nat) (A : Option Addr) (w : World) (hl : vs.length ≤ 100000) (hA : RVs w A vs)
    (hp : ∀ x, x ∈ vs → ∀ W : World, Below w.heap.size w W → Calls Tryd.prog g (#[.agg #[.string (bt x.1), iz (x.2 : Int)]] ++ lb) W fun e W' => e = .returned (.bool (p x)) ∧ Below W.heap.size W W') :
    Calls Tryd.prog 46 #[.slice A vs.length c, .func (.func g) #[] lb] w fun e w' => ∃ r : Int, e = .returned (iz r) ∧ decide (r ≥ 0) = vs.any p ∧ Below w.heap.size w w' := by
  obtain ⟨n, hn⟩ : ∃ n, vs.length = n := ⟨_, rfl⟩
  rw [hn] at hl ⊢
  replace hA := Lib.hid hA
  replace hp := Lib.hid hp
  replace hn := Lib.hid hn
  go_enter Tryd.func46, Tryd.ntmps46
  go_wp2_with fail
  go_loopw [8] (fun i wr => ∃ k : Nat, k ≤ n ∧ i = .int .i64 (k : Int) ∧ Hid ((vs.take k).any p = false ∧ Below w.heap.size w wr)) (fun i _ => n - (RowKit.intOf i).toNat)
  case atStart => exact ⟨0, Nat.zero_le _, rfl, Lib.hid ⟨rfl, Below.refl _ _⟩⟩
  case round =>
    obtain ⟨k, hk, rfl, hI⟩ := hrel
    by_cases hlt : k < n
    · have hkl : k < vs.length := by have := hn.out; omega
      obtain ⟨x, hx⟩ : ∃ x, vs[k]? = some x := ⟨_, List.getElem?_eq_getElem hkl⟩
      have hany := any_take_f (p := p) hx
      rw [hI.out.1, Bool.false_or] at hany
      have hRV := hA.out.over hI.out.2
      obtain ⟨b, rfl, hb, hc⟩ := hRV (by omega)
      obtain ⟨c0, c1⟩ := hc k x hx
      have cS := hp.out x (List.mem_of_getElem? hx) wr hI.out.2
      have hbI := Lib.hid hI.out.2
      have hyes : p x = true → vs.any p = true := fun h => List.any_eq_true.2 ⟨x, List.mem_of_getElem? hx, h⟩
      obtain ⟨S, hS⟩ : ∃ S, bt x.1 = S := ⟨_, rfl⟩
      obtain ⟨u, hu⟩ : ∃ u : Int, ((x.2 : Nat) : Int) = u := ⟨_, rfl⟩
      rw [hS] at c0 cS
      rw [hu] at c1 cS
      clear hS hu hc hx hRV hI hkl
      cases hpx : p x
      · rw [hpx] at cS hany
        replace cS := Lib.hid cS
        replace hany := Lib.hid hany
        clear hyes hpx
        go_wp2_with fail
        go_at_fn g
        refine cS.out.mono ?_
        rintro e w1 ⟨rfl, hw1⟩
        have hI2 := Lib.hid (And.intro hany.out (below_step hbI.out hw1))
        clear cS hw1
        go_wp2_with fail
        go_roundw
        case rel => exact ⟨k + 1, by omega, by go_num, hI2⟩
        case measure => simp [RowKit.intOf]; omega
      · rw [hpx] at cS
        replace cS := Lib.hid cS
        replace hyes := Lib.hid (hyes hpx)
        clear hany hpx
        go_wp2_with fail
        go_at_fn g
        refine cS.out.mono ?_
        rintro e w1 ⟨rfl, hw1⟩
        have hI2 := Lib.hid (below_step hbI.out hw1)
        clear cS hw1
        go_wp2_with fail
        go_ret
        exact ⟨(k : Int), rfl, by rw [hyes.out]; simp, hI2.out⟩
    · obtain rfl : k = n := by omega
      have hno : vs.any p = false := by have := hI.out.1; rwa [List.take_of_length_le (by have := hn.out; omega)] at this
      have hb := Lib.hid hI.out.2
      replace hno := Lib.hid hno
      clear hI
      go_wp2_with fail
      go_ret
      exact ⟨-1, rfl, by rw [hno.out]; rfl, hb.out⟩
set_option maxHeartbeats 1600000 in
set_option maxRecDepth 100000 in
theorem contV_t (g : Nat) (lb : Array Value) (eg : ∀ args w, (callFunc g args).run Tryd.prog w = .ok (.enter g args) w) (p : NV → Bool) (vs : List NV) (c : Nat) (A : Option Addr) (w : World) (hl : vs.length ≤ 100000) (hA : RVs w A vs)
    (hp : ∀ x, x ∈ vs → ∀ W : World, Below w.heap.size w W → Calls Tryd.prog g (#[.agg #[.string (bt x.1), iz (x.2 : Int)]] ++ lb) W fun e W' => e = .returned (.bool (p x)) ∧ Below W.heap.size W W') :
    Calls Tryd.prog 27 #[.slice A vs.length c, .func (.func g) #[] lb] w fun e w' => e = .returned (.bool (vs.any p)) ∧ Below w.heap.size w w' := by
  have hI := idxV_t g lb eg p vs c A w hl hA hp
  obtain ⟨n, hn⟩ : ∃ n, vs.length = n := ⟨_, rfl⟩
  rw [hn] at hI ⊢
  obtain ⟨R, hR⟩ : ∃ R, vs.any p = R := ⟨_, rfl⟩
  rw [hR] at hI ⊢
  replace hI := Lib.hid hI
  clear hA hp hn hR hl
  go_enter Tryd.func27, Tryd.ntmps27
  go_wp2_with fail
  (with_reducible refine hI.out.mono ?_)
  rintro e w' ⟨r, rfl, hr, hb⟩
  replace hr := Lib.hid hr
  replace hb := Lib.hid hb
  go_wp2_with fail
  go_ret
  exact ⟨ret_b hr.out, hb.out⟩
set_option maxHeartbeats 1600000 in
set_option maxRecDepth 100000 in
/-- The closure of variable: is it this name? -/
theorem same_t (x : NV) (nm : List UInt8) (ln : Int) (g : Nat) (W : World) (hg : CV W g #[.string (bt nm), iz ln] 76) :
    Calls Tryd.prog 55 #[.agg #[.string (bt x.1), iz (x.2 : Int)], pp g] W fun e W' => e = .returned (.bool (x.1 == nm)) ∧ Below W.heap.size W W' := by
  have c0 : W.cell? ⟨g, 0, none⟩ = some (.string (bt nm)) := hg.c 0
  have gl := hg.lt
  have hbx := vnew W (.cells #[.string (bt x.1), iz (x.2 : Int)] 30)
  have hv : ((bt x.1).toList == (bt nm).toList) = (x.1 == nm) := by rw [Lib.toList_data, Lib.toList_data]
  obtain ⟨R, hR⟩ : ∃ R, (x.1 == nm) = R := ⟨_, rfl⟩
  rw [hR] at hv ⊢
  obtain ⟨S, hS⟩ : ∃ S, bt x.1 = S := ⟨_, rfl⟩
  obtain ⟨S2, hS2⟩ : ∃ S, bt nm = S := ⟨_, rfl⟩
  obtain ⟨u, hu⟩ : ∃ u : Int, ((x.2 : Nat) : Int) = u := ⟨_, rfl⟩
  rw [hS, hS2] at hv
  rw [hS, hu] at hbx
  rw [hS2] at c0
  rw [hS, hu]
  replace hbx := Lib.hid hbx
  clear hR hS hS2 hu hg
  go_enter Tryd.func55, Tryd.ntmps55
  go_wp2_with fail
  go_ret
  exact ⟨rfl, hbx.out⟩
end Go.Proofs.YtbmdnmjgijblpaaDoor
namespace Go.Proofs.YtbmdnmjgijblpaaDoor
open Go Go.RowKit Go.Lib Go.Maps
theorem VW.grown {B q : Nat} {a b : World} {row : Option Nat} (h : a.grownBy b row) (hr : ∀ g, row = some g → B ≤ g ∧ ∀ cs T f, a.heap[g]? = some (.cells cs T f) → T = 30) : VW B q a b :=
  ⟨h.os, h.tape, h.output, h.size, fun k hk hs => h.block k hs fun e => by have := (hr k e.symm).1; omega,
    fun k cs T f hc _ h1 _ _ => (h.block k (lt_of_get hc) fun e => h1 ((hr k e.symm).2 cs T f hc)).trans hc⟩
theorem VW.set {B q : Nat} (w : World) (i : Nat) (u : Value) (hB : B ≤ q) : VW B q w (w.setCell ⟨q, i, none⟩ u) := VW.kv (KV.set q i w u) hB
theorem info_var : (Tryd.prog.info? 30).map (fun i => (i.zero, i.size, i.bytes)) = some (some (.agg #[.string ⟨#[]⟩, .int .i64 0]), 2, 24) := by kernel_rfl
/-- The store of an Id. -/
theorem DX.store {w : World} {B q m n p : Nat} {T top : List UInt8} {ids : List (List UInt8)} {vs : List NV} {v : Value} {D : DU} {l : List (UInt8 × List UInt8)} (h : DX w B ids vs v m n D) (hr : RX w q (mkD T top v m) T p l) (_hq : B ≤ q) (id : List UInt8) (hid : id.length ≤ 1000) (hsm : vs.length < 300) :
    ∃ w', (Instr.mapUpdate 62 (.map (some m)) (.string (bt id)) (.int .i64 (vs.length : Int))).run Tryd.prog w.drew = .ok () w' ∧ RX w' q (mkD T top v m) T p l ∧ w'.ownsRow B 30 2 v vs.length (vcells vs) ∧ MapIs w' m (n + 1) (D.put (.string id) (.lit (.int .i64 (vs.length : Int)))) ∧ VW B q w w' := by
  obtain ⟨w', h1, h2, h3⟩ := World.ownsMap.update (World.ownsMap.drew h.mp) kS Tryd.underlying62 (by unfold maxLen; have := h.nl; have := h.le; omega) (key_s id hid) (plainElem_int Tryd.underlying3 (WalkArith.wf_i64 (n := (vs.length : Int)) (by omega)))
  have hb : ∀ k, k < w.heap.size → k ≠ m → w'.heap[k]? = w.heap[k]? := fun k hk hm => h3.block k hk fun e => hm (Option.some.inj e)
  refine ⟨w', h1, ?_, ?_, h2, ?_⟩
  · obtain ⟨ln, g1, g2, g3⟩ := hr
    have hqm : q ≠ m := fun e => h.ne g1 (by decide) m (.inr rfl) e.symm
    exact ⟨ln, (hb q g1.lt hqm).trans g1, g2, g3⟩
  · exact own_keepT h.row fun b hb2 => hb b (h.lt b (.inl hb2)).2 fun e => h.vm (by rw [hb2, e])
  · have h4 : w.grownBy w' (some m) := ⟨h3.os, h3.tape, h3.output, h3.size, h3.block⟩
    refine VW.grown h4 fun g hg => ?_
    cases hg
    refine ⟨h.bm, fun cs T f hc => ?_⟩
    obtain ⟨es, c, hm⟩ := h.map_obj
    rw [hm] at hc
    cases hc
/-- Behind the append and the store of the row. -/
theorem DR.add {w w2 w3 : World} {B q m n p g cap N : Nat} {T top : List UInt8} {ids : List (List UInt8)} {vs : List NV} {v : Value} {D : DU} {l : List (UInt8 × List UInt8)} {nm id : List UInt8} {u : Nat} (hN : N = vs.length) (hr : RX w q (mkD T top v m) T p l) (hrow : w.ownsRow B 30 2 v vs.length (vcells vs)) (hm : MapIs w m n (D.put (.string id) (.lit (.int .i64 (vs.length : Int)))))
    (hB : B ≤ q) (hBm : B ≤ m) (hag : AgI D ids) (hnl : n ≤ ids.length + 1) (hle : ids.length = vs.length) (hid : id ∉ ids) (hsm : vs.length < 300)
    (hb : Below w.heap.size w w2) (ho : w3.ownsRow B 30 2 (.slice (some ⟨g, 0, none⟩) (N + 1) cap) (N + 1) (vcells vs ++ [.string (bt nm), iz (u : Int)])) (hg : w2.grownBy w3 v.ownBlock) (hgb : v.ownBlock = some g ∨ w.heap.size ≤ g) :
    DR (w3.setCell ⟨q, 4, none⟩ (.slice (some ⟨g, 0, none⟩) (N + 1) cap)) B q T top (ids ++ [id]) (vs ++ [(nm, u)]) p l ∧ VW B q w (w3.setCell ⟨q, 4, none⟩ (.slice (some ⟨g, 0, none⟩) (N + 1) cap)) := by
  subst hN
  obtain ⟨ln, g1, g2, g3⟩ := hr
  have hvq : v.ownBlock ≠ some q := fun e => by
    obtain ⟨cur, hc⟩ := own_blk hrow q e
    have : some (Obj.cells (vrc (mkD T top v m p ln)) 64 (0, 0)) = some (.cells cur 30 (0, 0)) := g1.symm.trans hc
    cases this
  have hmo : ∃ es c, w.heap[m]? = some (.map es c) := by
    obtain ⟨es, c, e, _⟩ := hm
    exact ⟨es, c, e⟩
  have hmq : m ≠ q := fun e => by
    obtain ⟨es, c, e2⟩ := hmo
    rw [e, show w.heap[q]? = _ from g1] at e2
    cases e2
  have hvm : v.ownBlock ≠ some m := fun e => by
    obtain ⟨cur, hc⟩ := own_blk hrow m e
    obtain ⟨es, c, e2⟩ := hmo
    rw [e2] at hc
    cases hc
  have hgq : g ≠ q := by
    rcases hgb with e | e
    · intro e2; rw [e2] at e; exact hvq e
    · have := g1.lt; omega
  have k2 : CV w2 q (vrc (mkD T top v m p ln)) 64 := g1.over hb
  have k3 : CV w3 q (vrc (mkD T top v m p ln)) 64 := (hg.block q k2.lt fun e => hvq e.symm).trans k2
  have k4 : VX (w3.setCell ⟨q, 4, none⟩ (.slice (some ⟨g, 0, none⟩) (vs.length + 1) cap)) q (mkD T top (.slice (some ⟨g, 0, none⟩) (vs.length + 1) cap) m p ln) := by
    have := k3.set 4 (.slice (some ⟨g, 0, none⟩) (vs.length + 1) cap)
    exact this
  have m2 : MapIs w2 m n (D.put (.string id) (.lit (.int .i64 (vs.length : Int)))) := map_keep hm (hb.block m hm.lt)
  have hlen : (vs ++ [(nm, u)]).length = vs.length + 1 := by simp
  refine ⟨⟨hB, _, m, n, _, { bm := hBm, row := ?_, mp := (m2.kept hg fun e => hvm e.symm).setCell hmq _, ag := ?_, nl := ?_, le := ?_, sm := ?_ }, ln, k4, g2, g3⟩, ?_⟩
  · rw [hlen, vcells_app]
    exact own_keepT ho fun b hb => by cases hb; exact Below.heap_setCell _ _ _ _ hgq
  · rw [← hle]; exact hag.put hid
  · rw [List.length_append]; simp; omega
  · rw [List.length_append, hlen]; simp; omega
  · rw [hlen]; omega
  · refine ((VW.below hb).trans (VW.grown hg fun x hx => ?_)).trans (VW.set w3 4 _ hB)
    refine ⟨(own_ltT hrow x hx).1, fun cs T' f hc => ?_⟩
    obtain ⟨cur, hc2⟩ := own_blk hrow x hx
    have hlt := (own_ltT hrow x hx).2
    rw [hb.block x hlt, hc2] at hc
    cases hc
    rfl
end Go.Proofs.YtbmdnmjgijblpaaDoor
