/-
  The names of konst: a map that reads as a list of names with their numbers; maps.Copy; With, Find, Len.
  With, Find, Len of an Env; the evaluator's name.
  With upon names that are there; Find; Len.
  The evaluator's name; the operators of konst.
-/
import Derived.Test.YtdjaikglkgabdaaGreatDoorXd
import Derived.Maps.OwnSet
import Derived.Maps.RangeWalk
import Derived.Maps.Ext
import Derived.Deep.RegionHeld3
import Derived.Deep.OwnRows
namespace Go.Proofs.YtdjaikglkgabdaaGreatDoor
open Go.RowKit Go.Lib Go.Maps
abbrev DU := DataW Unit
def putL (D : DU) (x : List UInt8 × Int) : DU := D.put (.string x.1) (.lit (.int .i64 x.2))
/-- The names with their numbers, in the order in which they were given, as a map. -/
def DM (es : List (List UInt8 × Int)) : DU := es.foldl putL (.map [])
def stepE (env : List UInt8 → Option Int) (x : List UInt8 × Int) : List UInt8 → Option Int := fun s => if s = x.1 then some x.2 else env s
def envL (es : List (List UInt8 × Int)) : List UInt8 → Option Int := es.foldl stepE (fun _ => none)
def AgE (D : DU) (env : List UInt8 → Option Int) : Prop := IsMap D ∧ ∀ s, Maps.has D (.string s) = (env s).isSome ∧ ∀ n z, env s = some n → D.atKey (.string s) z = .lit (.int .i64 n)
theorem AgE.put {D : DU} {env : List UInt8 → Option Int} (h : AgE D env) (x : List UInt8 × Int) : AgE (putL D x) (stepE env x) := by
  refine ⟨h.1.put _ _, fun s => ?_⟩
  unfold putL stepE
  by_cases e : s = x.1
  · subst e
    rw [if_pos rfl]
    exact ⟨has_put_same h.1 (by exact trivial) _, fun n z hn => by cases hn; exact atKey_put_same h.1 (by exact trivial) _ _⟩
  · rw [if_neg e]
    have hne : Lit.string s ≠ Lit.string x.1 := fun h' => e (by injection h')
    refine ⟨by rw [has_put_other hne]; exact (h.2 s).1, fun n z hn => ?_⟩
    rw [atKey_put_other hne]
    exact (h.2 s).2 n z hn
theorem AgE.fold : ∀ (es : List (List UInt8 × Int)) {D : DU} {env : List UInt8 → Option Int}, AgE D env → AgE (es.foldl putL D) (es.foldl stepE env)
  | [], _, _, h => h
  | x :: es, _, _, h => AgE.fold es (h.put x)
theorem DM_ag (es : List (List UInt8 × Int)) : AgE (DM es) (envL es) := AgE.fold es ⟨isMap_empty, fun _ => ⟨rfl, fun _ _ h => by cases h⟩⟩
theorem DM_snoc (es : List (List UInt8 × Int)) (x : List UInt8 × Int) : DM (es ++ [x]) = putL (DM es) x := by unfold DM; rw [List.foldl_append]; rfl
theorem envL_snoc (es : List (List UInt8 × Int)) (x : List UInt8 × Int) : envL (es ++ [x]) = stepE (envL es) x := by unfold envL; rw [List.foldl_append]; rfl
theorem kS : Keyed Tryz.prog 9 := string_keyed Tryz.underlying9
theorem zI (w : World) : (zeroValue 3).run Tryz.prog w = .ok (.int .i64 0) w := by kernel_rfl
/-- Block m is a map that reads as D. -/
abbrev MapIs (w : World) (m n : Nat) (D : DU) : Prop := w.ownsMap Tryz.prog 9 (plainElem (H := Unit) Tryz.prog 3) m n D
/-- The map of an Env. -/
def EnvIs (w : World) (M : Value) (es : List (List UInt8 × Int)) : Prop := (M = .map none ∧ es = []) ∨ ∃ m n, M = .map (some m) ∧ MapIs w m n (DM es) ∧ n ≤ 1000 * es.length
theorem MapIs.keep {w w' : World} {F : Nat → Prop} {m n : Nat} {D : DU} (h : MapIs w m n D) (k : Keep F w w') (hm : ¬ F m) : MapIs w' m n D := by
  unfold MapIs World.ownsMap at *
  rw [k.block m (by obtain ⟨es, c, e, _⟩ := h; exact lt_of_get e) hm]
  exact h
/-- THE RANGE's STEP, keys that are strings, integers as elements. -/
theorem next_si {w : World} {ops : Array Oper} {rest : List Oper} {o : Oper} {a : Act} {Q : Exit → Act → World → Prop}
    (hg : o.guard = none) (it : Operand) (hop : o.op = Op.next it false)
    (b r n : Nat) (D : DU) (left : Lit → Bool) (cnt : Nat) (hit : a.eval it = .pointer (some ⟨r, 0, none⟩)) (h : w.ranges Tryz.prog 9 (plainElem (H := Unit) Tryz.prog 3) b r n D left cnt)
    (hDone : cnt = 0 → (∀ kl, left kl = false) → wpList Tryz.prog ops Q rest (a.put o.dst (.tuple #[.bool false])) w)
    (hMore : ∀ (x : ByteArray) (c : Int) (w' : World) (cnt' : Nat), x.size ≤ maxLen → (Lit.int .i64 c).wf = true → left (.string x.data.toList) = true → (∀ zd, D.atKey (.string x.data.toList) zd = .lit (.int .i64 c)) → w'.ranges Tryz.prog 9 (plainElem (H := Unit) Tryz.prog 3) b r n D (fun z => left z && !z.sameKey (.string x.data.toList)) cnt' → cnt' < cnt →
      w.grownBy w' (some r) → w'.heap.size = w.heap.size → (Instr.entry (.pointer (some ⟨r, 0, none⟩))).run Tryz.prog w' = .ok (.tuple #[.string x, .int .i64 c]) w' → wpList Tryz.prog ops Q rest (a.put o.dst (.tuple #[.bool true, .string x, .int .i64 c])) w') :
    wpList Tryz.prog ops Q (o :: rest) a w :=
  wpList_next_ranges w hg it hop 9 kS (plainElem Tryz.prog 3) Value.string (Value.int .i64) (fun key kl hkey => by obtain ⟨x, rfl, _⟩ := WideMaps.string_of_keyOf Tryz.underlying9 hkey; exact ⟨x, rfl⟩) (fun v y hv => by obtain ⟨c, rfl, _⟩ := plainElem_int_inv Tryz.underlying3 hv; exact ⟨c, rfl⟩)
    b r n D left cnt hit h hDone (fun x c kl y w' cnt' hkey hlk hv hat hrg hlt hgr hsz hen => by
      obtain ⟨x', ex, rfl, hwx⟩ := WideMaps.string_of_keyOf Tryz.underlying9 hkey
      cases ex
      obtain ⟨c', ec, rfl, hwc⟩ := plainElem_int_inv Tryz.underlying3 hv
      cases ec
      exact hMore x c w' cnt' hwx hwc hlk hat hrg hlt hgr hsz hen)
set_option maxRecDepth 100000 in
set_option maxHeartbeats 1600000 in
theorem Copy_some (b n d n0 : Nat) (D0 : DU) (w : World) (hown : MapIs w b n D0) (hdst : MapIs w d n0 (.map [])) (hbd : b ≠ d) (hmax : n0 + Maps.size D0 < maxLen) :
    Calls Tryz.prog 23 #[.map (some d), .map (some b)] w fun e w' => e = .returned (.tuple #[]) ∧ MapIs w' d (n0 + Maps.size D0) D0 ∧ w.grownBy w' (some d) := by
  have hbl := hown.lt
  have hdl := hdst.lt
  go_enter Tryz.func23, Tryz.ntmps23
  go_wp2_with (first
    | (at_range; refine wpList_range_own _ rfl _ 24 rfl 9 3 kS Tryz.underlying24 _ b n _ rfl hown ?_; intro w0 hrg0 hg0 hs0)
    | fail)
  go_frame
  go_loopw [4] (fun _ wr => ∃ (left : Lit → Bool) (cnt : Nat) (Dout : DU), wr.ranges Tryz.prog 9 (plainElem (H := Unit) Tryz.prog 3) b w.heap.size n D0 left cnt ∧ cnt ≤ Maps.size D0 ∧
      MapIs wr d (n0 + (Maps.size D0 - cnt)) Dout ∧ Agree Dout D0 left ∧ w.grownBy wr (some d))
    (fun _ wr => wr.rangeLeft b w.heap.size)
  case atStart =>
    exact ⟨_, _, .map [], hrg0, Nat.le_refl _, (hdst.kept hg0 (by simp)).mono (Nat.le_add_right _ _), agree_start D0, hg0.but _⟩
  case round =>
    obtain ⟨left, cnt, Dout, hrg, hcs, hout, hA, hnx⟩ := hrel
    go_wp2_with (first
      | (at_next; refine next_si rfl _ rfl b w.heap.size n _ _ _ rfl hrg ?_ ?_)
      | fail)
    · intro hc0 hl0
      go_wp2_with fail
      subst hc0
      have e := agree_end hA hl0 (hout.canon kS) (hown.canon kS)
      subst e
      refine bodyPost_end (v := .tuple #[]) (by simp [results, Tryz.results23, go_sem]) rfl ⟨rfl, by simpa using hout, hnx⟩
    · intro x c w1 cnt1 hwx hwc hlx hat hrg1 hlt hg1 hs1 hen
      have hout1 := hout.kept hg1 (fun e => by have := Option.some.inj e; omega)
      go_wp2_with (first
        | (at_mapUpdate; refine wpList_mapUpdate_own _ rfl _ _ _ 24 rfl 9 3 kS Tryz.underlying24 _ d _ _ rfl hout1 (by omega) _ _ _ rfl rfl (WideMaps.keyOf_string_mk Tryz.underlying9 hwx) _ [] (plainElem_int Tryz.underlying3 hwc) ?_; intro w2 hout2 hg2; go_frame)
        | fail)
      have hrg2 := hrg1.kept hg2 (fun e => by have := Option.some.inj e; omega) (fun e => by have := Option.some.inj e; omega)
      go_roundw
      case rel =>
        exact ⟨_, cnt1, _, hrg2, by omega, hout2.mono (by omega), agree_step hA hout.isMap trivial hat,
          (hnx.andThen hg1 (fun j hj => Or.inl (by cases hj; exact Nat.le_refl _))).andThen hg2 (fun j hj => Or.inr (by rw [← hj]))⟩
      case measure => rw [hrg2.left_eq, hrg.left_eq]; exact hlt
end Go.Proofs.YtdjaikglkgabdaaGreatDoor
namespace Go.Proofs.YtdjaikglkgabdaaGreatDoor
open Go.RowKit Go.Lib Go.Maps
set_option maxRecDepth 100000 in
theorem Copy_nil (d : Nat) (w : World) (n0 : Nat) (D : DU) (hd : MapIs w d n0 D) :
    Calls Tryz.prog 23 #[.map (some d), .map none] w fun e w' => e = .returned (.tuple #[]) ∧ MapIs w' d n0 D ∧ Below w.heap.size w w' := by
  have hrg := run_range_nilMap (P := Tryz.prog) w 24 9 3 Tryz.underlying24
  have hnx : ∀ ty, (Instr.next (.pointer (some ⟨w.heap.size, 0, none⟩)) false ty).run Tryz.prog (w.alloc (.mapIter none 0 #[] 0)) = _ := fun ty => run_next_nilMap w ty 0 0 #[]
  go_enter Tryz.func23, Tryz.ntmps23
  go_wp2_with fail
  refine wp_loop_rounds 1 ?_
  rw [rounds_succ]
  go_wp2_with fail
  refine bodyPost_end (v := .tuple #[]) (by simp [results, Tryz.results23, go_sem]) rfl ⟨rfl, hd.alloc _, (Below.refl _ _).alloc (Nat.le_refl _) _⟩
theorem size_put_le {D : DU} (h : Maps.Tidy D) (x : List UInt8 × Int) : Maps.size (putL D x) ≤ Maps.size D + 1 := by
  unfold putL
  rw [size_put h]
  split <;> omega
theorem fold_size : ∀ (es : List (List UInt8 × Int)) (D : DU), Maps.Tidy D → Maps.Tidy (es.foldl putL D) ∧ Maps.size (es.foldl putL D) ≤ Maps.size D + es.length
  | [], D, h => ⟨h, Nat.le_refl _⟩
  | x :: es, D, h => by
    have h1 := size_put_le h x
    have h2 := fold_size es (putL D x) (h.put (by exact trivial) _)
    exact ⟨h2.1, by have := h2.2; simp only [List.foldl_cons, List.length_cons]; omega⟩
theorem DM_size (es : List (List UInt8 × Int)) : Maps.size (DM es) ≤ es.length := by
  have h := (fold_size es (.map []) tidy_empty).2
  have h0 : Maps.size (.map [] : DU) = 0 := rfl
  unfold DM
  omega
theorem run_mm (k : Int) (w : World) : (Instr.makeMap 24 (some (.int .i64 k))).run Tryz.prog w = .ok (.map (some w.heap.size)) (w.alloc (.map #[] 0)) := by
  simp [Instr.makeMap, run_underlying Tryz.underlying24, asInt, asIntOf]
theorem grown_below {w w' : World} {d : Nat} {B : Nat} (h : w.grownBy w' (some d)) (hB : B ≤ w.heap.size) (hd : B ≤ d) : Below B w w' :=
  ⟨h.os, h.tape, h.output, h.size, fun k hk => h.block k (by omega) (fun e => by have := Option.some.inj e; omega)⟩
theorem grownBy_set (w : World) (a : Addr) (u : Value) : w.grownBy (w.setCell a u) (some a.block) :=
  ⟨rfl, rfl, rfl, by simp, fun k _ hk => Below.heap_setCell w a u k (fun e => hk (by rw [e]))⟩
/-- What With leaves: a new map with one name more. -/
def WI (w : World) (es : List (List UInt8 × Int)) (e : Ending) (w' : World) : Prop := ∃ m n, e = .returned (.agg #[.map (some m)]) ∧ MapIs w' m n (DM es) ∧ n ≤ 1000 * es.length ∧ w.heap.size ≤ m ∧ Below w.heap.size w w'
/-- A variable of one cell. -/
def E1 (w : World) (g : Nat) (T : TypeId) (v : Value) : Prop := w.heap[g]? = some (.cells #[v] T (0, 0))
theorem E1.all {w : World} {g : Nat} {T : TypeId} {v : Value} (h : E1 w g T v) : w.cell? ⟨g, 0, none⟩ = some v ∧ (∀ i, w.frozen? ⟨g, i, none⟩ = false) ∧ g < w.heap.size := by
  unfold E1 at h
  refine ⟨?_, fun i => Lib.frozen_of_heap h i, lt_of_get h⟩
  rw [Lib.cell_of_heap h]
  rfl
theorem E1.over {w w' : World} {g : Nat} {T : TypeId} {v : Value} (h : E1 w g T v) (k : Below w.heap.size w w') : E1 w' g T v := (k.block g (lt_of_get h)).trans h
theorem E1.alloc {w : World} {g : Nat} {T : TypeId} {v : Value} (h : E1 w g T v) (o : Obj) : E1 (w.alloc o) g T v := h.over ((Below.refl _ w).alloc (Nat.le_refl _) o)
theorem E1.grown {w w' : World} {g d : Nat} {T : TypeId} {v : Value} (h : E1 w g T v) (k : w.grownBy w' (some d)) (hd : g ≠ d) : E1 w' g T v := (k.block g (lt_of_get h) (fun e => hd (Option.some.inj e))).trans h
set_option maxRecDepth 100000 in
set_option maxHeartbeats 1600000 in
theorem With_nil (s : ByteArray) (v : Int) (w : World) (hs : s.size ≤ maxLen) (hv : InR v) :
    Calls Tryz.prog 12 #[.agg #[.map none], .string s, .int .i64 v] w (WI w [(s.data.toList, v)]) := by
  have hln := fun (W : World) (ty : TypeId) => Maps.len_nil (P := Tryz.prog) (w := W) (t := 24) Tryz.underlying24 ty
  have hmm := run_mm
  have hwf : (Lit.int .i64 v).wf = true := by unfold InR at hv; exact WalkArith.wf_i64 (by omega)
  have hC := fun (d : Nat) (W : World) (h : MapIs W d 0 (.map [])) => Copy_nil d W 0 (.map []) h
  have hM0 := World.ownsMap_made (H := Unit) ((w.alloc (.cells #[.map none] 26)).alloc (.cells #[.map none] 26)) Tryz.prog 9 (plainElem (H := Unit) Tryz.prog 3)
  rw [show ((w.alloc (.cells #[.map none] 26)).alloc (.cells #[.map none] 26)).heap.size = w.heap.size + 1 + 1 by simp] at hM0
  have hE1 : E1 (((w.alloc (.cells #[.map none] 26)).alloc (.cells #[.map none] 26)).alloc (.map #[] 0)) (w.heap.size + 1) 26 (.map none) := by
    have h := heap_alloc_new (w.alloc (.cells #[.map none] 26)) (.cells #[.map none] 26)
    rw [show (w.alloc (.cells #[.map none] 26)).heap.size = w.heap.size + 1 by simp] at h
    exact E1.alloc h _
  have hb0 : Below w.heap.size w (((w.alloc (.cells #[.map none] 26)).alloc (.cells #[.map none] 26)).alloc (.map #[] 0)) := by go_grown
  replace hC := Lib.hid hC
  replace hM0 := Lib.hid hM0
  replace hE1 := Lib.hid hE1
  replace hb0 := Lib.hid hb0
  clear hv
  go_enter Tryz.func12, Tryz.ntmps12
  go_wp2_with fail
  (with_reducible refine (hC.out _ _ hM0.out).mono ?_)
  rintro e w1 ⟨rfl, hm1, hb1⟩
  have hE2 := Lib.hid (hE1.out.over hb1)
  have hb2 := Lib.hid (below_call hb1 hb0.out)
  have z1 : w.heap.size + 1 + 1 + 1 ≤ w1.heap.size := by have := hb1.size; simpa using this
  clear hb1
  go_wp2_with (first
    | (at_mapUpdate; refine wpList_mapUpdate_own _ rfl _ _ _ 24 rfl 9 3 kS Tryz.underlying24 _ (w.heap.size + 1 + 1) _ _ rfl hm1 (by decide) _ _ _ rfl rfl (WideMaps.keyOf_string_mk Tryz.underlying9 hs) _ [] (plainElem_int Tryz.underlying3 hwf) ?_; intro w2 hout2 hg2; have hE3 := hE2.out.grown hg2 (by omega); obtain ⟨e0, ef, el⟩ := hE3.all)
    | fail)
  have hb3 := hb2.out.trans (grown_below hg2 (by omega) (by omega))
  refine bodyPost_ret (v := .agg #[.map (some (w.heap.size + 1 + 1))]) (by simp [results, Tryz.results12, go_sem, e0]) rfl ⟨_, 1, rfl, ?_, by simp, by omega, ?_⟩
  · have e : DM [(s.data.toList, v)] = putL (.map []) (s.data.toList, v) := rfl
    rw [e]
    exact hout2.kept (grownBy_set _ _ _) (by simp)
  · go_grown
end Go.Proofs.YtdjaikglkgabdaaGreatDoor
namespace Go.Proofs.YtdjaikglkgabdaaGreatDoor
open Go.RowKit Go.Lib Go.Maps
set_option maxRecDepth 100000 in
set_option maxHeartbeats 1600000 in
theorem With_some (s : ByteArray) (v : Int) (w : World) (hs : s.size ≤ maxLen) (hv : InR v) (m n : Nat) (es : List (List UInt8 × Int)) (hown : MapIs w m n (DM es)) (hes : es.length ≤ 100000) :
    Calls Tryz.prog 12 #[.agg #[.map (some m)], .string s, .int .i64 v] w (WI w (es ++ [(s.data.toList, v)])) := by
  have hml := hown.lt
  have hsz := DM_size es
  have hmm := run_mm
  have hwf : (Lit.int .i64 v).wf = true := by unfold InR at hv; exact WalkArith.wf_i64 (by omega)
  have hC := fun (d : Nat) (W : World) (hm : MapIs W m n (DM es)) (h : MapIs W d 0 (.map [])) (hd : m ≠ d) => Copy_some m n d 0 (DM es) W hm h hd (by have := hsz; unfold maxLen; omega)
  have hM0 := World.ownsMap_made (H := Unit) ((w.alloc (.cells #[.map (some m)] 26)).alloc (.cells #[.map none] 26)) Tryz.prog 9 (plainElem (H := Unit) Tryz.prog 3)
  rw [show ((w.alloc (.cells #[.map (some m)] 26)).alloc (.cells #[.map none] 26)).heap.size = w.heap.size + 1 + 1 by simp] at hM0
  have hE1 : E1 (((w.alloc (.cells #[.map (some m)] 26)).alloc (.cells #[.map none] 26)).alloc (.map #[] 0)) (w.heap.size + 1) 26 (.map none) := by
    have h := heap_alloc_new (w.alloc (.cells #[.map (some m)] 26)) (.cells #[.map none] 26)
    rw [show (w.alloc (.cells #[.map (some m)] 26)).heap.size = w.heap.size + 1 by simp] at h
    exact E1.alloc h _
  have hW0 := ((hown.alloc (.cells #[.map (some m)] 26)).alloc (.cells #[.map none] 26))
  have hW1 := hW0.alloc (.map #[] 0)
  obtain ⟨S, hS⟩ : ∃ S, Maps.size (DM es) = S := ⟨_, rfl⟩
  rw [hS] at hC hsz
  have hb0 : Below w.heap.size w (((w.alloc (.cells #[.map (some m)] 26)).alloc (.cells #[.map none] 26)).alloc (.map #[] 0)) := by go_grown
  replace hC := Lib.hid hC
  replace hW0 := Lib.hid hW0
  replace hW1 := Lib.hid hW1
  replace hown := Lib.hid hown
  replace hM0 := Lib.hid hM0
  replace hE1 := Lib.hid hE1
  replace hb0 := Lib.hid hb0
  clear hv
  go_enter Tryz.func12, Tryz.ntmps12
  go_wp2_with (first
    | (at_len; refine wpList_len_own _ rfl _ 24 rfl 9 3 Tryz.underlying24 _ m n _ rfl hW0.out ?_; rw [hS])
    | fail)
  (with_reducible refine (hC.out _ _ hW1.out hM0.out (by omega)).mono ?_)
  rintro e w1 ⟨rfl, hm1, hb1⟩
  have hE2 := Lib.hid (hE1.out.grown hb1 (by omega))
  have hb2 := Lib.hid (hb0.out.trans (grown_below (B := w.heap.size) hb1 (by simp; omega) (by omega)))
  have z1 : w.heap.size + 1 + 1 + 1 ≤ w1.heap.size := by have := hb1.size; simpa using this
  clear hb1
  go_wp2_with (first
    | (at_mapUpdate; refine wpList_mapUpdate_own _ rfl _ _ _ 24 rfl 9 3 kS Tryz.underlying24 _ (w.heap.size + 1 + 1) _ _ rfl hm1 (by unfold maxLen; omega) _ _ _ rfl rfl (WideMaps.keyOf_string_mk Tryz.underlying9 hs) _ [] (plainElem_int Tryz.underlying3 hwf) ?_; intro w2 hout2 hg2; have hE3 := hE2.out.grown hg2 (by omega); obtain ⟨e0, ef, el⟩ := hE3.all)
    | fail)
  have hb3 := hb2.out.trans (grown_below hg2 (by omega) (by omega))
  refine bodyPost_ret (v := .agg #[.map (some (w.heap.size + 1 + 1))]) (by simp [results, Tryz.results12, go_sem, e0]) rfl ⟨_, 0 + S + 1, rfl, ?_, by simp; omega, by omega, ?_⟩
  · have e := DM_snoc es (s.data.toList, v)
    rw [e]
    exact hout2.kept (grownBy_set _ _ _) (by simp)
  · go_grown
theorem AgE.get {D : DU} {env : List UInt8 → Option Int} (h : AgE D env) (s : List UInt8) : D.atKey (.string s) (.lit (.int .i64 0)) = .lit (.int .i64 ((env s).getD 0)) := by
  have h1 := (h.2 s).1
  cases he : env s with
  | none =>
    rw [he] at h1
    rw [atKey_of_not_has h1]
    rfl
  | some n => exact (h.2 s).2 n _ he
/-- What Find leaves. -/
def FI (es : List (List UInt8 × Int)) (s : ByteArray) (w : World) (e : Ending) (w' : World) : Prop := e = .returned (.tuple #[.int .i64 ((envL es s.data.toList).getD 0), .bool (envL es s.data.toList).isSome]) ∧ Below w.heap.size w w'
set_option maxRecDepth 100000 in
set_option maxHeartbeats 1600000 in
theorem Find_t (s : ByteArray) (M : Value) (es : List (List UInt8 × Int)) (w : World) (hs : s.size ≤ maxLen) (hM : EnvIs w M es) :
    Calls Tryz.prog 11 #[.agg #[M], .string s] w (FI es s w) := by
  rcases hM with ⟨rfl, rfl⟩ | ⟨m, n, rfl, hown, _⟩
  · have hlk := fun (W : World) => Maps.look_nil (P := Tryz.prog) (w := W) (t := 24) true kS Tryz.underlying24 (zI W) (WideMaps.keyOf_string_mk Tryz.underlying9 hs)
    simp only [if_true] at hlk
    go_enter Tryz.func11, Tryz.ntmps11
    go_wp2_with fail
    go_ret2
    exact ⟨rfl, by go_grown⟩
  · have hl := hown.lt
    have hag := DM_ag es
    have h1 := (hag.2 s.data.toList).1
    have h2 := hag.get s.data.toList
    have hW := hown.alloc (.cells #[.map (some m)] 26)
    obtain ⟨b, hb⟩ : ∃ b, (envL es s.data.toList).isSome = b := ⟨_, rfl⟩
    obtain ⟨v, hv⟩ : ∃ v, (envL es s.data.toList).getD 0 = v := ⟨_, rfl⟩
    unfold FI
    rw [hb] at h1 ⊢
    rw [hv] at h2 ⊢
    replace hW := Lib.hid hW
    replace h1 := Lib.hid h1
    replace h2 := Lib.hid h2
    clear hown hag hb hv
    go_enter Tryz.func11, Tryz.ntmps11
    go_wp2_with (first
      | (at_lookup; refine wpList_lookup_own_ok_int _ rfl _ _ 24 rfl 9 3 .i64 kS Tryz.underlying24 Tryz.underlying3 (zI _) m n _ rfl hW.out _ _ rfl (WideMaps.keyOf_string_mk Tryz.underlying9 hs) ?_; intro c hat hwc; rw [h1.out]; obtain rfl : c = v := (by have e := hat.symm.trans h2.out; injection e with e; injection e); clear hat hwc)
      | fail)
    go_ret2
    exact ⟨rfl, by go_grown⟩
set_option maxRecDepth 100000 in
theorem Len_t (M : Value) (es : List (List UInt8 × Int)) (w : World) (hM : EnvIs w M es) :
    Calls Tryz.prog 13 #[.agg #[M]] w (RV w (.int .i64 (Maps.size (DM es)))) := by
  rcases hM with ⟨rfl, rfl⟩ | ⟨m, n, rfl, hown, _⟩
  · have hln := fun (W : World) (ty : TypeId) => Maps.len_nil (P := Tryz.prog) (w := W) (t := 24) Tryz.underlying24 ty
    go_enter Tryz.func13, Tryz.ntmps13
    go_wp2_with fail
    go_ret
    exact ⟨rfl, by go_grown⟩
  · have hl := hown.lt
    have hW := hown.alloc (.cells #[.map (some m)] 26)
    obtain ⟨S, hS⟩ : ∃ S, Maps.size (DM es) = S := ⟨_, rfl⟩
    rw [hS]
    replace hW := Lib.hid hW
    replace hS := Lib.hid hS
    clear hown
    go_enter Tryz.func13, Tryz.ntmps13
    go_wp2_with (first
      | (at_len; refine wpList_len_own _ rfl _ 24 rfl 9 3 Tryz.underlying24 _ m n _ rfl hW.out ?_; rw [hS.out])
      | fail)
    go_ret
    exact ⟨rfl, by go_grown⟩
theorem With_t (s : ByteArray) (v : Int) (M : Value) (es : List (List UInt8 × Int)) (w : World) (hs : s.size ≤ maxLen) (hv : InR v) (hes : es.length ≤ 100000) (hM : EnvIs w M es) :
    Calls Tryz.prog 12 #[.agg #[M], .string s, .int .i64 v] w (WI w (es ++ [(s.data.toList, v)])) := by
  rcases hM with ⟨rfl, rfl⟩ | ⟨m, n, rfl, hown, _⟩
  · exact With_nil s v w hs hv
  · exact With_some s v w hs hv m n es hown hes
theorem EnvIs.over {w w' : World} {M : Value} {es : List (List UInt8 × Int)} (h : EnvIs w M es) {F : Nat → Prop} (k : Keep F w w') (hF : ∀ m, M = .map (some m) → ¬ F m) : EnvIs w' M es := by
  rcases h with h | ⟨m, n, e, hown, hn⟩
  · exact .inl h
  · exact .inr ⟨m, n, e, hown.keep k (hF m e), hn⟩
end Go.Proofs.YtdjaikglkgabdaaGreatDoor
namespace Go.Proofs.YtdjaikglkgabdaaGreatDoor
open Go.RowKit Go.Lib Go.Maps
theorem Keep.drew {F : Nat → Prop} {w w' : World} (h : Keep F w w') : Keep F w w'.drew := ⟨h.os, h.tape, h.output, h.size, h.block⟩
theorem EVB.drew {w : World} {p : Nat} {M : Value} {f l c e : Int} (h : EVB w p M f l c e) : EVB w.drew p M f l c e := h
theorem BX.drew {w : World} {g : Nat} {T : TypeId} {h : XH} {A : Option Addr} {n c : Nat} (x : BX w g T h A n c) : BX w.drew g T h A n c := x
theorem EnvIs.drew {w : World} {M : Value} {es : List (List UInt8 × Int)} (h : EnvIs w M es) : EnvIs w.drew M es := h
theorem EnvIs.alloc {w : World} {M : Value} {es : List (List UInt8 × Int)} (h : EnvIs w M es) (o : Obj) : EnvIs (w.alloc o) M es := h.over ((Keep.refl (fun _ => False) w).alloc o) fun _ _ hf => hf
abbrev envB (es : List (List UInt8 × Int)) : ByteArray → Option Int := fun s => envL es s.data.toList
set_option maxRecDepth 100000 in
set_option maxHeartbeats 1600000 in
theorem name_t (h : XH) (A : Option Addr) (n c : Nat) (p : Nat) (M : Value) (es : List (List UInt8 × Int)) (w : World) (hp : EVB w p M 0 0 0 0) (hM : EnvIs w M es) (hs : h.s.size ≤ maxLen) :
    Calls Tryz.prog 49 #[pe p, xv h A n c] w (VP p M w (namR (envB es) h)) := by
  unfold namR envB
  have hF := fun (W : World) (hb : EVB W p M 0 0 0 0) => fail_t h A n c 9 p M W hb
  have hD := fun (W : World) (hb : EnvIs W M es) => Find_t h.s M es W hs hb
  unfold FI at hD
  have hB := BX.new w 36 h A n c
  have hM1 := (hM.alloc (.cells #[.int .i64 h.k, .int .i64 h.f, .int .i64 h.l, .int .i64 h.c, .string h.s, .slice A n c] 36)).drew
  have hp1 := hp.alloc (.cells #[.int .i64 h.k, .int .i64 h.f, .int .i64 h.l, .int .i64 h.c, .string h.s, .slice A n c] 36)
  have hk1 := (Keep.refl (· = p) w).alloc (.cells #[.int .i64 h.k, .int .i64 h.f, .int .i64 h.l, .int .i64 h.c, .string h.s, .slice A n c] 36)
  obtain ⟨a0, a1, a2, a3, a4, af⟩ := hp1.all
  obtain ⟨b0, b1, b2, b3, b4, b5⟩ := hB.all
  have bl := hB.lt
  have al := hp1.lt
  have k1 : (w.alloc (.cells #[.int .i64 h.k, .int .i64 h.f, .int .i64 h.l, .int .i64 h.c, .string h.s, .slice A n c] 36)).drew.cell? ⟨p, 0, none⟩ = some M ∧ (w.alloc (.cells #[.int .i64 h.k, .int .i64 h.f, .int .i64 h.l, .int .i64 h.c, .string h.s, .slice A n c] 36)).drew.cell? ⟨w.heap.size, 4, none⟩ = some (.string h.s) := ⟨a0, b4⟩
  obtain ⟨o, ho⟩ : ∃ o, envL es h.s.data.toList = o := ⟨_, rfl⟩
  rw [ho] at hD ⊢
  replace hF := Lib.hid hF
  replace hD := Lib.hid hD
  replace hB := Lib.hid hB
  replace hM1 := Lib.hid hM1
  replace hp1 := Lib.hid hp1
  replace hk1 := Lib.hid hk1
  replace hp := Lib.hid hp
  replace ho := Lib.hid ho
  clear hM hs b0 b1 b2 b3 b5 a1 a2 a3 a4
  go_enter Tryz.func49, Tryz.ntmps49
  go_wp2_with fail
  go_region_held3 (fun w' => w'.cell? ⟨p, 0, none⟩ = some M ∧ w'.cell? ⟨w.heap.size, 4, none⟩ = some (.string h.s))
    (first | (with_reducible exact k1) | (exact k1) | (with_reducible exact k2))
    (first | (go_at_call 11; (with_reducible refine (hD.out _ hM1.out).mono ?_); rintro e w1 ⟨rfl, hb1⟩; have hB1 := hB.out.drew.over hb1; have hp2 := hp1.out.drew.over hb1; have hk2 := hk1.out.drew.then_below hb1; have k2 : w1.cell? ⟨p, 0, none⟩ = some M ∧ w1.cell? ⟨w.heap.size, 4, none⟩ = some (.string h.s) := ⟨hp2.all.1, hB1.all.2.2.2.2.1⟩))
  obtain ⟨e0, e1, e2, e3, e4, e5⟩ := hB1.all
  have el := hB1.lt
  clear hb1 k1
  replace hB1 := Lib.hid hB1
  replace hp2 := Lib.hid hp2
  replace hk2 := Lib.hid hk2
  cases o with
  | some v =>
    go_wp2_with fail
    go_ret
    exact ⟨_, rfl, fun _ => rfl, hp2.out, hk2.out⟩
  | none =>
    go_wp2_with fail
    (with_reducible refine (hF.out _ hp2.out).mono ?_)
    rintro e w2 ⟨rfl, hp3, hk3⟩
    have hk4 := hk2.out.both hk3
    clear hk3
    replace hp3 := Lib.hid hp3
    replace hk4 := Lib.hid hk4
    go_wp2_with fail
    go_ret
    exact ⟨_, rfl, fun h => absurd h (by simp [badR]), hp3.out, hk4.out⟩
end Go.Proofs.YtdjaikglkgabdaaGreatDoor
