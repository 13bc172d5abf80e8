/-
  With, Find, Len of an Env; the evaluator's name.
  With upon names that are there; Find; Len.
-/
import Derived.Test.YtelbpmemkockeaaGreatDoorXe
import Derived.Deep.RegionHeld3
import Derived.Deep.OwnRows
namespace Go.Proofs.YtelbpmemkockeaaGreatDoor
open Go.RowKit Go.Lib Go.Maps
set_option maxRecDepth 100000 in
theorem Copy_nil (d : Nat) (w : World) (n0 : Nat) (D : DU) (hd : MapIs w d n0 D) :
    Calls Tryz.prog 36 #[.map (some d), .map none] w fun e w' => e = .returned (.tuple #[]) ∧ MapIs w' d n0 D ∧ Below w.heap.size w w' := by
  have hrg := run_range_nilMap (P := Tryz.prog) w 37 9 3 Tryz.underlying37
  have hnx : ∀ ty, (Instr.next (.pointer (some ⟨w.heap.size, 0, none⟩)) false ty).run Tryz.prog (w.alloc (.mapIter none 0 #[] 0)) = _ := fun ty => run_next_nilMap w ty 0 0 #[]
  go_enter Tryz.func36, Tryz.ntmps36
  go_wp2_with fail
  refine wp_loop_rounds 1 ?_
  rw [rounds_succ]
  go_wp2_with fail
  refine bodyPost_end (v := .tuple #[]) (by simp [results, Tryz.results36, go_sem]) rfl ⟨rfl, hd.alloc _, (Below.refl _ _).alloc (Nat.le_refl _) _⟩
theorem size_put_le {D : DU} (h : Maps.Tidy D) (x : List UInt8 × Int) : Maps.size (putL D x) ≤ Maps.size D + 1 := by
  unfold putL
  rw [size_put h]
  split <;> omega
theorem fold_size : ∀ (es : List (List UInt8 × Int)) (D : DU), Maps.Tidy D → Maps.Tidy (es.foldl putL D) ∧ Maps.size (es.foldl putL D) ≤ Maps.size D + es.length
  | [], D, h => ⟨h, Nat.le_refl _⟩
  | x :: es, D, h => by
    have h1 := size_put_le h x
    have h2 := fold_size es (putL D x) (h.put (by exact trivial) _)
    exact ⟨h2.1, by have := h2.2; simp only [List.foldl_cons, List.length_cons]; omega⟩
theorem DM_size (es : List (List UInt8 × Int)) : Maps.size (DM es) ≤ es.length := by
  have h := (fold_size es (.map []) tidy_empty).2
  have h0 : Maps.size (.map [] : DU) = 0 := rfl
  unfold DM
  omega
theorem run_mm (k : Int) (w : World) : (Instr.makeMap 37 (some (.int .i64 k))).run Tryz.prog w = .ok (.map (some w.heap.size)) (w.alloc (.map #[] 0)) := by
  simp [Instr.makeMap, run_underlying Tryz.underlying37, asInt, asIntOf]
theorem grown_below {w w' : World} {d : Nat} {B : Nat} (h : w.grownBy w' (some d)) (hB : B ≤ w.heap.size) (hd : B ≤ d) : Below B w w' :=
  ⟨h.os, h.tape, h.output, h.size, fun k hk => h.block k (by omega) (fun e => by have := Option.some.inj e; omega)⟩
theorem grownBy_set (w : World) (a : Addr) (u : Value) : w.grownBy (w.setCell a u) (some a.block) :=
  ⟨rfl, rfl, rfl, by simp, fun k _ hk => Below.heap_setCell w a u k (fun e => hk (by rw [e]))⟩
/-- What With leaves: a new map with one name more. -/
def WI (w : World) (es : List (List UInt8 × Int)) (e : Ending) (w' : World) : Prop := ∃ m n, e = .returned (.agg #[.map (some m)]) ∧ MapIs w' m n (DM es) ∧ n ≤ 1000 * es.length ∧ w.heap.size ≤ m ∧ Below w.heap.size w w'
/-- A variable of one cell. -/
def E1 (w : World) (g : Nat) (T : TypeId) (v : Value) : Prop := w.heap[g]? = some (.cells #[v] T (0, 0))
theorem E1.all {w : World} {g : Nat} {T : TypeId} {v : Value} (h : E1 w g T v) : w.cell? ⟨g, 0, none⟩ = some v ∧ (∀ i, w.frozen? ⟨g, i, none⟩ = false) ∧ g < w.heap.size := by
  unfold E1 at h
  refine ⟨?_, fun i => Lib.frozen_of_heap h i, lt_of_get h⟩
  rw [Lib.cell_of_heap h]
  rfl
theorem E1.over {w w' : World} {g : Nat} {T : TypeId} {v : Value} (h : E1 w g T v) (k : Below w.heap.size w w') : E1 w' g T v := (k.block g (lt_of_get h)).trans h
theorem E1.alloc {w : World} {g : Nat} {T : TypeId} {v : Value} (h : E1 w g T v) (o : Obj) : E1 (w.alloc o) g T v := h.over ((Below.refl _ w).alloc (Nat.le_refl _) o)
theorem E1.grown {w w' : World} {g d : Nat} {T : TypeId} {v : Value} (h : E1 w g T v) (k : w.grownBy w' (some d)) (hd : g ≠ d) : E1 w' g T v := (k.block g (lt_of_get h) (fun e => hd (Option.some.inj e))).trans h
set_option maxRecDepth 100000 in
set_option maxHeartbeats 1600000 in
theorem With_nil (s : ByteArray) (v : Int) (w : World) (hs : s.size ≤ maxLen) (hv : InR v) :
    Calls Tryz.prog 16 #[.agg #[.map none], .string s, .int .i64 v] w (WI w [(s.data.toList, v)]) := by
  have hln := fun (W : World) (ty : TypeId) => Maps.len_nil (P := Tryz.prog) (w := W) (t := 37) Tryz.underlying37 ty
  have hmm := run_mm
  have hwf : (Lit.int .i64 v).wf = true := by unfold InR at hv; exact WalkArith.wf_i64 (by omega)
  have hC := fun (d : Nat) (W : World) (h : MapIs W d 0 (.map [])) => Copy_nil d W 0 (.map []) h
  have hM0 := World.ownsMap_made (H := Unit) ((w.alloc (.cells #[.map none] 39)).alloc (.cells #[.map none] 39)) Tryz.prog 9 (plainElem (H := Unit) Tryz.prog 3)
  rw [show ((w.alloc (.cells #[.map none] 39)).alloc (.cells #[.map none] 39)).heap.size = w.heap.size + 1 + 1 by simp] at hM0
  have hE1 : E1 (((w.alloc (.cells #[.map none] 39)).alloc (.cells #[.map none] 39)).alloc (.map #[] 0)) (w.heap.size + 1) 39 (.map none) := by
    have h := heap_alloc_new (w.alloc (.cells #[.map none] 39)) (.cells #[.map none] 39)
    rw [show (w.alloc (.cells #[.map none] 39)).heap.size = w.heap.size + 1 by simp] at h
    exact E1.alloc h _
  have hb0 : Below w.heap.size w (((w.alloc (.cells #[.map none] 39)).alloc (.cells #[.map none] 39)).alloc (.map #[] 0)) := by go_grown
  replace hC := Lib.hid hC
  replace hM0 := Lib.hid hM0
  replace hE1 := Lib.hid hE1
  replace hb0 := Lib.hid hb0
  clear hv
  go_enter Tryz.func16, Tryz.ntmps16
  go_wp2_with fail
  (with_reducible refine (hC.out _ _ hM0.out).mono ?_)
  rintro e w1 ⟨rfl, hm1, hb1⟩
  have hE2 := Lib.hid (hE1.out.over hb1)
  have hb2 := Lib.hid (below_call hb1 hb0.out)
  have z1 : w.heap.size + 1 + 1 + 1 ≤ w1.heap.size := by have := hb1.size; simpa using this
  clear hb1
  go_wp2_with (first
    | (at_mapUpdate; refine wpList_mapUpdate_own _ rfl _ _ _ 37 rfl 9 3 kS Tryz.underlying37 _ (w.heap.size + 1 + 1) _ _ rfl hm1 (by decide) _ _ _ rfl rfl (WideMaps.keyOf_string_mk Tryz.underlying9 hs) _ [] (plainElem_int Tryz.underlying3 hwf) ?_; intro w2 hout2 hg2; have hE3 := hE2.out.grown hg2 (by omega); obtain ⟨e0, ef, el⟩ := hE3.all)
    | fail)
  have hb3 := hb2.out.trans (grown_below hg2 (by omega) (by omega))
  refine bodyPost_ret (v := .agg #[.map (some (w.heap.size + 1 + 1))]) (by simp [results, Tryz.results16, go_sem, e0, ef, el]) rfl ⟨_, 1, rfl, ?_, by simp, by omega, ?_⟩
  · have e : DM [(s.data.toList, v)] = putL (.map []) (s.data.toList, v) := rfl
    rw [e]
    exact hout2.kept (grownBy_set _ _ _) (by simp)
  · go_grown
end Go.Proofs.YtelbpmemkockeaaGreatDoor
namespace Go.Proofs.YtelbpmemkockeaaGreatDoor
open Go.RowKit Go.Lib Go.Maps
set_option maxRecDepth 100000 in
set_option maxHeartbeats 1600000 in
theorem With_some (s : ByteArray) (v : Int) (w : World) (hs : s.size ≤ maxLen) (hv : InR v) (m n : Nat) (es : List (List UInt8 × Int)) (hown : MapIs w m n (DM es)) (hes : es.length ≤ 100000) :
    Calls Tryz.prog 16 #[.agg #[.map (some m)], .string s, .int .i64 v] w (WI w (es ++ [(s.data.toList, v)])) := by
  have hml := hown.lt
  have hsz := DM_size es
  have hmm := run_mm
  have hwf : (Lit.int .i64 v).wf = true := by unfold InR at hv; exact WalkArith.wf_i64 (by omega)
  have hC := fun (d : Nat) (W : World) (hm : MapIs W m n (DM es)) (h : MapIs W d 0 (.map [])) (hd : m ≠ d) => Copy_some m n d 0 (DM es) W hm h hd (by have := hsz; unfold maxLen; omega)
  have hM0 := World.ownsMap_made (H := Unit) ((w.alloc (.cells #[.map (some m)] 39)).alloc (.cells #[.map none] 39)) Tryz.prog 9 (plainElem (H := Unit) Tryz.prog 3)
  rw [show ((w.alloc (.cells #[.map (some m)] 39)).alloc (.cells #[.map none] 39)).heap.size = w.heap.size + 1 + 1 by simp] at hM0
  have hE1 : E1 (((w.alloc (.cells #[.map (some m)] 39)).alloc (.cells #[.map none] 39)).alloc (.map #[] 0)) (w.heap.size + 1) 39 (.map none) := by
    have h := heap_alloc_new (w.alloc (.cells #[.map (some m)] 39)) (.cells #[.map none] 39)
    rw [show (w.alloc (.cells #[.map (some m)] 39)).heap.size = w.heap.size + 1 by simp] at h
    exact E1.alloc h _
  have hW0 := ((hown.alloc (.cells #[.map (some m)] 39)).alloc (.cells #[.map none] 39))
  have hW1 := hW0.alloc (.map #[] 0)
  obtain ⟨S, hS⟩ : ∃ S, Maps.size (DM es) = S := ⟨_, rfl⟩
  rw [hS] at hC hsz
  have hb0 : Below w.heap.size w (((w.alloc (.cells #[.map (some m)] 39)).alloc (.cells #[.map none] 39)).alloc (.map #[] 0)) := by go_grown
  replace hC := Lib.hid hC
  replace hW0 := Lib.hid hW0
  replace hW1 := Lib.hid hW1
  replace hown := Lib.hid hown
  replace hM0 := Lib.hid hM0
  replace hE1 := Lib.hid hE1
  replace hb0 := Lib.hid hb0
  clear hv
  go_enter Tryz.func16, Tryz.ntmps16
  go_wp2_with (first
    | (at_len; refine wpList_len_own _ rfl _ 37 rfl 9 3 Tryz.underlying37 _ m n _ rfl hW0.out ?_; rw [hS])
    | fail)
  (with_reducible refine (hC.out _ _ hW1.out hM0.out (by omega)).mono ?_)
  rintro e w1 ⟨rfl, hm1, hb1⟩
  have hE2 := Lib.hid (hE1.out.grown hb1 (by omega))
  have hb2 := Lib.hid (hb0.out.trans (grown_below (B := w.heap.size) hb1 (by simp; omega) (by omega)))
  have z1 : w.heap.size + 1 + 1 + 1 ≤ w1.heap.size := by have := hb1.size; simpa using this
  clear hb1
  go_wp2_with (first
    | (at_mapUpdate; refine wpList_mapUpdate_own _ rfl _ _ _ 37 rfl 9 3 kS Tryz.underlying37 _ (w.heap.size + 1 + 1) _ _ rfl hm1 (by unfold maxLen; omega) _ _ _ rfl rfl (WideMaps.keyOf_string_mk Tryz.underlying9 hs) _ [] (plainElem_int Tryz.underlying3 hwf) ?_; intro w2 hout2 hg2; have hE3 := hE2.out.grown hg2 (by omega); obtain ⟨e0, ef, el⟩ := hE3.all)
    | fail)
  have hb3 := hb2.out.trans (grown_below hg2 (by omega) (by omega))
  refine bodyPost_ret (v := .agg #[.map (some (w.heap.size + 1 + 1))]) (by simp [results, Tryz.results16, go_sem, e0, ef, el]) rfl ⟨_, 0 + S + 1, rfl, ?_, by simp; omega, by omega, ?_⟩
  · have e := DM_snoc es (s.data.toList, v)
    rw [e]
    exact hout2.kept (grownBy_set _ _ _) (by simp)
  · go_grown
theorem AgE.get {D : DU} {env : List UInt8 → Option Int} (h : AgE D env) (s : List UInt8) : D.atKey (.string s) (.lit (.int .i64 0)) = .lit (.int .i64 ((env s).getD 0)) := by
  have h1 := (h.2 s).1
  cases he : env s with
  | none =>
    rw [he] at h1
    rw [atKey_of_not_has h1]
    rfl
  | some n => exact (h.2 s).2 n _ he
/-- What Find leaves. -/
def FI (es : List (List UInt8 × Int)) (s : ByteArray) (w : World) (e : Ending) (w' : World) : Prop := e = .returned (.tuple #[.int .i64 ((envL es s.data.toList).getD 0), .bool (envL es s.data.toList).isSome]) ∧ Below w.heap.size w w'
set_option maxRecDepth 100000 in
set_option maxHeartbeats 1600000 in
theorem Find_t (s : ByteArray) (M : Value) (es : List (List UInt8 × Int)) (w : World) (hs : s.size ≤ maxLen) (hM : EnvIs w M es) :
    Calls Tryz.prog 18 #[.agg #[M], .string s] w (FI es s w) := by
  rcases hM with ⟨rfl, rfl⟩ | ⟨m, n, rfl, hown, _⟩
  · have hlk := fun (W : World) => Maps.look_nil (P := Tryz.prog) (w := W) (t := 37) true kS Tryz.underlying37 (zI W) (WideMaps.keyOf_string_mk Tryz.underlying9 hs)
    simp only [if_true] at hlk
    go_enter Tryz.func18, Tryz.ntmps18
    go_wp2_with fail
    go_ret2
    exact ⟨rfl, by go_grown⟩
  · have hl := hown.lt
    have hag := DM_ag es
    have h1 := (hag.2 s.data.toList).1
    have h2 := hag.get s.data.toList
    have hW := hown.alloc (.cells #[.map (some m)] 39)
    obtain ⟨b, hb⟩ : ∃ b, (envL es s.data.toList).isSome = b := ⟨_, rfl⟩
    obtain ⟨v, hv⟩ : ∃ v, (envL es s.data.toList).getD 0 = v := ⟨_, rfl⟩
    unfold FI
    rw [hb] at h1 ⊢
    rw [hv] at h2 ⊢
    replace hW := Lib.hid hW
    replace h1 := Lib.hid h1
    replace h2 := Lib.hid h2
    clear hown hag hb hv
    go_enter Tryz.func18, Tryz.ntmps18
    go_wp2_with (first
      | (at_lookup; refine wpList_lookup_own_ok_int _ rfl _ _ 37 rfl 9 3 .i64 kS Tryz.underlying37 Tryz.underlying3 (zI _) m n _ rfl hW.out _ _ rfl (WideMaps.keyOf_string_mk Tryz.underlying9 hs) ?_; intro c hat hwc; rw [h1.out]; obtain rfl : c = v := (by have e := hat.symm.trans h2.out; injection e with e; injection e); clear hat hwc)
      | fail)
    go_ret2
    exact ⟨rfl, by go_grown⟩
set_option maxRecDepth 100000 in
theorem Len_t (M : Value) (es : List (List UInt8 × Int)) (w : World) (hM : EnvIs w M es) :
    Calls Tryz.prog 19 #[.agg #[M]] w (RV w (.int .i64 (Maps.size (DM es)))) := by
  rcases hM with ⟨rfl, rfl⟩ | ⟨m, n, rfl, hown, _⟩
  · have hln := fun (W : World) (ty : TypeId) => Maps.len_nil (P := Tryz.prog) (w := W) (t := 37) Tryz.underlying37 ty
    go_enter Tryz.func19, Tryz.ntmps19
    go_wp2_with fail
    go_ret
    exact ⟨rfl, by go_grown⟩
  · have hl := hown.lt
    have hW := hown.alloc (.cells #[.map (some m)] 39)
    obtain ⟨S, hS⟩ : ∃ S, Maps.size (DM es) = S := ⟨_, rfl⟩
    rw [hS]
    replace hW := Lib.hid hW
    replace hS := Lib.hid hS
    clear hown
    go_enter Tryz.func19, Tryz.ntmps19
    go_wp2_with (first
      | (at_len; refine wpList_len_own _ rfl _ 37 rfl 9 3 Tryz.underlying37 _ m n _ rfl hW.out ?_; rw [hS.out])
      | fail)
    go_ret
    exact ⟨rfl, by go_grown⟩
theorem With_t (s : ByteArray) (v : Int) (M : Value) (es : List (List UInt8 × Int)) (w : World) (hs : s.size ≤ maxLen) (hv : InR v) (hes : es.length ≤ 100000) (hM : EnvIs w M es) :
    Calls Tryz.prog 16 #[.agg #[M], .string s, .int .i64 v] w (WI w (es ++ [(s.data.toList, v)])) := by
  rcases hM with ⟨rfl, rfl⟩ | ⟨m, n, rfl, hown, _⟩
  · exact With_nil s v w hs hv
  · exact With_some s v w hs hv m n es hown hes
theorem EnvIs.over {w w' : World} {M : Value} {es : List (List UInt8 × Int)} (h : EnvIs w M es) {F : Nat → Prop} (k : Keep F w w') (hF : ∀ m, M = .map (some m) → ¬ F m) : EnvIs w' M es := by
  rcases h with h | ⟨m, n, e, hown, hn⟩
  · exact .inl h
  · exact .inr ⟨m, n, e, hown.keep k (hF m e), hn⟩
end Go.Proofs.YtelbpmemkockeaaGreatDoor
