/-
  With, Find, Len of an Env; the evaluator's name.
  With upon names that are there; Find; Len.
  The evaluator's name; the operators of konst.
  The operators of konst as function values.
  unaryOf, binaryOf, permits: the operator that a text names.
-/
import Derived.Test.YtcifljbcoioogaaGreatDoorXc
import Derived.Deep.RegionHeld3
import Derived.Deep.OwnRows
namespace Go.Proofs.YtcifljbcoioogaaGreatDoor
open Go.RowKit Go.Lib Go.Maps
set_option maxRecDepth 100000 in
theorem Copy_nil (d : Nat) (w : World) (n0 : Nat) (D : DU) (hd : MapIs w d n0 D) :
    Calls Tryz.prog 31 #[.map (some d), .map none] w fun e w' => e = .returned (.tuple #[]) ∧ MapIs w' d n0 D ∧ Below w.heap.size w w' := by
  have hrg := run_range_nilMap (P := Tryz.prog) w 37 9 3 Tryz.underlying37
  have hnx : ∀ ty, (Instr.next (.pointer (some ⟨w.heap.size, 0, none⟩)) false ty).run Tryz.prog (w.alloc (.mapIter none 0 #[] 0)) = _ := fun ty => run_next_nilMap w ty 0 0 #[]
  go_enter Tryz.func31, Tryz.ntmps31
  go_wp2_with fail
  refine wp_loop_rounds 1 ?_
  rw [rounds_succ]
  go_wp2_with fail
  refine bodyPost_end (v := .tuple #[]) (by simp [results, Tryz.results31, go_sem]) rfl ⟨rfl, hd.alloc _, (Below.refl _ _).alloc (Nat.le_refl _) _⟩
theorem size_put_le {D : DU} (h : Maps.Tidy D) (x : List UInt8 × Int) : Maps.size (putL D x) ≤ Maps.size D + 1 := by
  unfold putL
  rw [size_put h]
  split <;> omega
theorem fold_size : ∀ (es : List (List UInt8 × Int)) (D : DU), Maps.Tidy D → Maps.Tidy (es.foldl putL D) ∧ Maps.size (es.foldl putL D) ≤ Maps.size D + es.length
  | [], D, h => ⟨h, Nat.le_refl _⟩
  | x :: es, D, h => by
    have h1 := size_put_le h x
    have h2 := fold_size es (putL D x) (h.put (by exact trivial) _)
    exact ⟨h2.1, by have := h2.2; simp only [List.foldl_cons, List.length_cons]; omega⟩
theorem DM_size (es : List (List UInt8 × Int)) : Maps.size (DM es) ≤ es.length := by
  have h := (fold_size es (.map []) tidy_empty).2
  have h0 : Maps.size (.map [] : DU) = 0 := rfl
  unfold DM
  omega
theorem run_mm (k : Int) (w : World) : (Instr.makeMap 37 (some (.int .i64 k))).run Tryz.prog w = .ok (.map (some w.heap.size)) (w.alloc (.map #[] 0)) := by
  simp [Instr.makeMap, run_underlying Tryz.underlying37, asInt, asIntOf]
theorem grown_below {w w' : World} {d : Nat} {B : Nat} (h : w.grownBy w' (some d)) (hB : B ≤ w.heap.size) (hd : B ≤ d) : Below B w w' :=
  ⟨h.os, h.tape, h.output, h.size, fun k hk => h.block k (by omega) (fun e => by have := Option.some.inj e; omega)⟩
theorem grownBy_set (w : World) (a : Addr) (u : Value) : w.grownBy (w.setCell a u) (some a.block) :=
  ⟨rfl, rfl, rfl, by simp, fun k _ hk => Below.heap_setCell w a u k (fun e => hk (by rw [e]))⟩
/-- What With leaves: a new map with one name more. -/
def WI (w : World) (es : List (List UInt8 × Int)) (e : Ending) (w' : World) : Prop := ∃ m n, e = .returned (.agg #[.map (some m)]) ∧ MapIs w' m n (DM es) ∧ n ≤ 1000 * es.length ∧ w.heap.size ≤ m ∧ Below w.heap.size w w'
/-- A variable of one cell. -/
def E1 (w : World) (g : Nat) (T : TypeId) (v : Value) : Prop := w.heap[g]? = some (.cells #[v] T (0, 0))
theorem E1.all {w : World} {g : Nat} {T : TypeId} {v : Value} (h : E1 w g T v) : w.cell? ⟨g, 0, none⟩ = some v ∧ (∀ i, w.frozen? ⟨g, i, none⟩ = false) ∧ g < w.heap.size := by
  unfold E1 at h
  refine ⟨?_, fun i => Lib.frozen_of_heap h i, lt_of_get h⟩
  rw [Lib.cell_of_heap h]
  rfl
theorem E1.over {w w' : World} {g : Nat} {T : TypeId} {v : Value} (h : E1 w g T v) (k : Below w.heap.size w w') : E1 w' g T v := (k.block g (lt_of_get h)).trans h
theorem E1.alloc {w : World} {g : Nat} {T : TypeId} {v : Value} (h : E1 w g T v) (o : Obj) : E1 (w.alloc o) g T v := h.over ((Below.refl _ w).alloc (Nat.le_refl _) o)
theorem E1.grown {w w' : World} {g d : Nat} {T : TypeId} {v : Value} (h : E1 w g T v) (k : w.grownBy w' (some d)) (hd : g ≠ d) : E1 w' g T v := (k.block g (lt_of_get h) (fun e => hd (Option.some.inj e))).trans h
set_option maxRecDepth 100000 in
set_option maxHeartbeats 1600000 in
theorem With_nil (s : ByteArray) (v : Int) (w : World) (hs : s.size ≤ maxLen) (hv : InR v) :
    Calls Tryz.prog 14 #[.agg #[.map none], .string s, .int .i64 v] w (WI w [(s.data.toList, v)]) := by
  have hln := fun (W : World) (ty : TypeId) => Maps.len_nil (P := Tryz.prog) (w := W) (t := 37) Tryz.underlying37 ty
  have hmm := run_mm
  have hwf : (Lit.int .i64 v).wf = true := by unfold InR at hv; exact WalkArith.wf_i64 (by omega)
  have hC := fun (d : Nat) (W : World) (h : MapIs W d 0 (.map [])) => Copy_nil d W 0 (.map []) h
  have hM0 := World.ownsMap_made (H := Unit) ((w.alloc (.cells #[.map none] 39)).alloc (.cells #[.map none] 39)) Tryz.prog 9 (plainElem (H := Unit) Tryz.prog 3)
  rw [show ((w.alloc (.cells #[.map none] 39)).alloc (.cells #[.map none] 39)).heap.size = w.heap.size + 1 + 1 by simp] at hM0
  have hE1 : E1 (((w.alloc (.cells #[.map none] 39)).alloc (.cells #[.map none] 39)).alloc (.map #[] 0)) (w.heap.size + 1) 39 (.map none) := by
    have h := heap_alloc_new (w.alloc (.cells #[.map none] 39)) (.cells #[.map none] 39)
    rw [show (w.alloc (.cells #[.map none] 39)).heap.size = w.heap.size + 1 by simp] at h
    exact E1.alloc h _
  have hb0 : Below w.heap.size w (((w.alloc (.cells #[.map none] 39)).alloc (.cells #[.map none] 39)).alloc (.map #[] 0)) := by go_grown
  replace hC := Lib.hid hC
  replace hM0 := Lib.hid hM0
  replace hE1 := Lib.hid hE1
  replace hb0 := Lib.hid hb0
  clear hv
  go_enter Tryz.func14, Tryz.ntmps14
  go_wp2_with fail
  (with_reducible refine (hC.out _ _ hM0.out).mono ?_)
  rintro e w1 ⟨rfl, hm1, hb1⟩
  have hE2 := Lib.hid (hE1.out.over hb1)
  have hb2 := Lib.hid (below_call hb1 hb0.out)
  have z1 : w.heap.size + 1 + 1 + 1 ≤ w1.heap.size := by have := hb1.size; simpa using this
  clear hb1
  go_wp2_with (first
    | (at_mapUpdate; refine wpList_mapUpdate_own _ rfl _ _ _ 37 rfl 9 3 kS Tryz.underlying37 _ (w.heap.size + 1 + 1) _ _ rfl hm1 (by decide) _ _ _ rfl rfl (WideMaps.keyOf_string_mk Tryz.underlying9 hs) _ [] (plainElem_int Tryz.underlying3 hwf) ?_; intro w2 hout2 hg2; have hE3 := hE2.out.grown hg2 (by omega); obtain ⟨e0, ef, el⟩ := hE3.all)
    | fail)
  have hb3 := hb2.out.trans (grown_below hg2 (by omega) (by omega))
  refine bodyPost_ret (v := .agg #[.map (some (w.heap.size + 1 + 1))]) (by simp [results, Tryz.results14, go_sem, e0]) rfl ⟨_, 1, rfl, ?_, by simp, by omega, ?_⟩
  · have e : DM [(s.data.toList, v)] = putL (.map []) (s.data.toList, v) := rfl
    rw [e]
    exact hout2.kept (grownBy_set _ _ _) (by simp)
  · go_grown
end Go.Proofs.YtcifljbcoioogaaGreatDoor
namespace Go.Proofs.YtcifljbcoioogaaGreatDoor
open Go.RowKit Go.Lib Go.Maps
set_option maxRecDepth 100000 in
set_option maxHeartbeats 1600000 in
theorem With_some (s : ByteArray) (v : Int) (w : World) (hs : s.size ≤ maxLen) (hv : InR v) (m n : Nat) (es : List (List UInt8 × Int)) (hown : MapIs w m n (DM es)) (hes : es.length ≤ 100000) :
    Calls Tryz.prog 14 #[.agg #[.map (some m)], .string s, .int .i64 v] w (WI w (es ++ [(s.data.toList, v)])) := by
  have hml := hown.lt
  have hsz := DM_size es
  have hmm := run_mm
  have hwf : (Lit.int .i64 v).wf = true := by unfold InR at hv; exact WalkArith.wf_i64 (by omega)
  have hC := fun (d : Nat) (W : World) (hm : MapIs W m n (DM es)) (h : MapIs W d 0 (.map [])) (hd : m ≠ d) => Copy_some m n d 0 (DM es) W hm h hd (by have := hsz; unfold maxLen; omega)
  have hM0 := World.ownsMap_made (H := Unit) ((w.alloc (.cells #[.map (some m)] 39)).alloc (.cells #[.map none] 39)) Tryz.prog 9 (plainElem (H := Unit) Tryz.prog 3)
  rw [show ((w.alloc (.cells #[.map (some m)] 39)).alloc (.cells #[.map none] 39)).heap.size = w.heap.size + 1 + 1 by simp] at hM0
  have hE1 : E1 (((w.alloc (.cells #[.map (some m)] 39)).alloc (.cells #[.map none] 39)).alloc (.map #[] 0)) (w.heap.size + 1) 39 (.map none) := by
    have h := heap_alloc_new (w.alloc (.cells #[.map (some m)] 39)) (.cells #[.map none] 39)
    rw [show (w.alloc (.cells #[.map (some m)] 39)).heap.size = w.heap.size + 1 by simp] at h
    exact E1.alloc h _
  have hW0 := ((hown.alloc (.cells #[.map (some m)] 39)).alloc (.cells #[.map none] 39))
  have hW1 := hW0.alloc (.map #[] 0)
  obtain ⟨S, hS⟩ : ∃ S, Maps.size (DM es) = S := ⟨_, rfl⟩
  rw [hS] at hC hsz
  have hb0 : Below w.heap.size w (((w.alloc (.cells #[.map (some m)] 39)).alloc (.cells #[.map none] 39)).alloc (.map #[] 0)) := by go_grown
  replace hC := Lib.hid hC
  replace hW0 := Lib.hid hW0
  replace hW1 := Lib.hid hW1
  replace hown := Lib.hid hown
  replace hM0 := Lib.hid hM0
  replace hE1 := Lib.hid hE1
  replace hb0 := Lib.hid hb0
  clear hv
  go_enter Tryz.func14, Tryz.ntmps14
  go_wp2_with (first
    | (at_len; refine wpList_len_own _ rfl _ 37 rfl 9 3 Tryz.underlying37 _ m n _ rfl hW0.out ?_; rw [hS])
    | fail)
  (with_reducible refine (hC.out _ _ hW1.out hM0.out (by omega)).mono ?_)
  rintro e w1 ⟨rfl, hm1, hb1⟩
  have hE2 := Lib.hid (hE1.out.grown hb1 (by omega))
  have hb2 := Lib.hid (hb0.out.trans (grown_below (B := w.heap.size) hb1 (by simp; omega) (by omega)))
  have z1 : w.heap.size + 1 + 1 + 1 ≤ w1.heap.size := by have := hb1.size; simpa using this
  clear hb1
  go_wp2_with (first
    | (at_mapUpdate; refine wpList_mapUpdate_own _ rfl _ _ _ 37 rfl 9 3 kS Tryz.underlying37 _ (w.heap.size + 1 + 1) _ _ rfl hm1 (by unfold maxLen; omega) _ _ _ rfl rfl (WideMaps.keyOf_string_mk Tryz.underlying9 hs) _ [] (plainElem_int Tryz.underlying3 hwf) ?_; intro w2 hout2 hg2; have hE3 := hE2.out.grown hg2 (by omega); obtain ⟨e0, ef, el⟩ := hE3.all)
    | fail)
  have hb3 := hb2.out.trans (grown_below hg2 (by omega) (by omega))
  refine bodyPost_ret (v := .agg #[.map (some (w.heap.size + 1 + 1))]) (by simp [results, Tryz.results14, go_sem, e0]) rfl ⟨_, 0 + S + 1, rfl, ?_, by simp; omega, by omega, ?_⟩
  · have e := DM_snoc es (s.data.toList, v)
    rw [e]
    exact hout2.kept (grownBy_set _ _ _) (by simp)
  · go_grown
theorem AgE.get {D : DU} {env : List UInt8 → Option Int} (h : AgE D env) (s : List UInt8) : D.atKey (.string s) (.lit (.int .i64 0)) = .lit (.int .i64 ((env s).getD 0)) := by
  have h1 := (h.2 s).1
  cases he : env s with
  | none =>
    rw [he] at h1
    rw [atKey_of_not_has h1]
    rfl
  | some n => exact (h.2 s).2 n _ he
/-- What Find leaves. -/
def FI (es : List (List UInt8 × Int)) (s : ByteArray) (w : World) (e : Ending) (w' : World) : Prop := e = .returned (.tuple #[.int .i64 ((envL es s.data.toList).getD 0), .bool (envL es s.data.toList).isSome]) ∧ Below w.heap.size w w'
set_option maxRecDepth 100000 in
set_option maxHeartbeats 1600000 in
theorem Find_t (s : ByteArray) (M : Value) (es : List (List UInt8 × Int)) (w : World) (hs : s.size ≤ maxLen) (hM : EnvIs w M es) :
    Calls Tryz.prog 54 #[.agg #[M], .string s] w (FI es s w) := by
  rcases hM with ⟨rfl, rfl⟩ | ⟨m, n, rfl, hown, _⟩
  · have hlk := fun (W : World) => Maps.look_nil (P := Tryz.prog) (w := W) (t := 37) true kS Tryz.underlying37 (zI W) (WideMaps.keyOf_string_mk Tryz.underlying9 hs)
    simp only [if_true] at hlk
    go_enter Tryz.func54, Tryz.ntmps54
    go_wp2_with fail
    go_ret2
    exact ⟨rfl, by go_grown⟩
  · have hl := hown.lt
    have hag := DM_ag es
    have h1 := (hag.2 s.data.toList).1
    have h2 := hag.get s.data.toList
    have hW := hown.alloc (.cells #[.map (some m)] 39)
    obtain ⟨b, hb⟩ : ∃ b, (envL es s.data.toList).isSome = b := ⟨_, rfl⟩
    obtain ⟨v, hv⟩ : ∃ v, (envL es s.data.toList).getD 0 = v := ⟨_, rfl⟩
    unfold FI
    rw [hb] at h1 ⊢
    rw [hv] at h2 ⊢
    replace hW := Lib.hid hW
    replace h1 := Lib.hid h1
    replace h2 := Lib.hid h2
    clear hown hag hb hv
    go_enter Tryz.func54, Tryz.ntmps54
    go_wp2_with (first
      | (at_lookup; refine wpList_lookup_own_ok_int _ rfl _ _ 37 rfl 9 3 .i64 kS Tryz.underlying37 Tryz.underlying3 (zI _) m n _ rfl hW.out _ _ rfl (WideMaps.keyOf_string_mk Tryz.underlying9 hs) ?_; intro c hat hwc; rw [h1.out]; obtain rfl : c = v := (by have e := hat.symm.trans h2.out; injection e with e; injection e); clear hat hwc)
      | fail)
    go_ret2
    exact ⟨rfl, by go_grown⟩
theorem With_t (s : ByteArray) (v : Int) (M : Value) (es : List (List UInt8 × Int)) (w : World) (hs : s.size ≤ maxLen) (hv : InR v) (hes : es.length ≤ 100000) (hM : EnvIs w M es) :
    Calls Tryz.prog 14 #[.agg #[M], .string s, .int .i64 v] w (WI w (es ++ [(s.data.toList, v)])) := by
  rcases hM with ⟨rfl, rfl⟩ | ⟨m, n, rfl, hown, _⟩
  · exact With_nil s v w hs hv
  · exact With_some s v w hs hv m n es hown hes
theorem EnvIs.over {w w' : World} {M : Value} {es : List (List UInt8 × Int)} (h : EnvIs w M es) {F : Nat → Prop} (k : Keep F w w') (hF : ∀ m, M = .map (some m) → ¬ F m) : EnvIs w' M es := by
  rcases h with h | ⟨m, n, e, hown, hn⟩
  · exact .inl h
  · exact .inr ⟨m, n, e, hown.keep k (hF m e), hn⟩
end Go.Proofs.YtcifljbcoioogaaGreatDoor
namespace Go.Proofs.YtcifljbcoioogaaGreatDoor
open Go.RowKit Go.Lib Go.Maps
theorem Keep.drew {F : Nat → Prop} {w w' : World} (h : Keep F w w') : Keep F w w'.drew := ⟨h.os, h.tape, h.output, h.size, h.block⟩
theorem EVB.drew {w : World} {p : Nat} {M : Value} {f l c e : Int} (h : EVB w p M f l c e) : EVB w.drew p M f l c e := h
theorem BX.drew {w : World} {g : Nat} {T : TypeId} {h : XH} {A : Option Addr} {n c : Nat} (x : BX w g T h A n c) : BX w.drew g T h A n c := x
theorem EnvIs.drew {w : World} {M : Value} {es : List (List UInt8 × Int)} (h : EnvIs w M es) : EnvIs w.drew M es := h
theorem EnvIs.alloc {w : World} {M : Value} {es : List (List UInt8 × Int)} (h : EnvIs w M es) (o : Obj) : EnvIs (w.alloc o) M es := h.over ((Keep.refl (fun _ => False) w).alloc o) fun _ _ hf => hf
abbrev envB (es : List (List UInt8 × Int)) : ByteArray → Option Int := fun s => envL es s.data.toList
set_option maxRecDepth 100000 in
set_option maxHeartbeats 1600000 in
theorem name_t (h : XH) (A : Option Addr) (n c : Nat) (p : Nat) (M : Value) (es : List (List UInt8 × Int)) (w : World) (hp : EVB w p M 0 0 0 0) (hM : EnvIs w M es) (hs : h.s.size ≤ maxLen) :
    Calls Tryz.prog 44 #[pe p, xv h A n c] w (VP p M w (namR (envB es) h)) := by
  unfold namR envB
  have hF := fun (W : World) (hb : EVB W p M 0 0 0 0) => fail_t h A n c 9 p M W hb
  have hD := fun (W : World) (hb : EnvIs W M es) => Find_t h.s M es W hs hb
  unfold FI at hD
  have hB := BX.new w 47 h A n c
  have hM1 := (hM.alloc (.cells #[.int .i64 h.k, .int .i64 h.f, .int .i64 h.l, .int .i64 h.c, .string h.s, .slice A n c] 47)).drew
  have hp1 := hp.alloc (.cells #[.int .i64 h.k, .int .i64 h.f, .int .i64 h.l, .int .i64 h.c, .string h.s, .slice A n c] 47)
  have hk1 := (Keep.refl (· = p) w).alloc (.cells #[.int .i64 h.k, .int .i64 h.f, .int .i64 h.l, .int .i64 h.c, .string h.s, .slice A n c] 47)
  obtain ⟨a0, a1, a2, a3, a4, af⟩ := hp1.all
  obtain ⟨b0, b1, b2, b3, b4, b5⟩ := hB.all
  have bl := hB.lt
  have al := hp1.lt
  have k1 : (w.alloc (.cells #[.int .i64 h.k, .int .i64 h.f, .int .i64 h.l, .int .i64 h.c, .string h.s, .slice A n c] 47)).drew.cell? ⟨p, 0, none⟩ = some M ∧ (w.alloc (.cells #[.int .i64 h.k, .int .i64 h.f, .int .i64 h.l, .int .i64 h.c, .string h.s, .slice A n c] 47)).drew.cell? ⟨w.heap.size, 4, none⟩ = some (.string h.s) := ⟨a0, b4⟩
  obtain ⟨o, ho⟩ : ∃ o, envL es h.s.data.toList = o := ⟨_, rfl⟩
  rw [ho] at hD ⊢
  replace hF := Lib.hid hF
  replace hD := Lib.hid hD
  replace hB := Lib.hid hB
  replace hM1 := Lib.hid hM1
  replace hp1 := Lib.hid hp1
  replace hk1 := Lib.hid hk1
  replace hp := Lib.hid hp
  replace ho := Lib.hid ho
  clear hM hs b0 b1 b2 b3 b5 a1 a2 a3 a4
  go_enter Tryz.func44, Tryz.ntmps44
  go_wp2_with fail
  go_region_held3 (fun w' => w'.cell? ⟨p, 0, none⟩ = some M ∧ w'.cell? ⟨w.heap.size, 4, none⟩ = some (.string h.s))
    (first | (with_reducible exact k1) | (exact k1) | (with_reducible exact k2))
    (first | (go_at_call 54; (with_reducible refine (hD.out _ hM1.out).mono ?_); rintro e w1 ⟨rfl, hb1⟩; have hB1 := hB.out.drew.over hb1; have hp2 := hp1.out.drew.over hb1; have hk2 := hk1.out.drew.then_below hb1; have k2 : w1.cell? ⟨p, 0, none⟩ = some M ∧ w1.cell? ⟨w.heap.size, 4, none⟩ = some (.string h.s) := ⟨hp2.all.1, hB1.all.2.2.2.2.1⟩))
  obtain ⟨e0, e1, e2, e3, e4, e5⟩ := hB1.all
  have el := hB1.lt
  clear hb1 k1
  replace hB1 := Lib.hid hB1
  replace hp2 := Lib.hid hp2
  replace hk2 := Lib.hid hk2
  cases o with
  | some v =>
    go_wp2_with fail
    go_ret
    exact ⟨_, rfl, fun _ => rfl, hp2.out, hk2.out⟩
  | none =>
    go_wp2_with fail
    (with_reducible refine (hF.out _ hp2.out).mono ?_)
    rintro e w2 ⟨rfl, hp3, hk3⟩
    have hk4 := hk2.out.both hk3
    clear hk3
    replace hp3 := Lib.hid hp3
    replace hk4 := Lib.hid hk4
    go_wp2_with fail
    go_ret
    exact ⟨_, rfl, fun h => absurd h (by simp [badR]), hp3.out, hk4.out⟩
end Go.Proofs.YtcifljbcoioogaaGreatDoor
namespace Go.Proofs.YtcifljbcoioogaaGreatDoor
open Go.RowKit Go.Lib Go.Maps
/-- Function k is the operator op. -/
def OpFn (k : Nat) (op : List UInt8) : Prop := (∀ (args : Array Value) (w : World), (callFunc k args).run Tryz.prog w = .ok (.enter k args) w) ∧ ∀ (a b : Int) (w : World), InR a → InR b → pmt op b = true → Calls Tryz.prog k #[.int .i64 a, .int .i64 b] w fun e w' => e = .returned (.int .i64 (opV op a b)) ∧ w' = w
theorem ret64 {a b : Int} (h : a = b) : Ending.returned (.int .i64 a) = .returned (.int .i64 b) := by rw [h]
theorem wrap_toNat (v : BitVec 64) : IntKind.i64.wrap (v.toNat : Int) = v.toInt := by
  have h := v.isLt
  rw [IntKind.wrap_i64, BitVec.toInt_eq_toNat_cond]
  split <;> omega
theorem bits_and (a b : Int) : bits .and .i64 a b = bw (· &&& ·) a b := wrap_toNat _
theorem bits_or (a b : Int) : bits .or .i64 a b = bw (· ||| ·) a b := wrap_toNat _
theorem bits_xor (a b : Int) : bits .xor .i64 a b = bw (· ^^^ ·) a b := wrap_toNat _
theorem bits_not (a b : Int) : bits .xor .i64 (-1) (bits .xor .i64 a b) = -1 - bw (· ^^^ ·) a b := by
  rw [bits_xor a b, bits_xor]
  unfold bw
  simp only [BitVec.ofInt_toInt]
  generalize BitVec.ofInt 64 a ^^^ BitVec.ofInt 64 b = x
  have e : BitVec.ofInt 64 (-1) ^^^ x = ~~~x := by
    rw [show BitVec.ofInt 64 (-1) = BitVec.allOnes 64 by decide, BitVec.allOnes_xor]
  rw [e, BitVec.toInt_eq_toNat_cond, BitVec.toInt_eq_toNat_cond, BitVec.toNat_not]
  have h := x.isLt
  split <;> split <;> omega
theorem mul_in {a b : Int} (ha : InR a) (hb : InR b) : -4611686018427387904 ≤ a * b ∧ a * b ≤ 4611686018427387904 := by
  have h : (a * b).natAbs ≤ 2147483648 * 2147483648 := by
    rw [Int.natAbs_mul]
    unfold InR at ha hb
    exact Nat.mul_le_mul (by omega) (by omega)
  omega
theorem wrap_same {x : Int} (h : -9223372036854775808 ≤ x ∧ x ≤ 9223372036854775807) : wrap64 x = x := by
  unfold wrap64
  omega
theorem div_in {a b : Int} (ha : InR a) : -2147483648 ≤ a.tdiv b ∧ a.tdiv b ≤ 2147483648 := by
  have h : (a.tdiv b).natAbs ≤ 2147483648 := by
    rw [Int.natAbs_tdiv]
    unfold InR at ha
    exact Nat.le_trans (Nat.div_le_self _ _) (by omega)
  omega
theorem pow_in {b : Int} (h0 : 0 ≤ b) (h1 : b ≤ 31) : (1 : Int) ≤ 2 ^ b.toNat ∧ (2 : Int) ^ b.toNat ≤ 2147483648 := by
  have hp : (0 : Int) < 2 ^ b.toNat := Int.pow_pos (by decide)
  refine ⟨by omega, ?_⟩
  have h : 2 ^ b.toNat ≤ 2 ^ 31 := Nat.pow_le_pow_right (by decide) (by omega)
  have e : ((2 ^ b.toNat : Nat) : Int) = (2 : Int) ^ b.toNat := by simp
  omega
theorem shl_in {a b : Int} (ha : InR a) (h0 : 0 ≤ b) (h1 : b ≤ 31) : -9223372036854775808 ≤ a * 2 ^ b.toNat ∧ a * 2 ^ b.toNat ≤ 9223372036854775807 := by
  have hp := pow_in h0 h1
  have h : (a * 2 ^ b.toNat).natAbs ≤ 2147483648 * 2147483648 := by
    rw [Int.natAbs_mul]
    unfold InR at ha
    exact Nat.mul_le_mul (by omega) (by omega)
  omega
theorem op_0 : OpFn 75 [43] := by
  refine ⟨fun _ _ => by kernel_rfl, fun a b w ha hb hp => ?_⟩
  obtain ⟨a1, a2⟩ := ha
  obtain ⟨b1, b2⟩ := hb
  go_enter Tryz.func75, Tryz.ntmps75
  go_wp2
  go_ret
  exact ⟨ret64 (rfl), rfl⟩
theorem op_1 : OpFn 76 [45] := by
  refine ⟨fun _ _ => by kernel_rfl, fun a b w ha hb hp => ?_⟩
  obtain ⟨a1, a2⟩ := ha
  obtain ⟨b1, b2⟩ := hb
  go_enter Tryz.func76, Tryz.ntmps76
  go_wp2
  go_ret
  exact ⟨ret64 (rfl), rfl⟩
theorem op_2 : OpFn 77 [42] := by
  refine ⟨fun _ _ => by kernel_rfl, fun a b w ha hb hp => ?_⟩
  have hm := wrap_same (by have := mul_in ha hb; omega : -9223372036854775808 ≤ a * b ∧ a * b ≤ 9223372036854775807)
  obtain ⟨a1, a2⟩ := ha
  obtain ⟨b1, b2⟩ := hb
  replace hm := Lib.hid hm
  go_enter Tryz.func77, Tryz.ntmps77
  go_wp2
  go_ret
  exact ⟨ret64 (hm.out), rfl⟩
theorem op_3 : OpFn 78 [47] := by
  refine ⟨fun _ _ => by kernel_rfl, fun a b w ha hb hp => ?_⟩
  have h0 : ¬ b = 0 := by simpa [pmt] using hp
  have hm := wrap_same (by have := div_in (b := b) ha; omega : -9223372036854775808 ≤ a.tdiv b ∧ a.tdiv b ≤ 9223372036854775807)
  obtain ⟨a1, a2⟩ := ha
  obtain ⟨b1, b2⟩ := hb
  replace hm := Lib.hid hm
  go_enter Tryz.func78, Tryz.ntmps78
  go_wp2
  go_ret
  exact ⟨ret64 (hm.out), rfl⟩
theorem op_4 : OpFn 79 [37] := by
  refine ⟨fun _ _ => by kernel_rfl, fun a b w ha hb hp => ?_⟩
  have h0 : ¬ b = 0 := by simpa [pmt] using hp
  obtain ⟨a1, a2⟩ := ha
  obtain ⟨b1, b2⟩ := hb
  go_enter Tryz.func79, Tryz.ntmps79
  go_wp2
  go_ret
  exact ⟨ret64 (rfl), rfl⟩
theorem op_5 : OpFn 80 [38] := by
  refine ⟨fun _ _ => by kernel_rfl, fun a b w ha hb hp => ?_⟩
  obtain ⟨a1, a2⟩ := ha
  obtain ⟨b1, b2⟩ := hb
  go_enter Tryz.func80, Tryz.ntmps80
  go_wp2
  go_ret
  exact ⟨ret64 (bits_and a b), rfl⟩
theorem op_6 : OpFn 81 [124] := by
  refine ⟨fun _ _ => by kernel_rfl, fun a b w ha hb hp => ?_⟩
  obtain ⟨a1, a2⟩ := ha
  obtain ⟨b1, b2⟩ := hb
  go_enter Tryz.func81, Tryz.ntmps81
  go_wp2
  go_ret
  exact ⟨ret64 (bits_or a b), rfl⟩
theorem op_7 : OpFn 82 [94] := by
  refine ⟨fun _ _ => by kernel_rfl, fun a b w ha hb hp => ?_⟩
  obtain ⟨a1, a2⟩ := ha
  obtain ⟨b1, b2⟩ := hb
  go_enter Tryz.func82, Tryz.ntmps82
  go_wp2
  go_ret
  exact ⟨ret64 (bits_xor a b), rfl⟩
theorem op_8 : OpFn 83 [126, 94] := by
  refine ⟨fun _ _ => by kernel_rfl, fun a b w ha hb hp => ?_⟩
  obtain ⟨a1, a2⟩ := ha
  obtain ⟨b1, b2⟩ := hb
  go_enter Tryz.func83, Tryz.ntmps83
  go_wp2
  go_ret
  exact ⟨ret64 (bits_not a b), rfl⟩
theorem op_9 : OpFn 84 [60, 60] := by
  refine ⟨fun _ _ => by kernel_rfl, fun a b w ha hb hp => ?_⟩
  obtain ⟨h0, h1⟩ : 0 ≤ b ∧ b ≤ 31 := by simpa [pmt] using hp
  have hm := wrap_same (shl_in ha h0 h1)
  obtain ⟨a1, a2⟩ := ha
  obtain ⟨b1, b2⟩ := hb
  replace hm := Lib.hid hm
  go_enter Tryz.func84, Tryz.ntmps84
  go_wp2
  go_ret
  exact ⟨ret64 (hm.out), rfl⟩
theorem op_10 : OpFn 85 [62, 62] := by
  refine ⟨fun _ _ => by kernel_rfl, fun a b w ha hb hp => ?_⟩
  obtain ⟨h0, h1⟩ : 0 ≤ b ∧ b ≤ 31 := by simpa [pmt] using hp
  obtain ⟨a1, a2⟩ := ha
  obtain ⟨b1, b2⟩ := hb
  go_enter Tryz.func85, Tryz.ntmps85
  go_wp2
  go_ret
  exact ⟨ret64 (rfl), rfl⟩
theorem cmp_0 : OpFn 98 [60] := by
  refine ⟨fun _ _ => by kernel_rfl, fun a b w _ _ _ => ?_⟩
  go_enter Tryz.func98, Tryz.ntmps98
  go_wp2_with fail
  (with_reducible refine (truth_t _ _).mono ?_)
  rintro e w' ⟨rfl, rfl⟩
  go_wp2_with fail
  go_ret
  exact ⟨by simp [opV, ofB], rfl⟩
theorem cmp_1 : OpFn 99 [60, 61] := by
  refine ⟨fun _ _ => by kernel_rfl, fun a b w _ _ _ => ?_⟩
  go_enter Tryz.func99, Tryz.ntmps99
  go_wp2_with fail
  (with_reducible refine (truth_t _ _).mono ?_)
  rintro e w' ⟨rfl, rfl⟩
  go_wp2_with fail
  go_ret
  exact ⟨by simp [opV, ofB], rfl⟩
theorem cmp_2 : OpFn 100 [62] := by
  refine ⟨fun _ _ => by kernel_rfl, fun a b w _ _ _ => ?_⟩
  go_enter Tryz.func100, Tryz.ntmps100
  go_wp2_with fail
  (with_reducible refine (truth_t _ _).mono ?_)
  rintro e w' ⟨rfl, rfl⟩
  go_wp2_with fail
  go_ret
  exact ⟨by simp [opV, ofB], rfl⟩
theorem cmp_3 : OpFn 101 [62, 61] := by
  refine ⟨fun _ _ => by kernel_rfl, fun a b w _ _ _ => ?_⟩
  go_enter Tryz.func101, Tryz.ntmps101
  go_wp2_with fail
  (with_reducible refine (truth_t _ _).mono ?_)
  rintro e w' ⟨rfl, rfl⟩
  go_wp2_with fail
  go_ret
  exact ⟨by simp [opV, ofB], rfl⟩
theorem cmp_4 : OpFn 102 [61, 61] := by
  refine ⟨fun _ _ => by kernel_rfl, fun a b w _ _ _ => ?_⟩
  go_enter Tryz.func102, Tryz.ntmps102
  go_wp2_with fail
  (with_reducible refine (truth_t _ _).mono ?_)
  rintro e w' ⟨rfl, rfl⟩
  go_wp2_with fail
  go_ret
  exact ⟨by simp [opV, ofB], rfl⟩
theorem cmp_5 : OpFn 103 [33, 61] := by
  refine ⟨fun _ _ => by kernel_rfl, fun a b w _ _ _ => ?_⟩
  go_enter Tryz.func103, Tryz.ntmps103
  go_wp2_with fail
  (with_reducible refine (truth_t _ _).mono ?_)
  rintro e w' ⟨rfl, rfl⟩
  go_wp2_with fail
  go_ret
  exact ⟨by simp [opV, ofB], rfl⟩
end Go.Proofs.YtcifljbcoioogaaGreatDoor
namespace Go.Proofs.YtcifljbcoioogaaGreatDoor
open Go.RowKit Go.Lib Go.Maps
abbrev fnv (k : Nat) : Value := .func (.func k) #[] #[]
/-- What binaryOf leaves. -/
def BO (op : List UInt8) (w : World) (e : Ending) (w' : World) : Prop := ∃ k, e = .returned (fnv k) ∧ w' = w ∧ OpFn k op
theorem op_shl3 : OpFn 84 [60, 60, 60] := ⟨op_9.1, fun a b w ha hb hp => op_9.2 a b w ha hb hp⟩
theorem op_shr3 : OpFn 85 [62, 62, 62] := ⟨op_10.1, fun a b w ha hb hp => op_10.2 a b w ha hb hp⟩
theorem bo_0 (s : ByteArray) (w : World) (h : s.toList = [43]) : Calls Tryz.prog 58 #[.string s] w (BO [43] w) := by
  go_enter Tryz.func58, Tryz.ntmps58
  go_wp2_with fail
  go_ret
  exact ⟨_, rfl, rfl, op_0⟩
theorem bo_1 (s : ByteArray) (w : World) (h : s.toList = [45]) : Calls Tryz.prog 58 #[.string s] w (BO [45] w) := by
  go_enter Tryz.func58, Tryz.ntmps58
  go_wp2_with fail
  go_ret
  exact ⟨_, rfl, rfl, op_1⟩
theorem bo_2 (s : ByteArray) (w : World) (h : s.toList = [42]) : Calls Tryz.prog 58 #[.string s] w (BO [42] w) := by
  go_enter Tryz.func58, Tryz.ntmps58
  go_wp2_with fail
  go_ret
  exact ⟨_, rfl, rfl, op_2⟩
theorem bo_3 (s : ByteArray) (w : World) (h : s.toList = [47]) : Calls Tryz.prog 58 #[.string s] w (BO [47] w) := by
  go_enter Tryz.func58, Tryz.ntmps58
  go_wp2_with fail
  go_ret
  exact ⟨_, rfl, rfl, op_3⟩
theorem bo_4 (s : ByteArray) (w : World) (h : s.toList = [37]) : Calls Tryz.prog 58 #[.string s] w (BO [37] w) := by
  go_enter Tryz.func58, Tryz.ntmps58
  go_wp2_with fail
  go_ret
  exact ⟨_, rfl, rfl, op_4⟩
theorem bo_5 (s : ByteArray) (w : World) (h : s.toList = [38]) : Calls Tryz.prog 58 #[.string s] w (BO [38] w) := by
  go_enter Tryz.func58, Tryz.ntmps58
  go_wp2_with fail
  go_ret
  exact ⟨_, rfl, rfl, op_5⟩
theorem bo_6 (s : ByteArray) (w : World) (h : s.toList = [124]) : Calls Tryz.prog 58 #[.string s] w (BO [124] w) := by
  go_enter Tryz.func58, Tryz.ntmps58
  go_wp2_with fail
  go_ret
  exact ⟨_, rfl, rfl, op_6⟩
theorem bo_7 (s : ByteArray) (w : World) (h : s.toList = [94]) : Calls Tryz.prog 58 #[.string s] w (BO [94] w) := by
  go_enter Tryz.func58, Tryz.ntmps58
  go_wp2_with fail
  go_ret
  exact ⟨_, rfl, rfl, op_7⟩
theorem bo_8 (s : ByteArray) (w : World) (h : s.toList = [126, 94]) : Calls Tryz.prog 58 #[.string s] w (BO [126, 94] w) := by
  go_enter Tryz.func58, Tryz.ntmps58
  go_wp2_with fail
  go_ret
  exact ⟨_, rfl, rfl, op_8⟩
theorem bo_9 (s : ByteArray) (w : World) (h : s.toList = [60, 60]) : Calls Tryz.prog 58 #[.string s] w (BO [60, 60] w) := by
  go_enter Tryz.func58, Tryz.ntmps58
  go_wp2_with fail
  go_ret
  exact ⟨_, rfl, rfl, op_9⟩
theorem bo_10 (s : ByteArray) (w : World) (h : s.toList = [60, 60, 60]) : Calls Tryz.prog 58 #[.string s] w (BO [60, 60, 60] w) := by
  go_enter Tryz.func58, Tryz.ntmps58
  go_wp2_with fail
  go_ret
  exact ⟨_, rfl, rfl, op_shl3⟩
theorem bo_11 (s : ByteArray) (w : World) (h : s.toList = [62, 62]) : Calls Tryz.prog 58 #[.string s] w (BO [62, 62] w) := by
  go_enter Tryz.func58, Tryz.ntmps58
  go_wp2_with fail
  go_ret
  exact ⟨_, rfl, rfl, op_10⟩
theorem bo_12 (s : ByteArray) (w : World) (h : s.toList = [62, 62, 62]) : Calls Tryz.prog 58 #[.string s] w (BO [62, 62, 62] w) := by
  go_enter Tryz.func58, Tryz.ntmps58
  go_wp2_with fail
  go_ret
  exact ⟨_, rfl, rfl, op_shr3⟩
theorem co_0 (s : ByteArray) (w : World) (h : s.toList = [60]) : Calls Tryz.prog 86 #[.string s] w (BO [60] w) := by
  go_enter Tryz.func86, Tryz.ntmps86
  go_wp2_with fail
  go_ret
  exact ⟨_, rfl, rfl, cmp_0⟩
theorem bc_0 (s : ByteArray) (w : World) (h : s.toList = [60]) : Calls Tryz.prog 58 #[.string s] w (BO [60] w) := by
  have hC := co_0 s w h
  replace hC := Lib.hid hC
  go_enter Tryz.func58, Tryz.ntmps58
  go_wp2_with fail
  (with_reducible refine hC.out.mono ?_)
  rintro e w' ⟨k, rfl, hw, hk⟩
  subst hw
  go_wp2_with fail
  go_ret
  exact ⟨_, rfl, rfl, hk⟩
theorem co_1 (s : ByteArray) (w : World) (h : s.toList = [60, 61]) : Calls Tryz.prog 86 #[.string s] w (BO [60, 61] w) := by
  go_enter Tryz.func86, Tryz.ntmps86
  go_wp2_with fail
  go_ret
  exact ⟨_, rfl, rfl, cmp_1⟩
theorem bc_1 (s : ByteArray) (w : World) (h : s.toList = [60, 61]) : Calls Tryz.prog 58 #[.string s] w (BO [60, 61] w) := by
  have hC := co_1 s w h
  replace hC := Lib.hid hC
  go_enter Tryz.func58, Tryz.ntmps58
  go_wp2_with fail
  (with_reducible refine hC.out.mono ?_)
  rintro e w' ⟨k, rfl, hw, hk⟩
  subst hw
  go_wp2_with fail
  go_ret
  exact ⟨_, rfl, rfl, hk⟩
theorem co_2 (s : ByteArray) (w : World) (h : s.toList = [62]) : Calls Tryz.prog 86 #[.string s] w (BO [62] w) := by
  go_enter Tryz.func86, Tryz.ntmps86
  go_wp2_with fail
  go_ret
  exact ⟨_, rfl, rfl, cmp_2⟩
theorem bc_2 (s : ByteArray) (w : World) (h : s.toList = [62]) : Calls Tryz.prog 58 #[.string s] w (BO [62] w) := by
  have hC := co_2 s w h
  replace hC := Lib.hid hC
  go_enter Tryz.func58, Tryz.ntmps58
  go_wp2_with fail
  (with_reducible refine hC.out.mono ?_)
  rintro e w' ⟨k, rfl, hw, hk⟩
  subst hw
  go_wp2_with fail
  go_ret
  exact ⟨_, rfl, rfl, hk⟩
theorem co_3 (s : ByteArray) (w : World) (h : s.toList = [62, 61]) : Calls Tryz.prog 86 #[.string s] w (BO [62, 61] w) := by
  go_enter Tryz.func86, Tryz.ntmps86
  go_wp2_with fail
  go_ret
  exact ⟨_, rfl, rfl, cmp_3⟩
theorem bc_3 (s : ByteArray) (w : World) (h : s.toList = [62, 61]) : Calls Tryz.prog 58 #[.string s] w (BO [62, 61] w) := by
  have hC := co_3 s w h
  replace hC := Lib.hid hC
  go_enter Tryz.func58, Tryz.ntmps58
  go_wp2_with fail
  (with_reducible refine hC.out.mono ?_)
  rintro e w' ⟨k, rfl, hw, hk⟩
  subst hw
  go_wp2_with fail
  go_ret
  exact ⟨_, rfl, rfl, hk⟩
theorem co_4 (s : ByteArray) (w : World) (h : s.toList = [61, 61]) : Calls Tryz.prog 86 #[.string s] w (BO [61, 61] w) := by
  go_enter Tryz.func86, Tryz.ntmps86
  go_wp2_with fail
  go_ret
  exact ⟨_, rfl, rfl, cmp_4⟩
theorem bc_4 (s : ByteArray) (w : World) (h : s.toList = [61, 61]) : Calls Tryz.prog 58 #[.string s] w (BO [61, 61] w) := by
  have hC := co_4 s w h
  replace hC := Lib.hid hC
  go_enter Tryz.func58, Tryz.ntmps58
  go_wp2_with fail
  (with_reducible refine hC.out.mono ?_)
  rintro e w' ⟨k, rfl, hw, hk⟩
  subst hw
  go_wp2_with fail
  go_ret
  exact ⟨_, rfl, rfl, hk⟩
theorem co_5 (s : ByteArray) (w : World) (h : s.toList = [33, 61]) : Calls Tryz.prog 86 #[.string s] w (BO [33, 61] w) := by
  go_enter Tryz.func86, Tryz.ntmps86
  go_wp2_with fail
  go_ret
  exact ⟨_, rfl, rfl, cmp_5⟩
theorem bc_5 (s : ByteArray) (w : World) (h : s.toList = [33, 61]) : Calls Tryz.prog 58 #[.string s] w (BO [33, 61] w) := by
  have hC := co_5 s w h
  replace hC := Lib.hid hC
  go_enter Tryz.func58, Tryz.ntmps58
  go_wp2_with fail
  (with_reducible refine hC.out.mono ?_)
  rintro e w' ⟨k, rfl, hw, hk⟩
  subst hw
  go_wp2_with fail
  go_ret
  exact ⟨_, rfl, rfl, hk⟩
theorem binaryOf_t (s : ByteArray) (op : List UInt8) (w : World) (h : s.toList = op) (ho : op ∈ bin19) : Calls Tryz.prog 58 #[.string s] w (BO op w) := by
  simp only [bin19, List.mem_cons, List.not_mem_nil, or_false] at ho
  rcases ho with rfl | rfl | rfl | rfl | rfl | rfl | rfl | rfl | rfl | rfl | rfl | rfl | rfl | rfl | rfl | rfl | rfl | rfl | rfl
  · exact bo_0 s w h
  · exact bo_1 s w h
  · exact bo_2 s w h
  · exact bo_3 s w h
  · exact bo_4 s w h
  · exact bo_5 s w h
  · exact bo_6 s w h
  · exact bo_7 s w h
  · exact bo_8 s w h
  · exact bo_9 s w h
  · exact bo_11 s w h
  · exact bo_10 s w h
  · exact bo_12 s w h
  · exact bc_0 s w h
  · exact bc_1 s w h
  · exact bc_2 s w h
  · exact bc_3 s w h
  · exact bc_4 s w h
  · exact bc_5 s w h
/-- What permits leaves. -/
def PO (op : List UInt8) (b : Int) (w : World) (e : Ending) (w' : World) : Prop := e = .returned (.bool (pmt op b)) ∧ w' = w
theorem po_0 (s : ByteArray) (b : Int) (w : World) (h : s.toList = [43]) : Calls Tryz.prog 59 #[.string s, .int .i64 b] w (PO [43] b w) := by
  go_enter Tryz.func59, Tryz.ntmps59
  go_wp2_with fail
  all_goals go_ret
  all_goals exact ⟨by first | rfl | (simp [pmt, *]; done) | (simp [pmt, *]; omega) | (by_cases h0 : b = 0 <;> simp [pmt, h0]), rfl⟩
theorem po_1 (s : ByteArray) (b : Int) (w : World) (h : s.toList = [45]) : Calls Tryz.prog 59 #[.string s, .int .i64 b] w (PO [45] b w) := by
  go_enter Tryz.func59, Tryz.ntmps59
  go_wp2_with fail
  all_goals go_ret
  all_goals exact ⟨by first | rfl | (simp [pmt, *]; done) | (simp [pmt, *]; omega) | (by_cases h0 : b = 0 <;> simp [pmt, h0]), rfl⟩
theorem po_2 (s : ByteArray) (b : Int) (w : World) (h : s.toList = [42]) : Calls Tryz.prog 59 #[.string s, .int .i64 b] w (PO [42] b w) := by
  go_enter Tryz.func59, Tryz.ntmps59
  go_wp2_with fail
  all_goals go_ret
  all_goals exact ⟨by first | rfl | (simp [pmt, *]; done) | (simp [pmt, *]; omega) | (by_cases h0 : b = 0 <;> simp [pmt, h0]), rfl⟩
theorem po_3 (s : ByteArray) (b : Int) (w : World) (h : s.toList = [47]) : Calls Tryz.prog 59 #[.string s, .int .i64 b] w (PO [47] b w) := by
  go_enter Tryz.func59, Tryz.ntmps59
  go_wp2_with fail
  all_goals go_ret
  all_goals exact ⟨by first | rfl | (simp [pmt, *]; done) | (simp [pmt, *]; omega) | (by_cases h0 : b = 0 <;> simp [pmt, h0]), rfl⟩
theorem po_4 (s : ByteArray) (b : Int) (w : World) (h : s.toList = [37]) : Calls Tryz.prog 59 #[.string s, .int .i64 b] w (PO [37] b w) := by
  go_enter Tryz.func59, Tryz.ntmps59
  go_wp2_with fail
  all_goals go_ret
  all_goals exact ⟨by first | rfl | (simp [pmt, *]; done) | (simp [pmt, *]; omega) | (by_cases h0 : b = 0 <;> simp [pmt, h0]), rfl⟩
theorem po_5 (s : ByteArray) (b : Int) (w : World) (h : s.toList = [38]) : Calls Tryz.prog 59 #[.string s, .int .i64 b] w (PO [38] b w) := by
  go_enter Tryz.func59, Tryz.ntmps59
  go_wp2_with fail
  all_goals go_ret
  all_goals exact ⟨by first | rfl | (simp [pmt, *]; done) | (simp [pmt, *]; omega) | (by_cases h0 : b = 0 <;> simp [pmt, h0]), rfl⟩
theorem po_6 (s : ByteArray) (b : Int) (w : World) (h : s.toList = [124]) : Calls Tryz.prog 59 #[.string s, .int .i64 b] w (PO [124] b w) := by
  go_enter Tryz.func59, Tryz.ntmps59
  go_wp2_with fail
  all_goals go_ret
  all_goals exact ⟨by first | rfl | (simp [pmt, *]; done) | (simp [pmt, *]; omega) | (by_cases h0 : b = 0 <;> simp [pmt, h0]), rfl⟩
theorem po_7 (s : ByteArray) (b : Int) (w : World) (h : s.toList = [94]) : Calls Tryz.prog 59 #[.string s, .int .i64 b] w (PO [94] b w) := by
  go_enter Tryz.func59, Tryz.ntmps59
  go_wp2_with fail
  all_goals go_ret
  all_goals exact ⟨by first | rfl | (simp [pmt, *]; done) | (simp [pmt, *]; omega) | (by_cases h0 : b = 0 <;> simp [pmt, h0]), rfl⟩
theorem po_8 (s : ByteArray) (b : Int) (w : World) (h : s.toList = [126, 94]) : Calls Tryz.prog 59 #[.string s, .int .i64 b] w (PO [126, 94] b w) := by
  go_enter Tryz.func59, Tryz.ntmps59
  go_wp2_with fail
  all_goals go_ret
  all_goals exact ⟨by first | rfl | (simp [pmt, *]; done) | (simp [pmt, *]; omega) | (by_cases h0 : b = 0 <;> simp [pmt, h0]), rfl⟩
theorem po_9 (s : ByteArray) (b : Int) (w : World) (h : s.toList = [60, 60]) : Calls Tryz.prog 59 #[.string s, .int .i64 b] w (PO [60, 60] b w) := by
  go_enter Tryz.func59, Tryz.ntmps59
  go_wp2_with fail
  all_goals go_ret
  all_goals exact ⟨by first | rfl | (simp [pmt, *]; done) | (simp [pmt, *]; omega) | (by_cases h0 : b = 0 <;> simp [pmt, h0]), rfl⟩
theorem po_10 (s : ByteArray) (b : Int) (w : World) (h : s.toList = [62, 62]) : Calls Tryz.prog 59 #[.string s, .int .i64 b] w (PO [62, 62] b w) := by
  go_enter Tryz.func59, Tryz.ntmps59
  go_wp2_with fail
  all_goals go_ret
  all_goals exact ⟨by first | rfl | (simp [pmt, *]; done) | (simp [pmt, *]; omega) | (by_cases h0 : b = 0 <;> simp [pmt, h0]), rfl⟩
theorem po_11 (s : ByteArray) (b : Int) (w : World) (h : s.toList = [60, 60, 60]) : Calls Tryz.prog 59 #[.string s, .int .i64 b] w (PO [60, 60, 60] b w) := by
  go_enter Tryz.func59, Tryz.ntmps59
  go_wp2_with fail
  all_goals go_ret
  all_goals exact ⟨by first | rfl | (simp [pmt, *]; done) | (simp [pmt, *]; omega) | (by_cases h0 : b = 0 <;> simp [pmt, h0]), rfl⟩
theorem po_12 (s : ByteArray) (b : Int) (w : World) (h : s.toList = [62, 62, 62]) : Calls Tryz.prog 59 #[.string s, .int .i64 b] w (PO [62, 62, 62] b w) := by
  go_enter Tryz.func59, Tryz.ntmps59
  go_wp2_with fail
  all_goals go_ret
  all_goals exact ⟨by first | rfl | (simp [pmt, *]; done) | (simp [pmt, *]; omega) | (by_cases h0 : b = 0 <;> simp [pmt, h0]), rfl⟩
theorem po_13 (s : ByteArray) (b : Int) (w : World) (h : s.toList = [60]) : Calls Tryz.prog 59 #[.string s, .int .i64 b] w (PO [60] b w) := by
  go_enter Tryz.func59, Tryz.ntmps59
  go_wp2_with fail
  all_goals go_ret
  all_goals exact ⟨by first | rfl | (simp [pmt, *]; done) | (simp [pmt, *]; omega) | (by_cases h0 : b = 0 <;> simp [pmt, h0]), rfl⟩
theorem po_14 (s : ByteArray) (b : Int) (w : World) (h : s.toList = [60, 61]) : Calls Tryz.prog 59 #[.string s, .int .i64 b] w (PO [60, 61] b w) := by
  go_enter Tryz.func59, Tryz.ntmps59
  go_wp2_with fail
  all_goals go_ret
  all_goals exact ⟨by first | rfl | (simp [pmt, *]; done) | (simp [pmt, *]; omega) | (by_cases h0 : b = 0 <;> simp [pmt, h0]), rfl⟩
theorem po_15 (s : ByteArray) (b : Int) (w : World) (h : s.toList = [62]) : Calls Tryz.prog 59 #[.string s, .int .i64 b] w (PO [62] b w) := by
  go_enter Tryz.func59, Tryz.ntmps59
  go_wp2_with fail
  all_goals go_ret
  all_goals exact ⟨by first | rfl | (simp [pmt, *]; done) | (simp [pmt, *]; omega) | (by_cases h0 : b = 0 <;> simp [pmt, h0]), rfl⟩
theorem po_16 (s : ByteArray) (b : Int) (w : World) (h : s.toList = [62, 61]) : Calls Tryz.prog 59 #[.string s, .int .i64 b] w (PO [62, 61] b w) := by
  go_enter Tryz.func59, Tryz.ntmps59
  go_wp2_with fail
  all_goals go_ret
  all_goals exact ⟨by first | rfl | (simp [pmt, *]; done) | (simp [pmt, *]; omega) | (by_cases h0 : b = 0 <;> simp [pmt, h0]), rfl⟩
theorem po_17 (s : ByteArray) (b : Int) (w : World) (h : s.toList = [61, 61]) : Calls Tryz.prog 59 #[.string s, .int .i64 b] w (PO [61, 61] b w) := by
  go_enter Tryz.func59, Tryz.ntmps59
  go_wp2_with fail
  all_goals go_ret
  all_goals exact ⟨by first | rfl | (simp [pmt, *]; done) | (simp [pmt, *]; omega) | (by_cases h0 : b = 0 <;> simp [pmt, h0]), rfl⟩
theorem po_18 (s : ByteArray) (b : Int) (w : World) (h : s.toList = [33, 61]) : Calls Tryz.prog 59 #[.string s, .int .i64 b] w (PO [33, 61] b w) := by
  go_enter Tryz.func59, Tryz.ntmps59
  go_wp2_with fail
  all_goals go_ret
  all_goals exact ⟨by first | rfl | (simp [pmt, *]; done) | (simp [pmt, *]; omega) | (by_cases h0 : b = 0 <;> simp [pmt, h0]), rfl⟩
theorem permits_t (s : ByteArray) (op : List UInt8) (b : Int) (w : World) (h : s.toList = op) (ho : op ∈ bin19) : Calls Tryz.prog 59 #[.string s, .int .i64 b] w (PO op b w) := by
  simp only [bin19, List.mem_cons, List.not_mem_nil, or_false] at ho
  rcases ho with rfl | rfl | rfl | rfl | rfl | rfl | rfl | rfl | rfl | rfl | rfl | rfl | rfl | rfl | rfl | rfl | rfl | rfl | rfl
  · exact po_0 s b w h
  · exact po_1 s b w h
  · exact po_2 s b w h
  · exact po_3 s b w h
  · exact po_4 s b w h
  · exact po_5 s b w h
  · exact po_6 s b w h
  · exact po_7 s b w h
  · exact po_8 s b w h
  · exact po_9 s b w h
  · exact po_10 s b w h
  · exact po_11 s b w h
  · exact po_12 s b w h
  · exact po_13 s b w h
  · exact po_14 s b w h
  · exact po_15 s b w h
  · exact po_16 s b w h
  · exact po_17 s b w h
  · exact po_18 s b w h
/-- Function k is the operator op of one. -/
def UnFn (k : Nat) (op : List UInt8) : Prop := (∀ (args : Array Value) (w : World), (callFunc k args).run Tryz.prog w = .ok (.enter k args) w) ∧ ∀ (a : Int) (w : World), InR a → Calls Tryz.prog k #[.int .i64 a] w fun e w' => e = .returned (.int .i64 (unV op a)) ∧ w' = w
/-- What unaryOf leaves. -/
def UO (op : List UInt8) (w : World) (e : Ending) (w' : World) : Prop := w' = w ∧ if isUn op then ∃ k, e = .returned (fnv k) ∧ UnFn k op else e = .returned .nilFunc
theorem un_0 : UnFn 72 [45] := by
  refine ⟨fun _ _ => by kernel_rfl, fun a w ha => ?_⟩
  obtain ⟨a1, a2⟩ := ha
  go_enter Tryz.func72, Tryz.ntmps72
  go_wp2
  go_ret
  exact ⟨ret64 rfl, rfl⟩
theorem un_1 : UnFn 73 [126] := by
  refine ⟨fun _ _ => by kernel_rfl, fun a w ha => ?_⟩
  obtain ⟨a1, a2⟩ := ha
  go_enter Tryz.func73, Tryz.ntmps73
  go_wp2
  go_ret
  exact ⟨ret64 rfl, rfl⟩
theorem un_2 : UnFn 74 [33] := by
  refine ⟨fun _ _ => by kernel_rfl, fun a w ha => ?_⟩
  go_enter Tryz.func74, Tryz.ntmps74
  go_wp2_with fail
  (with_reducible refine (truth_t _ _).mono ?_)
  rintro e w' ⟨rfl, rfl⟩
  go_wp2_with fail
  go_ret
  exact ⟨by simp [unV, ofB], rfl⟩
theorem uo_0 (s : ByteArray) (w : World) (h : s.toList = [45]) : Calls Tryz.prog 55 #[.string s] w (UO [45] w) := by
  go_enter Tryz.func55, Tryz.ntmps55
  go_wp2_with fail
  go_ret
  exact ⟨rfl, _, rfl, un_0⟩
theorem uo_1 (s : ByteArray) (w : World) (h : s.toList = [126]) : Calls Tryz.prog 55 #[.string s] w (UO [126] w) := by
  go_enter Tryz.func55, Tryz.ntmps55
  go_wp2_with fail
  go_ret
  exact ⟨rfl, _, rfl, un_1⟩
theorem uo_2 (s : ByteArray) (w : World) (h : s.toList = [33]) : Calls Tryz.prog 55 #[.string s] w (UO [33] w) := by
  go_enter Tryz.func55, Tryz.ntmps55
  go_wp2_with fail
  go_ret
  exact ⟨rfl, _, rfl, un_2⟩
theorem uo_3 (s : ByteArray) (w : World) (h : s.toList = [38]) : Calls Tryz.prog 55 #[.string s] w (UO [38] w) := by
  go_enter Tryz.func55, Tryz.ntmps55
  go_wp2_with fail
  go_ret
  exact ⟨rfl, rfl⟩
theorem uo_4 (s : ByteArray) (w : World) (h : s.toList = [124]) : Calls Tryz.prog 55 #[.string s] w (UO [124] w) := by
  go_enter Tryz.func55, Tryz.ntmps55
  go_wp2_with fail
  go_ret
  exact ⟨rfl, rfl⟩
theorem uo_5 (s : ByteArray) (w : World) (h : s.toList = [94]) : Calls Tryz.prog 55 #[.string s] w (UO [94] w) := by
  go_enter Tryz.func55, Tryz.ntmps55
  go_wp2_with fail
  go_ret
  exact ⟨rfl, rfl⟩
theorem uo_6 (s : ByteArray) (w : World) (h : s.toList = [126, 38]) : Calls Tryz.prog 55 #[.string s] w (UO [126, 38] w) := by
  go_enter Tryz.func55, Tryz.ntmps55
  go_wp2_with fail
  go_ret
  exact ⟨rfl, rfl⟩
theorem uo_7 (s : ByteArray) (w : World) (h : s.toList = [126, 124]) : Calls Tryz.prog 55 #[.string s] w (UO [126, 124] w) := by
  go_enter Tryz.func55, Tryz.ntmps55
  go_wp2_with fail
  go_ret
  exact ⟨rfl, rfl⟩
theorem uo_8 (s : ByteArray) (w : World) (h : s.toList = [126, 94]) : Calls Tryz.prog 55 #[.string s] w (UO [126, 94] w) := by
  go_enter Tryz.func55, Tryz.ntmps55
  go_wp2_with fail
  go_ret
  exact ⟨rfl, rfl⟩
theorem unaryOf_t (s : ByteArray) (op : List UInt8) (w : World) (h : s.toList = op) (ho : op ∈ un9) : Calls Tryz.prog 55 #[.string s] w (UO op w) := by
  simp only [un9, List.mem_cons, List.not_mem_nil, or_false] at ho
  rcases ho with rfl | rfl | rfl | rfl | rfl | rfl | rfl | rfl | rfl
  · exact uo_0 s w h
  · exact uo_1 s w h
  · exact uo_2 s w h
  · exact uo_3 s w h
  · exact uo_4 s w h
  · exact uo_5 s w h
  · exact uo_6 s w h
  · exact uo_7 s w h
  · exact uo_8 s w h
end Go.Proofs.YtcifljbcoioogaaGreatDoor
