/-
  The names of konst: a map that reads as a list of names with their numbers; maps.Copy; With, Find, Len.
-/
import Derived.Test.YtelbpmemkockeaaGreatDoorXd
import Derived.Maps.OwnSet
import Derived.Maps.RangeWalk
import Derived.Maps.Ext
namespace Go.Proofs.YtelbpmemkockeaaGreatDoor
open Go.RowKit Go.Lib Go.Maps
abbrev DU := DataW Unit
def putL (D : DU) (x : List UInt8 × Int) : DU := D.put (.string x.1) (.lit (.int .i64 x.2))
/-- The names with their numbers, in the order in which they were given, as a map. -/
def DM (es : List (List UInt8 × Int)) : DU := es.foldl putL (.map [])
def stepE (env : List UInt8 → Option Int) (x : List UInt8 × Int) : List UInt8 → Option Int := fun s => if s = x.1 then some x.2 else env s
def envL (es : List (List UInt8 × Int)) : List UInt8 → Option Int := es.foldl stepE (fun _ => none)
def AgE (D : DU) (env : List UInt8 → Option Int) : Prop := IsMap D ∧ ∀ s, Maps.has D (.string s) = (env s).isSome ∧ ∀ n z, env s = some n → D.atKey (.string s) z = .lit (.int .i64 n)
theorem AgE.put {D : DU} {env : List UInt8 → Option Int} (h : AgE D env) (x : List UInt8 × Int) : AgE (putL D x) (stepE env x) := by
  refine ⟨h.1.put _ _, fun s => ?_⟩
  unfold putL stepE
  by_cases e : s = x.1
  · subst e
    rw [if_pos rfl]
    exact ⟨has_put_same h.1 (by exact trivial) _, fun n z hn => by cases hn; exact atKey_put_same h.1 (by exact trivial) _ _⟩
  · rw [if_neg e]
    have hne : Lit.string s ≠ Lit.string x.1 := fun h' => e (by injection h')
    refine ⟨by rw [has_put_other hne]; exact (h.2 s).1, fun n z hn => ?_⟩
    rw [atKey_put_other hne]
    exact (h.2 s).2 n z hn
theorem AgE.fold : ∀ (es : List (List UInt8 × Int)) {D : DU} {env : List UInt8 → Option Int}, AgE D env → AgE (es.foldl putL D) (es.foldl stepE env)
  | [], _, _, h => h
  | x :: es, _, _, h => AgE.fold es (h.put x)
theorem DM_ag (es : List (List UInt8 × Int)) : AgE (DM es) (envL es) := AgE.fold es ⟨isMap_empty, fun _ => ⟨rfl, fun _ _ h => by cases h⟩⟩
theorem DM_snoc (es : List (List UInt8 × Int)) (x : List UInt8 × Int) : DM (es ++ [x]) = putL (DM es) x := by unfold DM; rw [List.foldl_append]; rfl
theorem envL_snoc (es : List (List UInt8 × Int)) (x : List UInt8 × Int) : envL (es ++ [x]) = stepE (envL es) x := by unfold envL; rw [List.foldl_append]; rfl
theorem kS : Keyed Tryz.prog 9 := string_keyed Tryz.underlying9
theorem zI (w : World) : (zeroValue 3).run Tryz.prog w = .ok (.int .i64 0) w := by kernel_rfl
/-- Block m is a map that reads as D. -/
abbrev MapIs (w : World) (m n : Nat) (D : DU) : Prop := w.ownsMap Tryz.prog 9 (plainElem (H := Unit) Tryz.prog 3) m n D
/-- The map of an Env. -/
def EnvIs (w : World) (M : Value) (es : List (List UInt8 × Int)) : Prop := (M = .map none ∧ es = []) ∨ ∃ m n, M = .map (some m) ∧ MapIs w m n (DM es) ∧ n ≤ 1000 * es.length
theorem MapIs.keep {w w' : World} {F : Nat → Prop} {m n : Nat} {D : DU} (h : MapIs w m n D) (k : Keep F w w') (hm : ¬ F m) : MapIs w' m n D := by
  unfold MapIs World.ownsMap at *
  rw [k.block m (by obtain ⟨es, c, e, _⟩ := h; exact lt_of_get e) hm]
  exact h
/-- THE RANGE's STEP, keys that are strings, integers as elements. -/
theorem next_si {w : World} {ops : Array Oper} {rest : List Oper} {o : Oper} {a : Act} {Q : Exit → Act → World → Prop}
    (hg : o.guard = none) (it : Operand) (hop : o.op = Op.next it false)
    (b r n : Nat) (D : DU) (left : Lit → Bool) (cnt : Nat) (hit : a.eval it = .pointer (some ⟨r, 0, none⟩)) (h : w.ranges Tryz.prog 9 (plainElem (H := Unit) Tryz.prog 3) b r n D left cnt)
    (hDone : cnt = 0 → (∀ kl, left kl = false) → wpList Tryz.prog ops Q rest (a.put o.dst (.tuple #[.bool false])) w)
    (hMore : ∀ (x : ByteArray) (c : Int) (w' : World) (cnt' : Nat), x.size ≤ maxLen → (Lit.int .i64 c).wf = true → left (.string x.data.toList) = true → (∀ zd, D.atKey (.string x.data.toList) zd = .lit (.int .i64 c)) → w'.ranges Tryz.prog 9 (plainElem (H := Unit) Tryz.prog 3) b r n D (fun z => left z && !z.sameKey (.string x.data.toList)) cnt' → cnt' < cnt →
      w.grownBy w' (some r) → w'.heap.size = w.heap.size → (Instr.entry (.pointer (some ⟨r, 0, none⟩))).run Tryz.prog w' = .ok (.tuple #[.string x, .int .i64 c]) w' → wpList Tryz.prog ops Q rest (a.put o.dst (.tuple #[.bool true, .string x, .int .i64 c])) w') :
    wpList Tryz.prog ops Q (o :: rest) a w :=
  wpList_next_ranges w hg it hop 9 kS (plainElem Tryz.prog 3) Value.string (Value.int .i64) (fun key kl hkey => by obtain ⟨x, rfl, _⟩ := WideMaps.string_of_keyOf Tryz.underlying9 hkey; exact ⟨x, rfl⟩) (fun v y hv => by obtain ⟨c, rfl, _⟩ := plainElem_int_inv Tryz.underlying3 hv; exact ⟨c, rfl⟩)
    b r n D left cnt hit h hDone (fun x c kl y w' cnt' hkey hlk hv hat hrg hlt hgr hsz hen => by
      obtain ⟨x', ex, rfl, hwx⟩ := WideMaps.string_of_keyOf Tryz.underlying9 hkey
      cases ex
      obtain ⟨c', ec, rfl, hwc⟩ := plainElem_int_inv Tryz.underlying3 hv
      cases ec
      exact hMore x c w' cnt' hwx hwc hlk hat hrg hlt hgr hsz hen)
set_option maxRecDepth 100000 in
set_option maxHeartbeats 1600000 in
theorem Copy_some (b n d n0 : Nat) (D0 : DU) (w : World) (hown : MapIs w b n D0) (hdst : MapIs w d n0 (.map [])) (hbd : b ≠ d) (hmax : n0 + Maps.size D0 < maxLen) :
    Calls Tryz.prog 36 #[.map (some d), .map (some b)] w fun e w' => e = .returned (.tuple #[]) ∧ MapIs w' d (n0 + Maps.size D0) D0 ∧ w.grownBy w' (some d) := by
  have hbl := hown.lt
  have hdl := hdst.lt
  go_enter Tryz.func36, Tryz.ntmps36
  go_wp2_with (first
    | (at_range; refine wpList_range_own _ rfl _ 37 rfl 9 3 kS Tryz.underlying37 _ b n _ rfl hown ?_; intro w0 hrg0 hg0 hs0)
    | fail)
  go_frame
  go_loopw [4] (fun _ wr => ∃ (left : Lit → Bool) (cnt : Nat) (Dout : DU), wr.ranges Tryz.prog 9 (plainElem (H := Unit) Tryz.prog 3) b w.heap.size n D0 left cnt ∧ cnt ≤ Maps.size D0 ∧
      MapIs wr d (n0 + (Maps.size D0 - cnt)) Dout ∧ Agree Dout D0 left ∧ w.grownBy wr (some d))
    (fun _ wr => wr.rangeLeft b w.heap.size)
  case atStart =>
    exact ⟨_, _, .map [], hrg0, Nat.le_refl _, (hdst.kept hg0 (by simp)).mono (Nat.le_add_right _ _), agree_start D0, hg0.but _⟩
  case round =>
    obtain ⟨left, cnt, Dout, hrg, hcs, hout, hA, hnx⟩ := hrel
    go_wp2_with (first
      | (at_next; refine next_si rfl _ rfl b w.heap.size n _ _ _ rfl hrg ?_ ?_)
      | fail)
    · intro hc0 hl0
      go_wp2_with fail
      subst hc0
      have e := agree_end hA hl0 (hout.canon kS) (hown.canon kS)
      subst e
      refine bodyPost_end (v := .tuple #[]) (by simp [results, Tryz.results36, go_sem]) rfl ⟨rfl, by simpa using hout, hnx⟩
    · intro x c w1 cnt1 hwx hwc hlx hat hrg1 hlt hg1 hs1 hen
      have hout1 := hout.kept hg1 (fun e => by have := Option.some.inj e; omega)
      go_wp2_with (first
        | (at_mapUpdate; refine wpList_mapUpdate_own _ rfl _ _ _ 37 rfl 9 3 kS Tryz.underlying37 _ d _ _ rfl hout1 (by omega) _ _ _ rfl rfl (WideMaps.keyOf_string_mk Tryz.underlying9 hwx) _ [] (plainElem_int Tryz.underlying3 hwc) ?_; intro w2 hout2 hg2; go_frame)
        | fail)
      have hrg2 := hrg1.kept hg2 (fun e => by have := Option.some.inj e; omega) (fun e => by have := Option.some.inj e; omega)
      go_roundw
      case rel =>
        exact ⟨_, cnt1, _, hrg2, by omega, hout2.mono (by omega), agree_step hA hout.isMap trivial hat,
          (hnx.andThen hg1 (fun j hj => Or.inl (by cases hj; exact Nat.le_refl _))).andThen hg2 (fun j hj => Or.inr (by rw [← hj]))⟩
      case measure => rw [hrg2.left_eq, hrg.left_eq]; exact hlt
end Go.Proofs.YtelbpmemkockeaaGreatDoor
