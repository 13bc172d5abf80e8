/-
  Names as the keys of a map: what a map of names holds, how many; the names of an expression of two others.
-/
import Derived.Test.YtljiiniocnljmaaAi
import Derived.Maps.OwnSet
import Derived.Maps.OwnOps
import Derived.Maps.Ext
namespace Go.Proofs.Ytljiiniocnljmaa
open Go.RowKit Go.Lib Go.Maps
abbrev DU := DataW Unit
def putL (D : DU) (x : List UInt8 × Int) : DU := D.put (.string x.1) (.lit (.int .i64 x.2))
/-- The names with their numbers, in the order in which they were given, as a map. -/
def DM (es : List (List UInt8 × Int)) : DU := es.foldl putL (.map [])
def stepE (env : List UInt8 → Option Int) (x : List UInt8 × Int) : List UInt8 → Option Int := fun s => if s = x.1 then some x.2 else env s
def envL (es : List (List UInt8 × Int)) : List UInt8 → Option Int := es.foldl stepE (fun _ => none)
def AgE (D : DU) (env : List UInt8 → Option Int) : Prop := IsMap D ∧ ∀ s, Maps.has D (.string s) = (env s).isSome ∧ ∀ n z, env s = some n → D.atKey (.string s) z = .lit (.int .i64 n)
theorem AgE.put {D : DU} {env : List UInt8 → Option Int} (h : AgE D env) (x : List UInt8 × Int) : AgE (putL D x) (stepE env x) := by
  refine ⟨h.1.put _ _, fun s => ?_⟩
  unfold putL stepE
  by_cases e : s = x.1
  · subst e
    rw [if_pos rfl]
    exact ⟨has_put_same h.1 (by exact trivial) _, fun n z hn => by cases hn; exact atKey_put_same h.1 (by exact trivial) _ _⟩
  · rw [if_neg e]
    have hne : Lit.string s ≠ Lit.string x.1 := fun h' => e (by injection h')
    refine ⟨by rw [has_put_other hne]; exact (h.2 s).1, fun n z hn => ?_⟩
    rw [atKey_put_other hne]
    exact (h.2 s).2 n z hn
theorem AgE.fold : ∀ (es : List (List UInt8 × Int)) {D : DU} {env : List UInt8 → Option Int}, AgE D env → AgE (es.foldl putL D) (es.foldl stepE env)
  | [], _, _, h => h
  | x :: es, _, _, h => AgE.fold es (h.put x)
theorem DM_ag (es : List (List UInt8 × Int)) : AgE (DM es) (envL es) := AgE.fold es ⟨isMap_empty, fun _ => ⟨rfl, fun _ _ h => by cases h⟩⟩
theorem DM_snoc (es : List (List UInt8 × Int)) (x : List UInt8 × Int) : DM (es ++ [x]) = putL (DM es) x := by unfold DM; rw [List.foldl_append]; rfl
theorem envL_snoc (es : List (List UInt8 × Int)) (x : List UInt8 × Int) : envL (es ++ [x]) = stepE (envL es) x := by unfold envL; rw [List.foldl_append]; rfl
theorem kS : Keyed Try.prog 9 := string_keyed Try.underlying9
theorem zI (w : World) : (zeroValue 3).run Try.prog w = .ok (.int .i64 0) w := by kernel_rfl
/-- Block m is a map that reads as D. -/
abbrev MapIs (w : World) (m n : Nat) (D : DU) : Prop := w.ownsMap Try.prog 9 (plainElem (H := Unit) Try.prog 3) m n D
theorem MapIs.keep {w w' : World} {F : Nat → Prop} {m n : Nat} {D : DU} (h : MapIs w m n D) (k : Keep F w w') (hm : ¬ F m) : MapIs w' m n D := by
  unfold MapIs World.ownsMap at *
  rw [k.block m (by obtain ⟨es, c, e, _⟩ := h; exact lt_of_get e) hm]
  exact h
/-- All names with the number one, then some with the number two. -/
def es12 (a b : List NB) : List (NB × Int) := a.map (fun s => (s, 1)) ++ b.map (fun s => (s, 2))
theorem es12_snoc1 (a : List NB) (s : NB) : es12 (a ++ [s]) [] = es12 a [] ++ [(s, 1)] := by simp [es12]
theorem es12_snoc2 (a b : List NB) (s : NB) : es12 a (b ++ [s]) = es12 a b ++ [(s, 2)] := by simp [es12]
theorem envL_app (a b : List (NB × Int)) : envL (a ++ b) = b.foldl stepE (envL a) := by unfold envL; rw [List.foldl_append]
theorem fold_in (v : Int) : ∀ (l : List NB) (e : NB → Option Int) (s : NB), (l.map fun x => (x, v)).foldl stepE e s = if s ∈ l then some v else e s
  | [], e, s => by simp
  | x :: l, e, s => by
    simp only [List.map_cons, List.foldl_cons]
    rw [fold_in v l]
    by_cases h : s ∈ l
    · rw [if_pos h, if_pos (List.mem_cons_of_mem _ h)]
    · rw [if_neg h]
      unfold stepE
      by_cases hx : s = x
      · subst hx
        rw [if_pos rfl, if_pos List.mem_cons_self]
      · rw [if_neg hx, if_neg (by simp [hx, h])]
theorem env12 (a b : List NB) (s : NB) : envL (es12 a b) s = if s ∈ b then some 2 else if s ∈ a then some 1 else none := by
  unfold es12
  rw [envL_app, fold_in]
  unfold envL
  rw [fold_in]
theorem DM_tidy : ∀ (es : List (NB × Int)) (D : DU), Maps.Tidy D → Maps.Tidy (es.foldl putL D)
  | [], _, h => h
  | x :: es, D, h => DM_tidy es (putL D x) (h.put (by exact trivial) _)
theorem DM_td (es : List (NB × Int)) : Maps.Tidy (DM es) := DM_tidy es _ tidy_empty
theorem size_snoc (es : List (NB × Int)) (x : NB × Int) : Maps.size (DM (es ++ [x])) = if (envL es x.1).isSome then Maps.size (DM es) else Maps.size (DM es) + 1 := by
  rw [DM_snoc]
  unfold putL
  rw [size_put (DM_td es), (DM_ag es).2 x.1 |>.1]
theorem ins_len2 : ∀ (l : List NB) (s : NB), Asc l → (ins l s).length = if s ∈ l then l.length else l.length + 1
  | [], s, _ => by simp [ins]
  | x :: l, s, h => by
    have h' := List.pairwise_cons.1 h
    unfold ins
    by_cases k : x < s
    · rw [if_pos k]
      have ih := ins_len2 l s h'.2
      have hne : ¬ s = x := fun e => nb_irr x (by rw [e] at k; exact k)
      simp only [List.length_cons, ih, List.mem_cons, hne, false_or]
      split <;> rfl
    · rw [if_neg k]
      by_cases e : x = s
      · rw [if_pos e, if_pos (by rw [e]; exact List.mem_cons_self)]
      · rw [if_neg e, if_neg]
        · rfl
        · intro hm
          rcases List.mem_cons.1 hm with hx | hx
          · exact e hx.symm
          · exact k (h'.1 s hx)
/-- As many keys as there are names. -/
theorem size_names (ns : List NB) : Maps.size (DM (es12 ns [])) = (insAll [] ns).length := by
  have key : ∀ n : Nat, ∀ ns : List NB, ns.length = n → Maps.size (DM (es12 ns [])) = (insAll [] ns).length := by
    intro n
    induction n with
    | zero =>
      intro ns hn
      have := List.eq_nil_of_length_eq_zero hn
      subst this
      rfl
    | succ n ih =>
      intro ns hn
      have hne : ns ≠ [] := fun e => by subst e; simp at hn
      have e : ns = ns.dropLast ++ [ns.getLast hne] := (List.dropLast_concat_getLast hne).symm
      rw [e, es12_snoc1, size_snoc, ih _ (by rw [List.length_dropLast]; omega), insAll_app]
      show _ = (ins (insAll [] ns.dropLast) (ns.getLast hne)).length
      rw [ins_len2 _ _ (insAll_asc _ _ List.Pairwise.nil), env12]
      have hm := mem_insAll ns.dropLast [] (ns.getLast hne)
      simp only [List.not_mem_nil, false_or] at hm
      by_cases h : ns.getLast hne ∈ ns.dropLast
      · have h2 := hm.2 h
        simp only [List.not_mem_nil, if_false, if_pos h, if_pos h2, Option.isSome_some, if_true]
      · have h2 : ¬ ns.getLast hne ∈ insAll [] ns.dropLast := fun h' => h (hm.1 h')
        simp only [List.not_mem_nil, if_false, if_neg h, if_neg h2, Option.isSome_none, Bool.false_eq_true]
  exact key _ ns rfl
/-- Names that are there get another number: as many keys as before. -/
theorem size_second (a : List NB) : ∀ n : Nat, ∀ b : List NB, b.length = n → (∀ x ∈ b, x ∈ a) → Maps.size (DM (es12 a b)) = Maps.size (DM (es12 a [])) := by
  intro n
  induction n with
  | zero =>
    intro b hn _
    have := List.eq_nil_of_length_eq_zero hn
    subst this
    rfl
  | succ n ih =>
    intro b hn hb
    have hne : b ≠ [] := fun e => by subst e; simp at hn
    have e : b = b.dropLast ++ [b.getLast hne] := (List.dropLast_concat_getLast hne).symm
    have hla : b.getLast hne ∈ a := hb _ (List.getLast_mem hne)
    rw [e, es12_snoc2, size_snoc, ih _ (by rw [List.length_dropLast]; omega) (fun x hx => hb x (by rw [e]; exact List.mem_append_left _ hx)), env12]
    rw [if_pos]
    by_cases h : b.getLast hne ∈ b.dropLast
    · rw [if_pos h]; rfl
    · rw [if_neg h, if_pos hla]; rfl
/-- The names of an expression of two others. -/
theorem names_cat (h : XH) (x y : XT) (hh : nm1 h = []) : insAll [] (XT.b h x y).nms = insAll [] (insAll [] x.nms ++ insAll [] y.nms) := by
  rw [nms_nmp, nms_nmp, nms_nmp]
  refine Asc.ext (insAll_asc _ _ List.Pairwise.nil) (insAll_asc _ _ List.Pairwise.nil) fun s => ?_
  have e : (XT.b h x y).nmp = x.nmp ++ y.nmp := by simp only [XT.nmp, hh, List.nil_append]
  rw [e, mem_insAll, mem_insAll, List.mem_append, List.mem_append, mem_insAll, mem_insAll]
  simp
/-- At a place of the second loop: the name is there, and not yet met again; the one before is less. -/
theorem env_at (a : List NB) (k : Nat) (hk : k < (insAll [] a).length) : envL (es12 a ((insAll [] a).take k)) (insAll [] a)[k] = some 1 := by
  have hA := insAll_asc a [] List.Pairwise.nil
  rw [env12, if_neg, if_pos]
  · have := (mem_insAll a [] (insAll [] a)[k]).1 (List.getElem_mem hk)
    simpa using this
  · intro hm
    obtain ⟨j, hj, e⟩ := List.mem_iff_getElem.1 hm
    rw [List.length_take] at hj
    rw [List.getElem_take] at e
    have := List.pairwise_iff_getElem.1 hA j k (by omega) hk (by omega)
    rw [e] at this
    exact nb_irr _ this
theorem asc_at (a : List NB) (k : Nat) (hk : k + 1 < (insAll [] a).length) : (insAll [] a)[k] < (insAll [] a)[k + 1] :=
  List.pairwise_iff_getElem.1 (insAll_asc a [] List.Pairwise.nil) k (k + 1) (by omega) hk (by omega)
theorem AgE.get {D : DU} {env : List UInt8 → Option Int} (h : AgE D env) (s : List UInt8) : D.atKey (.string s) (.lit (.int .i64 0)) = .lit (.int .i64 ((env s).getD 0)) := by
  have h1 := (h.2 s).1
  cases he : env s with
  | none =>
    rw [he] at h1
    rw [atKey_of_not_has h1]
    rfl
  | some n => exact (h.2 s).2 n _ he
/-- What Find leaves. -/
def FI (es : List (List UInt8 × Int)) (s : ByteArray) (w : World) (e : Ending) (w' : World) : Prop := e = .returned (.tuple #[.int .i64 ((envL es s.data.toList).getD 0), .bool (envL es s.data.toList).isSome]) ∧ Below w.heap.size w w'
end Go.Proofs.Ytljiiniocnljmaa
