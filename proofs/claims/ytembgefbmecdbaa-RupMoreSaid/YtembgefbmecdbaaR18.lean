/-
  What moves leaves, in the words of a visit.
  A clause that stays, and what makeTrue of its other watched literal leaves.
  How long a trail and a list of watches can be.
-/
import Derived.Test.YtembgefbmecdbaaR17
namespace Go.Proofs.Ytembgefbmecdbaa
open Go.RowKit Go.Lib
theorem set_perm : ∀ (r : List Int) (j : Nat) (o x : Int), r[j]? = some o → (o :: r.set j x).Perm (x :: r)
  | y :: r, 0, o, x, h => by
    simp at h
    subst h
    exact List.Perm.swap x y r
  | y :: r, j + 1, o, x, h => by
    have ih := set_perm r j o x (by simpa using h)
    rw [List.set_cons_succ]
    exact (List.Perm.swap y o _).trans ((ih.cons y).trans (List.Perm.swap x y r))
  | [], _, _, _, h => by simp at h
theorem Wa.both {c r : List Int} {a x : Int} (h : c = a :: x :: r ∨ c = x :: a :: r) (u v : Int) : Wa c u v ↔ (u = a ∧ v = x) ∨ (u = x ∧ v = a) := by
  rcases h with rfl | rfl
  · exact ⟨fun q => q.two, fun q => by rcases q with ⟨rfl, rfl⟩ | ⟨rfl, rfl⟩; exact .inl ⟨rfl, rfl⟩; exact .inr ⟨rfl, rfl⟩⟩
  · exact ⟨fun q => q.two.symm, fun q => by rcases q with ⟨rfl, rfl⟩ | ⟨rfl, rfl⟩; exact .inr ⟨rfl, rfl⟩; exact .inl ⟨rfl, rfl⟩⟩
section
variable {B p : Nat} {k : PB} {s : PS} {W : Int → List Nat} {K : List (List Int)} {C : Nat → CAt}
variable {cs : List (List Int)} {A S : Int → Prop} {T0 : List Int} {g : Nat} {x a : Int} {kp rest : List Nat} {i : Nat} {c r : List Int}
theorem round_moves {w w' : World} {e : Ending} (h : VI s.V cs A S T0 s.tr g K W x kp (i :: rest)) (hv : VAL s.val s.tr) (hi : K[i]? = some c) (hr : c = a :: x :: r ∨ c = x :: a :: r) (hm : MV B w p k s W K C x a r i e w') :
    (∃ o v d, e = .returned (.bool true) ∧ o ≠ x ∧ d.length = c.length ∧ LM B w' k { s with hd := updF s.hd o v } (updF W o (W o ++ [i])) (K.set i d) C ∧ PIx B w' p k { s with hd := updF s.hd o v } ∧ VI s.V cs A S T0 s.tr g (K.set i d) (updF W o (W o ++ [i])) x kp rest ∧ Below B w w') ∨
    (e = .returned (.bool false) ∧ (a ∈ s.tr ∨ ∀ y, y ∈ c → y ≠ a → -y ∈ s.tr) ∧ (a :: x :: r).Perm c ∧ LM B w' k s W (K.set i (a :: x :: r)) C ∧ PIx B w' p k s ∧ Below B w w') := by
  have hcp : (a :: x :: r).Perm c := by
    rcases hr with rfl | rfl
    · exact List.Perm.refl _
    · exact List.Perm.swap x a r
  have hnd : (a :: x :: r).Nodup := hcp.nodup_iff.2 (h.wf.kl c (List.mem_of_getElem? hi)).2.1
  have hax : a ≠ x := fun f => (List.nodup_cons.1 hnd).1 (by rw [f]; simp)
  have hxT : -x ∈ s.tr := List.mem_of_getElem? h.xg
  rcases hm with ⟨hm, hp, hb⟩ | ⟨j, o, v, h1, h2, h3, rfl, hl, hp, hb⟩
  · refine .inr ?_
    rcases hm with ⟨h1, rfl, hl⟩ | ⟨_, h2, rfl, hl⟩
    · exact ⟨rfl, .inl (hv.one.1 h1), hcp, hl, hp, hb⟩
    · refine ⟨rfl, .inr fun y hy hne => ?_, hcp, hl, hp, hb⟩
      rcases List.mem_cons.1 (hcp.mem_iff.2 hy) with q | q
      · exact absurd q hne
      · rcases List.mem_cons.1 q with q | q
        · rw [q]; exact hxT
        · exact (hv.two h.wf.to).1 (h2 y q)
  · have hor : o ∈ r := List.mem_of_getElem? h2
    have hox : o ≠ x := fun f => (List.nodup_cons.1 (List.nodup_cons.1 hnd).2).1 (f ▸ hor)
    have hpd : (a :: o :: r.set j x).Perm c := ((set_perm r j o x h2).cons a).trans hcp
    exact .inl ⟨o, v, _, rfl, hox, hpd.length_eq, hl, hp, h.leave hi (Wa.both hr) hpd hax hox fun f => h3 ((hv.two h.wf.to).2 f), hb⟩
end
end Go.Proofs.Ytembgefbmecdbaa
namespace Go.Proofs.Ytembgefbmecdbaa
open Go.RowKit Go.Lib
theorem updF_updF {α : Type} (f : Int → α) (x : Int) (u v : α) : updF (updF f x u) x v = updF f x v := by
  funext y
  unfold updF
  by_cases k : y = x
  · rw [if_pos k, if_pos k]
  · rw [if_neg k, if_neg k, if_neg k]
section
variable {s : PS} {W : Int → List Nat} {K : List (List Int)}
variable {V : Nat} {cs : List (List Int)} {A S : Int → Prop} {T T0 : List Int} {g : Nat} {x a : Int} {kp rest : List Nat} {i : Nat} {c r : List Int}
theorem VI.anyW (h : VI V cs A S T0 T g K W x kp rest) (l : List Nat) : VI V cs A S T0 T g K (updF W x l) x kp rest :=
  { wf := h.wf, ww := by rw [updF_updF]; exact h.ww, pw := h.pw, pm := h.pm, p0 := h.p0, st := h.st, up := h.up, sb := h.sb, xg := h.xg, x0 := h.x0 }
theorem round_stay (h : VI s.V cs A S T0 s.tr g K W x kp (i :: rest)) (hS : ∀ y, S y → Up cs A y) (hv : VAL s.val s.tr) (hi : K[i]? = some c) (hr : c = a :: x :: r ∨ c = x :: a :: r) (hp : (a :: x :: r).Perm c) (ho : a ∈ s.tr ∨ ∀ y, y ∈ c → y ≠ a → -y ∈ s.tr) :
    VAL (s.mk1 a).val (s.mk1 a).tr ∧ (((s.mk1 a).val a = 1 ∧ VI s.V cs A S T0 (s.mk1 a).tr g (K.set i (a :: x :: r)) W x (kp ++ [i]) rest) ∨ ((s.mk1 a).val a ≠ 1 ∧ (s.mk1 a).tr = s.tr ∧ GF s.V cs A S T0 s.tr (K.set i (a :: x :: r)) (updF W x ((kp ++ [i]) ++ rest)))) := by
  have hac : a ∈ c := hp.mem_iff.1 (by simp)
  have hb := (h.wf.kl c (List.mem_of_getElem? hi)).2.2 a hac
  obtain ⟨m1, m2, m3⟩ := VAL.mk s hv hb.1
  refine ⟨m1, ?_⟩
  have hd : ∀ u v, Wa (a :: x :: r) u v ↔ Wa c u v := fun u v => (Wa.both (.inl rfl) u v).trans (Wa.both hr u v).symm
  by_cases k1 : a ∈ s.tr
  · refine .inl ⟨m2.2 (.inr k1), ?_⟩
    rw [m3, if_pos (.inl k1)]
    exact h.stay hi (Wa.both hr) hd hp k1
  · have hof := ho.resolve_left k1
    by_cases k2 : -a ∈ s.tr
    · refine .inr ⟨fun q => ?_, by rw [m3, if_pos (.inr k2)], ?_⟩
      · rcases m2.1 q with f | f
        · exact f k2
        · exact k1 f
      · refine h.fails hS hi hd hp fun y hy => ?_
        by_cases e : y = a
        · rw [e]; exact k2
        · exact hof y hy e
    · refine .inl ⟨m2.2 (.inl k2), ?_⟩
      rw [m3, if_neg (by simp [k1, k2])]
      exact (h.grow hb k1 k2 (h.unit hS hi hac hof)).stay hi (Wa.both hr) hd hp (by simp)
end
end Go.Proofs.Ytembgefbmecdbaa
namespace Go.Proofs.Ytembgefbmecdbaa
theorem Wf.len {V : Nat} {T : List Int} {K : List (List Int)} (h : Wf V T K) : T.length ≤ 2 * V + 1 := by
  have hsub : T ⊆ (List.range (2 * V + 1)).map fun (i : Nat) => (i : Int) - V := by
    intro x hx
    obtain ⟨_, h1, h2⟩ := h.tv x hx
    exact List.mem_map.2 ⟨(x + V).toNat, List.mem_range.2 (by omega), by omega⟩
  have := List.Nodup.length_le_of_subset h.tn hsub
  simpa using this
theorem WW.len {K : List (List Int)} {W : Int → List Nat} (h : WW K W) (x : Int) : (W x).length ≤ K.length := by
  have hsub : W x ⊆ List.range K.length := by
    intro i hi
    obtain ⟨c, y, hc, _⟩ := (h.me x i).1 hi
    exact List.mem_range.2 (lt_of_some hc)
  have := List.Nodup.length_le_of_subset (h.nd x) hsub
  simpa using this
/-- A stored clause has no literal twice, all of at most V variables. -/
theorem Wf.clen {V : Nat} {T : List Int} {K : List (List Int)} (h : Wf V T K) {c : List Int} (hc : c ∈ K) : c.length ≤ 2 * V + 1 := by
  obtain ⟨_, hn, hv⟩ := h.kl c hc
  have hsub : c ⊆ (List.range (2 * V + 1)).map fun (i : Nat) => (i : Int) - V := by
    intro x hx
    obtain ⟨_, h1, h2⟩ := hv x hx
    exact List.mem_map.2 ⟨(x + V).toNat, List.mem_range.2 (by omega), by omega⟩
  have := List.Nodup.length_le_of_subset hn hsub
  simpa using this
end Go.Proofs.Ytembgefbmecdbaa
