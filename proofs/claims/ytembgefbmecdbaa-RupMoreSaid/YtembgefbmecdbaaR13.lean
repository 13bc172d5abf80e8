/-
  Plain mathematics of a visit's rounds: its start, a clause that stays, a clause that leaves.
  Plain mathematics: what holds while a visit goes through the list of x.
  Plain mathematics: a visit begins, a clause stays, a literal is made true, the visit ends or fails.
  Plain mathematics: what is left when the assumptions are taken back; a clause is added.
-/
import Derived.Test.YtembgefbmecdbaaR12
namespace Go.Proofs.Ytembgefbmecdbaa
/-- Where x has become false, only the clauses of its list are still to be looked at. -/
theorem PW.start {K : List (List Int)} {W : Int → List Nat} {P P' Q : Int → Prop} {x : Int} (h : PW K (fun _ => False) P Q) (hw : WW K W) (hP : ∀ y, P' y → P y ∨ y = -x) : PW K (· ∈ W x) P' Q := by
  intro i c hi hn a b hab hp
  rcases hP _ hp with k | k
  · exact h i c hi (fun f => f) a b hab k
  · have e : a = x := by omega
    subst e
    exact absurd ((hw.me a i).2 ⟨c, b, hi, hab⟩) hn
theorem updF_self {α : Type} (f : Int → α) (x : Int) (v : α) : updF f x v x = v := if_pos rfl
theorem updF_other {α : Type} (f : Int → α) {x y : Int} (v : α) (h : y ≠ x) : updF f x v y = f y := if_neg h
/-- The clause i, next of x's list, stays in it. -/
theorem WW.stay {K : List (List Int)} {W : Int → List Nat} {x : Int} {kp rest : List Nat} {i : Nat} {c d : List Int} (h : WW K (updF W x (kp ++ i :: rest))) (hi : K[i]? = some c) (hw : ∀ a b, Wa d a b ↔ Wa c a b) : WW (K.set i d) (updF W x ((kp ++ [i]) ++ rest)) := by
  have := h.perm hi hw
  rw [List.append_assoc]
  exact this
/-- The clause i, next of x's list, leaves it for o's. -/
theorem WW.leave {K : List (List Int)} {W : Int → List Nat} {x a o : Int} {kp rest : List Nat} {i : Nat} {c d : List Int} (h : WW K (updF W x (kp ++ i :: rest))) (hi : K[i]? = some c) (hc : ∀ u v, Wa c u v ↔ (u = a ∧ v = x) ∨ (u = x ∧ v = a)) (hd : ∀ u v, Wa d u v ↔ (u = a ∧ v = o) ∨ (u = o ∧ v = a)) (hax : a ≠ x) (hox : o ≠ x) (hoa : o ≠ a) :
    WW (K.set i d) (updF (updF W o (W o ++ [i])) x (kp ++ rest)) := by
  have hm := h.move hi hc hd hax hox hoa
  have hnd : (kp ++ i :: rest).Nodup := by have := h.nd x; rwa [updF_self] at this
  have hk : i ∉ kp := fun hk => (List.nodup_append.1 hnd).2.2 i hk i (by simp) rfl
  have he : (kp ++ i :: rest).erase i = kp ++ rest := by rw [List.erase_append_right _ hk]; simp
  have e : (fun y => if y = x then (updF W x (kp ++ i :: rest) x).erase i else if y = o then updF W x (kp ++ i :: rest) o ++ [i] else updF W x (kp ++ i :: rest) y) = updF (updF W o (W o ++ [i])) x (kp ++ rest) := by
    funext y
    by_cases k1 : y = x
    · rw [if_pos k1, k1, updF_self, updF_self, he]
    · rw [if_neg k1, updF_other _ _ k1]
      by_cases k2 : y = o
      · rw [if_pos k2, k2, updF_other _ _ hox, updF_other _ _ hox, updF_self]
      · rw [if_neg k2, updF_other _ _ k1, updF_other _ _ k2]
  rw [← e]
  exact hm
/-- Once looked at, a clause is no longer to be looked at. -/
theorem PW.next {K : List (List Int)} {P Q : Int → Prop} {i : Nat} {rest : List Nat} {d : List Int} (h : PW (K.set i d) (· ∈ i :: rest) P Q) (hi : i < K.length) (hd : ∀ a b, Wa d a b → P (-a) → Q b) : PW (K.set i d) (· ∈ rest) P Q :=
  PW.one (h.mono (fun j hj => by rcases List.mem_cons.1 hj with e | e; exact .inr e; exact .inl e) (fun _ q => q) (fun _ q => q)) hi hd
end Go.Proofs.Ytembgefbmecdbaa
namespace Go.Proofs.Ytembgefbmecdbaa
theorem mem_set_cases {K : List (List Int)} {i : Nat} {c d e : List Int} (_hi : K[i]? = some c) (he : e ∈ K.set i d) : e = d ∨ e ∈ K := by
  rcases List.mem_or_eq_of_mem_set he with k | k
  · exact .inr k
  · exact .inl k
theorem Sto.perm {cs K : List (List Int)} {S : Int → Prop} (h : Sto cs K S) {i : Nat} {c d : List Int} (hi : K[i]? = some c) (hp : d.Perm c) : Sto cs (K.set i d) S := by
  have hl := lt_of_some hi
  have hd : d ∈ K.set i d := List.mem_of_getElem? (List.getElem?_set_self (a := d) hl)
  refine ⟨fun c0 hc0 => ?_, fun e he => ?_⟩
  · rcases h.1 c0 hc0 with k | ⟨e, he, hs⟩
    · exact .inl k
    · obtain ⟨j, hj⟩ := List.getElem?_of_mem he
      by_cases q : j = i
      · subst q
        rw [hi] at hj
        cases hj
        exact .inr ⟨d, hd, fun y hy => hs y (hp.mem_iff.1 hy)⟩
      · exact .inr ⟨e, List.mem_of_getElem? (i := j) (by rw [List.getElem?_set_ne (fun f => q f.symm)]; exact hj), hs⟩
  · rcases mem_set_cases hi he with rfl | k
    · obtain ⟨c0, h1, h2, h3⟩ := h.2 c (List.mem_of_getElem? hi)
      exact ⟨c0, h1, fun y hy => h2 y (hp.mem_iff.1 hy), fun y hy => (h3 y hy).imp (fun q => hp.mem_iff.2 q) id⟩
    · exact h.2 e k
/-- While a visit goes through x's list: kp has been kept, rest is still to come; g is the place of -x on the trail. -/
structure VI (V : Nat) (cs : List (List Int)) (A S : Int → Prop) (T0 T : List Int) (g : Nat) (K : List (List Int)) (W : Int → List Nat) (x : Int) (kp rest : List Nat) : Prop where
  wf : Wf V T K
  ww : WW K (updF W x (kp ++ rest))
  pw : PW K (· ∈ rest) (· ∈ T.take (g + 1)) (· ∈ T)
  pm : PW K (fun _ => False) (· ∈ T.take g) (· ∈ T)
  p0 : PW K (fun _ => False) (· ∈ T0) (· ∈ T0)
  st : Sto cs K S
  up : ∀ y, y ∈ T → Up cs A y
  sb : ∀ y, y ∈ T0 → y ∈ T
  xg : T[g]? = some (-x)
  x0 : -x ∉ T0
theorem take_succ_mem {T : List Int} {g : Nat} {x y : Int} (hx : T[g]? = some x) (h : y ∈ T.take (g + 1)) : y ∈ T.take g ∨ y = x := by
  rw [List.take_add_one, hx] at h
  simpa using h
theorem VI.leave {V : Nat} {cs : List (List Int)} {A S : Int → Prop} {T0 T : List Int} {g : Nat} {K : List (List Int)} {W : Int → List Nat} {x a o : Int} {kp rest : List Nat} {i : Nat} {c r : List Int} (h : VI V cs A S T0 T g K W x kp (i :: rest)) (hi : K[i]? = some c) (hc : ∀ u v, Wa c u v ↔ (u = a ∧ v = x) ∨ (u = x ∧ v = a)) (hp : (a :: o :: r).Perm c) (hax : a ≠ x) (hox : o ≠ x) (ho : -o ∉ T) :
    VI V cs A S T0 T g (K.set i (a :: o :: r)) (updF W o (W o ++ [i])) x kp rest := by
  have hl := lt_of_some hi
  have hxT : -x ∈ T := List.mem_of_getElem? h.xg
  have hx : x ∉ T := fun f => h.wf.to x f hxT
  have hnd : (a :: o :: r).Nodup := hp.nodup_iff.2 (h.wf.kl c (List.mem_of_getElem? hi)).2.1
  have hoa : o ≠ a := fun f => (List.nodup_cons.1 hnd).1 (by rw [f]; simp)
  have hd : ∀ u v, Wa (a :: o :: r) u v ↔ (u = a ∧ v = o) ∨ (u = o ∧ v = a) := fun u v => ⟨fun q => q.two, fun q => by rcases q with ⟨rfl, rfl⟩ | ⟨rfl, rfl⟩; exact .inl ⟨rfl, rfl⟩; exact .inr ⟨rfl, rfl⟩⟩
  have hca : Wa c a x := (hc a x).2 (.inl ⟨rfl, rfl⟩)
  refine { wf := h.wf.put hi hp, ww := h.ww.leave hi hc hd hax hox hoa, pw := ?_, pm := h.pm.move hi (fun f => f) hca (fun u v q => q.two) hx (fun f => ho (List.mem_of_mem_take f)), p0 := h.p0.move hi (fun f => f) hca (fun u v q => q.two) (fun f => hx (h.sb x f)) (fun f => ho (h.sb _ f)), st := h.st.perm hi hp, up := h.up, sb := h.sb, xg := h.xg, x0 := h.x0 }
  refine (h.pw.put (c := a :: o :: r) hl fun u v q hq => ?_).mono (fun j hj => ?_) (fun _ q => q) (fun _ q => q)
  · rcases q.two with ⟨rfl, rfl⟩ | ⟨rfl, rfl⟩
    · rcases take_succ_mem h.xg hq with k | k
      · exact absurd (h.pm i c hi (fun f => f) u x hca k) hx
      · omega
    · exact absurd (List.mem_of_mem_take hq) ho
  · rcases List.mem_cons.1 hj.1 with k | k
    · exact absurd k hj.2
    · exact k
end Go.Proofs.Ytembgefbmecdbaa
namespace Go.Proofs.Ytembgefbmecdbaa
/-- What holds between visits: the first g literals of the trail have been visited. -/
structure GI (V : Nat) (cs : List (List Int)) (A S : Int → Prop) (T0 T : List Int) (g : Nat) (K : List (List Int)) (W : Int → List Nat) : Prop where
  wf : Wf V T K
  ww : WW K W
  pw : PW K (fun _ => False) (· ∈ T.take g) (· ∈ T)
  p0 : PW K (fun _ => False) (· ∈ T0) (· ∈ T0)
  st : Sto cs K S
  up : ∀ y, y ∈ T → Up cs A y
  sb : ∀ y, y ∈ T0 → y ∈ T
/-- What is left of it when a clause is false. -/
structure GF (V : Nat) (cs : List (List Int)) (A S : Int → Prop) (T0 T : List Int) (K : List (List Int)) (W : Int → List Nat) : Prop where
  wf : Wf V T K
  ww : WW K W
  p0 : PW K (fun _ => False) (· ∈ T0) (· ∈ T0)
  st : Sto cs K S
  sb : ∀ y, y ∈ T0 → y ∈ T
  fl : Fails cs A
section
variable {V : Nat} {cs : List (List Int)} {A S : Int → Prop} {T0 T : List Int} {g : Nat} {K : List (List Int)} {W : Int → List Nat} {x a : Int} {kp rest : List Nat} {i : Nat} {c d : List Int}
theorem updF_same {α : Type} (f : Int → α) (x : Int) : updF f x (f x) = f := by
  funext y
  unfold updF
  by_cases k : y = x
  · rw [if_pos k, k]
  · rw [if_neg k]
theorem GI.begin (h : GI V cs A S T0 T g K W) (hx : T[g]? = some (-x)) (h0 : -x ∉ T0) : VI V cs A S T0 T g K W x [] (W x) :=
  { wf := h.wf, ww := by rw [List.nil_append, updF_same]; exact h.ww, pw := h.pw.start h.ww fun y hy => take_succ_mem hx hy, pm := h.pw, p0 := h.p0, st := h.st, up := h.up, sb := h.sb, xg := hx, x0 := h0 }
theorem VI.stay (h : VI V cs A S T0 T g K W x kp (i :: rest)) (hi : K[i]? = some c) (hc : ∀ u v, Wa c u v ↔ (u = a ∧ v = x) ∨ (u = x ∧ v = a)) (hd : ∀ u v, Wa d u v ↔ Wa c u v) (hp : d.Perm c) (ha : a ∈ T) : VI V cs A S T0 T g (K.set i d) W x (kp ++ [i]) rest := by
  have hl := lt_of_some hi
  refine { wf := h.wf.put hi hp, ww := h.ww.stay hi hd, pw := ?_, pm := h.pm.perm hi fun u v q => (hd u v).1 q, p0 := h.p0.perm hi fun u v q => (hd u v).1 q, st := h.st.perm hi hp, up := h.up, sb := h.sb, xg := h.xg, x0 := h.x0 }
  refine (h.pw.put (c := d) hl fun u v q hq => ?_).mono (fun j hj => ?_) (fun _ q => q) (fun _ q => q)
  · rcases (hc u v).1 ((hd u v).1 q) with ⟨rfl, rfl⟩ | ⟨rfl, rfl⟩
    · exact absurd (List.mem_of_mem_take hq) (h.wf.to u ha)
    · exact ha
  · rcases List.mem_cons.1 hj.1 with k | k
    · exact absurd k hj.2
    · exact k
theorem VI.grow (h : VI V cs A S T0 T g K W x kp rest) (ha : a ≠ 0 ∧ a ≤ V ∧ -a ≤ V) (h1 : a ∉ T) (h2 : -a ∉ T) (hu : Up cs A a) : VI V cs A S T0 (T ++ [a]) g K W x kp rest := by
  have hl : g < T.length := lt_of_some h.xg
  have sub : ∀ y, y ∈ T → y ∈ T ++ [a] := fun y hy => List.mem_append_left _ hy
  exact { wf := h.wf.assign ha h1 h2, ww := h.ww, pw := h.pw.mono (fun _ q => q) (fun y q => by rwa [List.take_append_of_le_length (by omega)] at q) sub, pm := h.pm.mono (fun _ q => q) (fun y q => by rwa [List.take_append_of_le_length (by omega)] at q) sub, p0 := h.p0, st := h.st, up := (fun y hy => by
      rcases List.mem_append.1 hy with k | k
      · exact h.up y k
      · rw [List.mem_singleton.1 k]; exact hu), sb := fun y hy => sub y (h.sb y hy), xg := by rw [List.getElem?_append_left hl]; exact h.xg, x0 := h.x0 }
theorem VI.ends (h : VI V cs A S T0 T g K W x kp []) : GI V cs A S T0 T (g + 1) K (updF W x kp) :=
  { wf := h.wf, ww := by have := h.ww; rwa [List.append_nil] at this, pw := h.pw.mono (fun _ q => absurd q (by simp)) (fun _ q => q) (fun _ q => q), p0 := h.p0, st := h.st, up := h.up, sb := h.sb }
/-- The other watched literal is implied: all others are false. -/
theorem VI.unit (h : VI V cs A S T0 T g K W x kp rest) (hS : ∀ y, S y → Up cs A y) (hi : K[i]? = some c) (ha : a ∈ c) (ho : ∀ y, y ∈ c → y ≠ a → -y ∈ T) : Up cs A a :=
  h.st.unit hS (List.mem_of_getElem? hi) ha fun y hy hne => h.up _ (ho y hy hne)
/-- A clause all of whose literals are false. -/
theorem VI.fails (h : VI V cs A S T0 T g K W x kp (i :: rest)) (hS : ∀ y, S y → Up cs A y) (hi : K[i]? = some c) (hd : ∀ u v, Wa d u v ↔ Wa c u v) (hp : d.Perm c) (ho : ∀ y, y ∈ c → -y ∈ T) : GF V cs A S T0 T (K.set i d) (updF W x ((kp ++ [i]) ++ rest)) :=
  { wf := h.wf.put hi hp, ww := h.ww.stay hi hd, p0 := h.p0.perm hi fun u v q => (hd u v).1 q, st := h.st.perm hi hp, sb := h.sb, fl := h.st.false hS (List.mem_of_getElem? hi) fun y hy => h.up _ (ho y hy) }
end
end Go.Proofs.Ytembgefbmecdbaa
namespace Go.Proofs.Ytembgefbmecdbaa
section
variable {V : Nat} {cs : List (List Int)} {A A' S : Int → Prop} {T0 T : List Int} {g n : Nat} {K : List (List Int)} {W : Int → List Nat}
theorem Wf.take (h : Wf V T K) (n : Nat) : Wf V (T.take n) K :=
  { tn := h.tn.sublist (List.take_sublist n T), tv := fun x hx => h.tv x (List.mem_of_mem_take hx), to := fun x hx hn => h.to x (List.mem_of_mem_take hx) (List.mem_of_mem_take hn), kl := h.kl }
/-- Back to the first n literals of the trail, whether propagation failed or not. -/
theorem GF.clear (h : GF V cs A S (T.take n) T K W) (_hn : n ≤ T.length) (hu : ∀ y, y ∈ T.take n → Up cs A' y) : GI V cs A' S (T.take n) (T.take n) n K W :=
  { wf := h.wf.take n, ww := h.ww, pw := by rw [List.take_take, Nat.min_self]; exact h.p0, p0 := h.p0, st := h.st, up := hu, sb := fun _ q => q }
theorem GI.clear (h : GI V cs A S (T.take n) T g K W) (hu : ∀ y, y ∈ T.take n → Up cs A' y) : GI V cs A' S (T.take n) (T.take n) n K W :=
  { wf := h.wf.take n, ww := h.ww, pw := by rw [List.take_take, Nat.min_self]; exact h.p0, p0 := h.p0, st := h.st, up := hu, sb := fun _ q => q }
/-- An assumption. -/
theorem GI.assume {a : Int} (h : GI V cs A S T0 T g K W) (hg : g ≤ T.length) (ha : a ≠ 0 ∧ a ≤ V ∧ -a ≤ V) (h1 : a ∉ T) (h2 : -a ∉ T) (hu : Up cs A a) : GI V cs A S T0 (T ++ [a]) g K W := by
  have sub : ∀ y, y ∈ T → y ∈ T ++ [a] := fun y hy => List.mem_append_left _ hy
  exact { wf := h.wf.assign ha h1 h2, ww := h.ww, pw := h.pw.mono (fun _ q => q) (fun y q => by rwa [List.take_append_of_le_length hg] at q) sub, p0 := h.p0, st := h.st, up := (fun y hy => by
      rcases List.mem_append.1 hy with k | k
      · exact h.up y k
      · rw [List.mem_singleton.1 k]; exact hu), sb := fun y hy => sub y (h.sb y hy) }
/-- At its end, propagation that did not fail shows that nothing fails. -/
theorem GI.complete (h : GI V cs A S T0 T T.length K W) (hA : ∀ x, A x → x ∈ T) (hS : ∀ x, S x → x ∈ T) : ¬ Fails cs A :=
  h.wf.complete (by have := h.pw; rwa [List.take_length] at this) hA hS h.st
end
end Go.Proofs.Ytembgefbmecdbaa
