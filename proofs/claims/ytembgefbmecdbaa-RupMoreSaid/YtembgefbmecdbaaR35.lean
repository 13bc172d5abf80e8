/-
  add: a clause's literals sorted, each once; what the clauses given and stored are with one more; a stored clause more.
  add: its three ends.
-/
import Derived.Test.YtembgefbmecdbaaR34
namespace Go.Proofs.Ytembgefbmecdbaa
open Go.RowKit Go.Lib
theorem compact_lt : ∀ (l : List Int), l.Pairwise (· ≤ ·) → (Lib.compact l).Pairwise (· < ·)
  | [], _ => by rw [show Lib.compact ([] : List Int) = [] from rfl]; exact List.Pairwise.nil
  | [x], _ => by rw [show Lib.compact [x] = [x] by rw [compact_tl]; rfl]; exact List.pairwise_singleton ..
  | x :: y :: l, h => by
    rw [compact_cons]
    obtain ⟨h1, h2⟩ := List.pairwise_cons.1 h
    have ih := compact_lt (y :: l) h2
    by_cases e : x = y
    · rw [if_pos e]; exact ih
    · rw [if_neg e]
      refine List.pairwise_cons.2 ⟨fun z hz => ?_, ih⟩
      have hz2 := (compact_mem _ _).1 hz
      have hxy := h1 y (List.mem_cons_self ..)
      rcases List.mem_cons.1 hz2 with rfl | k
      · omega
      · have := (List.pairwise_cons.1 h2).1 z k
        omega
/-- The literals that matter, in order, each once. -/
def kept (val : Int → Int) (c : List Int) : List Int := Lib.compact ((c.filter fun x => !(val x == 2)).mergeSort fun x y => decide (x ≤ y))
theorem kept_mem (val : Int → Int) (c : List Int) (x : Int) : x ∈ kept val c ↔ x ∈ c ∧ val x ≠ 2 := by
  unfold kept
  rw [compact_mem, List.mem_mergeSort, List.mem_filter]
  simp
theorem kept_nodup (val : Int → Int) (c : List Int) : (kept val c).Nodup := by
  have hs : ((c.filter fun x => !(val x == 2)).mergeSort fun x y => decide (x ≤ y)).Pairwise (· ≤ ·) := by
    have := List.pairwise_mergeSort (le := fun (x y : Int) => decide (x ≤ y)) (fun a b c h1 h2 => by simp at h1 h2 ⊢; omega) (fun a b => by simp; omega) (c.filter fun x => !(val x == 2))
    exact this.imp fun h => by simpa using h
  exact (compact_lt _ hs).imp fun h => by omega
theorem kept_len (val : Int → Int) (c : List Int) : (kept val c).length ≤ c.length := by
  unfold kept
  exact Nat.le_trans (compact_length_le _) (by rw [List.length_mergeSort]; exact List.length_filter_le _ _)
section
variable {V : Nat} {cs : List (List Int)} {A S : Int → Prop} {T0 T : List Int} {g n : Nat} {K : List (List Int)} {W : Int → List Nat}
theorem Up.wk {c : List Int} {x : Int} (h : Up cs A x) : Up (cs ++ [c]) A x := h.more (fun _d hd => List.mem_append_left _ hd) fun _ hx => .given _ hx
/-- A clause that is true ahead of all. -/
theorem Sto.true_ (h : Sto cs K S) {c : List Int} (hc : ∃ x, x ∈ c ∧ S x) : Sto (cs ++ [c]) K S := by
  refine ⟨fun d hd => ?_, fun d hd => ?_⟩
  · rcases List.mem_append.1 hd with k | k
    · exact h.1 d k
    · rw [List.mem_singleton.1 k]; exact .inl hc
  · obtain ⟨c0, h1, h2, h3⟩ := h.2 d hd
    exact ⟨c0, List.mem_append_left _ h1, h2, h3⟩
theorem Sto.mono {S' : Int → Prop} (h : Sto cs K S) (hS : ∀ x, S x → S' x) : Sto cs K S' := by
  refine ⟨fun d hd => ?_, fun d hd => ?_⟩
  · rcases h.1 d hd with ⟨x, q1, q2⟩ | k
    · exact .inl ⟨x, q1, hS x q2⟩
    · exact .inr k
  · obtain ⟨c0, h1, h2, h3⟩ := h.2 d hd
    exact ⟨c0, h1, h2, fun x hx => (h3 x hx).imp id (hS _)⟩
/-- A clause that is stored without the literals that are false ahead of all. -/
theorem Sto.store (h : Sto cs K S) {c d : List Int} (hd : ∀ x, x ∈ d → x ∈ c) (hf : ∀ x, x ∈ c → x ∈ d ∨ S (-x)) : Sto (cs ++ [c]) (K ++ [d]) S := by
  refine ⟨fun e he => ?_, fun e he => ?_⟩
  · rcases List.mem_append.1 he with k | k
    · rcases h.1 e k with q | ⟨e', q1, q2⟩
      · exact .inl q
      · exact .inr ⟨e', List.mem_append_left _ q1, q2⟩
    · rw [List.mem_singleton.1 k]; exact .inr ⟨d, by simp, hd⟩
  · rcases List.mem_append.1 he with k | k
    · obtain ⟨c0, h1, h2, h3⟩ := h.2 e k
      exact ⟨c0, List.mem_append_left _ h1, h2, h3⟩
    · rw [List.mem_singleton.1 k]; exact ⟨c, by simp, hd, hf⟩
theorem GI.true_ (h : GI V cs A S T0 T g K W) {c : List Int} (hc : ∃ x, x ∈ c ∧ S x) : GI V (cs ++ [c]) A S T0 T g K W :=
  { wf := h.wf, ww := h.ww, pw := h.pw, p0 := h.p0, st := h.st.true_ hc, up := fun y hy => (h.up y hy).wk, sb := h.sb }
theorem Fails.wk {c : List Int} (h : Fails cs A) : Fails (cs ++ [c]) A := h.more (fun _d hd => List.mem_append_left _ hd) fun _ hx => .given _ hx
theorem WW.add (h : WW K W) {d : List Int} {a b : Int} {r : List Int} (hd : d = a :: b :: r) (hn : a ≠ b) : WW (K ++ [d]) (updF (updF W a (W a ++ [K.length])) b (updF W a (W a ++ [K.length]) b ++ [K.length])) := by
  have hlt : ∀ x i, i ∈ W x → i < K.length := fun x i hi => by
    obtain ⟨c, y, hc, _⟩ := (h.me x i).1 hi
    exact lt_of_some hc
  have hnd : ∀ x, (W x ++ [K.length]).Nodup := fun x => by
    rw [List.nodup_append]
    refine ⟨h.nd x, by simp, fun i hi j hj e => ?_⟩
    rw [List.mem_singleton] at hj
    have := hlt x i hi
    omega
  have ew : ∀ x, updF (updF W a (W a ++ [K.length])) b (updF W a (W a ++ [K.length]) b ++ [K.length]) x = if x = a ∨ x = b then W x ++ [K.length] else W x := fun x => by
    by_cases k1 : x = b
    · subst k1
      rw [updF_self, updF_other _ _ (fun e => hn e.symm), if_pos (.inr rfl)]
    · rw [updF_other _ _ k1]
      by_cases k2 : x = a
      · subst k2
        rw [updF_self, if_pos (.inl rfl)]
      · rw [updF_other _ _ k2, if_neg (by simp [k1, k2])]
  have hwd : ∀ x y, Wa d x y ↔ (x = a ∧ y = b) ∨ (x = b ∧ y = a) := fun x y => by
    subst hd
    exact Wa.both (.inl rfl) x y
  refine ⟨fun x => ?_, fun x i => ?_⟩
  · rw [ew]
    split
    · exact hnd x
    · exact h.nd x
  · rw [ew]
    by_cases ki : i < K.length
    · have e1 : (K ++ [d])[i]? = K[i]? := List.getElem?_append_left ki
      rw [e1]
      have : i ∈ (if x = a ∨ x = b then W x ++ [K.length] else W x) ↔ i ∈ W x := by
        split
        · rw [List.mem_append, List.mem_singleton]
          exact ⟨fun q => q.elim id fun e => by omega, .inl⟩
        · exact Iff.rfl
      rw [this]
      exact h.me x i
    · have hW : i ∉ W x := fun q => ki (hlt x i q)
      by_cases ke : i = K.length
      · subst ke
        have e1 : (K ++ [d])[K.length]? = some d := by simp
        rw [e1]
        constructor
        · intro q
          by_cases hx : x = a ∨ x = b
          · rcases hx with rfl | rfl
            · exact ⟨d, b, rfl, (hwd _ _).2 (.inl ⟨rfl, rfl⟩)⟩
            · exact ⟨d, a, rfl, (hwd _ _).2 (.inr ⟨rfl, rfl⟩)⟩
          · rw [if_neg hx] at q
            exact absurd q hW
        · rintro ⟨c, y, hc, hy⟩
          cases hc
          rw [if_pos (by rcases (hwd _ _).1 hy with ⟨q, _⟩ | ⟨q, _⟩; exact .inl q; exact .inr q)]
          simp
      · have e1 : (K ++ [d])[i]? = none := List.getElem?_eq_none (by simp; omega)
        rw [e1]
        constructor
        · intro q
          split at q
          · rw [List.mem_append, List.mem_singleton] at q
            rcases q with q | q
            · exact absurd q hW
            · exact absurd q ke
          · exact absurd q hW
        · rintro ⟨c, y, hc, _⟩
          cases hc
theorem PW.add {P Q : Int → Prop} (h : PW K (fun _ => False) P Q) {d : List Int} (hd : ∀ x, x ∈ d → ¬ P (-x)) : PW (K ++ [d]) (fun _ => False) P Q := by
  intro i c hc hn a b hw hp
  by_cases ki : i < K.length
  · rw [List.getElem?_append_left ki] at hc
    exact h i c hc hn a b hw hp
  · by_cases ke : i = K.length
    · subst ke
      rw [show (K ++ [d])[K.length]? = some d by simp] at hc
      cases hc
      exact absurd hp (hd a hw.mem.1)
    · rw [List.getElem?_eq_none (by simp; omega)] at hc
      cases hc
/-- A clause more is stored. -/
theorem GI.store (h : GI V cs A S T T T.length K W) {c d : List Int} {a b : Int} {r : List Int} (hd : d = a :: b :: r) (hdn : d.Nodup) (hdv : ∀ x, x ∈ d → x ≠ 0 ∧ x ≤ V ∧ -x ≤ V) (hsub : ∀ x, x ∈ d → x ∈ c) (hf : ∀ x, x ∈ c → x ∈ d ∨ S (-x)) (hop : ∀ x, x ∈ d → -x ∉ T) :
    GI V (cs ++ [c]) A S T T T.length (K ++ [d]) (updF (updF W a (W a ++ [K.length])) b (updF W a (W a ++ [K.length]) b ++ [K.length])) :=
  { wf := ⟨h.wf.tn, h.wf.tv, h.wf.to, fun e he => (List.mem_append.1 he).elim (fun k => h.wf.kl e k) fun k => (by rw [List.mem_singleton.1 k]; exact ⟨by rw [hd]; simp, hdn, hdv⟩)⟩
    ww := h.ww.add hd (by subst hd; exact fun e => (List.nodup_cons.1 hdn).1 (by rw [e]; simp))
    pw := h.pw.add fun x hx q => hop x hx (List.mem_of_mem_take q)
    p0 := h.p0.add fun x hx q => hop x hx q
    st := h.st.store hsub hf
    up := fun y hy => (h.up y hy).wk
    sb := h.sb }
end
end Go.Proofs.Ytembgefbmecdbaa
namespace Go.Proofs.Ytembgefbmecdbaa
open Go.RowKit Go.Lib
section
variable {V : Nat} {cs : List (List Int)} {T T0 : List Int} {K : List (List Int)} {W : Int → List Nat}
/-- A clause of which one literal is left: it is made true. -/
theorem GI.unit_ (h : GI V cs (fun _ => False) (· ∈ T) T T T.length K W) {c : List Int} {x : Int} (hx : x ∈ c) (hv : x ≠ 0 ∧ x ≤ V ∧ -x ≤ V) (h1 : x ∉ T) (h2 : -x ∉ T) (ho : ∀ y, y ∈ c → y ≠ x → -y ∈ T) : GI V (cs ++ [c]) (fun _ => False) (· ∈ T ++ [x]) T (T ++ [x]) T.length K W := by
  have hu : Up (cs ++ [c]) (fun _ => False) x := .unit c x (by simp) hx fun y hy hne => (h.up _ (ho y hy hne)).wk
  have h' : GI V (cs ++ [c]) (fun _ => False) (· ∈ T ++ [x]) T T T.length K W :=
    { wf := h.wf, ww := h.ww, pw := h.pw, p0 := h.p0, st := (h.st.mono fun y (hy : y ∈ T) => List.mem_append_left [x] hy).true_ ⟨x, hx, by simp⟩, up := fun y hy => (h.up y hy).wk, sb := h.sb }
  exact h'.assume (Nat.le_refl _) hv h1 h2 hu
/-- All that stands on the trail follows without assumptions. -/
theorem GI.level {S : Int → Prop} (h : GI V cs (fun _ => False) S T0 T T.length K W) (hS : ∀ x, S x → x ∈ T) : GI V cs (fun _ => False) (· ∈ T) T T T.length K W :=
  { wf := h.wf, ww := h.ww, pw := h.pw, p0 := by have := h.pw; rwa [List.take_length] at this, st := h.st.mono hS, up := h.up, sb := fun _ q => q }
end
section
variable {B p : Nat} {k : PB} {s : PS} {W : Int → List Nat} {K : List (List Int)} {C : Nat → CAt} {V m : Nat} {cs : List (List Int)} {c : List Int}
theorem PIx.fail {w : World} (h : PIx B w p k s) (f : Bool) : PIx B (w.setCell ⟨p, 5, none⟩ (.bool f)) p k { s with failed := f } ∧ KT w (w.setCell ⟨p, 5, none⟩ (.bool f)) p k.vb k.tv k.tv ∧ Below B w (w.setCell ⟨p, 5, none⟩ (.bool f)) := by
  have hk : ∀ y, y ≠ p → (w.setCell ⟨p, 5, none⟩ (.bool f)).heap[y]? = w.heap[y]? := fun y hy => Below.heap_setCell w ⟨p, 5, none⟩ _ y hy
  have hs := heap_set w p 5 _ _ (.bool f) h.blk
  refine ⟨{ pB := h.pB, low := h.low, hV := h.hV, blk := (by exact hs), vab := (hk _ (h.vab.ne h.blk (by decide))).trans h.vab, wab := (hk _ (h.wab.ne h.blk (by decide))).trans h.wab, tro := own_keep h.tro fun b e => hk b (h.blk.own_ne h.tro (by decide) b e) }, { keep := fun y _ hy _ _ => hk y hy, own := fun _ e => .inl e }, (Below.refl B w).setCell (p := ⟨p, 5, none⟩) h.pB _⟩
/-- No literal is left. -/
theorem add_end0 {w : World} (hp : PIx B w p k s) (hv : VAL s.val s.tr) (hV : s.V = V) (hG : GI V cs (fun _ => False) (· ∈ s.tr) s.tr s.tr s.tr.length K W) (hc : ∀ y, y ∈ c → -y ∈ s.tr) : PZ B (w.setCell ⟨p, 5, none⟩ (.bool true)) p V (cs ++ [c]) (m + 1) true := by
  obtain ⟨q1, _, _⟩ := hp.fail true
  refine ⟨k, _, q1, hv, hV, rfl, ?_⟩
  rw [if_pos rfl]
  have := hG.wf.len
  have h60 := hp.hV
  exact ⟨by show s.tr.length ≤ 121; omega, .inl ⟨c, by simp, fun y hy => (hG.up _ (hc y hy)).wk⟩⟩
/-- The state behind assign. -/
def Q1 (B : Nat) (w : World) (p : Nat) (k : PB) (s : PS) (W : Int → List Nat) (K : List (List Int)) (C : Nat → CAt) (x : Int) (w' : World) : Prop := ∃ tv, PIx B w' p { k with tv := tv } { s with val := setT s.val x, tr := s.tr ++ [x] } ∧ LM B w' { k with tv := tv } { s with val := setT s.val x, tr := s.tr ++ [x] } W K C ∧ Below B w w'
theorem assign_l (w : World) (hp : PIx B w p k s) (hl : LM B w k s W K C) (x : Int) (hx0 : x ≠ 0) (h0 : -(s.V : Int) ≤ x) (h1 : x ≤ s.V) (ht : s.tr.length < 1000) (hB : B ≤ w.heap.size) : Calls Try.prog 42 #[pp p, iz x] w fun e w' => e = .returned (.tuple #[]) ∧ Q1 B w p k s W K C x w' :=
  (assign_t w hp x hx0 h0 h1 ht hB).mono fun _ _ ⟨e, tv, q1, q2, q3⟩ => ⟨e, tv, q1, hl.kt hp q3 rfl rfl, q2⟩
/-- The state behind propagate. -/
theorem add_prop {w : World} (hv : VAL s.val s.tr) (hV : s.V = V) (hh : s.head = s.tr.length) (hG : GI V cs (fun _ => False) (· ∈ s.tr) s.tr s.tr s.tr.length K W) {x : Int} (hx : x ∈ c) (hxv : x ≠ 0 ∧ x ≤ V ∧ -x ≤ V) (h1 : x ∉ s.tr) (h2 : -x ∉ s.tr) (ho : ∀ y, y ∈ c → y ≠ x → -y ∈ s.tr) (hK : K.length ≤ m) (hm : m < 80000) (hB : B ≤ w.heap.size) (w' : World) (h : Q1 B w p k s W K C x w') :
    Calls Try.prog 31 #[pp p] w' fun e w2 => ∃ b, e = .returned (.bool b) ∧ p < w2.heap.size ∧ (∃ u, w2.cell? ⟨p, 5, none⟩ = some u) ∧ w2.frozen? ⟨p, 5, none⟩ = false ∧ PZ B (w2.setCell ⟨p, 5, none⟩ (.bool (!b))) p V (cs ++ [c]) (m + 1) (!b) ∧ Below B w (w2.setCell ⟨p, 5, none⟩ (.bool (!b))) := by
  obtain ⟨tv, q1, q2, q3⟩ := h
  have hG1 := hG.unit_ hx hxv h1 h2 ho
  have hv1 : VAL (setT s.val x) (s.tr ++ [x]) := hv.set hxv.1 h1 h2
  have htk : (s.tr ++ [x]).take s.tr.length = s.tr := by rw [List.take_append_of_le_length (Nat.le_refl _), List.take_length]
  have hp := propagate_t (cs := cs ++ [c]) (A := fun _ => False) (S := (· ∈ s.tr ++ [x])) w' q1 q2 hv1 s.tr.length (by show s.tr.length ≤ s.head; omega) (by show s.head ≤ (s.tr ++ [x]).length; rw [hh, List.length_append]; omega) (by show GI s.V (cs ++ [c]) _ _ ((s.tr ++ [x]).take s.tr.length) (s.tr ++ [x]) s.head K W; rw [htk, hh, hV]; exact hG1) (fun y hy => hG1.up y hy) (by omega) (Nat.le_trans hB q3.size)
  refine hp.mono ?_
  rintro e w2 ⟨b, rfl, W', K', s', tv', r1, r2, r3, r4, r5, ⟨ext, r6⟩, r7, r8, r9⟩
  replace r6 : s'.tr = (s.tr ++ [x]) ++ ext := r6
  replace r4 : s'.V = s.V := r4
  obtain ⟨u1, u2, u3⟩ := r1.fail (!b)
  refine ⟨b, rfl, lt_of_get r1.blk, ⟨_, r1.blk.c 5⟩, r1.blk.fz 5, ⟨_, _, u1, r3, r4.trans hV, rfl, ?_⟩, (q3.trans r9).trans u3⟩
  have h60 := r1.hV
  cases b
  · rw [if_neg (by decide)] at r8
    rw [show (!false) = true from rfl, if_pos rfl]
    have h9 : s'.tr.length ≤ 2 * s.V + 1 := r8.wf.len
    exact ⟨by show s'.tr.length ≤ 121; rw [r4] at h60; omega, r8.fl⟩
  · rw [if_pos rfl] at r8
    rw [show (!true) = false from rfl, if_neg (by decide)]
    obtain ⟨e1, e2⟩ := r8
    replace e2 : GI s.V (cs ++ [c]) (fun _ => False) (· ∈ s.tr ++ [x]) ((s.tr ++ [x]).take s.tr.length) s'.tr s'.tr.length K' W' := e2
    rw [hV] at e2
    refine ⟨e1, W', K', C, r2.kt (s' := { s' with failed := false }) r1 u2 rfl rfl, by omega, e2.level fun y hy => ?_⟩
    rw [r6]
    exact List.mem_append_left _ hy
theorem LM.new {w : World} (h : LM B w k s W K C) (hW : ∀ x i, i ∈ W x → i < K.length) {d : List Int} {b cap : Nat} {cur : Array Value} (hb : CB w b cur 3) (hcur : cur.toList.take d.length = iv d) (hB : B ≤ b) (hcap : d.length ≤ cap) (hnew : ∀ i e, K[i]? = some e → (C i).b ≠ b) (htv : ∀ g, k.tv.ownBlock = some g → g ≠ b) :
    LM B w k s W (K ++ [d]) (fun i => if i = K.length then ⟨b, d.length, cap⟩ else C i) := by
  have hold : ∀ i e, (K ++ [d])[i]? = some e → (i < K.length ∧ K[i]? = some e) ∨ (i = K.length ∧ e = d) := fun i e hi => by
    by_cases ki : i < K.length
    · rw [List.getElem?_append_left ki] at hi
      exact .inl ⟨ki, hi⟩
    · by_cases ke : i = K.length
      · subst ke
        rw [show (K ++ [d])[K.length]? = some d by simp] at hi
        cases hi
        exact .inr ⟨rfl, rfl⟩
      · rw [List.getElem?_eq_none (by simp; omega)] at hi
        cases hi
  refine { li := fun x h0 h1 => ?_, ln := h.ln, cl := fun i e hi => ?_, ci := fun i j e f hi hj hij => ?_, ct := fun i e hi g hg => ?_, wl := h.wl }
  · have e : ((W x).map fun i => hdr (if i = K.length then ⟨b, d.length, cap⟩ else C i)) = (W x).map fun i => hdr (C i) := by
      apply List.map_congr_left
      intro i hi
      rw [if_neg (by have := hW x i hi; omega)]
    rw [e]
    exact h.li x h0 h1
  · rcases hold i e hi with ⟨k1, k2⟩ | ⟨rfl, rfl⟩
    · rw [if_neg (by omega)]
      exact h.cl i e k2
    · rw [if_pos rfl]
      exact ⟨rfl, hcap, hB, cur, hb, hcur⟩
  · rcases hold i e hi with ⟨k1, k2⟩ | ⟨rfl, rfl⟩ <;> rcases hold j f hj with ⟨l1, l2⟩ | ⟨rfl, rfl⟩
    · rw [if_neg (by omega), if_neg (by omega)] at hij
      exact h.ci i j e f k2 l2 hij
    · rw [if_neg (by omega), if_pos rfl] at hij
      exact absurd hij (hnew i e k2)
    · rw [if_pos rfl, if_neg (by omega)] at hij
      exact absurd hij.symm (hnew j f l2)
    · rfl
  · rcases hold i e hi with ⟨k1, k2⟩ | ⟨rfl, rfl⟩
    · rw [if_neg (by omega)]
      exact h.ct i e k2 g hg
    · rw [if_pos rfl]
      exact htv g hg
/-- Two literals or more are left: the clause is stored and watched. -/
theorem add_watch (w : World) (hp : PIx B w p k s) (hl : LM B w k s W K C) (hv : VAL s.val s.tr) (hV : s.V = V) (hf : s.failed = false) (hh : s.head = s.tr.length) (hG : GI V cs (fun _ => False) (· ∈ s.tr) s.tr s.tr s.tr.length K W) {a b' : Int} {r : List Int} (hdn : (a :: b' :: r).Nodup) (hdv : ∀ x, x ∈ a :: b' :: r → x ≠ 0 ∧ x ≤ V ∧ -x ≤ V) (hsub : ∀ x, x ∈ a :: b' :: r → x ∈ c) (hfc : ∀ x, x ∈ c → x ∈ a :: b' :: r ∨ -x ∈ s.tr) (hop : ∀ x, x ∈ a :: b' :: r → -x ∉ s.tr) (hK : K.length ≤ m) (hm : m < 80000) (hB : B ≤ w.heap.size)
    {b cap : Nat} {cur : Array Value} (hb : CB w b cur 3) (hcur : cur.toList.take (a :: b' :: r).length = iv (a :: b' :: r)) (hbB : B ≤ b) (hcap : (a :: b' :: r).length ≤ cap) (hnew : ∀ i e, K[i]? = some e → (C i).b ≠ b) (htv : ∀ g, k.tv.ownBlock = some g → g ≠ b) :
    Calls Try.prog 43 #[pp p, iz a, .slice (some ⟨b, 0, none⟩) (a :: b' :: r).length cap] w fun e w1 => e = .returned (.tuple #[]) ∧ (w1.cell? ⟨b, 1, none⟩ = some (iz b') ∧ b < w1.heap.size ∧ Calls Try.prog 43 #[pp p, iz b', .slice (some ⟨b, 0, none⟩) (a :: b' :: r).length cap] w1 fun e w2 => e = .returned (.tuple #[]) ∧ PZ B w2 p V (cs ++ [c]) (m + 1) false ∧ Below B w w2) := by
  have hWl : ∀ x i, i ∈ W x → i < K.length := fun x i hi => by
    obtain ⟨c, y, hc, _⟩ := (hG.ww.me x i).1 hi
    exact lt_of_some hc
  have hl1 := hl.new hWl hb hcur hbB hcap hnew htv
  have hi : (K ++ [a :: b' :: r])[K.length]? = some (a :: b' :: r) := by simp
  have hWn : ∀ x, (W x).length ≤ 80000 := fun x => by have := hG.ww.len x; omega
  have ra := hdv a (by simp)
  have rb := hdv b' (by simp)
  have h60 := hp.hV
  have hab : a ≠ b' := by intro e; exact (List.nodup_cons.1 hdn).1 (by rw [e]; simp)
  have hW1 := watch_t w hp hl1 a (by omega) (by omega) K.length _ hi (by have := hWn a; omega) hB
  rw [if_pos rfl] at hW1
  refine hW1.mono ?_
  rintro e w1 ⟨rfl, ⟨v, q1, q2⟩, q3⟩
  refine ⟨rfl, q2.cell hi (j := 1) rfl |> fun t => by rw [if_pos rfl] at t; exact t, ?_, ?_⟩
  · obtain ⟨_, _, _, cu, u1, _⟩ := q2.cl _ _ hi
    rw [if_pos rfl] at u1
    exact lt_of_get u1
  · have hW2 := watch_t w1 q1 q2 b' (by show -(s.V : Int) ≤ b'; omega) (by show b' ≤ (s.V : Int); omega) K.length _ hi (by rw [updF_other _ _ (fun e => hab e.symm)]; have := hWn b'; omega) (Nat.le_trans hB q3.size)
    rw [if_pos rfl] at hW2
    refine hW2.mono ?_
    rintro e w2 ⟨rfl, ⟨v2, r1, r2⟩, r3⟩
    refine ⟨rfl, ⟨_, _, r1, hv, hV, hf, ?_⟩, q3.trans r3⟩
    rw [if_neg (by decide)]
    exact ⟨hh, _, _, _, r2, by rw [List.length_append, List.length_singleton]; omega, hG.store rfl hdn hdv hsub hfc hop⟩
end
end Go.Proofs.Ytembgefbmecdbaa
