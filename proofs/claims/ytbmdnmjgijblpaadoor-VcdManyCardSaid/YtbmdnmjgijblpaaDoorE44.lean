/-
  VcdMany's trace while it is built, in memory.
-/
import Derived.Test.YtbmdnmjgijblpaaDoorE43
namespace Go.Proofs.YtbmdnmjgijblpaaDoor
open Go Go.RowKit Go.Lib Go.Maps
structure MS (w : World) (b5 kv kl m : Nat) (vv lv vals : Value) (wr : World) : Prop where
  bB : w.heap.size ≤ b5
  c : CV wr b5 #[.string ⟨#[116]⟩, vv, vals] 26
  rv : wr.ownsRow w.heap.size 30 2 vv kv (vcells (mvs kv))
  rl : wr.ownsRow w.heap.size 34 3 lv kl (rcells (mrow kl))
  rs : wr.ownsRow w.heap.size 27 1 vals m (List.replicate m lv)
  low : Below w.heap.size w wr
section
variable {w a a' w' : World} {b5 kv kl m : Nat} {vv lv vals : Value}
theorem MS.sz (h : MS w b5 kv kl m vv lv vals a) : w.heap.size ≤ a.heap.size := by have := h.low.size; omega
theorem MS.over (h : MS w b5 kv kl m vv lv vals a) (k : Below a.heap.size a a') : MS w b5 kv kl m vv lv vals a' :=
  ⟨h.bB, h.c.over k, own_keepT h.rv fun g hg => k.block g (own_ltT h.rv g hg).2, own_keepT h.rl fun g hg => k.block g (own_ltT h.rl g hg).2, own_keepT h.rs fun g hg => k.block g (own_ltT h.rs g hg).2, below_step h.low k⟩
/-- A block of one type is not a block of another. -/
theorem blk_ne {w : World} {g b : Nat} {cs cs' : Array Value} {T T' : TypeId} (h : w.heap[g]? = some (.cells cs T (0, 0))) (h' : w.heap[b]? = some (.cells cs' T' (0, 0))) (hT : T ≠ T') : g ≠ b := fun e => by
  subst e
  rw [h] at h'
  cases h'
  exact hT rfl
theorem own_no {w : World} {B n sz n' sz' : Nat} {v v' : Value} {xs xs' : List Value} {T T' : TypeId} (h : w.ownsRow B T sz v n xs) (h' : w.ownsRow B T' sz' v' n' xs') (hT : T ≠ T') (g : Nat) (hg : v.ownBlock = some g) : some g ≠ v'.ownBlock := fun e => by
  obtain ⟨c1, x1⟩ := own_blk h g hg
  obtain ⟨c2, x2⟩ := own_blk h' g e.symm
  exact blk_ne x1 x2 hT rfl
theorem cv_no {w : World} {B n sz b : Nat} {v : Value} {xs : List Value} {T T' : TypeId} {cs : Array Value} (hc : CV w b cs T) (h : w.ownsRow B T' sz v n xs) (hT : T ≠ T') : some b ≠ v.ownBlock := fun e => by
  obtain ⟨c2, x2⟩ := own_blk h b e.symm
  exact blk_ne hc x2 hT rfl
theorem low_grown {row : Option Nat} (h : Below w.heap.size w a) (hg : a.grownBy a' row) (hr : ∀ g, row = some g → w.heap.size ≤ g) : Below w.heap.size w a' := h.grown hg (by have := h.size; omega) hr
/-- A variable more, and its store. -/
theorem MS.var (h : MS w b5 kv kl m vv lv vals a) {g cap : Nat} (ho : a'.ownsRow w.heap.size 30 2 (.slice (some ⟨g, 0, none⟩) (kv + 1) cap) (kv + 1) (vcells (mvs kv) ++ [.string (bt (118 :: idL kv)), iz ((1 + kv % 3 : Nat) : Int)])) (hg : a.grownBy a' vv.ownBlock) :
    MS w b5 (kv + 1) kl m (.slice (some ⟨g, 0, none⟩) (kv + 1) cap) lv vals (a'.setCell ⟨b5, 1, none⟩ (.slice (some ⟨g, 0, none⟩) (kv + 1) cap)) := by
  have c1 : CV a' b5 _ 26 := (hg.block b5 h.c.lt (cv_no h.c h.rv (by decide))).trans h.c
  have rl1 := own_keepT h.rl fun b hb => hg.block b (own_ltT h.rl b hb).2 (own_no h.rl h.rv (by decide) b hb)
  have rs1 := own_keepT h.rs fun b hb => hg.block b (own_ltT h.rs b hb).2 (own_no h.rs h.rv (by decide) b hb)
  have hset : ∀ {sz n : Nat} {v : Value} {xs : List Value} {T : TypeId} (r : a'.ownsRow w.heap.size T sz v n xs), T ≠ 26 → (a'.setCell ⟨b5, 1, none⟩ (.slice (some ⟨g, 0, none⟩) (kv + 1) cap)).ownsRow w.heap.size T sz v n xs := fun r hT => own_keepT r fun b hb => Below.heap_setCell _ _ _ b (fun e => cv_no c1 r (Ne.symm hT) (by rw [hb]; exact congrArg some e.symm))
  refine ⟨h.bB, c1.set 1 _, ?_, hset rl1 (by decide), hset rs1 (by decide), (low_grown h.low hg fun b hb => (own_ltT h.rv b hb).1).setCell (p := ⟨b5, 1, none⟩) h.bB _⟩
  rw [mvs_succ]
  exact hset ho (by decide)
/-- A vector more. -/
theorem MS.vec (h : MS w b5 kv kl 0 vv lv vals a) {g cap : Nat} (ho : a'.ownsRow w.heap.size 34 3 (.slice (some ⟨g, 0, none⟩) (kl + 1) cap) (kl + 1) (rcells (mrow kl) ++ [iz ((1 + kl % 3 : Nat) : Int), .int .u64 ((lo (kl % 2 ^ (1 + kl % 3)) : Nat) : Int), .int .u64 ((hi (kl % 2 ^ (1 + kl % 3)) : Nat) : Int)])) (hg : a.grownBy a' lv.ownBlock) :
    MS w b5 kv (kl + 1) 0 vv (.slice (some ⟨g, 0, none⟩) (kl + 1) cap) vals a' := by
  have c1 : CV a' b5 _ 26 := (hg.block b5 h.c.lt (cv_no h.c h.rl (by decide))).trans h.c
  have rv1 := own_keepT h.rv fun b hb => hg.block b (own_ltT h.rv b hb).2 (own_no h.rv h.rl (by decide) b hb)
  have rs1 := own_keepT h.rs fun b hb => hg.block b (own_ltT h.rs b hb).2 (own_no h.rs h.rl (by decide) b hb)
  refine ⟨h.bB, c1, rv1, ?_, rs1, low_grown h.low hg fun b hb => (own_ltT h.rl b hb).1⟩
  rw [mrow_succ]
  exact ho
/-- A time more, and its store. -/
theorem MS.time (h : MS w b5 kv kl m vv lv vals a) {g cap : Nat} (ho : a'.ownsRow w.heap.size 27 1 (.slice (some ⟨g, 0, none⟩) (m + 1) cap) (m + 1) (List.replicate m lv ++ [lv])) (hg : a.grownBy a' vals.ownBlock) :
    MS w b5 kv kl (m + 1) vv lv (.slice (some ⟨g, 0, none⟩) (m + 1) cap) (a'.setCell ⟨b5, 2, none⟩ (.slice (some ⟨g, 0, none⟩) (m + 1) cap)) := by
  have c1 : CV a' b5 _ 26 := (hg.block b5 h.c.lt (cv_no h.c h.rs (by decide))).trans h.c
  have rl1 := own_keepT h.rl fun b hb => hg.block b (own_ltT h.rl b hb).2 (own_no h.rl h.rs (by decide) b hb)
  have rv1 := own_keepT h.rv fun b hb => hg.block b (own_ltT h.rv b hb).2 (own_no h.rv h.rs (by decide) b hb)
  have hset : ∀ {sz n : Nat} {v : Value} {xs : List Value} {T : TypeId} (r : a'.ownsRow w.heap.size T sz v n xs), T ≠ 26 → (a'.setCell ⟨b5, 2, none⟩ (.slice (some ⟨g, 0, none⟩) (m + 1) cap)).ownsRow w.heap.size T sz v n xs := fun r hT => own_keepT r fun b hb => Below.heap_setCell _ _ _ b (fun e => cv_no c1 r (Ne.symm hT) (by rw [hb]; exact congrArg some e.symm))
  refine ⟨h.bB, c1.set 2 _, hset rv1 (by decide), hset rl1 (by decide), ?_, (low_grown h.low hg fun b hb => (own_ltT h.rs b hb).1).setCell (p := ⟨b5, 2, none⟩) h.bB _⟩
  rw [List.replicate_succ']
  exact hset ho (by decide)
/-- What is built reads as a trace. -/
theorem MS.rvs (h : MS w b5 kv kl m vv lv vals a) : ∃ A c, vv = .slice A kv c ∧ RVs a A (mvs kv) := by
  obtain ⟨A, c, e⟩ := own_shape h.rv
  refine ⟨A, c, e, fun h0 => ?_⟩
  rw [mvs_len] at h0
  obtain ⟨g, c', e', _, _⟩ := own_some h.rv h0
  rw [e'] at e
  cases e
  refine ⟨g, rfl, (own_ltT h.rv g (by rw [e']; rfl)).2, fun i x hi => ?_⟩
  obtain ⟨h1, h2⟩ := vcells_get (mvs kv) i x hi
  have hb : vv.ownBlock = some g := by rw [e']; rfl
  have ea : ∀ x, (⟨g, 0, none⟩ : Addr).add x = ⟨g, x, none⟩ := fun x => by unfold Addr.add; split <;> simp_all
  exact ⟨by rw [← ea]; exact h.rv.cells hb _ _ h1, by rw [← ea]; exact h.rv.cells hb _ _ h2⟩
theorem rcells_get : ∀ (F : List (Nat × Nat)) (i : Nat) (p : Nat × Nat), F[i]? = some p → (rcells F)[i * 3]? = some (iz (p.1 : Int)) ∧ (rcells F)[i * 3 + 1]? = some (.int .u64 ((lo p.2 : Nat) : Int)) ∧ (rcells F)[i * 3 + 2]? = some (.int .u64 ((hi p.2 : Nat) : Int))
  | [], i, p, h => by simp at h
  | q :: F, 0, p, h => by
    simp at h
    subst h
    exact ⟨rfl, rfl, rfl⟩
  | q :: F, i + 1, p, h => by
    have := rcells_get F i p (by simpa using h)
    rw [show (i + 1) * 3 = i * 3 + 1 + 1 + 1 by omega]
    simpa [rcells] using this
theorem own_rd3 {B n : Nat} {v : Value} {r : List (Nat × Nat)} (h : a.ownsRow B 34 3 v n (rcells r)) (hn : n = r.length) : ∃ A c, v = .slice A n c ∧ RD3 a A r := by
  obtain ⟨A, c, e⟩ := own_shape h
  refine ⟨A, c, e, fun h0 => ?_⟩
  obtain ⟨g, c', e', _, _⟩ := own_some h (by omega)
  rw [e'] at e
  cases e
  refine ⟨g, rfl, (own_ltT h g (by rw [e']; rfl)).2, fun i x hi => ?_⟩
  obtain ⟨h1, h2, h3⟩ := rcells_get r i x hi
  have hb : v.ownBlock = some g := by rw [e']; rfl
  have ea : ∀ x, (⟨g, 0, none⟩ : Addr).add x = ⟨g, x, none⟩ := fun x => by unfold Addr.add; split <;> simp_all
  exact ⟨by rw [← ea]; exact h.cells hb _ _ h1, by rw [← ea]; exact h.cells hb _ _ h2, by rw [← ea]; exact h.cells hb _ _ h3⟩
theorem MS.rm (h : MS w b5 kv kl m vv lv vals a) : ∃ A c, vals = .slice A m c ∧ RM a A (mrows kl m) := by
  obtain ⟨A', c', e', hrd⟩ := own_rd3 h.rl (mrow_len kl).symm
  obtain ⟨A, c, e⟩ := own_shape h.rs
  refine ⟨A, c, e, fun h0 => ?_⟩
  have h0' : 0 < m := by simpa [mrows] using h0
  obtain ⟨g, c2, e2, _, _⟩ := own_some h.rs h0'
  rw [e2] at e
  cases e
  refine ⟨g, rfl, (own_ltT h.rs g (by rw [e2]; rfl)).2, fun i r hi => ?_⟩
  have hr : r = mrow kl ∧ i < m := by
    unfold mrows at hi
    rw [List.getElem?_replicate] at hi
    split at hi
    · cases hi; exact ⟨rfl, by assumption⟩
    · cases hi
  obtain ⟨rfl, him⟩ := hr
  have hb : vals.ownBlock = some g := by rw [e2]; rfl
  have ea : ∀ x, (⟨g, 0, none⟩ : Addr).add x = ⟨g, x, none⟩ := fun x => by unfold Addr.add; split <;> simp_all
  refine ⟨A', c', ?_, hrd⟩
  rw [← ea, mrow_len, ← e']
  exact h.rs.cells hb _ _ (by rw [List.getElem?_replicate, if_pos him])
end
theorem TX.rm {w : World} {B : Nat} {rows : RW} {vals : Value} {rv : List Value} (h : TX w B rows vals rv) : ∃ A c, vals = .slice A rows.length c ∧ RM w A rows := by
  obtain ⟨A, c, e⟩ := own_shape h.row
  refine ⟨A, c, e, fun h0 => ?_⟩
  obtain ⟨g, c2, e2, _, _⟩ := own_some h.row h0
  rw [e2] at e
  cases e
  refine ⟨g, rfl, (own_ltT h.row g (by rw [e2]; rfl)).2, fun i r hi => ?_⟩
  have hil := (List.getElem?_eq_some_iff.1 hi).1
  obtain ⟨v, hv⟩ : ∃ v, rv[i]? = some v := ⟨_, List.getElem?_eq_getElem (by rw [h.rl]; exact hil)⟩
  obtain ⟨A', c', e', hrd⟩ := own_rd3 (h.is i r v hi hv).1 rfl
  have hb : vals.ownBlock = some g := by rw [e2]; rfl
  have ea : ∀ x, (⟨g, 0, none⟩ : Addr).add x = ⟨g, x, none⟩ := fun x => by unfold Addr.add; split <;> simp_all
  exact ⟨A', c', by rw [← ea, ← e']; exact h.row.cells hb _ _ hv, hrd⟩
/-! Equality of variables -/
theorem part_n0 (a b : Value) (w : World) : (part 9 #[a, b] 0).run Tryd.prog w = .ok a w := by kernel_rfl
theorem part_n1 (a b : Value) (w : World) : (part 3 #[a, b] 1).run Tryd.prog w = .ok b w := by kernel_rfl
theorem varFields : (Tryd.prog.fieldsOf 30).toList.map (fun f => (f.name != "_", f.type, f.offset)) = [(true, 9, 0), (true, 3, 1)] := by kernel_rfl
theorem run_eqvar (a : ByteArray) (b : Int) (a' : ByteArray) (b' : Int) (w : World) : (Op.equalIn 10000 30 (.agg #[.string a, .int .i64 b]) (.agg #[.string a', .int .i64 b'])).run Tryd.prog w = .ok (a.toList == a'.toList && b == b') w := by
  rw [run_equalIn_struct w 9999 _ _ _ (by kernel_rfl) (by kernel_rfl)]
  have hf := varFields
  generalize (Tryd.prog.fieldsOf 30).toList = l at hf
  have hl : l.length = 2 := by simpa using congrArg List.length hf
  match l, hl, hf with
  | [f0, f1], _, hf =>
    simp only [List.map_cons, List.map_nil, List.cons.injEq, Prod.mk.injEq, and_true, bne_iff_ne] at hf
    obtain ⟨⟨n0, t0, o0⟩, n1, t1, o1⟩ := hf
    simp only [Op.eqFields, ne_eq, n0, n1, not_false_eq_true, if_true, t0, t1, o0, o1, Sem.run_bind, part_n0, Result.andThen_ok, run_equalIn_string w 9998 9 _ _ Tryd.underlying9]
    cases a.toList == a'.toList
    · simp
    · simp only [Bool.not_true, Bool.false_eq_true, if_false, Sem.run_bind, part_n1, Result.andThen_ok, run_equalIn_int w 9998 3 .i64 .i64 _ _ Tryd.underlying3]
      cases b == b' <;> simp
theorem neq_var (a : ByteArray) (b : Int) (w : World) : (binOp .neq 30 (.agg #[.string a, .int .i64 b]) (.agg #[.string a, .int .i64 b])).run Tryd.prog w = .ok (.bool false) w := by
  rw [run_neq_struct, run_eqvar]
  simp
theorem guard_var (op : BinOp) (x y : Operand) (xs ys : Array Value) (w : World) : (eqGuard op 30 x y (.agg xs) (.agg ys)).run Tryd.prog w = .ok () w := run_eqGuard_agg w op _ x y xs ys (by kernel_rfl)
end Go.Proofs.YtbmdnmjgijblpaaDoor
