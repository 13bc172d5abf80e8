/-
  zeros: a row of vectors; how a row lies.
  slices.Clone of a row of vectors; the digits of a change.
  vcd's reader while it reads times: the rows of values.
-/
import Derived.Test.YtbmdnmjgijblpaaDoorE15
import Derived.Test.YtbmdnmjgijblpaaDoorE16
import Derived.Test.YtbmdnmjgijblpaaDoorWx
import Derived.Lib.SliceRun
namespace Go.Proofs.YtbmdnmjgijblpaaDoor
open Go Go.RowKit Go.Lib
/-- A row's vectors: Widths and numbers. -/
def rcells (r : List (Nat × Nat)) : List Value := r.flatMap fun x => [iz (x.1 : Int), .int .u64 ((lo x.2 : Nat) : Int), .int .u64 ((hi x.2 : Nat) : Int)]
theorem rcells_len : ∀ r : List (Nat × Nat), (rcells r).length = r.length * 3
  | [] => rfl
  | p :: F => by
    have := rcells_len F
    simp only [rcells, List.flatMap_cons, List.length_append, List.length_cons, List.length_nil] at *
    omega
theorem rcells_app (F G : List (Nat × Nat)) : rcells (F ++ G) = rcells F ++ rcells G := by simp [rcells]
theorem info_vec : (Tryd.prog.info? 34).map (fun i => (i.zero, i.size, i.bytes)) = some (some (.agg #[.int .i64 0, .int .u64 0, .int .u64 0]), 3, 24) := by kernel_rfl
abbrev zrow (vs : List NV) : List (Nat × Nat) := vs.map fun x => (x.2, 0)
theorem zrow_succ {vs : List NV} {k : Nat} {x : NV} (h : vs[k]? = some x) : rcells (zrow (vs.take (k + 1))) = rcells (zrow (vs.take k)) ++ [iz (x.2 : Int), .int .u64 ((lo 0 : Nat) : Int), .int .u64 ((hi 0 : Nat) : Int)] := by
  obtain ⟨h1, h2⟩ := List.getElem?_eq_some_iff.1 h
  rw [List.take_succ_eq_append_getElem h1, zrow, List.map_append, rcells_app, h2]
  simp [rcells]
set_option maxRecDepth 100000 in
set_option maxHeartbeats 3200000 in
theorem zeros_t (vs : List NV) (A : Option Addr) (c : Nat) (w : World) (hA : RVs w A vs) (hok : ∀ x ∈ vs, 1 ≤ x.2 ∧ x.2 ≤ 128) (hl : vs.length ≤ 300) : Calls Tryd.prog 57 #[.slice A vs.length c] w fun e w' => ∃ v, e = .returned v ∧ w'.ownsRow w.heap.size 34 3 v vs.length (rcells (zrow vs)) ∧ (vs = [] → v = .slice none 0 0) ∧ Below w.heap.size w w' := by
  obtain ⟨i0, hi0, hz0, hz1, hz2⟩ := info_parts info_vec
  obtain ⟨X, hX⟩ : ∃ X, 0 = X := ⟨_, rfl⟩
  have hz : ∀ k x, vs[k]? = some x → rcells (zrow (vs.take (k + 1))) = rcells (zrow (vs.take k)) ++ [iz (x.2 : Int), .int .u64 ((lo X : Nat) : Int), .int .u64 ((hi X : Nat) : Int)] := fun k x h => by subst hX; exact zrow_succ h
  have hNew : ∀ (n : Nat) (W : World), 1 ≤ n → n ≤ 128 → Calls Tryd.prog 6 #[.int .i64 (n : Int), .slice none 0 0] W fun e W' => e = .returned (.tuple #[vv n X, .int .i64 0]) ∧ Below W.heap.size W W' := fun n W h1 h2 => by subst hX; exact New_none n W h1 h2
  have hfin : vs.take vs.length = vs := List.take_length
  obtain ⟨n, hn⟩ : ∃ n, vs.length = n := ⟨_, rfl⟩
  have hown0 : w.ownsRow w.heap.size 34 3 (.slice none 0 0) 0 (rcells (zrow (vs.take 0))) := World.ownsRow_nil _ _ _ _
  rw [hn] at hl hfin ⊢
  replace hA := Lib.hid hA
  replace hok := Lib.hid hok
  replace hNew := Lib.hid hNew
  replace hz := Lib.hid hz
  replace hfin := Lib.hid hfin
  replace hn := Lib.hid hn
  replace hown0 := Lib.hid hown0
  clear hX
  go_enter Tryd.func57, Tryd.ntmps57
  go_wp2_with fail
  go_loopw [3, 10] (fun rv i wr => ∃ (k : Nat) (Ao : Option Addr) (co : Nat), k ≤ n ∧ i = .int .i64 (k : Int) ∧ rv = .slice Ao k co ∧ Hid (k = 0 → Ao = none ∧ co = 0) ∧ Hid (wr.ownsRow w.heap.size 34 3 (.slice Ao k co) k (rcells (zrow (vs.take k)))) ∧ Hid (Below w.heap.size w wr)) (fun _ i _ => n - (RowKit.intOf i).toNat)
  case atStart => exact ⟨0, none, 0, Nat.zero_le _, rfl, rfl, Lib.hid (fun _ => ⟨rfl, rfl⟩), hown0, Lib.hid (Below.refl _ _)⟩
  case round =>
    obtain ⟨k, Ao, co, hk, rfl, rfl, hk0, hown, hbw⟩ := hrel
    by_cases hlt : k < n
    · have hkl : k < vs.length := by have := hn.out; omega
      obtain ⟨x, hx⟩ : ∃ x, vs[k]? = some x := ⟨_, List.getElem?_eq_getElem hkl⟩
      have hRV := hA.out.over hbw.out
      obtain ⟨b, rfl, hb, hc⟩ := hRV (by omega)
      obtain ⟨c0, c1⟩ := hc k x hx
      obtain ⟨u1, u2⟩ := hok.out x (List.mem_of_getElem? hx)
      have hz2' := hz.out k x hx
      obtain ⟨S, hS⟩ : ∃ S, bt x.1 = S := ⟨_, rfl⟩
      obtain ⟨u, hu⟩ : ∃ u, x.2 = u := ⟨_, rfl⟩
      rw [hS] at c0
      rw [hu] at c1 u1 u2 hz2'
      have hN := Lib.hid (hNew.out u (wr.alloc (.cells #[.string S, iz (u : Int)] 30)) u1 u2)
      have hbA : Below wr.heap.size wr (wr.alloc (.cells #[.string S, iz (u : Int)] 30)) := vnew _ _
      replace hbA := Lib.hid hbA
      replace hz2' := Lib.hid hz2'
      clear hS hu hc hx hRV hkl u1 u2 hown0
      go_wp2_with fail
      (with_reducible refine hN.out.mono ?_)
      rintro e w2 ⟨rfl, hb2⟩
      have hbC := below_step (below_step (below_step hbA.out hb2) (vnew w2 (.cells #[iz (u : Int), .int .u64 ((lo X : Nat) : Int), .int .u64 ((hi X : Nat) : Int)] 34))) (vnew _ (.cells #[iz (u : Int), .int .u64 ((lo X : Nat) : Int), .int .u64 ((hi X : Nat) : Int)] 34))
      have hown2 := own_keepT hown.out (fun g hg => hbC.block g (own_ltT hown.out g hg).2)
      have hlow := own_ltT hown.out
      have hbw2 := below_step hbw.out hbC
      have hR := heap_alloc_new (w2.alloc (.cells #[iz (u : Int), .int .u64 ((lo X : Nat) : Int), .int .u64 ((hi X : Nat) : Int)] 34)) (.cells #[iz (u : Int), .int .u64 ((lo X : Nat) : Int), .int .u64 ((hi X : Nat) : Int)] 34)
      have s1 : (w2.alloc (.cells #[iz (u : Int), .int .u64 ((lo X : Nat) : Int), .int .u64 ((hi X : Nat) : Int)] 34)).heap.size = w2.heap.size + 1 := by simp
      have s2 : w.heap.size ≤ ((w2.alloc (.cells #[iz (u : Int), .int .u64 ((lo X : Nat) : Int), .int .u64 ((hi X : Nat) : Int)] 34)).alloc (.cells #[iz (u : Int), .int .u64 ((lo X : Nat) : Int), .int .u64 ((hi X : Nat) : Int)] 34)).heap.size := hbw2.size
      rw [s1] at hR
      have hx1 : k + 1 ≤ maxLen := by unfold maxLen; omega
      have hone : ∀ v ∈ [iz (u : Int), .int .u64 ((lo X : Nat) : Int), .int .u64 ((hi X : Nat) : Int)], v.oneCell' = true := by simp [Value.oneCell']
      replace hown2 := Lib.hid hown2
      replace hlow := Lib.hid hlow
      replace hbw2 := Lib.hid hbw2
      replace hR := Lib.hid hR
      replace s2 := Lib.hid s2
      replace hx1 := Lib.hid hx1
      replace hone := Lib.hid hone
      clear hN hbA hb2 hbC s1 hown hbw c0 c1
      go_upto_region 6 with fail
      go_wp2_with (first
        | (at_builtin; refine wpList_append_lies _ rfl _ _ 27 rfl w.heap.size 34 i0 (.agg #[.int .i64 0, .int .u64 0, .int .u64 0]) 3 24 Tryd.underlying27 hi0 hz0 hz1 hz2 rfl (by decide) _ k (rcells (zrow (vs.take k))) rfl hown2.out ⟨w2.heap.size + 1, 0, none⟩ 1 1 [iz (u : Int), .int .u64 ((lo X : Nat) : Int), .int .u64 ((hi X : Nat) : Int)] (by simp [Act.eval]) rfl (World.news_of_block hR.out) hone.out (by decide) hx1.out (by omega) s2.out _ rfl ?_; intro g6 cap6 w6 ho6 hg6 hgb6 hlt6; replace ho6 := Lib.hid ho6; replace hg6 := Lib.hid hg6; replace hgb6 := Lib.hid hgb6)
        | fail)
      have hbw6 : Below w.heap.size w w6 := hbw2.out.grown hg6.out s2.out (fun q hq => (hlow.out q hq).1)
      replace hbw6 := Lib.hid hbw6
      have ho7 : w6.ownsRow w.heap.size 34 3 (.slice (some ⟨g6, 0, none⟩) (k + 1) cap6) (k + 1) (rcells (zrow (vs.take (k + 1)))) := by rw [hz2'.out]; exact ho6.out
      replace ho7 := Lib.hid ho7
      clear hown2 hbw2 hR
      go_roundw
      case rel => exact ⟨k + 1, _, cap6, by omega, by go_num, rfl, Lib.hid (fun h => absurd h (by omega)), ho7, hbw6⟩
      case measure => simp [RowKit.intOf]; omega
    · obtain rfl : k = n := by omega
      have ho7 : wr.ownsRow w.heap.size 34 3 (.slice Ao k co) k (rcells (zrow vs)) := by have := hown.out; rwa [hfin.out] at this
      replace ho7 := Lib.hid ho7
      clear hown hown0
      go_wp2_with fail
      go_ret
      refine ⟨_, rfl, ho7.out, fun e => ?_, hbw.out⟩
      have hk9 : k = 0 := by have := hn.out; rw [e] at this; exact this.symm
      obtain ⟨hA0, hc0⟩ := hk0.out hk9
      subst hk9 hA0 hc0
      rfl
end Go.Proofs.YtbmdnmjgijblpaaDoor
namespace Go.Proofs.YtbmdnmjgijblpaaDoor
open Go Go.RowKit Go.Lib
theorem rcells_one (r : List (Nat × Nat)) : ∀ u ∈ rcells r, u.oneCell' = true := by
  intro u hu
  unfold rcells at hu
  rw [List.mem_flatMap] at hu
  obtain ⟨x, _, hx⟩ := hu
  simp at hx
  rcases hx with rfl | rfl | rfl <;> rfl
/-- A row of vectors lies at v, its block at B or behind. -/
def RW3 (w : World) (B : Nat) (v : Value) (r : List (Nat × Nat)) : Prop := w.ownsRow B 34 3 v r.length (rcells r) ∧ (r = [] → v = .slice none 0 0)
theorem RW3.keep {w w' : World} {B : Nat} {v : Value} {r : List (Nat × Nat)} (h : RW3 w B v r) (hk : ∀ b, v.ownBlock = some b → w'.heap[b]? = w.heap[b]?) : RW3 w' B v r := ⟨own_keepT h.1 hk, h.2⟩
theorem RW3.over {w w' : World} {B : Nat} {v : Value} {r : List (Nat × Nat)} (h : RW3 w B v r) (hb : Below w.heap.size w w') : RW3 w' B v r := h.keep fun b e => hb.block b (own_ltT h.1 b e).2
theorem RW3.at_ {w : World} {B : Nat} {v : Value} {r : List (Nat × Nat)} (h : RW3 w B v r) (hr : 0 < r.length) : ∃ g c, v = .slice (some ⟨g, 0, none⟩) r.length c ∧ B ≤ g ∧ g < w.heap.size ∧ ∀ j u, (rcells r)[j]? = some u → w.cell? ((⟨g, 0, none⟩ : Addr).add j) = some u := by
  obtain ⟨g, c, e, hB, cur, hc, _⟩ := own_some h.1 hr
  have hb : v.ownBlock = some g := by rw [e]; rfl
  exact ⟨g, c, e, hB, lt_of_get hc, fun j u hj => h.1.cells hb _ _ hj⟩
set_option maxRecDepth 100000 in
set_option maxHeartbeats 1600000 in
theorem Clone_t (r : List (Nat × Nat)) (v : Value) (B : Nat) (w : World) (h : RW3 w B v r) (hl : r.length ≤ 300) : Calls Tryd.prog 58 #[v] w fun e w' => ∃ v', e = .returned v' ∧ RW3 w' w.heap.size v' r ∧ Below w.heap.size w w' := by
  obtain ⟨i0, hi0, hz0, hz1, hz2⟩ := info_parts info_vec
  have q22 : ∀ (w : World) (a : Option Addr) (n c n' c' : Nat), (binOp .eql 27 (.slice a n c) (.slice none n' c')).run Tryd.prog w = .ok (.bool a.isNone) w := fun w a n c n' c' => Lib.run_eql_slice_nil w _ _ a n c n' c' Tryd.underlying27
  rcases Nat.eq_zero_or_pos r.length with h0 | h0
  · have hr : r = [] := List.eq_nil_of_length_eq_zero h0
    subst hr
    obtain rfl := h.2 rfl
    clear h
    go_enter Tryd.func58, Tryd.ntmps58
    go_wp2_with fail
    go_ret
    exact ⟨_, rfl, ⟨World.ownsRow_nil _ _ _ _, fun _ => rfl⟩, Below.refl _ _⟩
  · obtain ⟨g, c, rfl, hB, hg, hc⟩ := h.at_ h0
    have hb1 := vnew w (.cells #[] 34)
    have hc1 : ∀ j u, (rcells r)[j]? = some u → (w.alloc (.cells #[] 34)).cell? ((⟨g, 0, none⟩ : Addr).add j) = some u := fun j u hj => (hb1.cell (p := (⟨g, 0, none⟩ : Addr).add j) (by rw [block_add]; exact hg)).trans (hc j u hj)
    have ho1 : (w.alloc (.cells #[] 34)).ownsRow w.heap.size 34 3 (.slice (some ⟨w.heap.size, 0, none⟩) 0 0) 0 [] := ⟨rfl, .inr ⟨w.heap.size, 0, #[], rfl, Nat.le_refl _, heap_alloc_new w _, Nat.le_refl _, Nat.zero_le _, rfl, rfl⟩⟩
    have hone := rcells_one r
    have hlen := rcells_len r
    obtain ⟨n, hn⟩ : ∃ n, r.length = n := ⟨_, rfl⟩
    obtain ⟨rc, hrc⟩ : ∃ l, rcells r = l := ⟨_, rfl⟩
    have hfin : ∀ W v', W.ownsRow w.heap.size 34 3 v' n rc → RW3 W w.heap.size v' r := fun W v' ho => ⟨by rw [hn, hrc]; exact ho, fun e => by rw [e] at h0; exact absurd h0 (by simp)⟩
    rw [hn] at hlen h0 hl
    rw [hrc] at hc1 hone hlen
    rw [hn]
    have hx1 : 0 + n ≤ maxLen := by unfold maxLen; omega
    have hx2 : (0 + n) * 24 ≤ 140737488355328 := by omega
    have hsz : w.heap.size ≤ (w.alloc (.cells #[] 34)).heap.size := hb1.size
    replace hc1 := Lib.hid hc1
    replace ho1 := Lib.hid ho1
    replace hone := Lib.hid hone
    replace hlen := Lib.hid hlen
    replace hfin := Lib.hid hfin
    replace hx1 := Lib.hid hx1
    replace hx2 := Lib.hid hx2
    replace hsz := Lib.hid hsz
    replace hb1 := Lib.hid hb1
    replace h0 := Lib.hid h0
    clear h hc hn hrc
    go_enter Tryd.func58, Tryd.ntmps58
    go_wp2_with (first
      | (at_builtin; refine wpList_append_lies _ rfl _ _ 27 rfl w.heap.size 34 i0 (.agg #[.int .i64 0, .int .u64 0, .int .u64 0]) 3 24 Tryd.underlying27 hi0 hz0 hz1 hz2 rfl (by decide) _ 0 [] rfl ho1.out ⟨g, 0, none⟩ n c rc (by simp [Act.eval]) hlen.out hc1.out hone.out h0.out hx1.out hx2.out hsz.out _ rfl ?_; intro g6 cap6 w6 ho6 hg6 hgb6 hlt6; replace ho6 := Lib.hid ho6; replace hg6 := Lib.hid hg6; replace hgb6 := Lib.hid hgb6)
      | fail)
    have hb6 : Below w.heap.size w w6 := hb1.out.grown hg6.out hsz.out (fun q hq => by cases hq; exact Nat.le_refl _)
    have ho7 : w6.ownsRow w.heap.size 34 3 (.slice (some ⟨g6, 0, none⟩) n cap6) n rc := by have := ho6.out; rwa [Nat.zero_add] at this
    have hF := Lib.hid (And.intro (hfin.out _ _ ho7) hb6)
    clear ho6 hg6 hgb6 hb6 ho7
    go_wp2_with fail
    go_ret
    exact ⟨_, by simp, hF.out⟩
end Go.Proofs.YtbmdnmjgijblpaaDoor
namespace Go.Proofs.YtbmdnmjgijblpaaDoor
open Go Go.RowKit Go.Lib Go.Maps
/-- The reader while it reads times. -/
abbrev mkT (T top : List UInt8) (v vals : Value) (m : Nat) : Nat → Nat → VR := fun i ln => { T := T, i := i, ln := ln, top := top, vars := v, vals := vals, nums := .map (some m), err := 0, el := 0 }
theorem mkT_MK (T top : List UInt8) (v vals : Value) (m : Nat) : MK T (mkT T top v vals m) := ⟨fun _ _ => rfl, fun _ _ => rfl, fun _ _ => rfl, fun _ _ _ _ => rfl⟩
/-- The rows of values lie at vals; rv are their slices. -/
structure TX (w : World) (B : Nat) (rows : List (List (Nat × Nat))) (vals : Value) (rv : List Value) : Prop where
  row : w.ownsRow B 27 1 vals rows.length rv
  rl : rv.length = rows.length
  is : ∀ (i : Nat) r v, rows[i]? = some r → rv[i]? = some v → RW3 w B v r
  ap : ∀ (i j : Nat) v v' b, i ≠ j → rv[i]? = some v → rv[j]? = some v' → v.ownBlock = some b → v'.ownBlock = some b → False
  sm : rows.length ≤ 200
  nl : rows = [] → vals = .slice none 0 0
section
variable {w w' : World} {B q : Nat} {rows : List (List (Nat × Nat))} {vals : Value} {rv : List Value}
theorem TX.nil (w : World) (B : Nat) : TX w B [] (.slice none 0 0) [] :=
  ⟨World.ownsRow_nil _ _ _ _, rfl, fun i r v h => by simp at h, fun i j v v' b _ h => by simp at h, by simp, fun _ => rfl⟩
/-- The blocks of the rows. -/
def TX.fb (vals : Value) (rv : List Value) (g : Nat) : Prop := vals.ownBlock = some g ∨ ∃ v ∈ rv, v.ownBlock = some g
theorem TX.blk (h : TX w B rows vals rv) {g : Nat} (hg : TX.fb vals rv g) : B ≤ g ∧ g < w.heap.size ∧ ∃ cur T, w.heap[g]? = some (.cells cur T (0, 0)) ∧ (T = 34 ∨ T = 27) := by
  rcases hg with e | ⟨v, hv, e⟩
  · obtain ⟨cur, hc⟩ := own_blk h.row g e
    exact ⟨(own_ltT h.row g e).1, (own_ltT h.row g e).2, cur, _, hc, .inr rfl⟩
  · obtain ⟨i, hi, hx⟩ := List.getElem_of_mem hv
    have hi2 : i < rows.length := by rw [← h.rl]; exact hi
    have h2 := (h.is i rows[i] v (List.getElem?_eq_getElem hi2) (by rw [List.getElem?_eq_getElem hi, hx])).1
    obtain ⟨cur, hc⟩ := own_blk h2 g e
    exact ⟨(own_ltT h2 g e).1, (own_ltT h2 g e).2, cur, _, hc, .inl rfl⟩
theorem TX.kp (h : TX w B rows vals rv) (k : ∀ g, TX.fb vals rv g → w'.heap[g]? = w.heap[g]?) : TX w' B rows vals rv :=
  { row := own_keepT h.row fun b hb => k b (.inl hb), rl := h.rl, is := fun i r v h1 h2 => (h.is i r v h1 h2).keep fun b hb => k b (.inr ⟨v, List.mem_of_getElem? h2, hb⟩), ap := h.ap, sm := h.sm, nl := h.nl }
theorem TX.over (h : TX w B rows vals rv) (k : Below w.heap.size w w') : TX w' B rows vals rv := h.kp fun g hg => k.block g (h.blk hg).2.1
theorem TX.ne (h : TX w B rows vals rv) {b : Nat} {cs : Array Value} {T : TypeId} (hb : CV w b cs T) (h1 : T ≠ 34) (h2 : T ≠ 27) (g : Nat) (hg : TX.fb vals rv g) : g ≠ b := fun e => by
  subst e
  obtain ⟨_, _, cur, T', hc, hT⟩ := h.blk hg
  have : some (Obj.cells cs T (0, 0)) = some (.cells cur T' (0, 0)) := hb.symm.trans hc
  cases this
  rcases hT with e | e
  · exact h1 e
  · exact h2 e
theorem TX.kv (h : TX w B rows vals rv) {cs : Array Value} (hq : CV w q cs 64) (k : KV q w w') : TX w' B rows vals rv := h.kp fun g hg => k.blk g (h.ne hq (by decide) (by decide) g hg) (h.blk hg).2.1
end
theorem RX.cvT {w : World} {q : Nat} {T top : List UInt8} {v vals : Value} {m p : Nat} {l : List (UInt8 × List UInt8)} (h : RX w q (mkT T top v vals m) T p l) : ∃ cs, CV w q cs 64 ∧ w.cell? ⟨q, 4, none⟩ = some v ∧ w.cell? ⟨q, 5, none⟩ = some vals ∧ w.cell? ⟨q, 6, none⟩ = some (.map (some m)) := by
  obtain ⟨ln, h1, _, _⟩ := h
  exact ⟨_, h1, h1.c 4, h1.c 5, h1.c 6⟩
/-- The reader while it reads times: rows are read, the words l are still to come. -/
structure TR (w : World) (B q : Nat) (T top : List UInt8) (ids : List (List UInt8)) (vs : List NV) (rows : List (List (Nat × Nat))) (v vals : Value) (m n : Nat) (D : DU) (rv : List Value) (p : Nat) (l : List (UInt8 × List UInt8)) : Prop where
  b : B ≤ q
  d : DX w B ids vs v m n D
  t : TX w B rows vals rv
  r : RX w q (mkT T top v vals m) T p l
def TQ (w : World) (B q : Nat) (T top : List UInt8) (ids : List (List UInt8)) (vs : List NV) (rows : List (List (Nat × Nat))) (l : List (UInt8 × List UInt8)) : Prop := ∃ v vals m n D rv p, TR w B q T top ids vs rows v vals m n D rv p l
abbrev TE (w : World) (B q : Nat) (T top : List UInt8) (ids : List (List UInt8)) (vs : List NV) (rows : List (List (Nat × Nat))) (l : List (UInt8 × List UInt8)) (w' : World) : Prop := TQ w' B q T top ids vs rows l ∧ VW B q w w'
section
variable {w w' : World} {B q : Nat} {T top : List UInt8} {ids : List (List UInt8)} {vs : List NV} {rows : List (List (Nat × Nat))} {c : UInt8} {wd : List UInt8} {l : List (UInt8 × List UInt8)}
theorem DQ.tq (h : DQ w B q T top ids vs l) : TQ w B q T top ids vs [] l := by
  obtain ⟨p, hB, v, m, n, D, hx, hr⟩ := h
  exact ⟨v, _, m, n, D, [], p, hB, hx, TX.nil w B, hr⟩
theorem TR.of {v vals : Value} {m n p p' : Nat} {D : DU} {rv : List Value} {l0 : List (UInt8 × List UInt8)} (h : TR w B q T top ids vs rows v vals m n D rv p l0) (hr' : RX w' q (mkT T top v vals m) T p' l) (k : KV q w w') : TR w' B q T top ids vs rows v vals m n D rv p' l := by
  obtain ⟨cs, hc, _⟩ := h.r.cvT
  exact ⟨h.b, h.d.kv hc k, h.t.kv hc k, hr'⟩
theorem TR.over {v vals : Value} {m n p : Nat} {D : DU} {rv : List Value} (h : TR w B q T top ids vs rows v vals m n D rv p l) (k : Below w.heap.size w w') : TR w' B q T top ids vs rows v vals m n D rv p l := ⟨h.b, h.d.over k, h.t.over k, h.r.over k⟩
theorem TQ.over (h : TQ w B q T top ids vs rows l) (k : Below w.heap.size w w') : TQ w' B q T top ids vs rows l := by
  obtain ⟨v, vals, m, n, D, rv, p, h⟩ := h
  exact ⟨v, vals, m, n, D, rv, p, h.over k⟩
theorem TQ.elem (hT : T.length ≤ 1048576) (h : TQ w B q T top ids vs rows ((c, wd) :: l)) (hne : wd ≠ sCom) : Calls Tryd.prog 36 #[pp q] w fun e w' => ∃ ln : Nat, e = .returned (.agg #[.string (bt wd), iz (ln : Int)]) ∧ TE w B q T top ids vs rows l w' := by
  obtain ⟨v, vals, m, n, D, rv, p, h⟩ := h
  refine (elem_p (mkT_MK T top v vals m) hT w h.r hne).mono ?_
  rintro e w' ⟨ln, e1, h1, h2⟩
  exact ⟨ln, e1, ⟨v, vals, m, n, D, rv, _, h.of h1 h2⟩, VW.kv h2 h.b⟩
theorem TQ.take (hT : T.length ≤ 1048576) (h : TQ w B q T top ids vs rows ((c, wd) :: l)) : Calls Tryd.prog 53 #[pp q] w fun e w' => ∃ ln : Nat, e = .returned (.agg #[.string (bt wd), iz (ln : Int)]) ∧ TE w B q T top ids vs rows l w' := by
  obtain ⟨v, vals, m, n, D, rv, p, h⟩ := h
  refine (take_p (mkT_MK T top v vals m) hT w h.r).mono ?_
  rintro e w' ⟨ln, e1, h1, h2⟩
  exact ⟨ln, e1, ⟨v, vals, m, n, D, rv, _, h.of h1 h2⟩, VW.kv h2 h.b⟩
/-- The rows are stored anew: the reader's cell says so. -/
theorem TR.put {v vals vals' : Value} {m n p : Nat} {D : DU} {rv' : List Value} {rows' : List (List (Nat × Nat))} (hB : B ≤ q) (hd : DX w B ids vs v m n D) (hr : RX w q (mkT T top v vals m) T p l) (ht : TX w B rows' vals' rv') : TE w B q T top ids vs rows' l (w.setCell ⟨q, 5, none⟩ vals') := by
  obtain ⟨cs, hc, _⟩ := hr.cvT
  obtain ⟨ln, h1, h2, h3⟩ := hr
  have h4 : VX (w.setCell ⟨q, 5, none⟩ vals') q (mkT T top v vals' m p ln) := by
    have := h1.set 5 vals'
    exact this
  exact ⟨⟨v, vals', m, n, D, rv', p, hB, hd.kv hc (KV.set q 5 w _), ht.kv hc (KV.set q 5 w _), ln, h4, h2, h3⟩, VW.kv (KV.set q 5 w _) hB⟩
end
end Go.Proofs.YtbmdnmjgijblpaaDoor
