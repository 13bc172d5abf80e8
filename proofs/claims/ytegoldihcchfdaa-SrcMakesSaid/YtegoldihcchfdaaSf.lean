/-
  A table of files in memory, and the walk of src's New.
-/
import Derived.Test.YtegoldihcchfdaaSe
import Derived.Test.YtegoldihcchfdaaRt
namespace Go.Proofs.Ytegoldihcchfdaa
open Go.RowKit
theorem own_below {w w' : World} {base : Nat} {e : TypeId} {size : Nat} {v : Value} {n : Nat} {xs : List Value} (h : w.ownsRow base e size v n xs) (hb : Below w.heap.size w w') : w'.ownsRow base e size v n xs := by
  obtain ⟨h1, h2⟩ := h
  refine ⟨h1, ?_⟩
  rcases h2 with h2 | ⟨g, cap, cur, a, b, c, d⟩
  · exact .inl h2
  · exact .inr ⟨g, cap, cur, a, b, (hb.block g (Array.getElem?_eq_some_iff.1 c).1).trans c, d⟩
/-- Rows of different types lie in different blocks. -/
theorem own_apart {w : World} {base base' : Nat} {e e' : TypeId} {size size' g g' n n' cap cap' m m' : Nat} {xs xs' : List Value} (h : w.ownsRow base e size (.slice (some ⟨g, 0, none⟩) n cap) m xs) (h' : w.ownsRow base' e' size' (.slice (some ⟨g', 0, none⟩) n' cap') m' xs') (he : e ≠ e') : g ≠ g' := by
  rintro rfl
  rcases h.2 with ⟨h1, _⟩ | ⟨g1, c1, cur1, h1, _, k1, _⟩
  · cases h1
  rcases h'.2 with ⟨h2, _⟩ | ⟨g2, c2, cur2, h2, _, k2, _⟩
  · cases h2
  cases h1
  cases h2
  rw [k1] at k2
  exact he (by injection k2 with k2; injection k2)
/-- A variable of one cell. -/
def R1 (t : TypeId) (w : World) (b : Nat) (x : Value) : Prop := w.rowIs b t 1 (fun _ => x)
section
variable {t : TypeId} {w w' : World} {b : Nat} {x : Value}
theorem R1.all (h : R1 t w b x) : w.cell? ⟨b, 0, none⟩ = some x ∧ ∀ i, w.frozen? ⟨b, i, none⟩ = false := ⟨World.rowIs.cell h (i := 0) (by decide), World.rowIs.frozen h⟩
theorem R1.lt (h : R1 t w b x) : b < w.heap.size := World.rowIs.lt h
theorem R1.over (h : R1 t w b x) (hb : Below w.heap.size w w') : R1 t w' b x := World.rowIs.of_block h (hb.block b h.lt)
theorem R1.alloc (h : R1 t w b x) (o : Obj) : R1 t (w.alloc o) b x := World.rowIs.alloc h o
theorem R1.drew (h : R1 t w b x) : R1 t w.drew b x := h
theorem R2.drew {y : Value} (h : R2 t w b x y) : R2 t w.drew b x y := h
theorem R1.set (h : R1 t w b x) (u : Value) : R1 t (w.setCell ⟨b, 0, none⟩ u) b u := by
  refine World.rowIs.congr (World.rowIs.set h 0 u) fun i hi => ?_
  match i, hi with
  | 0, _ => rfl
theorem R1.far (h : R1 t w b x) {p : Addr} (hp : b ≠ p.block) (u : Value) : R1 t (w.setCell p u) b x := World.rowIs.setOther h hp u
theorem R1.grown {row : Option Nat} (h : R1 t w b x) (hg : w.grownBy w' row) (hr : some b ≠ row) : R1 t w' b x := World.rowIs.of_block h (hg.block b h.lt hr)
theorem R1.new (w : World) (t : TypeId) (x : Value) : R1 t (w.alloc (.cells #[x] t)) w.heap.size x := World.rowIs_alloc w #[x] t _ fun i hi => by
  match i, hi with
  | 0, _ => rfl
/-- A variable lies in no row of another type. -/
theorem row_apart {n : Nat} {f : Nat → Value} {base : Nat} {e : TypeId} {size g m cap k : Nat} {xs : List Value} (h : w.rowIs b t n f) (h' : w.ownsRow base e size (.slice (some ⟨g, 0, none⟩) m cap) k xs) (he : t ≠ e) : b ≠ g := by
  rintro rfl
  obtain ⟨c, h1, _⟩ := h
  rcases h'.2 with ⟨h2, _⟩ | ⟨g2, c2, cur2, h2, _, k2, _⟩
  · cases h2
  cases h2
  rw [h1] at k2
  exact he (by injection k2 with k2; injection k2)
end
/-- Where the lines of b begin, as a value. -/
def SL (w : World) (v : Value) (b : ByteArray) : Prop := ∃ g cap : Nat, v = .slice (some ⟨g, 0, none⟩) (nOf b) cap ∧ w.ownsRow 0 3 1 v (nOf b) (icell (sts b b.size))
/-- The cells of a table. -/
def tcell (nm tx : Nat → ByteArray) (vs : Nat → Value) : Nat → List Value
  | 0 => []
  | k + 1 => tcell nm tx vs k ++ [.string (nm k), .string (tx k), vs k]
theorem tcell_len (nm tx : Nat → ByteArray) (vs : Nat → Value) : ∀ k, (tcell nm tx vs k).length = k * 3
  | 0 => rfl
  | k + 1 => by unfold tcell; rw [List.length_append, tcell_len nm tx vs k]; simp; omega
theorem tcell_congr (nm tx : Nat → ByteArray) (vs us : Nat → Value) : ∀ k, (∀ j, j < k → vs j = us j) → tcell nm tx vs k = tcell nm tx us k
  | 0, _ => rfl
  | k + 1, h => by unfold tcell; rw [tcell_congr nm tx vs us k (fun j hj => h j (by omega)), h k (by omega)]
/-- The files of a table: the row v of n files. -/
def Rows3 (w : World) (v : Value) (n : Nat) (nm tx : Nat → ByteArray) : Prop := ∃ vs : Nat → Value, w.ownsRow 0 64 3 v n (tcell nm tx vs n) ∧ ∀ j, j < n → SL w (vs j) (tx j)
/-- A table of n files at q. -/
def Tab (w : World) (q n : Nat) (nm tx : Nat → ByteArray) : Prop := ∃ v, R1 61 w q v ∧ Rows3 w v n nm tx
theorem SL.over {w w' : World} {v : Value} {b : ByteArray} (h : SL w v b) (hb : Below w.heap.size w w') : SL w' v b := by
  obtain ⟨g, cap, e, h⟩ := h; exact ⟨g, cap, e, own_below h hb⟩
theorem Rows3.over {w w' : World} {v : Value} {n : Nat} {nm tx : Nat → ByteArray} (h : Rows3 w v n nm tx) (hb : Below w.heap.size w w') : Rows3 w' v n nm tx := by
  obtain ⟨vs, h1, h2⟩ := h; exact ⟨vs, own_below h1 hb, fun j hj => (h2 j hj).over hb⟩
theorem Tab.over {w w' : World} {q n : Nat} {nm tx : Nat → ByteArray} (h : Tab w q n nm tx) (hb : Below w.heap.size w w') : Tab w' q n nm tx := by
  obtain ⟨v, h1, h2⟩ := h; exact ⟨v, h1.over hb, h2.over hb⟩
theorem SL_set {w : World} {v : Value} {b : ByteArray} {q : Nat} {x : Value} (h : SL w v b) (hq : w.rowIs q 61 1 (fun _ => x)) (u : Value) : SL (w.setCell ⟨q, 0, none⟩ u) v b := by
  obtain ⟨g, cap, e, h⟩ := h
  subst e
  exact ⟨g, cap, rfl, own_far h (fun e => row_apart hq h (by decide) e.symm) u⟩
theorem info_div : (Try.prog.info? 64).map (fun i => (i.zero, i.size, i.bytes)) = some (some (.agg #[.string ⟨#[]⟩, .string ⟨#[]⟩, .slice none 0 0]), 3, 56) := by kernel_rfl
set_option maxHeartbeats 400000 in
theorem New_bad (n c : Nat) (A : Option Addr) (nm tx : Nat → ByteArray) (w : World) (hA : RF w A n nm tx) (hn : n ≤ 1000000) (hc : n ≤ c) (hs : ∀ j, j < n → (tx j).size ≤ 140737488355328) (he : ferr n nm tx ≠ 0) :
    Calls Try.prog 10 #[.slice A n c] w (RV w (.tuple #[.pointer none, .int .i64 (ferr n nm tx)])) := by
  have hF := fun w (h : RF w A n nm tx) => firstError_t n c A nm tx w h hn hc hs
  obtain ⟨E, hE⟩ : ∃ E, ferr n nm tx = E := ⟨_, rfl⟩
  rw [hE] at hF he ⊢
  have e1 : (E == 0) = false := by simp [he]
  have e2 : (E != 0) = true := by simp [he]
  replace hF := Lib.hid hF
  replace hA := Lib.hid hA
  clear hE
  go_enter Try.func10, Try.ntmps10
  go_wp2_with (go_at_call 24; (with_reducible refine (hF.out _ hA.out).mono ?_); rintro e w1 ⟨rfl, hb1⟩)
  go_ret2
  exact ⟨rfl, hb1⟩
/-- What New returns: a new table. -/
def NV (w : World) (n : Nat) (nm tx : Nat → ByteArray) (e : Ending) (w' : World) : Prop := ∃ q : Nat, e = .returned (.tuple #[.pointer (some ⟨q, 0, none⟩), .int .i64 0]) ∧ Tab w' q n nm tx ∧ Below w.heap.size w w'
set_option maxRecDepth 100000 in
set_option maxHeartbeats 1000000 in
theorem New_ok (n c : Nat) (A : Option Addr) (nm tx : Nat → ByteArray) (w : World) (hA : RF w A n nm tx) (hn : n ≤ 16) (hc : n ≤ c) (hs : ∀ j, j < n → (tx j).size ≤ 32768) (he : ferr n nm tx = 0) :
    Calls Try.prog 10 #[.slice A n c] w (NV w n nm tx) := by
  have hF := fun w (h : RF w A n nm tx) => firstError_t n c A nm tx w h (by omega) hc (fun j hj => by have := hs j hj; omega)
  rw [he] at hF
  obtain ⟨i0, hi, hz0, hz1, hz2⟩ := info_parts info_div
  replace hF := Lib.hid hF
  replace hA := Lib.hid hA
  replace hs := Lib.hid hs
  clear he
  go_enter Try.func10, Try.ntmps10
  go_wp2_with (go_at_call 24; (with_reducible refine (hF.out _ hA.out).mono ?_); rintro e w1 ⟨rfl, hb1⟩)
  have hz := hb1.size
  go_loopw [17] (fun i wr => ∃ (k : Nat) (v : Value), k ≤ n ∧ i = .int .i64 (k : Int) ∧ R1 61 wr w1.heap.size v ∧ Rows3 wr v k nm tx ∧ (∀ g0 : Nat, v.ownBlock = some g0 → w.heap.size ≤ g0) ∧ Below w.heap.size w wr) (fun i _ => n - (intOf i).toNat)
  case atStart => exact ⟨0, .slice none 0 0, Nat.zero_le _, rfl, R1.new w1 _ _, ⟨fun _ => .slice none 0 0, World.ownsRow_nil _ _ _ _, fun j h => absurd h (by omega)⟩, (fun g0 e => by cases e), hb1.alloc hz _⟩
  case round =>
    obtain ⟨k, v, hk, rfl, T, R, hbase, hbw⟩ := hrel
    clear hF hb1
    by_cases hlt : k < n
    · obtain ⟨b, off, rfl, hb, hcs⟩ := (hA.out.keep hbw) (by omega)
      obtain ⟨c0, c1⟩ := hcs k hlt
      have hsk := hs.out k hlt
      clear hcs
      obtain ⟨t0, t1⟩ := T.all
      go_wp2 -- REGION
      have hD := Lib.hid (fun w => divide_t (nm k) (tx k) w (by omega))
      have F0 := R2.new wr 34 (.string (nm k)) (.string (tx k))
      have T0 := T.alloc (.cells #[.string (nm k), .string (tx k)] 34)
      have R0 : Rows3 (wr.alloc (.cells #[.string (nm k), .string (tx k)] 34)) v k nm tx := R.over ((Below.refl _ wr).alloc (Nat.le_refl _) _)
      have hbw0 : Below w.heap.size w (wr.alloc (.cells #[.string (nm k), .string (tx k)] 34)) := hbw.alloc hbw.size _
      have hqF : w1.heap.size < wr.heap.size := T.lt
      have hwr := hbw.size
      clear t0 t1 c0 c1 T R hbw
      obtain ⟨W, hW⟩ : ∃ W, wr.alloc (.cells #[.string (nm k), .string (tx k)] 34) = W := ⟨_, rfl⟩
      rw [hW] at F0 T0 R0 hbw0 ⊢
      have hWz : W.heap.size = wr.heap.size + 1 := by rw [← hW]; simp
      clear hW
      have hS0 : W.drew.cell? ⟨w1.heap.size, 0, none⟩ = some v ∧ W.drew.cell? ⟨wr.heap.size, 0, none⟩ = some (.string (nm k)) ∧ W.drew.cell? ⟨wr.heap.size, 1, none⟩ = some (.string (tx k)) := ⟨T0.drew.all.1, F0.drew.all.1, F0.drew.all.2.1⟩
      replace hWz := Lib.hid hWz
      refine region_anyT (n := 11) (S := fun w' => w'.cell? ⟨w1.heap.size, 0, none⟩ = some v ∧ w'.cell? ⟨wr.heap.size, 0, none⟩ = some (.string (nm k)) ∧ w'.cell? ⟨wr.heap.size, 1, none⟩ = some (.string (tx k))) (by kernel_rfl) ?_
      refine anyT_take (i := 0) (v := .pointer (some ⟨w1.heap.size, 0, none⟩)) rfl (by kernel_rfl) (by kernel_rfl) (fun _ _ _ h => h) (Or.inl ⟨by rfl, ?_⟩) hS0 ?_
      · intro w' hw'
        obtain ⟨k1, k2, k3⟩ := hw'
        go_simp
        try with_reducible rfl
      simp only [Act.put, List.getElem_toArray, List.getElem_cons_zero, List.setIfInBounds_toArray, List.set_cons_zero, List.set_cons_succ]
      refine anyT_take (i := 1) (v := .pointer (some ⟨w1.heap.size, 0, none⟩)) rfl (by kernel_rfl) (by kernel_rfl) (fun _ _ _ h => h) (Or.inl ⟨by rfl, ?_⟩) hS0 ?_
      · intro w' hw'
        obtain ⟨k1, k2, k3⟩ := hw'
        go_simp
        try with_reducible rfl
      simp only [Act.put, List.getElem_toArray, List.getElem_cons_zero, List.getElem_cons_succ, List.setIfInBounds_toArray, List.set_cons_zero, List.set_cons_succ]
      refine anyT_take (i := 2) (v := .pointer (some ⟨w1.heap.size, 0, none⟩)) rfl (by kernel_rfl) (by kernel_rfl) (fun _ _ _ h => h) (Or.inl ⟨by rfl, ?_⟩) hS0 ?_
      · intro w' hw'
        obtain ⟨k1, k2, k3⟩ := hw'
        go_simp
        try with_reducible rfl
      simp only [Act.put, List.getElem_toArray, List.getElem_cons_zero, List.getElem_cons_succ, List.setIfInBounds_toArray, List.set_cons_zero, List.set_cons_succ]
      refine anyT_take (i := 3) (v := .pointer (some ⟨w1.heap.size, 0, none⟩)) rfl (by kernel_rfl) (by kernel_rfl) (fun _ _ _ h => h) (Or.inl ⟨by rfl, ?_⟩) hS0 ?_
      · intro w' hw'
        obtain ⟨k1, k2, k3⟩ := hw'
        go_simp
        try with_reducible rfl
      simp only [Act.put, List.getElem_toArray, List.getElem_cons_zero, List.getElem_cons_succ, List.setIfInBounds_toArray, List.set_cons_zero, List.set_cons_succ]
      refine anyT_take (i := 4) (v := v) rfl (by kernel_rfl) (by kernel_rfl) (fun _ _ _ h => h) (Or.inl ⟨by rfl, ?_⟩) hS0 ?_
      · intro w' hw'
        obtain ⟨k1, k2, k3⟩ := hw'
        go_simp
        try with_reducible rfl
      simp only [Act.put, List.getElem_toArray, List.getElem_cons_zero, List.getElem_cons_succ, List.setIfInBounds_toArray, List.set_cons_zero, List.set_cons_succ]
      refine anyT_take (i := 5) (v := fv (nm k) (tx k)) rfl (by kernel_rfl) (by kernel_rfl) (fun _ _ _ h => h) (Or.inl ⟨by rfl, ?_⟩) hS0 ?_
      · intro w' hw'
        obtain ⟨k1, k2, k3⟩ := hw'
        go_simp
        try with_reducible rfl
      simp only [Act.put, List.getElem_toArray, List.getElem_cons_zero, List.getElem_cons_succ, List.setIfInBounds_toArray, List.set_cons_zero, List.set_cons_succ]
      refine anyT_one (i := 6) (by kernel_rfl) ?_
      refine wpOp_step rfl (fun K hK => ?_)
      replace hK := Lib.hid hK
      go_simp
      (with_reducible refine (hD.out _).mono ?_)
      rintro e w5 ⟨g, cap, rfl, hg, hown5, hb5⟩
      have T5 := T0.drew.over hb5
      have F5 := F0.drew.over hb5
      have R5 : Rows3 w5 v k nm tx := Rows3.over (w := W.drew) R0 hb5
      have hbw5 : Below w.heap.size w w5 := below_call hb5 hbw0.drew
      have L5 : SL w5 (.slice (some ⟨g, 0, none⟩) (nOf (tx k)) cap) (tx k) := ⟨g, cap, rfl, own_mono hown5 (Nat.zero_le _)⟩
      have hz5 : wr.heap.size + 1 ≤ w5.heap.size := by have := hb5.size; rw [World.size_drew, hWz.out] at this; exact this
      clear hb5 T0 F0 R0 hbw0 hD hS0 hg hown5 hWz
      refine hK.out _ _ ⟨fun _ => ⟨T5.all.1, F5.all.1, F5.all.2.1⟩, ?_⟩
      clear hK K
      try simp only [Act.put]
      refine anyT_one (i := 7) (by kernel_rfl) ?_
      refine wpOp_step rfl (fun K hK => ?_)
      replace hK := Lib.hid hK
      go_simp
      refine hK.out _ _ ⟨fun _ => ⟨(T5.alloc _).all.1, (F5.alloc _).all.1, (F5.alloc _).all.2.1⟩, ?_⟩
      clear hK K
      try simp only [Act.put]
      refine anyT_one (i := 8) (by kernel_rfl) ?_
      refine wpOp_step rfl (fun K hK => ?_)
      replace hK := Lib.hid hK
      obtain ⟨vs, hvs1, hvs2⟩ := R5
      rw [if_pos (by rfl)]
      refine wp_append_lies _ _ _ 59 (by rfl) 0 64 i0 (.agg #[.string ⟨#[]⟩, .string ⟨#[]⟩, .slice none 0 0]) 3 56 Try.underlying59 hi hz0 hz1 hz2 rfl (by decide) v k (tcell nm tx vs k) (by rfl) (hvs1.alloc _) ⟨w5.heap.size, 0, none⟩ 1 1 [.string (nm k), .string (tx k), .slice (some ⟨g, 0, none⟩) (nOf (tx k)) cap] (by rfl) (by rfl) ?c1 ?c2 (by decide) ?c3 ?c4 (Nat.zero_le _) (w5.heap.size + 1) (by simp) ?c6
      case c1 => exact World.news_of_block (heap_alloc_new _ _)
      case c2 => intro u hu; simp only [List.mem_cons, List.not_mem_nil, or_false] at hu; rcases hu with rfl | rfl | rfl <;> rfl
      case c3 => unfold maxLen; omega
      case c4 => omega
      case c6 =>
        intro g' cap' w6 hown6 hgrow hat hlt6
        have hgk : ∀ g0 : Nat, v.ownBlock = some g0 → ∃ cap0, v = .slice (some ⟨g0, 0, none⟩) k cap0 := fun g0 e => by
          rcases hvs1.2 with ⟨h1, _⟩ | ⟨g1, c1, cur1, h1, _⟩
          · rw [h1] at e; cases e
          · rw [h1] at e; cases e; exact ⟨c1, h1⟩
        have T6 : R1 61 w6 w1.heap.size v := (T5.alloc _).grown hgrow (fun e => by obtain ⟨c0, e0⟩ := hgk _ e.symm; rw [e0] at hvs1; exact row_apart T5 hvs1 (by decide) rfl)
        have F6 : R2 34 w6 wr.heap.size (.string (nm k)) (.string (tx k)) := (F5.alloc _).grown hgrow (fun e => by obtain ⟨c0, e0⟩ := hgk _ e.symm; rw [e0] at hvs1; exact row_apart F5 hvs1 (by decide) rfl)
        have L6 : ∀ (u : Value) (b : ByteArray), SL w5 u b → SL w6 u b := fun u b hu => by
          obtain ⟨g2, c2, e2, h2⟩ := hu
          refine ⟨g2, c2, e2, (h2.alloc _).kept hgrow (.inr (fun e => ?_))⟩
          subst e2
          obtain ⟨c0, e0⟩ := hgk g2 e.symm
          rw [e0] at hvs1
          exact own_apart hvs1 h2 (by decide) rfl
        have hR6 : ∀ j, j < k + 1 → SL w6 (if j < k then vs j else .slice (some ⟨g, 0, none⟩) (nOf (tx k)) cap) (tx j) := fun j hj => by
          by_cases h : j < k
          · rw [if_pos h]; exact L6 _ _ (hvs2 j h)
          · obtain rfl : j = k := by omega
            rw [if_neg h]; exact L6 _ _ L5
        have hown7 : w6.ownsRow 0 64 3 (.slice (some ⟨g', 0, none⟩) (k + 1) cap') (k + 1) (tcell nm tx (fun j => if j < k then vs j else .slice (some ⟨g, 0, none⟩) (nOf (tx k)) cap) (k + 1)) := by
          have e1 : tcell nm tx (fun j => if j < k then vs j else .slice (some ⟨g, 0, none⟩) (nOf (tx k)) cap) (k + 1) = tcell nm tx vs k ++ [.string (nm k), .string (tx k), .slice (some ⟨g, 0, none⟩) (nOf (tx k)) cap] := by
            show tcell nm tx (fun j => if j < k then vs j else .slice (some ⟨g, 0, none⟩) (nOf (tx k)) cap) k ++ [.string (nm k), .string (tx k), (if k < k then vs k else .slice (some ⟨g, 0, none⟩) (nOf (tx k)) cap)] = _
            rw [tcell_congr nm tx _ vs k (fun j hj => if_pos hj), if_neg (by omega)]
          rw [e1]; exact hown6
        have hbw6 : Below w.heap.size w w6 := (hbw5.alloc (by omega) _).grown hgrow (by simp; omega) (fun j e => hbase j e)
        have hgq : w1.heap.size ≠ g' := row_apart T6 hown7 (by decide)
        have hbase' : ∀ g0 : Nat, (Value.slice (some ⟨g', 0, none⟩) (k + 1) cap').ownBlock = some g0 → w.heap.size ≤ g0 := fun g0 e => by
          cases e
          show w.heap.size ≤ g'
          rcases hat with e | e
          · exact hbase _ e
          · omega
        clear hbase hgk hown6 hgrow hat hlt6 T5 F5 hvs1 hvs2 L5 L6 hbw5
        refine hK.out _ _ ⟨fun _ => ⟨T6.all.1, F6.all.1, F6.all.2.1⟩, ?_⟩
        clear hK K
        try simp only [Act.put]
        replace hR6 := Lib.hid hR6
        replace hown7 := Lib.hid hown7
        refine anyT_one (i := 9) (by kernel_rfl) ?_
        refine wpOp_step rfl (fun K hK => ?_)
        replace hK := Lib.hid hK
        go_simp
        refine hK.out _ _ ⟨fun _ => ⟨T6.all.1, F6.all.1, F6.all.2.1⟩, ?_⟩
        clear hK K
        try simp only [Act.put]
        refine anyT_one (i := 10) (by kernel_rfl) ?_
        refine wpOp_step rfl (fun K hK => ?_)
        replace hK := Lib.hid hK
        go_simp
        refine hK.out _ _ ⟨fun _ => ⟨T6.all.1, F6.all.1, F6.all.2.1⟩, ?_⟩
        clear hK K
        try simp only [Act.put]
        obtain ⟨t0, t1⟩ := T6.all
        refine anyT_one (i := 11) (by kernel_rfl) ?_
        refine wpOp_step rfl (fun K hK => ?_)
        replace hK := Lib.hid hK
        go_simp
        refine hK.out _ _ ⟨fun h => absurd h (by decide), ?_⟩
        clear hK K t0 t1
        refine anyT_done (by kernel_rfl) ?_ _
        go_wp2_with fail
        go_roundw
        case rel => exact ⟨k + 1, .slice (some ⟨g', 0, none⟩) (k + 1) cap', by omega, by go_num, T6.set _, ⟨_, own_far hown7.out (by simp <;> omega) _, fun j hj => SL_set (hR6.out j hj) T6 _⟩, hbase', hbw6.setCell (by simp; omega) _⟩
        case measure => simp [intOf]; omega
    · obtain rfl : k = n := by omega
      go_wp2
      go_ret2
      exact ⟨w1.heap.size, rfl, ⟨v, T, R⟩, hbw⟩
end Go.Proofs.Ytegoldihcchfdaa
