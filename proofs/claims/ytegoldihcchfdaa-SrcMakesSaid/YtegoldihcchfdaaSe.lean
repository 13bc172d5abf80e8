/-
  The walk of src's divide: where the lines of a file begin.
-/
import Derived.Test.YtegoldihcchfdaaSd
import Derived.Test.YtegoldihcchfdaaSm
import Derived.Deep.OwnRows
import Derived.Deep.AppendLies
import Derived.Laws.OwnMore
namespace Go.Proofs.Ytegoldihcchfdaa
open Go.RowKit
/-- Block b is a variable of two cells; of three. -/
def R2 (t : TypeId) (w : World) (b : Nat) (x y : Value) : Prop := w.rowIs b t 2 (fun i => if i = 0 then x else y)
def R3 (t : TypeId) (w : World) (b : Nat) (x y z : Value) : Prop := w.rowIs b t 3 (fun i => if i = 0 then x else if i = 1 then y else z)
section
variable {t : TypeId} {w w' : World} {b : Nat} {x y z : Value}
theorem R2.all (h : R2 t w b x y) : w.cell? ⟨b, 0, none⟩ = some x ∧ w.cell? ⟨b, 1, none⟩ = some y ∧ ∀ i, w.frozen? ⟨b, i, none⟩ = false := ⟨World.rowIs.cell h (i := 0) (by decide), World.rowIs.cell h (i := 1) (by decide), World.rowIs.frozen h⟩
theorem R3.all (h : R3 t w b x y z) : w.cell? ⟨b, 0, none⟩ = some x ∧ w.cell? ⟨b, 1, none⟩ = some y ∧ w.cell? ⟨b, 2, none⟩ = some z ∧ ∀ i, w.frozen? ⟨b, i, none⟩ = false := ⟨World.rowIs.cell h (i := 0) (by decide), World.rowIs.cell h (i := 1) (by decide), World.rowIs.cell h (i := 2) (by decide), World.rowIs.frozen h⟩
theorem R2.lt (h : R2 t w b x y) : b < w.heap.size := World.rowIs.lt h
theorem R3.lt (h : R3 t w b x y z) : b < w.heap.size := World.rowIs.lt h
theorem R2.over (h : R2 t w b x y) (hb : Below w.heap.size w w') : R2 t w' b x y := World.rowIs.of_block h (hb.block b h.lt)
theorem R3.over (h : R3 t w b x y z) (hb : Below w.heap.size w w') : R3 t w' b x y z := World.rowIs.of_block h (hb.block b h.lt)
theorem R2.alloc (h : R2 t w b x y) (o : Obj) : R2 t (w.alloc o) b x y := World.rowIs.alloc h o
theorem R3.alloc (h : R3 t w b x y z) (o : Obj) : R3 t (w.alloc o) b x y z := World.rowIs.alloc h o
theorem R2.far (h : R2 t w b x y) {p : Addr} (hp : b ≠ p.block) (u : Value) : R2 t (w.setCell p u) b x y := World.rowIs.setOther h hp u
theorem R3.far (h : R3 t w b x y z) {p : Addr} (hp : b ≠ p.block) (u : Value) : R3 t (w.setCell p u) b x y z := World.rowIs.setOther h hp u
theorem R3.set2 (h : R3 t w b x y z) (u : Value) : R3 t (w.setCell ⟨b, 2, none⟩ u) b x y u := by
  refine World.rowIs.congr (World.rowIs.set h 2 u) fun i hi => ?_
  match i, hi with
  | 0, _ => rfl
  | 1, _ => rfl
  | 2, _ => rfl
theorem R2.grown {row : Option Nat} (h : R2 t w b x y) (hg : w.grownBy w' row) (hr : some b ≠ row) : R2 t w' b x y := World.rowIs.of_block h (hg.block b h.lt hr)
theorem R3.grown {row : Option Nat} (h : R3 t w b x y z) (hg : w.grownBy w' row) (hr : some b ≠ row) : R3 t w' b x y z := World.rowIs.of_block h (hg.block b h.lt hr)
theorem R2.new (w : World) (t : TypeId) (x y : Value) : R2 t (w.alloc (.cells #[x, y] t)) w.heap.size x y := World.rowIs_alloc w #[x, y] t _ fun i hi => by
  match i, hi with
  | 0, _ => rfl
  | 1, _ => rfl
theorem R3.new (w : World) (t : TypeId) (x y z : Value) : R3 t (w.alloc (.cells #[x, y, z] t)) w.heap.size x y z := World.rowIs_alloc w #[x, y, z] t _ fun i hi => by
  match i, hi with
  | 0, _ => rfl
  | 1, _ => rfl
  | 2, _ => rfl
end
theorem grownBy_set (w : World) (a : Addr) (u : Value) : w.grownBy (w.setCell a u) (some a.block) :=
  ⟨rfl, rfl, rfl, by simp, fun k _ hk => Below.heap_setCell w a u k (fun e => hk (by rw [e]))⟩
theorem own_far {w : World} {base : Nat} {e : TypeId} {size g n cap m : Nat} {xs : List Value} (h : w.ownsRow base e size (.slice (some ⟨g, 0, none⟩) n cap) m xs) {p : Addr} (hp : g ≠ p.block) (u : Value) : (w.setCell p u).ownsRow base e size (.slice (some ⟨g, 0, none⟩) n cap) m xs :=
  h.kept (grownBy_set w p u) (.inr (fun e => hp (Option.some.inj e)))
theorem own_mono {w : World} {base base' : Nat} {e : TypeId} {size : Nat} {v : Value} {n : Nat} {xs : List Value} (h : w.ownsRow base e size v n xs) (hb : base' ≤ base) : w.ownsRow base' e size v n xs := by
  obtain ⟨h1, h2⟩ := h
  refine ⟨h1, ?_⟩
  rcases h2 with h2 | ⟨g, cap, cur, a, b, c⟩
  · exact .inl h2
  · exact .inr ⟨g, cap, cur, a, Nat.le_trans hb b, c⟩
theorem nl_eq (s : ByteArray) (k : Nat) (h : k < s.size) : (((s[k]'h).toNat : Int) == 10) = nl s k := by
  have e : s.data.toList.getD k 0 = s[k]'h := by
    rw [List.getD_eq_getElem?_getD, List.getElem?_eq_getElem (by simpa using h)]
    rfl
  unfold nl
  rw [e, Bool.eq_iff_iff]
  simp only [beq_iff_eq]
  constructor
  · intro h1
    exact UInt8.toNat_inj.1 (by have : (10 : UInt8).toNat = 10 := rfl; omega)
  · intro h1
    rw [h1]; rfl
theorem info_int : (Try.prog.info? 3).map (fun i => (i.zero, i.size, i.bytes)) = some (some (.int .i64 0), 1, 8) := by kernel_rfl
/-- A list of numbers as cells. -/
abbrev icell (l : List Nat) : List Value := l.map fun (x : Nat) => .int .i64 (x : Int)
theorem icell_snoc (l : List Nat) (x : Nat) : icell (l ++ [x]) = icell l ++ [.int .i64 (x : Int)] := by simp [icell]
theorem sts_yes (s : ByteArray) (k : Nat) (h : nl s k = true) : sts s (k + 1) = sts s k ++ [k + 1] ∧ plL s (k + 1) = plL s k + 1 := by
  constructor
  · show (if nl s k then _ else _) = _
    rw [h]; rfl
  · show (if nl s k then _ else _) = _
    rw [h]; rfl
theorem sts_no (s : ByteArray) (k : Nat) (h : nl s k = false) : sts s (k + 1) = sts s k ∧ plL s (k + 1) = plL s k := by
  constructor
  · show (if nl s k then _ else _) = _
    rw [h]; rfl
  · show (if nl s k then _ else _) = _
    rw [h]; rfl
/-- A divided file: where its lines begin lies in block g. -/
def DV (w : World) (a b : ByteArray) (e : Ending) (w' : World) : Prop :=
  ∃ g cap : Nat, e = .returned (.agg #[.string a, .string b, .slice (some ⟨g, 0, none⟩) (nOf b) cap]) ∧ w.heap.size ≤ g ∧
    w'.ownsRow w.heap.size 3 1 (.slice (some ⟨g, 0, none⟩) (nOf b) cap) (nOf b) (icell (sts b b.size)) ∧ Below w.heap.size w w'
set_option maxRecDepth 100000 in
set_option maxHeartbeats 1000000 in
theorem divide_t (a b : ByteArray) (w : World) (hb : b.size ≤ 17592186000000) : Calls Try.prog 25 #[fv a b] w (DV w a b) := by
  obtain ⟨i0, hi, hz0, hz1, hz2⟩ := info_parts info_int
  have hL := Lib.hid (plL_le b)
  have hP := Lib.hid (plL_pos b)
  have Z := Lib.hid (hz0)
  go_enter Try.func25, Try.ntmps25
  go_wp2
  go_loopw [11] (fun i wr => ∃ k g cap : Nat, k ≤ b.size ∧ i = .int .i64 (k : Int) ∧ R2 34 wr w.heap.size (.string a) (.string b) ∧ R3 64 wr (w.heap.size + 1) (.string ⟨#[]⟩) (.string ⟨#[]⟩) (.slice none 0 0) ∧
      R3 64 wr (w.heap.size + 1 + 1 + 1) (.string a) (.string b) (.slice (some ⟨g, 0, none⟩) (plL b k) cap) ∧ wr.ownsRow (w.heap.size + 1 + 1) 3 1 (.slice (some ⟨g, 0, none⟩) (plL b k) cap) (plL b k) (icell (sts b k)) ∧ g ≠ w.heap.size + 1 + 1 + 1 ∧ Below w.heap.size w wr) (fun i _ => b.size - (intOf i).toNat)
  case atStart =>
    refine ⟨0, w.heap.size + 1 + 1, 1, Nat.zero_le _, rfl, (((R2.new w 34 (.string a) (.string b)).alloc _).alloc _).alloc _, ?_, ?_, ?_, by omega, by go_grown⟩
    · have h := ((R3.new (w.alloc (.cells #[.string a, .string b] 34)) 64 (.string ⟨#[]⟩) (.string ⟨#[]⟩) (.slice none 0 0)).alloc (.cells #[.int .i64 0] 3)).alloc (.cells #[.string a, .string b, .slice (some ⟨w.heap.size + 1 + 1, 0, none⟩) 1 1] 64)
      rw [World.size_alloc] at h
      exact h
    · have h := R3.new (((w.alloc (.cells #[.string a, .string b] 34)).alloc (.cells #[.string ⟨#[]⟩, .string ⟨#[]⟩, .slice none 0 0] 64)).alloc (.cells #[.int .i64 0] 3)) 64 (.string a) (.string b) (.slice (some ⟨w.heap.size + 1 + 1, 0, none⟩) 1 1)
      simp only [World.size_alloc] at h
      exact h
    · have h := (World.ownsRow_lit (base := w.heap.size + 1 + 1) (e := 3) (size := 1) ((w.alloc (.cells #[.string a, .string b] 34)).alloc (.cells #[.string ⟨#[]⟩, .string ⟨#[]⟩, .slice none 0 0] 64)) #[.int .i64 0] 1 (by simp) (by decide) (by simp)).alloc (.cells #[.string a, .string b, .slice (some ⟨w.heap.size + 1 + 1, 0, none⟩) 1 1] 64)
      simp only [World.size_alloc] at h
      exact h
  case round =>
    obtain ⟨k, g, cap, hk, rfl, A, Z0, D, hown, hg, hbw⟩ := hrel
    obtain ⟨a0, a1, a2⟩ := A.all
    obtain ⟨d0, d1, d2, d3⟩ := D.all
    obtain ⟨z0, z1, z2, z3⟩ := Z0.all
    have sz := D.lt
    by_cases hlt : k < b.size
    · have hq := nl_eq b k hlt
      have hpl := hL.out k
      cases hn : nl b k with
      | true =>
        rw [hn] at hq
        obtain ⟨q1, q2⟩ := sts_yes b k hn
        replace q1 := Lib.hid q1
        replace q2 := Lib.hid q2
        clear hn
        go_wp2_with (at_builtin; refine wpList_append_lies _ rfl _ _ 62 rfl (w.heap.size + 1 + 1) 3 i0 (.int .i64 0) 1 8 Try.underlying62 hi hz0 hz1 hz2 rfl (by decide) _ _ _ rfl (hown.alloc _) ⟨wr.heap.size, 0, none⟩ 1 1 [.int .i64 ((k : Int) + 1)] rfl rfl ?c1 ?c2 (by decide) ?c3 ?c4 ?c5 (wr.heap.size + 1) (by simp) ?c6)
        case c1 => exact World.news_of_block (heap_alloc_new _ _)
        case c2 => intro u hu; simp only [List.mem_singleton] at hu; subst hu; rfl
        case c3 => unfold maxLen; omega
        case c4 => omega
        case c5 => simp; omega
        case c6 =>
          intro g' cap' w1 hown1 hgrow hat hlt1
          have ob : (Value.slice (some ⟨g, 0, none⟩) (plL b k) cap).ownBlock = some g := rfl
          rw [ob] at hgrow hat
          have hgb := hown.lt g rfl
          have A1 := (A.alloc (.cells #[.int .i64 ((k : Int) + 1)] 3)).grown hgrow (by simp; omega)
          have Z1 := (Z0.alloc (.cells #[.int .i64 ((k : Int) + 1)] 3)).grown hgrow (by simp; omega)
          have D1 := (D.alloc (.cells #[.int .i64 ((k : Int) + 1)] 3)).grown hgrow (by simp; omega)
          have hbw1 : Below w.heap.size w w1 := (hbw.alloc (by omega) (.cells #[.int .i64 ((k : Int) + 1)] 3)).grown hgrow (by simp; omega) (fun j e => by cases e; omega)
          have hg1 : g' ≠ w.heap.size + 1 + 1 + 1 := by
            rcases hat with e | e
            · cases e; exact hg
            · omega
          have hown2 : w1.ownsRow (w.heap.size + 1 + 1) 3 1 (.slice (some ⟨g', 0, none⟩) (plL b (k + 1)) cap') (plL b (k + 1)) (icell (sts b (k + 1))) := by
            rw [q1.out, q2.out, icell_snoc]; exact hown1
          have hval : Value.slice (some ⟨g', 0, none⟩) (plL b k + 1) cap' = Value.slice (some ⟨g', 0, none⟩) (plL b (k + 1)) cap' := by rw [q2.out]
          rw [hval]
          clear hown1 hval hgrow hat ob A Z0 D hown a0 a1 a2 d0 d1 d2 d3 z0 z1 z2 z3 hgb
          obtain ⟨d0, d1, d2, d3⟩ := D1.all
          replace hown2 := Lib.hid hown2
          go_wp2_with fail
          go_roundw
          case rel => exact ⟨k + 1, g', cap', by omega, by go_num, A1.far (by simp <;> omega) _, Z1.far (by simp <;> omega) _, D1.set2 _, own_far hown2.out (by simp <;> omega) _, hg1, hbw1.setCell (by simp; omega) _⟩
          case measure => simp [intOf]; omega
      | false =>
        rw [hn] at hq
        obtain ⟨q1, q2⟩ := sts_no b k hn
        replace q1 := Lib.hid q1
        replace q2 := Lib.hid q2
        clear hn
        go_wp2_with fail
        go_roundw
        case rel => exact ⟨k + 1, g, cap, by omega, by go_num, A, Z0, by rw [q2.out]; exact D, by rw [q1.out, q2.out]; exact hown, hg, hbw⟩
        case measure => simp [intOf]; omega
    · obtain rfl : k = b.size := by omega
      have hgb := hown.lt g rfl
      go_wp2
      refine bodyPost_ret (v := .agg #[.string a, .string b, .slice (some ⟨g, 0, none⟩) (plL b b.size) cap]) (by simp [results, Try.results25, go_sem, z0, z1, z2]) rfl ⟨g, cap, rfl, by omega, ?_, by go_grown⟩
      exact own_far (own_far (own_far (own_mono hown (by omega)) (by simp; omega) _) (by simp; omega) _) (by simp; omega) _
end Go.Proofs.Ytegoldihcchfdaa
