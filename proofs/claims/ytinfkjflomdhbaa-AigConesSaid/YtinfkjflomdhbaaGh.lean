/-
  The gates made of And: the closure that build hands on; gate.or; the steps of Or, Xor, Mux.
-/
import Derived.Test.YtinfkjflomdhbaaGg
namespace Go.Proofs.Ytinfkjflomdhbaa
open Go.RowKit Go.Lib Go.Maps
abbrev pt (b : Nat) : Value := .pointer (some ⟨b, 0, none⟩)
/-- The gate that build hands on. -/
abbrev gt (bg bf : Nat) : Value := .func (.func 39) #[] #[pt bg, pt bf]
/-- The variables of build. -/
structure BV (w : World) (B p : Nat) (F : List PN) (bg bf : Nat) : Prop where
  g : GI w B p F
  b : BI w bg 26 (pg p)
  f : BI w bf 40 (.int .i64 0)
theorem set_same {w : World} {b : Nat} {T : TypeId} {v : Value} (h : BI w b T v) : Below w.heap.size w (w.setCell ⟨b, 0, none⟩ v) :=
  ⟨rfl, rfl, rfl, by rw [World.size_setCell]; exact Nat.le_refl _, fun k hk => by
    by_cases e : k = b
    · subst e
      rw [heap_set w k 0 _ _ v h]
      exact h.symm
    · exact Below.heap_setCell _ _ _ _ e⟩
theorem BV.wp {w w' : World} {B p : Nat} {F F' : List PN} {bg bf : Nat} (h : BV w B p F bg bf) (g : GI w' B p F') (k : WP p w w') : BV w' B p F' bg bf :=
  ⟨g, h.b.wp h.g k (by decide) (by decide), h.f.wp h.g k (by decide) (by decide)⟩
theorem BV.over {w w' : World} {B p : Nat} {F : List PN} {bg bf : Nat} (h : BV w B p F bg bf) (k : Below w.heap.size w w') : BV w' B p F bg bf := ⟨h.g.over k, h.b.over k, h.f.over k⟩
set_option maxRecDepth 100000 in
theorem gate_t {B p bg bf : Nat} {F : List PN} (a b : Nat) (w : World) (h : BV w B p F bg bf) (hl : F.length < 50000) (ha : a / 2 < F.length) (hb : b / 2 < F.length) :
    Calls Try.prog 39 #[.int .i64 (a : Int), .int .i64 (b : Int), pt bg, pt bf] w (GV w B p (andF F a b).1 (.int .i64 (((andF F a b).2 : Nat) : Int))) := by
  have hA := And_t a b w h.g hl ha hb
  unfold GV at hA
  obtain ⟨r, hr⟩ : ∃ r, andF F a b = r := ⟨_, rfl⟩
  rw [hr] at hA ⊢
  obtain ⟨c, hc⟩ : ∃ c : Int, ((r.2 : Nat) : Int) = c := ⟨_, rfl⟩
  rw [hc] at hA ⊢
  have c0 := h.b.c
  have cl := h.b.lt
  have d0 := h.f.c
  have dl := h.f.lt
  replace hA := Lib.hid hA
  replace h := Lib.hid h
  replace hr := Lib.hid hr
  replace hc := Lib.hid hc
  clear hl ha hb
  go_enter Try.func39, Try.ntmps39
  go_wp2_with fail
  (with_reducible refine hA.out.mono ?_)
  rintro e w2 ⟨rfl, hg2, hw2⟩
  have h2 := h.out.wp hg2 hw2
  have e0 := h2.f.c
  have el := h2.f.lt
  have ef := h2.f.fz
  have hs := set_same h2.f
  have hg3 := hg2.over hs
  have hw3 := hw2.trans (WP.of hs hg2.lt)
  replace hg3 := Lib.hid hg3
  replace hw3 := Lib.hid hw3
  clear hg2 hw2 h2 hs c0 cl d0 dl hA
  go_wp2_with fail
  go_ret
  exact ⟨rfl, hg3.out, hw3.out⟩
set_option maxRecDepth 100000 in
theorem or_t {B p bg bf : Nat} {F : List PN} (a b : Nat) (w : World) (h : BV w B p F bg bf) (hl : F.length < 50000) (ha : a / 2 < F.length) (hb : b / 2 < F.length) :
    Calls Try.prog 33 #[gt bg bf, .int .i64 (a : Int), .int .i64 (b : Int)] w (GV w B p (orF F a b).1 (.int .i64 (((orF F a b).2 : Nat) : Int))) := by
  have hna := Not_t a w (by omega)
  have hnb := Not_t b w (by omega)
  have hA := gate_t (nt a) (nt b) w h hl (by rw [nt_div]; exact ha) (by rw [nt_div]; exact hb)
  obtain ⟨g1, _⟩ := andF_ok h.g.wf (a := nt a) (b := nt b) (by rw [nt_div]; exact ha) (by rw [nt_div]; exact hb)
  have hlit : (andF F (nt a) (nt b)).2 < 1000000 := by have := g1.lit; have := g1.len; omega
  unfold orF
  simp only
  obtain ⟨r, hr⟩ : ∃ r, andF F (nt a) (nt b) = r := ⟨_, rfl⟩
  rw [hr] at hA hlit ⊢
  have hnr := fun W => Not_t r.2 W hlit
  obtain ⟨x, hx⟩ : ∃ x, nt a = x := ⟨_, rfl⟩
  obtain ⟨y, hy⟩ : ∃ y, nt b = y := ⟨_, rfl⟩
  rw [hx] at hA hna
  rw [hy] at hA hnb
  unfold GV at hA
  unfold RW at hna hnb hnr
  replace hA := Lib.hid hA
  replace hna := Lib.hid hna
  replace hnb := Lib.hid hnb
  replace hnr := Lib.hid hnr
  clear g1 hr hx hy hlit h hl ha hb
  go_enter Try.func33, Try.ntmps33
  go_wp2_with fail
  (with_reducible refine hna.out.mono ?_)
  rintro e w1 ⟨rfl, hw1⟩
  subst hw1
  go_wp2_with fail
  (with_reducible refine hnb.out.mono ?_)
  rintro e w1 ⟨rfl, hw1⟩
  subst hw1
  go_wp2_with fail
  (with_reducible refine hA.out.mono ?_)
  rintro e w2 ⟨rfl, hg2, hw2⟩
  replace hg2 := Lib.hid hg2
  replace hw2 := Lib.hid hw2
  go_wp2_with fail
  (with_reducible refine (hnr.out _).mono ?_)
  rintro e w1 ⟨rfl, hw1⟩
  subst hw1
  go_wp2_with fail
  go_ret
  exact ⟨rfl, hg2.out, hw2.out⟩
end Go.Proofs.Ytinfkjflomdhbaa
