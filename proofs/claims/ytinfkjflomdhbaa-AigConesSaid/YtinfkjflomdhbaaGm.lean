/-
  Acts in memory; at, Operand, the operand's literal; plain.
-/
import Derived.Test.YtinfkjflomdhbaaGk
import Derived.Test.YtinfkjflomdhbaaGl
namespace Go.Proofs.Ytinfkjflomdhbaa
open Go.RowKit Go.Lib Go.Maps
abbrev iv (l : List Nat) : List Value := l.map fun (n : Nat) => Value.int .i64 (n : Int)
theorem iv_append (a b : List Nat) : iv (a ++ b) = iv a ++ iv b := List.map_append ..
/-- An act's cells. -/
def XA (w : World) (b o : Nat) (x : AC) : Prop := w.cell? ⟨b, o, none⟩ = some (.int .i64 x.k) ∧ w.cell? ⟨b, o + 1, none⟩ = some (.int .i64 x.a) ∧ w.cell? ⟨b, o + 2, none⟩ = some (.int .i64 x.b) ∧ w.cell? ⟨b, o + 3, none⟩ = some (.int .i64 x.c)
/-- The numbers of an act are int's. -/
def XI (x : AC) : Prop := (-9223372036854775808 ≤ x.k ∧ x.k ≤ 9223372036854775807) ∧ (-9223372036854775808 ≤ x.a ∧ x.a ≤ 9223372036854775807) ∧ (-9223372036854775808 ≤ x.b ∧ x.b ≤ 9223372036854775807) ∧ (-9223372036854775808 ≤ x.c ∧ x.c ≤ 9223372036854775807)
/-- A slice of acts reads as l. -/
def AL (w : World) (A : Option Addr) (l : List AC) : Prop := 0 < l.length → ∃ b o : Nat, A = some ⟨b, o, none⟩ ∧ b < w.heap.size ∧ ∀ j (h : j < l.length), XA w b (o + j * 4) l[j]
theorem AL.over {w w' : World} {A : Option Addr} {l : List AC} (h : AL w A l) (k : Below w.heap.size w w') : AL w' A l := fun h0 => by
  obtain ⟨b, o, e, hb, hc⟩ := h h0
  refine ⟨b, o, e, Nat.lt_of_lt_of_le hb k.size, fun j hj => ?_⟩
  obtain ⟨x0, x1, x2, x3⟩ := hc j hj
  exact ⟨(k.cell (p := ⟨b, _, none⟩) hb).trans x0, (k.cell (p := ⟨b, _, none⟩) hb).trans x1, (k.cell (p := ⟨b, _, none⟩) hb).trans x2, (k.cell (p := ⟨b, _, none⟩) hb).trans x3⟩
def acells (l : List AC) : List Value := l.flatMap fun x => [.int .i64 x.k, .int .i64 x.a, .int .i64 x.b, .int .i64 x.c]
theorem acells_app (a b : List AC) : acells (a ++ b) = acells a ++ acells b := by simp [acells]
theorem acells_len : ∀ l : List AC, (acells l).length = l.length * 4
  | [] => rfl
  | x :: l => by
    have := acells_len l
    simp only [acells, List.flatMap_cons, List.length_append, List.length_cons, List.length_nil] at *
    omega
theorem acells_get : ∀ (l : List AC) (j : Nat) (h : j < l.length), (acells l)[j * 4]? = some (.int .i64 l[j].k) ∧ (acells l)[j * 4 + 1]? = some (.int .i64 l[j].a) ∧ (acells l)[j * 4 + 2]? = some (.int .i64 l[j].b) ∧ (acells l)[j * 4 + 3]? = some (.int .i64 l[j].c)
  | [], j, h => by simp at h
  | x :: l, 0, _ => ⟨rfl, rfl, rfl, rfl⟩
  | x :: l, j + 1, h => by
    have := acells_get l j (by simpa using h)
    rw [show (j + 1) * 4 = j * 4 + 1 + 1 + 1 + 1 by omega]
    simpa [acells] using this
theorem addr_add (g x : Nat) : (⟨g, 0, none⟩ : Addr).add x = ⟨g, x, none⟩ := by unfold Addr.add; split <;> simp_all
theorem AL.of_own {w : World} {B n : Nat} {v : Value} {l : List AC} (h : w.ownsRow B 52 4 v n (acells l)) (hn : n = l.length) : ∃ A c, v = .slice A l.length c ∧ AL w A l := by
  subst hn
  by_cases h0 : 0 < l.length
  · obtain ⟨g, c, rfl, hB, cur, hg, _⟩ := own_some h h0
    refine ⟨_, c, rfl, fun _ => ⟨g, 0, rfl, lt_of_get hg, fun j hj => ?_⟩⟩
    obtain ⟨h1, h2, h3, h4⟩ := acells_get l j hj
    have hc := fun i u (e : (acells l)[i]? = some u) => h.cells (g := g) rfl i u e
    simp only [addr_add] at hc
    rw [Nat.zero_add]
    exact ⟨hc _ _ h1, hc _ _ h2, hc _ _ h3, hc _ _ h4⟩
  · obtain ⟨A, c, rfl⟩ := own_shape h
    exact ⟨A, c, rfl, fun h1 => absurd h1 h0⟩
theorem RL.of_own {w : World} {B n : Nat} {v : Value} {L : List Nat} (h : w.ownsRow B 3 1 v n (iv L)) (hn : n = L.length) : ∃ A c, v = .slice A L.length c ∧ (0 < L.length → ∃ g, A = some ⟨g, 0, none⟩ ∧ g < w.heap.size ∧ ∀ j, j < L.length → w.cell? ⟨g, j, none⟩ = some (.int .i64 ((L.getD j 0 : Nat) : Int))) := by
  subst hn
  by_cases h0 : 0 < L.length
  · obtain ⟨g, c, rfl, hB, cur, hg, _⟩ := own_some h h0
    refine ⟨_, c, rfl, fun _ => ⟨g, rfl, lt_of_get hg, fun j hj => ?_⟩⟩
    have hc := h.cells (g := g) rfl j (.int .i64 ((L.getD j 0 : Nat) : Int)) (by rw [List.getElem?_map, List.getElem?_eq_getElem hj, List.getD_eq_getElem?_getD, List.getElem?_eq_getElem hj]; rfl)
    rw [addr_add] at hc
    exact hc
  · obtain ⟨A, c, rfl⟩ := own_shape h
    exact ⟨A, c, rfl, fun h1 => absurd h1 h0⟩
set_option maxRecDepth 100000 in
theorem at_t (n : Nat) (i : Int) (w : World) (hn0 : 0 < n) (hn : n ≤ 1000000) :
    Calls Try.prog 26 #[.int .i64 (n : Int), .int .i64 i] w (RW w (.int .i64 (atI n i))) := by
  have h3 := Int.tmod_lt_of_pos i (b := (n : Int)) (by omega)
  have h4 := Int.lt_tmod_of_pos i (b := (n : Int)) (by omega)
  have d0 : ((n : Int) == 0) = false := by simp; omega
  unfold atI
  obtain ⟨t, ht⟩ : ∃ t, i.tmod n = t := ⟨_, rfl⟩
  rw [ht] at h3 h4 ⊢
  have hw : IntKind.i64.wrap (i.tmod n) = t := by rw [ht]; exact IntWalk.i64_in _ (by omega)
  have e0 : ¬ (n : Int) = 0 := by omega
  by_cases c : t < 0
  · rw [if_pos c]
    go_enter Try.func26, Try.ntmps26
    go_wp2_with fail
    go_ret
    exact ⟨rfl, rfl⟩
  · rw [if_neg c]
    go_enter Try.func26, Try.ntmps26
    go_wp2_with fail
    go_ret
    exact ⟨rfl, rfl⟩
set_option maxRecDepth 100000 in
theorem at_0 (i : Int) (w : World) : Calls Try.prog 26 #[.int .i64 0, .int .i64 i] w (RW w (.int .i64 (-1))) := by
  go_enter Try.func26, Try.ntmps26
  go_wp2_with fail
  go_ret
  exact ⟨rfl, rfl⟩
/-- The place of an operand, or -1. -/
def plI (n : Nat) (i : Int) : Int := if n = 0 then -1 else atI n i
set_option maxRecDepth 100000 in
theorem Operand_t (n : Nat) (i : Int) (w : World) (hn : n ≤ 1000000) :
    Calls Try.prog 20 #[.int .i64 (n : Int), .int .i64 i] w (RW w (.int .i64 (plI n i))) := by
  unfold plI
  by_cases h0 : n = 0
  · subst h0
    rw [if_pos rfl]
    have hA := at_0 i w
    unfold RW at hA
    replace hA := Lib.hid hA
    go_enter Try.func20, Try.ntmps20
    go_wp2_with fail
    (with_reducible refine hA.out.mono ?_)
    rintro e w1 ⟨rfl, hw1⟩
    subst hw1
    go_wp2_with fail
    go_ret
    exact ⟨rfl, rfl⟩
  · rw [if_neg h0]
    have hA := at_t n i w (by omega) hn
    unfold RW at hA
    obtain ⟨r, hr⟩ : ∃ r, atI n i = r := ⟨_, rfl⟩
    rw [hr] at hA ⊢
    replace hA := Lib.hid hA
    replace hr := Lib.hid hr
    replace h0 := Lib.hid h0
    go_enter Try.func20, Try.ntmps20
    go_wp2_with fail
    (with_reducible refine hA.out.mono ?_)
    rintro e w1 ⟨rfl, hw1⟩
    subst hw1
    go_wp2_with fail
    go_ret
    exact ⟨rfl, rfl⟩
set_option maxRecDepth 100000 in
theorem of_t {B bl : Nat} {L : List Nat} {v : Value} (i : Int) (w : World) (hb : BI w bl 27 v) (ho : w.ownsRow B 3 1 v L.length (iv L)) (hn : L.length ≤ 1000000) :
    Calls Try.prog 24 #[.int .i64 i, pt bl] w (RW w (.int .i64 ((opn L i : Nat) : Int))) := by
  obtain ⟨A, c, rfl, hc⟩ := RL.of_own ho rfl
  have c0 := hb.c
  have cl := hb.lt
  have hO := Operand_t L.length i w hn
  unfold RW at hO
  unfold plI at hO
  unfold opn
  by_cases h0 : L.length = 0
  · rw [if_pos h0] at hO ⊢
    rw [h0] at hO c0
    simp only [Int.natCast_zero] at hO
    replace hO := Lib.hid hO
    clear hc ho hb
    go_enter Try.func24, Try.ntmps24
    go_wp2_with fail
    (with_reducible refine hO.out.mono ?_)
    rintro e w1 ⟨rfl, hw1⟩
    subst hw1
    go_wp2_with fail
    go_ret
    exact ⟨rfl, rfl⟩
  · rw [if_neg h0] at hO ⊢
    obtain ⟨g, rfl, hg, hcc⟩ := hc (by omega)
    have h3 := atI_lt (n := L.length) (by omega) i
    obtain ⟨r, hr⟩ : ∃ r : Nat, atI L.length i = (r : Int) := ⟨(atI L.length i).toNat, by omega⟩
    rw [hr] at hO h3 ⊢
    have e0 := hcc r (by omega)
    have hrl : r < L.length := by omega
    obtain ⟨x, hx⟩ : ∃ x : Int, ((L.getD (r : Int).toNat 0 : Nat) : Int) = x := ⟨_, rfl⟩
    have hx2 : ((L.getD r 0 : Nat) : Int) = x := by rw [← hx, Int.toNat_natCast]
    rw [hx2] at e0
    rw [hx]
    obtain ⟨n, hnn⟩ : ∃ n, L.length = n := ⟨_, rfl⟩
    rw [hnn] at hO c0 hrl
    replace hO := Lib.hid hO
    replace hx := Lib.hid hx
    clear hc ho hb hcc h3 hr hx2 hnn h0 hn
    go_enter Try.func24, Try.ntmps24
    go_wp2_with fail
    (with_reducible refine hO.out.mono ?_)
    rintro e w1 ⟨rfl, hw1⟩
    subst hw1
    go_wp2_with fail
    go_ret
    exact ⟨rfl, rfl⟩
end Go.Proofs.Ytinfkjflomdhbaa
