/-
  Small functions of aig: Not, node, isNegation, Len, Inputs; has: whether numbers are literals of a graph.
-/
import Derived.Test.YtinfkjflomdhbaaGb
namespace Go.Proofs.Ytinfkjflomdhbaa
open Go.RowKit Go.Lib Go.Maps
/-- The graph's address. -/
abbrev pg (p : Nat) : Value := .pointer (some ⟨p, 0, none⟩)
set_option maxRecDepth 100000 in
theorem Not_t (a : Nat) (w : World) (ha : a < 1000000) : Calls Try.prog 14 #[.int .i64 (a : Int)] w (RW w (.int .i64 ((nt a : Nat) : Int))) := by
  have hx := i64_xor1 a ha
  obtain ⟨c, hc⟩ : ∃ c, ((nt a : Nat) : Int) = c := ⟨_, rfl⟩
  rw [hc] at hx ⊢
  replace hc := Lib.hid hc
  go_enter Try.func14, Try.ntmps14
  go_wp2_with fail
  go_ret
  exact ⟨rfl, rfl⟩
set_option maxRecDepth 100000 in
theorem node_t (a : Nat) (w : World) (ha : a < 4611686018427387904) : Calls Try.prog 27 #[.int .i64 (a : Int)] w (RW w (.int .i64 ((a / 2 : Nat) : Int))) := by
  go_enter Try.func27, Try.ntmps27
  go_wp2_with fail
  go_ret
  exact ⟨by simp, rfl⟩
set_option maxRecDepth 100000 in
theorem isNeg_t (a : Nat) (w : World) (ha : a < 1000000) : Calls Try.prog 28 #[.int .i64 (a : Int)] w (RW w (.bool (a % 2 == 1))) := by
  have hx : ((a : Int) % 2 == 1) = (a % 2 == 1) := by rw [Bool.eq_iff_iff]; simp; omega
  go_enter Try.func28, Try.ntmps28
  go_wp2_with fail
  go_ret
  exact ⟨by rw [← hx]; rfl, rfl⟩
set_option maxRecDepth 100000 in
theorem Len_t {B p : Nat} {F : List PN} (w : World) (h : GI w B p F) : Calls Try.prog 12 #[pg p] w (RW w (.int .i64 (F.length : Int))) := by
  obtain ⟨v, m, n, D, hx⟩ := h
  obtain ⟨g, c, rfl, hg⟩ := hx.shape
  have c0 := hx.c0
  clear hx
  go_enter Try.func12, Try.ntmps12
  go_wp2_with fail
  go_ret
  exact ⟨rfl, rfl⟩
set_option maxRecDepth 100000 in
theorem Inputs_t {B p : Nat} {F : List PN} (w : World) (h : GI w B p F) : Calls Try.prog 19 #[pg p] w (RW w (.int .i64 (cnt F : Int))) := by
  obtain ⟨v, m, n, D, hx⟩ := h
  have c2 := hx.c2
  clear hx
  go_enter Try.func19, Try.ntmps19
  go_wp2_with fail
  go_ret
  exact ⟨rfl, rfl⟩
theorem below_call {B : Nat} {w a b : World} (h : Below a.heap.size a b) (k : Below B w a) (hB : B ≤ a.heap.size) : Below B w b := k.trans (h.mono hB)
theorem bdn (w : World) (q : Nat) : Below w.heap.size w (w.drewN q) := ⟨rfl, rfl, rfl, Nat.le_refl _, fun _ _ => rfl⟩
def anyB (p : Nat → Bool) : Nat → Bool
  | 0 => false
  | k + 1 => anyB p k || p k
/-- Where the first is of which p holds, or -1. -/
def fstI (p : Nat → Bool) : Nat → Nat → Int
  | 0, _ => -1
  | f + 1, k => if p k then (k : Int) else fstI p f (k + 1)
theorem fstI_any (p : Nat → Bool) : ∀ f k, (decide (0 ≤ fstI p f k) || anyB p k) = anyB p (k + f)
  | 0, k => by simp [fstI]
  | f + 1, k => by
    unfold fstI
    rw [show k + (f + 1) = (k + 1) + f by omega, ← fstI_any p f (k + 1)]
    by_cases h : p k = true
    · rw [if_pos h]; simp [anyB, h]
    · rw [if_neg h]; simp [anyB, h]
theorem fst_any (p : Nat → Bool) (n : Nat) : decide (0 ≤ fstI p n 0) = anyB p n := by
  have h := fstI_any p n 0
  simpa [anyB] using h
theorem anyB_succ (p : Nat → Bool) : ∀ n, anyB p (n + 1) = (p 0 || anyB (fun j => p (j + 1)) n)
  | 0 => by simp [anyB]
  | n + 1 => by
    rw [show anyB p (n + 1 + 1) = (anyB p (n + 1) || p (n + 1)) from rfl, anyB_succ p n, Bool.or_assoc]
    rfl
theorem anyB_list (p : Int → Bool) : ∀ l : List Int, anyB (fun j => p (l.getD j 0)) l.length = l.any p
  | [] => rfl
  | x :: l => by
    rw [List.length_cons, anyB_succ]
    have := anyB_list p l
    simp only [List.getD_cons_zero, List.getD_cons_succ, List.any_cons, this]
set_option maxHeartbeats 800000 in
set_option maxRecDepth 100000 in
theorem idx_t (g : Nat) (lb : Array Value) (eg : ∀ args w, (callFunc g args).run Try.prog w = .ok (.enter g args) w) (p : Nat → Bool) (f : Nat → Int) (n c : Nat) (A : Option Addr) (w : World) (hn : n ≤ 1000000000000)
    (hA : 0 < n → ∃ b off : Nat, A = some ⟨b, off, none⟩ ∧ b < w.heap.size ∧ ∀ j, j < n → w.cell? ⟨b, off + j, none⟩ = some (.int .i64 (f j)))
    (hp : ∀ j, j < n → ∀ W : World, Below w.heap.size w W → Calls Try.prog g (#[.int .i64 (f j)] ++ lb) W (RV W (.bool (p j)))) :
    Calls Try.prog 41 #[.slice A n c, .func (.func g) #[] lb] w fun e w' => e = .returned (.int .i64 (fstI p n 0)) ∧ Below w.heap.size w w' := by
  replace hA := Lib.hid hA
  replace hp := Lib.hid hp
  go_enter Try.func41, Try.ntmps41
  go_wp2
  go_loopw [8] (fun i wr => ∃ k : Nat, k ≤ n ∧ i = .int .i64 (k : Int) ∧ fstI p (n - k) k = fstI p n 0 ∧ Below w.heap.size w wr) (fun i _ => n - (intOf i).toNat)
  case atStart => exact ⟨0, Nat.zero_le _, rfl, rfl, Below.refl _ _⟩
  case round =>
    obtain ⟨k, hk, rfl, hleft, hbw⟩ := hrel
    by_cases hlt : k < n
    · obtain ⟨b, off, rfl, hb, hc⟩ := hA.out (by omega)
      have c0 := (hbw.cell (p := ⟨b, off + k, none⟩) hb).trans (hc k hlt)
      have cS := hp.out k hlt wr hbw
      clear hc
      obtain ⟨d, hd⟩ : ∃ d, n - k = d + 1 := ⟨n - k - 1, by omega⟩
      rw [hd] at hleft
      have hd2 : n - (k + 1) = d := by omega
      rw [show fstI p (d + 1) k = if p k then (k : Int) else fstI p d (k + 1) from rfl] at hleft
      obtain ⟨x, hx⟩ : ∃ x, f k = x := ⟨_, rfl⟩
      rw [hx] at c0 cS
      cases hpk : p k with
      | true =>
        rw [hpk] at cS
        rw [if_pos hpk] at hleft
        replace hleft := Lib.hid hleft
        replace cS := Lib.hid cS
        clear hpk hd hd2 hx
        go_wp2_with fail
        refine cS.out.mono ?_
        rintro e w1 ⟨rfl, hb1⟩
        go_wp2_with fail
        go_ret
        exact ⟨by rw [← hleft.out]; rfl, below_call hb1 hbw hbw.size⟩
      | false =>
        rw [hpk] at cS
        rw [if_neg (by rw [hpk]; decide), ← hd2] at hleft
        replace hleft := Lib.hid hleft
        replace cS := Lib.hid cS
        clear hpk hd hd2 hx
        go_wp2_with fail
        refine cS.out.mono ?_
        rintro e w1 ⟨rfl, hb1⟩
        go_wp2_with fail
        go_roundw
        case rel => exact ⟨k + 1, by omega, by go_num, hleft.out, below_call hb1 hbw hbw.size⟩
        case measure => simp [intOf]; omega
    · obtain rfl : k = n := by omega
      rw [Nat.sub_self] at hleft
      replace hleft := Lib.hid hleft
      go_wp2
      go_ret
      exact ⟨by rw [← hleft.out]; rfl, hbw⟩
set_option maxHeartbeats 400000 in
/-- slices.ContainsFunc. -/
theorem cont_t (g : Nat) (lb : Array Value) (eg : ∀ args w, (callFunc g args).run Try.prog w = .ok (.enter g args) w) (p : Int → Bool) (l : List Int) (c : Nat) (A : Option Addr) (w : World) (hl : l.length ≤ 1000000000000) (hA : RL w A l)
    (hp : ∀ x, x ∈ l → ∀ W : World, Below w.heap.size w W → Calls Try.prog g (#[.int .i64 x] ++ lb) W (RV W (.bool (p x)))) :
    Calls Try.prog 38 #[.slice A l.length c, .func (.func g) #[] lb] w (RV w (.bool (l.any p))) := by
  have hI := idx_t g lb eg (fun j => p (l.getD j 0)) (fun j => l.getD j 0) l.length c A w hl hA (fun j hj W hW => hp _ (by rw [List.getD_eq_getElem?_getD, List.getElem?_eq_getElem hj]; exact List.getElem_mem _) W hW)
  have e := fst_any (fun j => p (l.getD j 0)) l.length
  rw [anyB_list p l] at e
  clear hp hA
  obtain ⟨I, hI2⟩ : ∃ I, fstI (fun j => p (l.getD j 0)) l.length 0 = I := ⟨_, rfl⟩
  rw [hI2] at hI e
  clear hI2
  obtain ⟨n, hn⟩ : ∃ n, l.length = n := ⟨_, rfl⟩
  rw [hn] at hI hl ⊢
  obtain ⟨B, hB⟩ : ∃ B, l.any p = B := ⟨_, rfl⟩
  rw [hB] at e ⊢
  clear hB hn
  replace e := Lib.hid e
  replace hI := Lib.hid hI
  go_enter Try.func38, Try.ntmps38
  go_wp2_with fail
  (with_reducible refine hI.out.mono ?_)
  rintro e w' ⟨rfl, hb⟩
  go_wp2_with fail
  go_ret
  exact ⟨by rw [← e.out]; rfl, hb⟩

end Go.Proofs.Ytinfkjflomdhbaa
