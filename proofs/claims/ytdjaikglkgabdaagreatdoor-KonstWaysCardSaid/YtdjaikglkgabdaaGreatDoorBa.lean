/-
  Plain facts for BvBins: a number as a list of bits; long division of the reference, a bit at a time; the operations bit by bit. Nothing here is a walk.
  The walk of the reference's split: long division, a bit at a time.
-/
import Derived.Test.YtdjaikglkgabdaaGreatDoorZa
import Derived.Test.YtdjaikglkgabdaaGreatDoorWr
import Derived.Test.YtdjaikglkgabdaaGreatDoorWq
namespace Go.Proofs.YtdjaikglkgabdaaGreatDoor
open Go.RowKit
/-- The bits of a number. -/
def tb (x : Nat) (j : Nat) : Bool := x.testBit j
theorem RB.as {w : World} {A : Option Addr} {n : Nat} {f g : Nat → Bool} (h : RB w A n f) (e : ∀ j, j < n → f j = g j) : RB w A n g := fun h0 => by
  obtain ⟨b, off, e1, hl, hc⟩ := h h0
  exact ⟨b, off, e1, hl, fun j hj => by rw [hc j hj, e j hj]⟩
theorem valB_tb (x n : Nat) : valB (tb x) n = x % 2 ^ n := by
  refine Nat.eq_of_testBit_eq fun j => ?_
  rw [valB_testBit, Nat.testBit_mod_two_pow]; rfl
theorem valB_tbl (x n : Nat) (h : x < 2 ^ n) : valB (tb x) n = x := by rw [valB_tb, Nat.mod_eq_of_lt h]
theorem tb_val (f : Nat → Bool) (n j : Nat) (h : j < n) : f j = tb (valB f n) j := by unfold tb; rw [bit_row f n j h]
/-- A new slice of n bits, those of the number x. -/
def GN (w : World) (n x : Nat) (e : Ending) (w' : World) : Prop := ∃ A c, e = .returned (.slice A n c) ∧ RB w' A n (tb x) ∧ Below w.heap.size w w'
theorem GS.num {w : World} {n x : Nat} {h : Nat → Bool} {e : Ending} {w' : World} (g : GS w n h e w') (hx : valB h n = x % 2 ^ n) : GN w n x e w' := by
  obtain ⟨A, c, rfl, R, hb⟩ := g
  refine ⟨A, c, rfl, R.as fun j hj => ?_, hb⟩
  rw [tb_val h n j hj, hx]
  unfold tb
  rw [Nat.testBit_mod_two_pow]; simp [hj]
/-- The same with an error. -/
def LN (w : World) (n x : Nat) (e0 : Int) (e : Ending) (w' : World) : Prop := LB w n (tb x) e0 e w'
theorem mv_one (r n j : Nat) (b : Bool) (hj : j < n) : mvB (tb r) n 1 b j = tb (2 * r + b.toNat) j := by
  unfold mvB tb
  by_cases h : 1 ≤ j
  · rw [if_pos (by omega)]
    obtain ⟨q, rfl⟩ : ∃ q, j = q + 1 := ⟨j - 1, by omega⟩
    have e : (((q + 1 : Nat) : Int) - 1).toNat = q := by omega
    rw [e, Nat.testBit_succ]
    congr 1
    cases b <;> simp <;> omega
  · obtain rfl : j = 0 := by omega
    rw [if_neg (by omega)]
    cases b <;> simp <;> omega
theorem div_two (x s : Nat) : x / 2 ^ s = 2 * (x / 2 ^ (s + 1)) + (x.testBit s).toNat := by
  rw [Nat.pow_succ, ← Nat.div_div_eq_div_mul]
  have h := Nat.mod_two_eq_one_iff_testBit_zero (x := x / 2 ^ s)
  rw [Nat.testBit_div_two_pow, Nat.zero_add] at h
  cases hf : x.testBit s <;> rw [hf] at h <;> simp at h ⊢ <;> omega
theorem split_bit (x y s : Nat) : (x / y).testBit s = decide ((x / 2 ^ s) / y % 2 = 1) := by
  have h : x / y / 2 ^ s = x / 2 ^ s / y := by rw [Nat.div_div_eq_div_mul, Nat.div_div_eq_div_mul, Nat.mul_comm]
  rw [Nat.testBit_eq_decide_div_mod_eq, h]
theorem split_no (x y s : Nat) (hy : 0 < y) (h : 2 * (x / 2 ^ (s + 1) % y) + (x.testBit s).toNat < y) :
    (x / y).testBit s = false ∧ x / 2 ^ s % y = 2 * (x / 2 ^ (s + 1) % y) + (x.testBit s).toNat := by
  have hd := div_two x s
  rw [split_bit]
  generalize x / 2 ^ (s + 1) = a at *
  generalize (x.testBit s).toNat = b at *
  have ha := Nat.div_add_mod a y
  generalize a / y = k at *
  generalize a % y = r at *
  have e : x / 2 ^ s = y * (2 * k) + (2 * r + b) := by rw [hd, ← ha, Nat.mul_add, Nat.mul_left_comm]; omega
  rw [e, Nat.mul_add_div hy, Nat.mul_add_mod y, Nat.div_eq_of_lt h, Nat.mod_eq_of_lt h]
  simp
theorem split_yes (x y s : Nat) (hy : 0 < y) (h : y ≤ 2 * (x / 2 ^ (s + 1) % y) + (x.testBit s).toNat) :
    (x / y).testBit s = true ∧ x / 2 ^ s % y = 2 * (x / 2 ^ (s + 1) % y) + (x.testBit s).toNat - y := by
  have hd := div_two x s
  have hr := Nat.mod_lt (x / 2 ^ (s + 1)) hy
  have hb := Bool.toNat_le (x.testBit s)
  rw [split_bit]
  generalize x / 2 ^ (s + 1) = a at *
  generalize (x.testBit s).toNat = b at *
  have ha := Nat.div_add_mod a y
  generalize a / y = k at *
  generalize a % y = r at *
  obtain ⟨d, hd2⟩ : ∃ d, 2 * r + b = y + d := ⟨2 * r + b - y, by omega⟩
  have hdy : d < y := by omega
  have e : x / 2 ^ s = y * (2 * k + 1) + d := by rw [hd, ← ha, Nat.mul_add, Nat.mul_add, Nat.mul_left_comm]; omega
  rw [e, Nat.mul_add_div hy, Nat.mul_add_mod y, Nat.div_eq_of_lt hdy, Nat.mod_eq_of_lt hdy]
  exact ⟨by simp, by omega⟩
/-- The rest, less the divisor: with one bit more than both have. -/
theorem minus_val (r y n : Nat) (h1 : y ≤ r) (h2 : r < 2 ^ n) : (r + (2 ^ n - 1 - y) + 1) % 2 ^ n = r - y := by
  have e : r + (2 ^ n - 1 - y) + 1 = (r - y) + 2 ^ n := by omega
  rw [e, Nat.add_mod_right, Nat.mod_eq_of_lt (by omega)]
theorem valB_and (f g : Nat → Bool) (n : Nat) : valB (fun j => f j && g j) n = valB f n &&& valB g n := by
  refine Nat.eq_of_testBit_eq fun j => ?_
  rw [Nat.testBit_and, valB_testBit, valB_testBit, valB_testBit]
  cases decide (j < n) <;> simp
theorem valB_or (f g : Nat → Bool) (n : Nat) : valB (fun j => f j || g j) n = valB f n ||| valB g n := by
  refine Nat.eq_of_testBit_eq fun j => ?_
  rw [Nat.testBit_or, valB_testBit, valB_testBit, valB_testBit]
  cases decide (j < n) <;> simp
theorem valB_xor (f g : Nat → Bool) (n : Nat) : valB (fun j => f j != g j) n = valB f n ^^^ valB g n := by
  refine Nat.eq_of_testBit_eq fun j => ?_
  rw [Nat.testBit_xor, valB_testBit, valB_testBit, valB_testBit]
  cases decide (j < n) <;> simp
/-- Shifted down; with the sign put in. -/
theorem mv_down (f : Nat → Bool) (n k : Nat) : valB (mvB f n (-(k : Int)) false) n = valB f n / 2 ^ k := by
  refine Nat.eq_of_testBit_eq fun j => ?_
  rw [valB_testBit, Nat.testBit_div_two_pow, valB_testBit]
  unfold mvB
  by_cases hj : j + k < n
  · rw [if_pos (by omega), show ((j : Int) - -(k : Int)).toNat = j + k by omega]
    have : j < n := by omega
    simp [hj, this]
  · rw [if_neg (by omega)]; simp [hj]
theorem mv_ones (f : Nat → Bool) (n k : Nat) : valB (mvB f n (-(k : Int)) true) n = 2 ^ n - 1 - (2 ^ n - 1 - valB f n) / 2 ^ k := by
  have h1 := valB_not f n
  have h2 := valB_not (mvB f n (-(k : Int)) true) n
  have h3 := mv_down (fun j => !f j) n k
  have e : valB (fun j => !mvB f n (-(k : Int)) true j) n = valB (mvB (fun j => !f j) n (-(k : Int)) false) n := by
    congr 1
    funext j
    unfold mvB
    split <;> simp
  rw [e, h3] at h2
  have e2 : valB (fun j => !f j) n = 2 ^ n - 1 - valB f n := by omega
  rw [e2] at h2
  omega
theorem mv_sar (f : Nat → Bool) (n k : Nat) (h : 1 ≤ n) : valB (mvB f n (-(k : Int)) (f (n - 1))) n = sarN n (valB f n) k := by
  unfold sarN
  rw [bit_row f n (n - 1) (by omega)]
  cases f (n - 1)
  · rw [mv_down]; rfl
  · rw [mv_ones]; rfl
/-- The highest bit turned. -/
def flip (f : Nat → Bool) (n j : Nat) : Bool := if j = n - 1 then !f j else f j
theorem flip_less (f g : Nat → Bool) (n : Nat) (h : 1 ≤ n) : decide (valB (flip f n) n < valB (flip g n) n) = sltN n (valB f n) (valB g n) := by
  obtain ⟨m, rfl⟩ : ∃ m, n = m + 1 := ⟨n - 1, by omega⟩
  unfold sltN
  simp only [Nat.add_sub_cancel]
  rw [bit_row f (m + 1) m (by omega), bit_row g (m + 1) m (by omega)]
  have c : ∀ f : Nat → Bool, valB (flip f (m + 1)) m = valB f m := fun f => valB_congr m fun j hj => by unfold flip; rw [if_neg (by omega)]
  have d : ∀ f : Nat → Bool, flip f (m + 1) m = !f m := fun f => by unfold flip; rw [if_pos (by omega)]
  simp only [valB, c, d]
  have h1 := valB_lt f m
  have h2 := valB_lt g m
  have hf : f m = true ∨ f m = false := by cases f m <;> simp
  have hg : g m = true ∨ g m = false := by cases g m <;> simp
  rcases hf with hf | hf <;> rcases hg with hg | hg <;> simp [hf, hg] <;> omega
end Go.Proofs.YtdjaikglkgabdaaGreatDoor
namespace Go.Proofs.YtdjaikglkgabdaaGreatDoor
open Go.RowKit
/-- Two slices of n bits, those of the numbers q and r. -/
def SP (w : World) (n q r : Nat) (e : Ending) (w' : World) : Prop := ∃ A1 c1 A2 c2, e = .returned (.tuple #[.slice A1 n c1, .slice A2 n c2]) ∧ RB w' A1 n (tb q) ∧ RB w' A2 n (tb r) ∧ Below w.heap.size w w'
set_option maxRecDepth 100000 in
set_option maxHeartbeats 2000000 in
theorem refPlus_at (n c1 m c2 : Nat) (A B : Option Addr) (f g : Nat → Bool) (c : Bool) (w : World) (hn : n ≤ 140) (hm : n ≤ m) (hA : RB w A n f) (hB : RB w B n g) :
    Calls Tryz.prog 55 #[.slice A n c1, .slice B m c2, .bool c] w fun e w' => e = .returned (.slice (some ⟨w.heap.size, 0, none⟩) n n) ∧ w'.rowIs w.heap.size 4 n (fun j => .bool (smB f g c j)) ∧ Below w.heap.size w w' := by
  have hmk := run_make_row' 77 4 (.bool false) 1 Tryz.underlying77 info_bool rfl .i64 .i64 n (by omega) (by omega)
  have R0 := Lib.hid (World.rowIs_made w (.bool false) n 4)
  replace hA := Lib.hid hA
  replace hB := Lib.hid hB
  go_enter Tryz.func55, Tryz.ntmps55
  go_wp2
  go_loopw [2, 8] (fun cv i wr => ∃ k : Nat, k ≤ n ∧ i = .int .i64 (k : Int) ∧ cv = .bool (cyB f g c k) ∧ wr.rowIs w.heap.size 4 n (plusC f g c k) ∧ Below w.heap.size w wr) (fun _ i _ => n - (intOf i).toNat)
  case atStart => exact ⟨0, Nat.zero_le _, rfl, rfl, World.rowIs.congr R0.out fun j hj => by unfold plusC; simp, by go_grown⟩
  case round =>
    obtain ⟨k, hk, rfl, rfl, R, hbw⟩ := hrel
    clear R0 hmk
    by_cases hlt : k < n
    · obtain ⟨b, off, rfl, hb, hc⟩ := (hA.out.keep hbw) (by omega)
      obtain ⟨b2, off2, rfl, hb2, hc2⟩ := (hB.out.keep hbw) (by omega)
      have hck := hc k hlt
      have hck2 := hc2 k hlt
      have hkm : (k : Int) < (m : Int) := by omega
      have hcr : wr.cell? ⟨w.heap.size, k, none⟩ = some (.bool false) := by rw [World.rowIs.cell R hlt]; unfold plusC; simp
      have hf := World.rowIs.frozen R
      clear hc hc2
      obtain ⟨bx, hbx⟩ : ∃ bk, f k = bk := ⟨_, rfl⟩
      obtain ⟨bz, hbz⟩ : ∃ bk, g k = bk := ⟨_, rfl⟩
      obtain ⟨bc, hbc⟩ : ∃ bk, cyB f g c k = bk := ⟨_, rfl⟩
      rw [hbx] at hck
      rw [hbz] at hck2
      rw [hbc]
      have hs : smB f g c k = ((bx != bz) != bc) := by unfold smB; rw [hbx, hbz, hbc]
      have hn1 : cyB f g c (k + 1) = ((bx && bz || bx && bc) || bz && bc) := by rw [← hbx, ← hbz, ← hbc]; rfl
      clear hbx hbz hbc
      replace hs := Lib.hid hs
      replace hn1 := Lib.hid hn1
      cases bx <;> cases bz <;> cases bc
      all_goals
        go_wp2
        go_roundw
        case rel =>
          refine ⟨k + 1, by omega, by go_num, by rw [hn1.out]; rfl, World.rowIs.congr (World.rowIs.set R k _) fun j hj => ?_, hbw.setCell (by simp) _⟩
          by_cases hj1 : j = k
          · subst hj1; rw [if_pos rfl]; unfold plusC; rw [hs.out]; simp
          · rw [if_neg hj1]; unfold plusC
            congr 2
            rw [Bool.eq_iff_iff]; simp; omega
        case measure => simp [intOf]; omega
    · obtain rfl : k = n := by omega
      have R2 : wr.rowIs w.heap.size 4 k (fun j => .bool (smB f g c j)) := World.rowIs.congr R fun j hj => by unfold plusC; simp [hj]
      replace R2 := Lib.hid R2
      clear R
      go_wp2
      go_ret
      exact ⟨rfl, R2.out, hbw⟩
/-- n bits at the beginning of a block. -/
def RA (w : World) (g n x : Nat) : Prop := g < w.heap.size ∧ ∀ j, j < n → w.cell? ⟨g, j, none⟩ = some (.bool (tb x j))
theorem RA.rb {w : World} {g n x : Nat} (h : RA w g n x) : RB w (some ⟨g, 0, none⟩) n (tb x) := fun _ => ⟨g, 0, rfl, h.1, fun j hj => by rw [Nat.zero_add]; exact h.2 j hj⟩
theorem RA.over {w w' : World} {g n x : Nat} (h : RA w g n x) (hb : Below w.heap.size w w') : RA w' g n x := ⟨Nat.lt_of_lt_of_le h.1 hb.size, fun j hj => cellB (h.2 j hj) hb⟩
theorem RA.far {w : World} {g n x : Nat} (h : RA w g n x) {p : Addr} (hp : p.block ≠ g) (v : Value) : RA (w.setCell p v) g n x := ⟨by simp; exact h.1, fun j hj => by rw [World.cell?_setCell_far w p _ v hp]; exact h.2 j hj⟩
theorem rowB_over {w w' : World} {b n : Nat} {t : TypeId} {f : Nat → Value} (h : w.rowIs b t n f) (hb : Below w.heap.size w w') : w'.rowIs b t n f := World.rowIs.of_block h (hb.block b (World.rowIs.lt h))
theorem bcs_snoc (f : Nat → Bool) (n : Nat) : bcs f n ++ [.bool (f n)] = bcs f (n + 1) := by unfold bcs; rw [List.range_succ]; simp
/-- What an append of a list of bits asks of its source. -/
theorem bcs_cells {w w' : World} {bb ob n : Nat} {f : Nat → Bool} (hcs : ∀ j, j < n → w.cell? ⟨bb, ob + j, none⟩ = some (.bool (f j))) (hb : Below w.heap.size w w') : ∀ j u, (bcs f n)[j]? = some u → w'.cell? ((⟨bb, ob, none⟩ : Addr).add j) = some u := by
  intro j u hj
  have hjm : j < n := by
    rcases Nat.lt_or_ge j n with h' | h'
    · exact h'
    · rw [List.getElem?_eq_none (by rw [bcs_len]; exact h')] at hj; cases hj
  rw [bcs_get f n j hjm] at hj
  have hadd : (⟨bb, ob, none⟩ : Addr).add j = ⟨bb, ob + j, none⟩ := by unfold Addr.add; split <;> simp_all
  rw [hadd, ← hj]
  exact cellB (hcs j hjm) hb
theorem RA_row {w : World} {b n x : Nat} {h : Nat → Bool} (R : w.rowIs b 4 n (fun j => .bool (h j))) (e : ∀ j, j < n → h j = tb x j) : RA w b n x := ⟨World.rowIs.lt R, fun j hj => by rw [World.rowIs.cell R hj, e j hj]⟩
/-- A new block of n bits, those of the number x. -/
def GA (w : World) (n x : Nat) (e : Ending) (w' : World) : Prop := e = .returned (.slice (some ⟨w.heap.size, 0, none⟩) n n) ∧ RA w' w.heap.size n x ∧ Below w.heap.size w w'
theorem refMinus_num (m d1 d2 r y : Nat) (A B : Option Addr) (w : World) (hm : m ≤ 140) (hA : RB w A m (tb r)) (hB : RB w B m (fun j => !tb y j)) (h1 : y ≤ r) (hr : r < 2 ^ m) :
    Calls Tryz.prog 55 #[.slice A m d1, .slice B m d2, .bool true] w (GA w m (r - y)) :=
  (refPlus_at m d1 m d2 A B (tb r) (fun j => !tb y j) true w hm (Nat.le_refl _) hA hB).mono fun e w' ⟨h1', h2, h3⟩ => ⟨h1', RA_row h2 fun j hj => by
    refine (tb_val (smB (tb r) (fun j => !tb y j) true) m j hj).trans ?_
    rw [plus_val, not_val, valB_tbl r m hr, valB_tbl y m (by omega), show true.toNat = 1 from rfl, minus_val r y m h1 hr], h3⟩
/-- The quotient's bits that are known when the bits below r are left. -/
def outC (q r j : Nat) : Value := .bool (decide (r ≤ j) && tb q j)
end Go.Proofs.YtdjaikglkgabdaaGreatDoor
