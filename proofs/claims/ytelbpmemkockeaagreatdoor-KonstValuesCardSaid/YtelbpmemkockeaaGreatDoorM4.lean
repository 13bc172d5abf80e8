/-
  Plain arithmetic of long division; and words for memory: a block that is known whole.
  Plain arithmetic of the ring laws and of division with and without signs; nothing here speaks of the program.
-/
import Derived.Test.YtelbpmemkockeaaGreatDoorM2
import Derived.Below
import Derived.Laws.OwnMore
import Derived.Deep.Draws
import Derived.Laws.Rows
import Derived.Deep.OwnRows
namespace Go.Proofs.YtelbpmemkockeaaGreatDoor
open Go Go.RowKit

def quoK (n x y k : Nat) : Nat := x / 2 ^ (n - k) / y
def remK (n x y k : Nat) : Nat := x / 2 ^ (n - k) % y
def bitK (n x k : Nat) : Nat := (x.testBit (n - 1 - k)).toNat
theorem bitK_le (n x k : Nat) : bitK n x k ≤ 1 := by unfold bitK; cases x.testBit (n - 1 - k) <;> simp
theorem top_step (n x k : Nat) (hk : k < n) : x / 2 ^ (n - (k + 1)) = 2 * (x / 2 ^ (n - k)) + bitK n x k := by
  have e : n - k = (n - (k + 1)) + 1 := by omega
  rw [e, Nat.pow_succ, ← Nat.div_div_eq_div_mul]
  unfold bitK
  rw [Nat.testBit_eq_decide_div_mod_eq, show n - 1 - k = n - (k + 1) from by omega]
  generalize x / 2 ^ (n - (k + 1)) = a
  by_cases h : a % 2 = 1
  · simp [h]; omega
  · simp [h]; omega
theorem top_lt (n x k : Nat) (hx : x < 2 ^ n) (hk : k ≤ n) : x / 2 ^ (n - k) < 2 ^ k := by
  rw [Nat.div_lt_iff_lt_mul (Nat.pow_pos (by decide)), ← Nat.pow_add, show k + (n - k) = n from by omega]; exact hx
theorem quoK_lt (n x y k : Nat) (hx : x < 2 ^ n) (hk : k ≤ n) : quoK n x y k < 2 ^ k := Nat.lt_of_le_of_lt (Nat.div_le_self _ _) (top_lt n x k hx hk)
theorem remK_lt (n x y k : Nat) (hy : 0 < y) : remK n x y k < y := Nat.mod_lt _ hy
theorem quoK_zero (n x y : Nat) (hx : x < 2 ^ n) : quoK n x y 0 = 0 := by
  unfold quoK; rw [Nat.sub_zero, Nat.div_eq_of_lt hx, Nat.zero_div]
theorem remK_zero (n x y : Nat) (hx : x < 2 ^ n) : remK n x y 0 = 0 := by
  unfold remK; rw [Nat.sub_zero, Nat.div_eq_of_lt hx, Nat.zero_mod]
theorem quoK_end (n x y : Nat) : quoK n x y n = x / y := by unfold quoK; rw [Nat.sub_self, Nat.pow_zero, Nat.div_one]
theorem remK_end (n x y : Nat) : remK n x y n = x % y := by unfold remK; rw [Nat.sub_self, Nat.pow_zero, Nat.div_one]
theorem two_step (A y b : Nat) (hy : 0 < y) (hb : b ≤ 1) :
    (2 * A + b) / y = 2 * (A / y) + (if 2 * (A % y) + b < y then 0 else 1) ∧ (2 * A + b) % y = 2 * (A % y) + b - (if 2 * (A % y) + b < y then 0 else y) := by
  have h := Nat.div_add_mod A y
  have hr := Nat.mod_lt A hy
  generalize A / y = q at *
  generalize A % y = r at *
  have e : 2 * A + b = y * (2 * q) + (2 * r + b) := by
    rw [← h]
    have : 2 * (y * q + r) + b = y * (2 * q) + (2 * r + b) := by grind
    exact this
  rw [e, Nat.mul_add_div hy, Nat.mul_add_mod]
  split
  · rename_i hlt
    rw [Nat.div_eq_of_lt hlt, Nat.mod_eq_of_lt hlt]; omega
  · rename_i hge
    have h1 : (2 * r + b) / y = 1 := by rw [Nat.div_eq_iff hy]; omega
    have h2 : (2 * r + b) % y = 2 * r + b - y := by
      have := Nat.div_add_mod (2 * r + b) y
      rw [h1] at this; omega
    rw [h1, h2]; omega
theorem top_bit (n r : Nat) (hr : r < 2 ^ n) (hn : 1 ≤ n) : r.testBit (n - 1) = decide (2 ^ (n - 1) ≤ r) := by
  have e : 2 ^ n = 2 * 2 ^ (n - 1) := by rw [← Nat.pow_succ']; congr 1; omega
  rw [Nat.testBit_eq_decide_div_mod_eq, Bool.eq_iff_iff]
  simp only [decide_eq_true_eq]
  have hp : 0 < 2 ^ (n - 1) := Nat.pow_pos (by decide)
  rw [e] at hr
  have h1 : r / 2 ^ (n - 1) < 2 := by rw [Nat.div_lt_iff_lt_mul hp]; exact hr
  constructor
  · intro h
    have : 1 ≤ r / 2 ^ (n - 1) := by
      generalize r / 2 ^ (n - 1) = d at *
      omega
    rw [Nat.le_div_iff_mul_le hp] at this; omega
  · intro h
    have : 1 ≤ r / 2 ^ (n - 1) := by rw [Nat.le_div_iff_mul_le hp]; omega
    generalize r / 2 ^ (n - 1) = d at *
    omega
/-- What a round makes of the rest before it subtracts. -/
def remM (n x y k : Nat) : Nat := (remK n x y k + remK n x y k + bitK n x k) % 2 ^ n
theorem remM_lt (n x y k : Nat) : remM n x y k < 2 ^ n := Nat.mod_lt _ (Nat.pow_pos (by decide))
theorem quo_shift (n x y k : Nat) (hx : x < 2 ^ n) (hk : k < n) : quoK n x y k * 2 ^ 1 % 2 ^ n = 2 * quoK n x y k := by
  have h := quoK_lt n x y k hx (by omega)
  have h2 : 2 ^ (k + 1) ≤ 2 ^ n := Nat.pow_le_pow_right (by decide) hk
  rw [Nat.pow_succ] at h2
  rw [Nat.mod_eq_of_lt (by omega)]; omega
/-- The round that subtracts. -/
theorem step_yes (n x y k : Nat) (hy : 0 < y) (hyn : y < 2 ^ n) (hk : k < n) (h : (remK n x y k).testBit (n - 1) = true ∨ ¬ remM n x y k < y) :
    (remM n x y k + 2 ^ n - y) % 2 ^ n = remK n x y (k + 1) ∧ 2 * quoK n x y k + 1 = quoK n x y (k + 1) := by
  have hr := remK_lt n x y k hy
  have hb := bitK_le n x k
  obtain ⟨s1, s2⟩ := two_step (x / 2 ^ (n - k)) y (bitK n x k) hy hb
  rw [← top_step n x k hk] at s1 s2
  rw [top_bit n _ (by omega) (by omega)] at h
  have e : 2 ^ n = 2 * 2 ^ (n - 1) := by rw [← Nat.pow_succ']; congr 1; omega
  change quoK n x y (k + 1) = 2 * quoK n x y k + (if 2 * remK n x y k + bitK n x k < y then 0 else 1) at s1
  change remK n x y (k + 1) = 2 * remK n x y k + bitK n x k - (if 2 * remK n x y k + bitK n x k < y then 0 else y) at s2
  unfold remM at *
  have hge : ¬ 2 * remK n x y k + bitK n x k < y := by
    rcases h with h | h
    · simp only [decide_eq_true_eq] at h; omega
    · intro hlt
      rw [Nat.mod_eq_of_lt (by omega)] at h
      omega
  rw [if_neg hge] at s1 s2
  refine ⟨?_, s1.symm⟩
  rw [s2]
  have hlt : 2 * remK n x y k + bitK n x k - y < 2 ^ n := by omega
  by_cases hov : 2 * remK n x y k + bitK n x k < 2 ^ n
  · rw [Nat.mod_eq_of_lt (show remK n x y k + remK n x y k + bitK n x k < 2 ^ n by omega), show remK n x y k + remK n x y k + bitK n x k + 2 ^ n - y = (2 * remK n x y k + bitK n x k - y) + 2 ^ n by omega, Nat.add_mod_right, Nat.mod_eq_of_lt hlt]
  · have h3 : (remK n x y k + remK n x y k + bitK n x k) % 2 ^ n = 2 * remK n x y k + bitK n x k - 2 ^ n := by
      rw [Nat.mod_eq_sub_mod (by omega), Nat.mod_eq_of_lt (by omega)]; omega
    rw [h3, show 2 * remK n x y k + bitK n x k - 2 ^ n + 2 ^ n - y = 2 * remK n x y k + bitK n x k - y by omega, Nat.mod_eq_of_lt hlt]
theorem step_no (n x y k : Nat) (hy : 0 < y) (hyn : y < 2 ^ n) (hk : k < n) (h1 : (remK n x y k).testBit (n - 1) = false) (h2 : remM n x y k < y) :
    remM n x y k = remK n x y (k + 1) ∧ 2 * quoK n x y k = quoK n x y (k + 1) := by
  have hr := remK_lt n x y k hy
  have hb := bitK_le n x k
  obtain ⟨s1, s2⟩ := two_step (x / 2 ^ (n - k)) y (bitK n x k) hy hb
  rw [← top_step n x k hk] at s1 s2
  rw [top_bit n _ (by omega) (by omega)] at h1
  simp only [decide_eq_false_iff_not] at h1
  have e : 2 ^ n = 2 * 2 ^ (n - 1) := by rw [← Nat.pow_succ']; congr 1; omega
  change quoK n x y (k + 1) = 2 * quoK n x y k + (if 2 * remK n x y k + bitK n x k < y then 0 else 1) at s1
  change remK n x y (k + 1) = 2 * remK n x y k + bitK n x k - (if 2 * remK n x y k + bitK n x k < y then 0 else y) at s2
  unfold remM at *
  rw [Nat.mod_eq_of_lt (by omega)] at h2 ⊢
  rw [if_pos (by omega)] at s1 s2
  omega
theorem or_one_form (q : Nat) : bits .or .u64 ((lo (2 * q) : Nat) : Int) 1 = ((lo (2 * q + 1) : Nat) : Int) := by
  have h := u64_or_nat (lo (2 * q)) 1 (lo_lt _) (by decide)
  have e : lo (2 * q) ||| 1 = lo (2 * q + 1) := by
    have h2 := nat_join 1 (lo (2 * q)) 1 (by unfold lo; omega) (by decide)
    rw [h2]; unfold lo; omega
  rw [e] at h
  exact h
theorem hi_even (q : Nat) : hi (2 * q) = hi (2 * q + 1) := by unfold hi; omega
theorem bitI_top_k (n x k : Nat) (hk : k < n) : (bitI n x ((n : Int) - 1 - (k : Int))).toNat = bitK n x k := by
  unfold bitI bitK
  rw [show ((n : Int) - 1 - (k : Int)).toNat = n - 1 - k from by omega]
  congr 1
  simp; omega

/-- The three cells of a vector. -/
def vcell (n x : Nat) : Nat → Value
  | 0 => .int .i64 (n : Int)
  | 1 => .int .u64 ((lo x : Nat) : Int)
  | _ => .int .u64 ((hi x : Nat) : Int)
/-- Block b of memory is a variable that holds the vector x of n bits. -/
def HV (t : TypeId) (w : World) (b n x : Nat) : Prop := w.rowIs b t 3 (vcell n x)
section
variable {t : TypeId} {w w' : World} {b n x : Nat}
theorem HV.c0 (h : HV t w b n x) : w.cell? ⟨b, 0, none⟩ = some (.int .i64 (n : Int)) := World.rowIs.cell h (i := 0) (by decide)
theorem HV.c1 (h : HV t w b n x) : w.cell? ⟨b, 1, none⟩ = some (.int .u64 ((lo x : Nat) : Int)) := World.rowIs.cell h (i := 1) (by decide)
theorem HV.c2 (h : HV t w b n x) : w.cell? ⟨b, 2, none⟩ = some (.int .u64 ((hi x : Nat) : Int)) := World.rowIs.cell h (i := 2) (by decide)
theorem HV.fz (h : HV t w b n x) : ∀ i, w.frozen? ⟨b, i, none⟩ = false := World.rowIs.frozen h
theorem HV.all (h : HV t w b n x) : w.cell? ⟨b, 0, none⟩ = some (.int .i64 (n : Int)) ∧ w.cell? ⟨b, 1, none⟩ = some (.int .u64 ((lo x : Nat) : Int)) ∧ w.cell? ⟨b, 2, none⟩ = some (.int .u64 ((hi x : Nat) : Int)) ∧ ∀ i, w.frozen? ⟨b, i, none⟩ = false := ⟨h.c0, h.c1, h.c2, h.fz⟩
theorem HV.lt (h : HV t w b n x) : b < w.heap.size := World.rowIs.lt h
theorem HV.over (h : HV t w b n x) (hb : Below w.heap.size w w') : HV t w' b n x := World.rowIs.of_block h (hb.block b h.lt)
theorem HV.drew (h : HV t w b n x) : HV t w.drew b n x := h
theorem HV.drewN (h : HV t w b n x) (k : Nat) : HV t (w.drewN k) b n x := h
theorem HV.alloc (h : HV t w b n x) (o : Obj) : HV t (w.alloc o) b n x := World.rowIs.alloc h o
theorem HV.far (h : HV t w b n x) {p : Addr} (hp : b ≠ p.block) (u : Value) : HV t (w.setCell p u) b n x := World.rowIs.setOther h hp u
theorem HV.far3 (h : HV t w b n x) {d i j k : Nat} {u v z : Value} (hd : b ≠ d) : HV t (((w.setCell ⟨d, i, none⟩ u).setCell ⟨d, j, none⟩ v).setCell ⟨d, k, none⟩ z) b n x :=
  ((h.far (p := ⟨d, i, none⟩) hd u).far (p := ⟨d, j, none⟩) hd v).far (p := ⟨d, k, none⟩) hd z
theorem HV.keep3 (h : HV t w b n x) : w.cell? ⟨b, 0, none⟩ = some (.int .i64 (n : Int)) ∧ w.cell? ⟨b, 1, none⟩ = some (.int .u64 ((lo x : Nat) : Int)) ∧ w.cell? ⟨b, 2, none⟩ = some (.int .u64 ((hi x : Nat) : Int)) := ⟨h.c0, h.c1, h.c2⟩
theorem HV.set3 (h : HV t w b n x) (m y : Nat) : HV t (((w.setCell ⟨b, 0, none⟩ (.int .i64 (m : Int))).setCell ⟨b, 1, none⟩ (.int .u64 ((lo y : Nat) : Int))).setCell ⟨b, 2, none⟩ (.int .u64 ((hi y : Nat) : Int))) b m y := by
  refine World.rowIs.congr (((World.rowIs.set h 0 _).set 1 _).set 2 _) fun i hi => ?_
  match i, hi with
  | 0, _ => rfl
  | 1, _ => rfl
  | 2, _ => rfl
theorem HV.set1 (h : HV t w b n x) (y : Nat) (hy : hi x = hi y) : HV t (w.setCell ⟨b, 1, none⟩ (.int .u64 ((lo y : Nat) : Int))) b n y := by
  refine World.rowIs.congr (World.rowIs.set h 1 _) fun i hi => ?_
  match i, hi with
  | 0, _ => rfl
  | 1, _ => rfl
  | 2, _ => simp [vcell, hy]
theorem HV.made {cs : Array Value} (h : w.heap[b]? = some (.cells cs t (0, 0))) (hc : cs = #[.int .i64 (n : Int), .int .u64 ((lo x : Nat) : Int), .int .u64 ((hi x : Nat) : Int)]) : HV t w b n x := by
  subst hc
  refine ⟨_, h, rfl, fun i hi => ?_⟩
  match i, hi with
  | 0, _ => rfl
  | 1, _ => rfl
  | 2, _ => rfl
theorem HV.new (w : World) (t : TypeId) (n x : Nat) : HV t (w.alloc (.cells #[.int .i64 (n : Int), .int .u64 ((lo x : Nat) : Int), .int .u64 ((hi x : Nat) : Int)] t)) w.heap.size n x := HV.made (heap_alloc_new w _) rfl
end
/-- The cells of a vector, as an array. -/
abbrev vcs (n x : Nat) : Array Value := #[.int .i64 (n : Int), .int .u64 ((lo x : Nat) : Int), .int .u64 ((hi x : Nat) : Int)]
abbrev zcs : Array Value := #[.int .i64 0, .int .u64 0, .int .u64 0]
theorem HV.zero (w : World) (t : TypeId) : HV t (w.alloc (.cells zcs t)) w.heap.size 0 0 := HV.new w t 0 0
/-- Four new variables, then a call. -/
theorem start4 {t : TypeId} {w w1 : World} {n x m y : Nat}
    (hb : Below ((((w.alloc (.cells (vcs n x) t)).alloc (.cells (vcs m y) t)).alloc (.cells zcs t)).alloc (.cells zcs t)).heap.size ((((w.alloc (.cells (vcs n x) t)).alloc (.cells (vcs m y) t)).alloc (.cells zcs t)).alloc (.cells zcs t)) w1) :
    HV t w1 w.heap.size n x ∧ HV t w1 (w.heap.size + 1) m y ∧ HV t w1 (w.heap.size + 1 + 1) 0 0 ∧ HV t w1 (w.heap.size + 1 + 1 + 1) 0 0 ∧ Below w.heap.size w w1 := by
  have a := ((((HV.new w t n x).alloc (.cells (vcs m y) t)).alloc (.cells zcs t)).alloc (.cells zcs t)).over hb
  have b := (((HV.new (w.alloc (.cells (vcs n x) t)) t m y).alloc (.cells zcs t)).alloc (.cells zcs t)).over hb
  have q := ((HV.zero ((w.alloc (.cells (vcs n x) t)).alloc (.cells (vcs m y) t)) t).alloc (.cells zcs t)).over hb
  have r := (HV.zero (((w.alloc (.cells (vcs n x) t)).alloc (.cells (vcs m y) t)).alloc (.cells zcs t)) t).over hb
  have z : Below w.heap.size w ((((w.alloc (.cells (vcs n x) t)).alloc (.cells (vcs m y) t)).alloc (.cells zcs t)).alloc (.cells zcs t)) :=
    ((((Below.refl _ _).alloc (Nat.le_refl _) _).alloc (by simp) _).alloc (by simp; omega) _).alloc (by simp; omega) _
  simp only [World.size_alloc] at b q r
  exact ⟨a, b, q, r, z.trans (hb.mono z.size)⟩
end Go.Proofs.YtelbpmemkockeaaGreatDoor
namespace Go.Proofs.YtelbpmemkockeaaGreatDoor
open Go
theorem ring_sub (P x y : Nat) (hx : x < P) (hy : y < P) : ((x + y) % P + P - y) % P = x := by
  by_cases h : x + y < P
  · rw [Nat.mod_eq_of_lt h, show x + y + P - y = x + P by omega, Nat.add_mod_right, Nat.mod_eq_of_lt hx]
  · have e : (x + y) % P = x + y - P := by rw [Nat.mod_eq_sub_mod (by omega), Nat.mod_eq_of_lt (by omega)]
    rw [e, show x + y - P + P - y = x by omega, Nat.mod_eq_of_lt hx]
theorem neg_cases (P y : Nat) (hy : y < P) : (y = 0 ∧ (0 + P - y) % P = 0) ∨ (0 < y ∧ (0 + P - y) % P = P - y) := by
  rcases Nat.eq_zero_or_pos y with h | h
  · left; subst h; simp
  · right; exact ⟨h, by rw [Nat.zero_add, Nat.mod_eq_of_lt (by omega)]⟩
theorem ring_neg (P x y : Nat) (hy : y < P) : (x + (0 + P - y) % P) % P = (x + P - y) % P := by
  rcases neg_cases P y hy with ⟨rfl, h⟩ | ⟨h0, h⟩
  · rw [h, Nat.sub_zero, Nat.add_zero, Nat.add_mod_right]
  · rw [h]; congr 1; omega
theorem ring_assoc (P x y z : Nat) : ((x + y) % P + z) % P = (x + (y + z) % P) % P := by
  rw [Nat.mod_add_mod, Nat.add_mod_mod, Nat.add_assoc]
theorem ring_distr (P x y z : Nat) : (x + y) % P * z % P = (x * z % P + y * z % P) % P := by
  rw [Nat.mod_mul_mod, Nat.add_mul, ← Nat.add_mod]

/-- The absolute value of a signed number of n bits. -/
def magN (n x : Nat) : Nat := if x.testBit (n - 1) then (0 + 2 ^ n - x) % 2 ^ n else x
/-- Turned where the sign asks it. -/
def sgnN (n : Nat) (b : Bool) (x : Nat) : Nat := if b then (0 + 2 ^ n - x) % 2 ^ n else x
def sdivN (n x y : Nat) : Nat := sgnN n (x.testBit (n - 1) != y.testBit (n - 1)) (magN n x / magN n y)
def sremN (n x y : Nat) : Nat := sgnN n (x.testBit (n - 1)) (magN n x % magN n y)
theorem sgnN_lt (n : Nat) (b : Bool) (x : Nat) (hx : x < 2 ^ n) : sgnN n b x < 2 ^ n := by
  unfold sgnN; split
  · exact Nat.mod_lt _ (Nat.pow_pos (by decide))
  · exact hx
theorem magN_eq (n x : Nat) : magN n x = sgnN n (x.testBit (n - 1)) x := rfl
theorem magN_lt (n x : Nat) (hx : x < 2 ^ n) : magN n x < 2 ^ n := sgnN_lt n _ x hx
theorem two_half (n : Nat) (hn : 1 ≤ n) : 2 ^ n = 2 * 2 ^ (n - 1) := by rw [← Nat.pow_succ']; congr 1; omega
theorem magN_le (n x : Nat) (hn : 1 ≤ n) (hx : x < 2 ^ n) : magN n x ≤ 2 ^ (n - 1) := by
  have e := two_half n hn
  have ht := top_bit n x hx hn
  unfold magN
  rw [ht]
  have hp : 0 < 2 ^ (n - 1) := Nat.pow_pos (by decide)
  by_cases h : 2 ^ (n - 1) ≤ x
  · simp only [h, decide_true, if_true]
    rw [Nat.zero_add, Nat.mod_eq_of_lt (by omega)]; omega
  · simp only [h, decide_false, Bool.false_eq_true, if_false]; omega
theorem magN_pos (n x : Nat) (hx : x < 2 ^ n) (h0 : 0 < x) : 0 < magN n x := by
  unfold magN; split
  · rw [Nat.zero_add, Nat.mod_eq_of_lt (by omega)]; omega
  · exact h0
/-- The sign as a number. -/
def sg (b : Bool) : Int := if b then -1 else 1
theorem sgnN_int (n : Nat) (b : Bool) (x : Nat) (hx : x < 2 ^ n) : ∃ k : Int, ((sgnN n b x : Nat) : Int) = sg b * (x : Int) + ((2 ^ n : Nat) : Int) * k := by
  unfold sgnN sg
  cases b
  · exact ⟨0, by simp⟩
  · simp only [if_true]
    rcases neg_cases (2 ^ n) x hx with ⟨rfl, h⟩ | ⟨h0, h⟩
    · exact ⟨0, by rw [h]; simp⟩
    · refine ⟨1, ?_⟩
      rw [h]
      omega
theorem magN_int (n : Nat) (x : Nat) (hx : x < 2 ^ n) : ∃ k : Int, (x : Int) = sg (x.testBit (n - 1)) * ((magN n x : Nat) : Int) + ((2 ^ n : Nat) : Int) * k := by
  obtain ⟨k, hk⟩ := sgnN_int n (x.testBit (n - 1)) x hx
  rw [← magN_eq] at hk
  generalize x.testBit (n - 1) = b at *
  unfold sg at *
  cases b
  · simp only [Bool.false_eq_true, if_false] at *
    refine ⟨-k, ?_⟩
    generalize ((2 ^ n : Nat) : Int) = P at *
    grind
  · simp only [if_true] at *
    refine ⟨k, ?_⟩
    generalize ((2 ^ n : Nat) : Int) = P at *
    grind
theorem sg_xor (a b : Bool) : sg (a != b) = sg a * sg b := by cases a <;> cases b <;> rfl
theorem sg_sq (a : Bool) : sg a * sg a = 1 := by cases a <;> rfl
theorem comb (P s t X Y Q M mx my q r kx ky kq km : Int) (ht : t * t = 1) (hx : X = s * mx + P * kx) (hy : Y = t * my + P * ky) (hq : Q = s * t * q + P * kq) (hm : M = s * r + P * km) (hd : mx = my * q + r) :
    Q * Y + M - X = P * (s * t * q * ky + kq * (t * my) + P * (kq * ky) + km - kx) := by
  subst hx hy hq hm hd
  have e : s * t * q * (t * my) = s * (my * q) := by
    have : s * t * q * (t * my) = (t * t) * (s * (my * q)) := by grind
    rw [this, ht]; grind
  grind
/-- The dividend is the quotient times the divisor and the rest, with signs. -/
theorem sdiv_ok (n x y : Nat) (hx : x < 2 ^ n) (hy : y < 2 ^ n) : (sdivN n x y * y % 2 ^ n + sremN n x y) % 2 ^ n = x := by
  have hmx := magN_lt n x hx
  obtain ⟨kx, ex⟩ := magN_int n x hx
  obtain ⟨ky, ey⟩ := magN_int n y hy
  obtain ⟨kq, eq⟩ := sgnN_int n (x.testBit (n - 1) != y.testBit (n - 1)) (magN n x / magN n y) (Nat.lt_of_le_of_lt (Nat.div_le_self _ _) hmx)
  obtain ⟨km, em⟩ := sgnN_int n (x.testBit (n - 1)) (magN n x % magN n y) (Nat.lt_of_le_of_lt (Nat.mod_le _ _) hmx)
  change ((sdivN n x y : Nat) : Int) = _ at eq
  change ((sremN n x y : Nat) : Int) = _ at em
  rw [sg_xor] at eq
  have hd : ((magN n x : Nat) : Int) = (magN n y : Nat) * ((magN n x / magN n y : Nat) : Int) + ((magN n x % magN n y : Nat) : Int) := by
    have := Nat.div_add_mod (magN n x) (magN n y)
    exact_mod_cast this.symm
  have hc := comb _ _ _ _ _ _ _ _ _ _ _ kx ky kq km (sg_sq _) ex ey eq em hd
  have hdv : ((2 ^ n : Nat) : Int) ∣ ((sdivN n x y * y + sremN n x y : Nat) : Int) - (x : Int) := ⟨_, by push_cast; push_cast at hc; exact hc⟩
  rw [Nat.mod_add_mod]
  have h2 : (((sdivN n x y * y + sremN n x y : Nat) : Int)) % ((2 ^ n : Nat) : Int) = (x : Int) % ((2 ^ n : Nat) : Int) := Int.emod_eq_emod_iff_emod_sub_eq_zero.2 (Int.emod_eq_zero_of_dvd hdv)
  have h3 : (sdivN n x y * y + sremN n x y) % 2 ^ n = x % 2 ^ n := by exact_mod_cast h2
  rw [h3, Nat.mod_eq_of_lt hx]
/-- The sign of the rest is that of the dividend. -/
theorem srem_sign (n x y : Nat) (hn : 1 ≤ n) (hy : y < 2 ^ n) (h0 : 0 < y) (hm : sremN n x y ≠ 0) : (sremN n x y).testBit (n - 1) = x.testBit (n - 1) := by
  have e := two_half n hn
  have hp : 0 < 2 ^ (n - 1) := Nat.pow_pos (by decide)
  have hmy := magN_pos n y hy h0
  have hle := magN_le n y hn hy
  have hr := Nat.mod_lt (magN n x) hmy
  have hlt : sremN n x y < 2 ^ n := sgnN_lt n _ _ (by omega)
  rw [top_bit n _ hlt hn]
  unfold sremN sgnN at *
  generalize magN n x % magN n y = r at *
  cases hb : x.testBit (n - 1)
  · simp only [hb, Bool.false_eq_true, if_false] at *
    simp; omega
  · simp only [hb, if_true] at *
    rcases neg_cases (2 ^ n) r (by omega) with ⟨rfl, h⟩ | ⟨h1, h⟩
    · exact absurd h hm
    · rw [h]; simp; omega
end Go.Proofs.YtelbpmemkockeaaGreatDoor
