/-
  The number of set bits, as math/bits counts them: byte by byte; the walk of OnesCount64.
-/
import Derived.Test.YteahmicbgimomaaZb
import Derived.Laws.Bits128
namespace Go.Proofs.Yteahmicbgimomaa
open Go.RowKit
/-- A number of k digits below 256, the lowest first. -/
def N8 (v : Nat → Nat) : Nat → Nat
  | 0 => 0
  | k + 1 => v 0 + 256 * N8 (fun i => v (i + 1)) k
theorem N8_congr {u v : Nat → Nat} : ∀ k, (∀ i, i < k → u i = v i) → N8 u k = N8 v k
  | 0, _ => rfl
  | k + 1, h => by
    simp only [N8]
    rw [h 0 (by omega), N8_congr (u := fun i => u (i + 1)) (v := fun i => v (i + 1)) k fun i hi => h (i + 1) (by omega)]
theorem N8_add (u v : Nat → Nat) : ∀ k, N8 u k + N8 v k = N8 (fun i => u i + v i) k
  | 0 => rfl
  | k + 1 => by
    simp only [N8]
    rw [← N8_add (fun i => u (i + 1)) (fun i => v (i + 1)) k]
    omega
theorem land_digit (a X c Y : Nat) (ha : a < 256) (hc : c < 256) : (a + 256 * X) &&& (c + 256 * Y) = (a &&& c) + 256 * (X &&& Y) := by
  refine Nat.eq_of_testBit_eq fun i => ?_
  have hac : (a &&& c) < 2 ^ 8 := Nat.and_lt_two_pow a hc
  rw [Nat.testBit_and, Nat.add_comm a, Nat.add_comm c, Nat.add_comm (a &&& c), show (256 : Nat) = 2 ^ 8 from rfl, Nat.testBit_two_pow_mul_add _ ha, Nat.testBit_two_pow_mul_add _ hc, Nat.testBit_two_pow_mul_add _ hac]
  split
  · rw [Nat.testBit_and]
  · rw [Nat.testBit_and]
theorem N8_and (m : Nat) (hm : m < 256) : ∀ (k : Nat) (v : Nat → Nat), (∀ i, i < k → v i < 256) → N8 v k &&& N8 (fun _ => m) k = N8 (fun i => v i &&& m) k
  | 0, _, _ => by simp [N8]
  | k + 1, v, h => by
    simp only [N8]
    rw [land_digit _ _ _ _ (h 0 (by omega)) hm, N8_and m hm k (fun i => v (i + 1)) fun i hi => h (i + 1) (by omega)]
theorem N8_div (P Q : Nat) (hP : 0 < P) (hPQ : P * Q = 256) : ∀ (k : Nat) (v : Nat → Nat), v k = 0 → N8 v k / P = N8 (fun i => v i / P + (v (i + 1) % P) * Q) k
  | 0, v, _ => by simp [N8]
  | k + 1, v, h => by
    simp only [N8]
    have ih := N8_div P Q hP hPQ k (fun i => v (i + 1)) h
    have e1 : (v 0 + 256 * N8 (fun i => v (i + 1)) k) / P = v 0 / P + Q * N8 (fun i => v (i + 1)) k := by
      rw [← hPQ, Nat.mul_assoc, Nat.add_mul_div_left _ _ hP]
    have e2 : N8 (fun i => v (i + 1)) k % P = v 1 % P := by
      cases k with
      | zero => simp only [N8]; rw [show v 1 = 0 from h]
      | succ k =>
        simp only [N8]
        rw [← hPQ, Nat.mul_assoc, Nat.add_mul_mod_self_left]
    rw [e1]
    have e3 := Nat.div_add_mod (N8 (fun i => v (i + 1)) k) P
    rw [e2, ih] at e3
    have e4 : Q * N8 (fun i => v (i + 1)) k = 256 * N8 (fun i => v (i + 1) / P + v (i + 1 + 1) % P * Q) k + v 1 % P * Q := by
      rw [← e3, Nat.mul_add, ← Nat.mul_assoc, Nat.mul_comm Q P, hPQ, Nat.mul_comm Q]
    rw [e4]
    show v 0 / P + (256 * N8 (fun i => v (i + 1) / P + v (i + 1 + 1) % P * Q) k + v 1 % P * Q) = v 0 / P + v 1 % P * Q + 256 * N8 (fun i => v (i + 1) / P + v (i + 1 + 1) % P * Q) k
    omega
def t1 (v : Nat) : Nat := (v / 2 &&& 85) + (v &&& 85)
def t2 (v : Nat) : Nat := (v / 4 &&& 51) + (v &&& 51)
def t3 (v : Nat) : Nat := (v / 16 + v) % 16
def pcb (b : Nat) : Nat := t3 (t2 (t1 b))
theorem t1_all : ∀ b, b < 256 → ∀ c, c < 2 → ((b / 2 + c * 128) &&& 85) + (b &&& 85) = t1 b ∧ b / 2 + c * 128 < 256 ∧ t1 b < 256 := by decide +kernel
theorem t2_all : ∀ b, b < 256 → ∀ c, c < 4 → ((b / 4 + c * 64) &&& 51) + (b &&& 51) = t2 b ∧ b / 4 + c * 64 < 256 ∧ t2 b < 256 := by decide +kernel
theorem t3_all : ∀ b, b < 256 → t2 (t1 b) % 16 ≤ 4 ∧ t2 (t1 b) / 16 ≤ 4 ∧ pcb b ≤ 8 ∧ decide (pcb b % 2 = 1) = xrB (fun j => b.testBit j) 8 := by decide +kernel
theorem t3_and : ∀ a, a < 5 → ∀ b, b < 5 → ∀ c, c < 5 → ((a + c * 16 + (16 * a + b)) &&& 15) = (a + (16 * a + b)) % 16 := by decide +kernel
/-- The bytes of a number. -/
def byt (x i : Nat) : Nat := x / 256 ^ i % 256
theorem N8_byt : ∀ (k x : Nat), x < 256 ^ k → x = N8 (byt x) k
  | 0, x, h => by simp at h; simp [N8, h]
  | k + 1, x, h => by
    have ih := N8_byt k (x / 256) (by rw [Nat.pow_succ] at h; exact Nat.div_lt_of_lt_mul (by rw [Nat.mul_comm]; exact h))
    have e : (fun i => byt x (i + 1)) = byt (x / 256) := by
      funext i
      unfold byt
      rw [Nat.div_div_eq_div_mul, Nat.pow_succ, Nat.mul_comm]
    simp only [N8]
    rw [e, ← ih]
    unfold byt
    simp
    omega
def a1 (x : Nat) : Nat := (x / 2 &&& 6148914691236517205) + (x &&& 6148914691236517205)
def a2 (x : Nat) : Nat := (x / 4 &&& 3689348814741910323) + (x &&& 3689348814741910323)
def a3 (x : Nat) : Nat := (x / 16 + x) &&& 1085102592571150095
theorem m85 : N8 (fun _ => 85) 8 = 6148914691236517205 := by decide
theorem m51 : N8 (fun _ => 51) 8 = 3689348814741910323 := by decide
theorem m15 : N8 (fun _ => 15) 8 = 1085102592571150095 := by decide
theorem a1_N8 (v : Nat → Nat) (hv : ∀ i, v i < 256) (h8 : v 8 = 0) : a1 (N8 v 8) = N8 (fun i => t1 (v i)) 8 := by
  unfold a1
  rw [← m85, N8_div 2 128 (by decide) rfl 8 v h8, N8_and 85 (by decide) 8 _ (fun i _ => (t1_all (v i) (hv i) (v (i + 1) % 2) (by omega)).2.1), N8_and 85 (by decide) 8 v (fun i _ => hv i), N8_add]
  exact N8_congr 8 fun i _ => (t1_all (v i) (hv i) (v (i + 1) % 2) (by omega)).1
theorem a2_N8 (v : Nat → Nat) (hv : ∀ i, v i < 256) (h8 : v 8 = 0) : a2 (N8 v 8) = N8 (fun i => t2 (v i)) 8 := by
  unfold a2
  rw [← m51, N8_div 4 64 (by decide) rfl 8 v h8, N8_and 51 (by decide) 8 _ (fun i _ => (t2_all (v i) (hv i) (v (i + 1) % 4) (by omega)).2.1), N8_and 51 (by decide) 8 v (fun i _ => hv i), N8_add]
  exact N8_congr 8 fun i _ => (t2_all (v i) (hv i) (v (i + 1) % 4) (by omega)).1
theorem a3_N8 (v : Nat → Nat) (hl : ∀ i, v i % 16 ≤ 4) (hh : ∀ i, v i / 16 ≤ 4) (h8 : v 8 = 0) : a3 (N8 v 8) = N8 (fun i => t3 (v i)) 8 := by
  unfold a3
  rw [← m15, N8_div 16 16 (by decide) rfl 8 v h8, N8_add, N8_and 15 (by decide) 8 _ (fun i _ => by have := hl i; have := hh i; have := hl (i + 1); omega)]
  refine N8_congr 8 fun i _ => ?_
  have h := t3_and (v i / 16) (by have := hh i; omega) (v i % 16) (by have := hl i; omega) (v (i + 1) % 16) (by have := hl (i + 1); omega)
  have e : 16 * (v i / 16) + v i % 16 = v i := Nat.div_add_mod _ _
  rw [e] at h
  exact h
def a4 (x : Nat) : Nat := x + x / 256
def a5 (x : Nat) : Nat := x + x / 65536
def a6 (x : Nat) : Nat := x + x / 4294967296
theorem f5 (p0 p1 p2 T1 T2 T3 x : Nat) (h0 : p0 ≤ 8) (h1 : p1 ≤ 8) (h2 : p2 ≤ 8) (hx : x = p0 + 256 * T1) (e1 : T1 = p1 + 256 * T2) (e2 : T2 = p2 + 256 * T3) : (x + T1) / 65536 = T2 + T3 := by omega
theorem f6 (p0 p1 p2 p3 p4 p5 p6 T1 T2 T3 T4 T5 T6 T7 x : Nat) (h0 : p0 ≤ 8) (h1 : p1 ≤ 8) (h2 : p2 ≤ 8) (h3 : p3 ≤ 8) (h4 : p4 ≤ 8) (h5 : p5 ≤ 8) (h6 : p6 ≤ 8)
    (hx : x = p0 + 256 * T1) (e1 : T1 = p1 + 256 * T2) (e2 : T2 = p2 + 256 * T3) (e3 : T3 = p3 + 256 * T4) (e4 : T4 = p4 + 256 * T5) (e5 : T5 = p5 + 256 * T6) (e6 : T6 = p6 + 256 * T7) : (x + T1 + (T2 + T3)) / 4294967296 = T4 + T5 + (T6 + T7) := by
  have g3 : T3 = p3 + 256 * p4 + 65536 * p5 + 16777216 * p6 + 4294967296 * T7 := by omega
  have g2 : T2 = p2 + 256 * p3 + 65536 * p4 + 16777216 * p5 + 4294967296 * T6 := by omega
  have g1 : T1 = p1 + 256 * p2 + 65536 * p3 + 16777216 * p4 + 4294967296 * T5 := by omega
  have g0 : x = p0 + 256 * p1 + 65536 * p2 + 16777216 * p3 + 4294967296 * T4 := by omega
  clear hx e1 e2 e3 e4 e5 e6
  have hs : x + T1 + (T2 + T3) = ((p0 + p1 + p2 + p3) + 256 * (p1 + p2 + p3 + p4) + 65536 * (p2 + p3 + p4 + p5) + 16777216 * (p3 + p4 + p5 + p6)) + 4294967296 * (T4 + T5 + (T6 + T7)) := by omega
  rw [hs, Nat.add_mul_div_left _ _ (by decide), Nat.div_eq_of_lt (by omega), Nat.zero_add]
theorem f7 (p0 p1 p2 p3 p4 p5 p6 p7 T1 T2 T3 T4 T5 T6 x : Nat) (h0 : p0 ≤ 8) (h1 : p1 ≤ 8) (h2 : p2 ≤ 8) (h3 : p3 ≤ 8) (h4 : p4 ≤ 8) (h5 : p5 ≤ 8) (h6 : p6 ≤ 8) (h7 : p7 ≤ 8)
    (hx : x = p0 + 256 * T1) (e1 : T1 = p1 + 256 * T2) (e2 : T2 = p2 + 256 * T3) (e3 : T3 = p3 + 256 * T4) (e4 : T4 = p4 + 256 * T5) (e5 : T5 = p5 + 256 * T6) (e6 : T6 = p6 + 256 * p7) :
    x < 2 ^ 60 ∧ (x + T1 + (T2 + T3) + (T4 + T5 + (T6 + p7))) % 128 = p0 + p1 + p2 + p3 + p4 + p5 + p6 + p7 := by
  constructor
  · omega
  · have hs : x + T1 + (T2 + T3) + (T4 + T5 + (T6 + p7)) = (p0 + p1 + p2 + p3 + p4 + p5 + p6 + p7) + 128 * (2 * (T1 + T2 + T3 + T4 + T5 + T6 + p7)) := by omega
    rw [hs, Nat.add_mul_mod_self_left, Nat.mod_eq_of_lt (by omega)]
theorem fold_eight (p0 p1 p2 p3 p4 p5 p6 p7 T1 T2 T3 T4 T5 T6 x : Nat) (h0 : p0 ≤ 8) (h1 : p1 ≤ 8) (h2 : p2 ≤ 8) (h3 : p3 ≤ 8) (h4 : p4 ≤ 8) (h5 : p5 ≤ 8) (h6 : p6 ≤ 8) (h7 : p7 ≤ 8)
    (hx : x = p0 + 256 * T1) (e1 : T1 = p1 + 256 * T2) (e2 : T2 = p2 + 256 * T3) (e3 : T3 = p3 + 256 * T4) (e4 : T4 = p4 + 256 * T5) (e5 : T5 = p5 + 256 * T6) (e6 : T6 = p6 + 256 * p7) :
    a4 x < 2 ^ 63 ∧ a5 (a4 x) < 2 ^ 63 ∧ a6 (a5 (a4 x)) < 2 ^ 63 ∧ a6 (a5 (a4 x)) % 128 = p0 + p1 + p2 + p3 + p4 + p5 + p6 + p7 := by
  obtain ⟨lx, hm⟩ := f7 p0 p1 p2 p3 p4 p5 p6 p7 T1 T2 T3 T4 T5 T6 x h0 h1 h2 h3 h4 h5 h6 h7 hx e1 e2 e3 e4 e5 e6
  have g5 := f5 p0 p1 p2 T1 T2 T3 x h0 h1 h2 hx e1 e2
  have g6 := f6 p0 p1 p2 p3 p4 p5 p6 T1 T2 T3 T4 T5 T6 p7 x h0 h1 h2 h3 h4 h5 h6 hx e1 e2 e3 e4 e5 e6
  have q4 : a4 x = x + T1 := by
    have : x / 256 = T1 := by omega
    unfold a4; rw [this]
  have q5 : a5 (a4 x) = x + T1 + (T2 + T3) := by unfold a5; rw [q4, g5]
  have q6 : a6 (a5 (a4 x)) = x + T1 + (T2 + T3) + (T4 + T5 + (T6 + p7)) := by unfold a6; rw [q5, g6]
  have l1 : T1 ≤ x := by omega
  have l2 : T2 ≤ T1 := by omega
  have l3 : T3 ≤ T2 := by omega
  have l4 : T4 ≤ T3 := by omega
  have l5 : T5 ≤ T4 := by omega
  have l6 : T6 ≤ T5 := by omega
  have l7 : p7 ≤ T6 := by omega
  clear hx e1 e2 e3 e4 e5 e6 g5 g6
  rw [q6, q5, q4]
  exact ⟨by omega, by omega, by omega, hm⟩
theorem xrB_congr {f g : Nat → Bool} : ∀ n, (∀ j, j < n → f j = g j) → xrB f n = xrB g n
  | 0, _ => rfl
  | n + 1, h => by
    show (xrB f n != f n) = (xrB g n != g n)
    rw [xrB_congr n fun j hj => h j (by omega), h n (by omega)]
theorem xrB_add (f : Nat → Bool) (m : Nat) : ∀ k, xrB f (m + k) = (xrB f m != xrB (fun j => f (m + j)) k)
  | 0 => by simp [xrB]
  | k + 1 => by
    show (xrB f (m + k) != f (m + k)) = (xrB f m != (xrB (fun j => f (m + j)) k != f (m + k)))
    rw [xrB_add f m k]
    cases xrB f m <;> cases xrB (fun j => f (m + j)) k <;> cases f (m + k) <;> rfl
theorem byt_bit (x i j : Nat) (hj : j < 8) : (byt x i).testBit j = x.testBit (8 * i + j) := by
  unfold byt
  rw [show (256 : Nat) = 2 ^ 8 from rfl, Nat.testBit_mod_two_pow, ← Nat.pow_mul, Nat.testBit_div_two_pow]
  simp [hj, Nat.add_comm]
theorem byt_par (x i : Nat) : decide (pcb (byt x i) % 2 = 1) = xrB (fun j => x.testBit (8 * i + j)) 8 := by
  have hb : byt x i < 256 := Nat.mod_lt _ (by decide)
  rw [(t3_all (byt x i) hb).2.2.2]
  exact xrB_congr 8 fun j hj => byt_bit x i j hj
def pcx (x : Nat) : Nat := pcb (byt x 0) + pcb (byt x 1) + pcb (byt x 2) + pcb (byt x 3) + pcb (byt x 4) + pcb (byt x 5) + pcb (byt x 6) + pcb (byt x 7)
theorem odd_add (a b : Nat) : decide ((a + b) % 2 = 1) = (decide (a % 2 = 1) != decide (b % 2 = 1)) := by
  rw [Bool.eq_iff_iff]
  rcases Nat.mod_two_eq_zero_or_one a with h | h <;> rcases Nat.mod_two_eq_zero_or_one b with h' | h' <;> simp [h, h'] <;> omega
theorem pcx_par (x : Nat) : decide (pcx x % 2 = 1) = xrB (fun j => x.testBit j) 64 := by
  unfold pcx
  simp only [odd_add, byt_par]
  rw [show 64 = 56 + 8 from rfl, xrB_add, show 56 = 48 + 8 from rfl, xrB_add, show 48 = 40 + 8 from rfl, xrB_add, show 40 = 32 + 8 from rfl, xrB_add, show 32 = 24 + 8 from rfl, xrB_add, show 24 = 16 + 8 from rfl, xrB_add, show 16 = 8 + 8 from rfl, xrB_add]
  simp
theorem pcx_le (x : Nat) : pcx x ≤ 64 := by
  have h : ∀ i, pcb (byt x i) ≤ 8 := fun i => (t3_all (byt x i) (Nat.mod_lt _ (by decide))).2.2.1
  unfold pcx
  have := h 0; have := h 1; have := h 2; have := h 3; have := h 4; have := h 5; have := h 6; have := h 7
  omega
theorem and_small (x M : Nat) (h : M < 2 ^ 63) : (x &&& M) < 2 ^ 63 := Nat.and_lt_two_pow x h
theorem count_all (x : Nat) (hx : x < 2 ^ 64) :
    a1 x < 2 ^ 64 ∧ a2 (a1 x) < 2 ^ 64 ∧ a2 (a1 x) / 16 + a2 (a1 x) < 2 ^ 64 ∧ a4 (a3 (a2 (a1 x))) < 2 ^ 63 ∧ a5 (a4 (a3 (a2 (a1 x)))) < 2 ^ 63 ∧ a6 (a5 (a4 (a3 (a2 (a1 x))))) < 2 ^ 63 ∧ a6 (a5 (a4 (a3 (a2 (a1 x))))) % 128 = pcx x := by
  have hb : ∀ i, byt x i < 256 := fun i => Nat.mod_lt _ (by decide)
  have h8 : byt x 8 = 0 := by unfold byt; rw [Nat.div_eq_of_lt (by simpa using hx)]
  have e0 : x = N8 (byt x) 8 := N8_byt 8 x (by simpa using hx)
  have t10 : t1 0 = 0 := by decide
  have t20 : t2 0 = 0 := by decide
  have hb1 : ∀ i, t1 (byt x i) < 256 := fun i => (t1_all _ (hb i) 0 (by decide)).2.2
  have e1 : a1 x = N8 (fun i => t1 (byt x i)) 8 := by
    have := a1_N8 (byt x) hb h8
    rw [← e0] at this
    exact this
  have e2 : a2 (a1 x) = N8 (fun i => t2 (t1 (byt x i))) 8 := by
    rw [e1]
    exact a2_N8 (fun i => t1 (byt x i)) hb1 (by show t1 (byt x 8) = 0; rw [h8]; exact t10)
  have e3 : a3 (a2 (a1 x)) = N8 (fun i => pcb (byt x i)) 8 := by
    rw [e2]
    exact a3_N8 (fun i => t2 (t1 (byt x i))) (fun i => (t3_all _ (hb i)).1) (fun i => (t3_all _ (hb i)).2.1) (by show t2 (t1 (byt x 8)) = 0; rw [h8, t10]; exact t20)
  have hp : ∀ i, pcb (byt x i) ≤ 8 := fun i => (t3_all _ (hb i)).2.2.1
  have hF := fold_eight (pcb (byt x 0)) (pcb (byt x 1)) (pcb (byt x 2)) (pcb (byt x 3)) (pcb (byt x 4)) (pcb (byt x 5)) (pcb (byt x 6)) (pcb (byt x 7)) (N8 (fun i => pcb (byt x (i + 1))) 7) (N8 (fun i => pcb (byt x (i + 2))) 6) (N8 (fun i => pcb (byt x (i + 3))) 5) (N8 (fun i => pcb (byt x (i + 4))) 4) (N8 (fun i => pcb (byt x (i + 5))) 3) (N8 (fun i => pcb (byt x (i + 6))) 2) (a3 (a2 (a1 x))) (hp 0) (hp 1) (hp 2) (hp 3) (hp 4) (hp 5) (hp 6) (hp 7) e3 rfl rfl rfl rfl rfl rfl
  have l1 : a1 x < 2 ^ 64 := by
    have h1 := and_small (x / 2) 6148914691236517205 (by decide)
    have h2 := and_small x 6148914691236517205 (by decide)
    unfold a1; omega
  have l2 : a2 (a1 x) < 2 ^ 63 := by
    have h1 : (a1 x / 4 &&& 3689348814741910323) < 2 ^ 62 := Nat.and_lt_two_pow _ (by decide)
    have h2 : (a1 x &&& 3689348814741910323) < 2 ^ 62 := Nat.and_lt_two_pow _ (by decide)
    have : a2 (a1 x) = (a1 x / 4 &&& 3689348814741910323) + (a1 x &&& 3689348814741910323) := rfl
    omega
  refine ⟨l1, by omega, by omega, hF.1, hF.2.1, hF.2.2.1, ?_⟩
  rw [hF.2.2.2]
  rfl
end Go.Proofs.Yteahmicbgimomaa
