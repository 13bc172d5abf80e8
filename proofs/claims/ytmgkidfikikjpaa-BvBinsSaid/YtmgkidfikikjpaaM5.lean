/-
  Plain arithmetic of the ring laws and of division with and without signs; nothing here speaks of the program.
-/
import Derived.Test.YtmgkidfikikjpaaM4
namespace Go.Proofs.Ytmgkidfikikjpaa
open Go
theorem ring_sub (P x y : Nat) (hx : x < P) (hy : y < P) : ((x + y) % P + P - y) % P = x := by
  by_cases h : x + y < P
  · rw [Nat.mod_eq_of_lt h, show x + y + P - y = x + P by omega, Nat.add_mod_right, Nat.mod_eq_of_lt hx]
  · have e : (x + y) % P = x + y - P := by rw [Nat.mod_eq_sub_mod (by omega), Nat.mod_eq_of_lt (by omega)]
    rw [e, show x + y - P + P - y = x by omega, Nat.mod_eq_of_lt hx]
theorem neg_cases (P y : Nat) (hy : y < P) : (y = 0 ∧ (0 + P - y) % P = 0) ∨ (0 < y ∧ (0 + P - y) % P = P - y) := by
  rcases Nat.eq_zero_or_pos y with h | h
  · left; subst h; simp
  · right; exact ⟨h, by rw [Nat.zero_add, Nat.mod_eq_of_lt (by omega)]⟩
theorem ring_neg (P x y : Nat) (hy : y < P) : (x + (0 + P - y) % P) % P = (x + P - y) % P := by
  rcases neg_cases P y hy with ⟨rfl, h⟩ | ⟨h0, h⟩
  · rw [h, Nat.sub_zero, Nat.add_zero, Nat.add_mod_right]
  · rw [h]; congr 1; omega
theorem ring_assoc (P x y z : Nat) : ((x + y) % P + z) % P = (x + (y + z) % P) % P := by
  rw [Nat.mod_add_mod, Nat.add_mod_mod, Nat.add_assoc]
theorem ring_distr (P x y z : Nat) : (x + y) % P * z % P = (x * z % P + y * z % P) % P := by
  rw [Nat.mod_mul_mod, Nat.add_mul, ← Nat.add_mod]

/-- The absolute value of a signed number of n bits. -/
def magN (n x : Nat) : Nat := if x.testBit (n - 1) then (0 + 2 ^ n - x) % 2 ^ n else x
/-- Turned where the sign asks it. -/
def sgnN (n : Nat) (b : Bool) (x : Nat) : Nat := if b then (0 + 2 ^ n - x) % 2 ^ n else x
def sdivN (n x y : Nat) : Nat := sgnN n (x.testBit (n - 1) != y.testBit (n - 1)) (magN n x / magN n y)
def sremN (n x y : Nat) : Nat := sgnN n (x.testBit (n - 1)) (magN n x % magN n y)
theorem sgnN_lt (n : Nat) (b : Bool) (x : Nat) (hx : x < 2 ^ n) : sgnN n b x < 2 ^ n := by
  unfold sgnN; split
  · exact Nat.mod_lt _ (Nat.pow_pos (by decide))
  · exact hx
theorem magN_eq (n x : Nat) : magN n x = sgnN n (x.testBit (n - 1)) x := rfl
theorem magN_lt (n x : Nat) (hx : x < 2 ^ n) : magN n x < 2 ^ n := sgnN_lt n _ x hx
theorem two_half (n : Nat) (hn : 1 ≤ n) : 2 ^ n = 2 * 2 ^ (n - 1) := by rw [← Nat.pow_succ']; congr 1; omega
theorem magN_le (n x : Nat) (hn : 1 ≤ n) (hx : x < 2 ^ n) : magN n x ≤ 2 ^ (n - 1) := by
  have e := two_half n hn
  have ht := top_bit n x hx hn
  unfold magN
  rw [ht]
  have hp : 0 < 2 ^ (n - 1) := Nat.pow_pos (by decide)
  by_cases h : 2 ^ (n - 1) ≤ x
  · simp only [h, decide_true, if_true]
    rw [Nat.zero_add, Nat.mod_eq_of_lt (by omega)]; omega
  · simp only [h, decide_false, Bool.false_eq_true, if_false]; omega
theorem magN_pos (n x : Nat) (hx : x < 2 ^ n) (h0 : 0 < x) : 0 < magN n x := by
  unfold magN; split
  · rw [Nat.zero_add, Nat.mod_eq_of_lt (by omega)]; omega
  · exact h0
/-- The sign as a number. -/
def sg (b : Bool) : Int := if b then -1 else 1
theorem sgnN_int (n : Nat) (b : Bool) (x : Nat) (hx : x < 2 ^ n) : ∃ k : Int, ((sgnN n b x : Nat) : Int) = sg b * (x : Int) + ((2 ^ n : Nat) : Int) * k := by
  unfold sgnN sg
  cases b
  · exact ⟨0, by simp⟩
  · simp only [if_true]
    rcases neg_cases (2 ^ n) x hx with ⟨rfl, h⟩ | ⟨h0, h⟩
    · exact ⟨0, by rw [h]; simp⟩
    · refine ⟨1, ?_⟩
      rw [h]
      omega
theorem magN_int (n : Nat) (x : Nat) (hx : x < 2 ^ n) : ∃ k : Int, (x : Int) = sg (x.testBit (n - 1)) * ((magN n x : Nat) : Int) + ((2 ^ n : Nat) : Int) * k := by
  obtain ⟨k, hk⟩ := sgnN_int n (x.testBit (n - 1)) x hx
  rw [← magN_eq] at hk
  generalize x.testBit (n - 1) = b at *
  unfold sg at *
  cases b
  · simp only [Bool.false_eq_true, if_false] at *
    refine ⟨-k, ?_⟩
    generalize ((2 ^ n : Nat) : Int) = P at *
    grind
  · simp only [if_true] at *
    refine ⟨k, ?_⟩
    generalize ((2 ^ n : Nat) : Int) = P at *
    grind
theorem sg_xor (a b : Bool) : sg (a != b) = sg a * sg b := by cases a <;> cases b <;> rfl
theorem sg_sq (a : Bool) : sg a * sg a = 1 := by cases a <;> rfl
theorem comb (P s t X Y Q M mx my q r kx ky kq km : Int) (ht : t * t = 1) (hx : X = s * mx + P * kx) (hy : Y = t * my + P * ky) (hq : Q = s * t * q + P * kq) (hm : M = s * r + P * km) (hd : mx = my * q + r) :
    Q * Y + M - X = P * (s * t * q * ky + kq * (t * my) + P * (kq * ky) + km - kx) := by
  subst hx hy hq hm hd
  have e : s * t * q * (t * my) = s * (my * q) := by
    have : s * t * q * (t * my) = (t * t) * (s * (my * q)) := by grind
    rw [this, ht]; grind
  grind
/-- The dividend is the quotient times the divisor and the rest, with signs. -/
theorem sdiv_ok (n x y : Nat) (hx : x < 2 ^ n) (hy : y < 2 ^ n) : (sdivN n x y * y % 2 ^ n + sremN n x y) % 2 ^ n = x := by
  have hmx := magN_lt n x hx
  obtain ⟨kx, ex⟩ := magN_int n x hx
  obtain ⟨ky, ey⟩ := magN_int n y hy
  obtain ⟨kq, eq⟩ := sgnN_int n (x.testBit (n - 1) != y.testBit (n - 1)) (magN n x / magN n y) (Nat.lt_of_le_of_lt (Nat.div_le_self _ _) hmx)
  obtain ⟨km, em⟩ := sgnN_int n (x.testBit (n - 1)) (magN n x % magN n y) (Nat.lt_of_le_of_lt (Nat.mod_le _ _) hmx)
  change ((sdivN n x y : Nat) : Int) = _ at eq
  change ((sremN n x y : Nat) : Int) = _ at em
  rw [sg_xor] at eq
  have hd : ((magN n x : Nat) : Int) = (magN n y : Nat) * ((magN n x / magN n y : Nat) : Int) + ((magN n x % magN n y : Nat) : Int) := by
    have := Nat.div_add_mod (magN n x) (magN n y)
    exact_mod_cast this.symm
  have hc := comb _ _ _ _ _ _ _ _ _ _ _ kx ky kq km (sg_sq _) ex ey eq em hd
  have hdv : ((2 ^ n : Nat) : Int) ∣ ((sdivN n x y * y + sremN n x y : Nat) : Int) - (x : Int) := ⟨_, by push_cast; push_cast at hc; exact hc⟩
  rw [Nat.mod_add_mod]
  have h2 : (((sdivN n x y * y + sremN n x y : Nat) : Int)) % ((2 ^ n : Nat) : Int) = (x : Int) % ((2 ^ n : Nat) : Int) := Int.emod_eq_emod_iff_emod_sub_eq_zero.2 (Int.emod_eq_zero_of_dvd hdv)
  have h3 : (sdivN n x y * y + sremN n x y) % 2 ^ n = x % 2 ^ n := by exact_mod_cast h2
  rw [h3, Nat.mod_eq_of_lt hx]
/-- The sign of the rest is that of the dividend. -/
theorem srem_sign (n x y : Nat) (hn : 1 ≤ n) (hy : y < 2 ^ n) (h0 : 0 < y) (hm : sremN n x y ≠ 0) : (sremN n x y).testBit (n - 1) = x.testBit (n - 1) := by
  have e := two_half n hn
  have hp : 0 < 2 ^ (n - 1) := Nat.pow_pos (by decide)
  have hmy := magN_pos n y hy h0
  have hle := magN_le n y hn hy
  have hr := Nat.mod_lt (magN n x) hmy
  have hlt : sremN n x y < 2 ^ n := sgnN_lt n _ _ (by omega)
  rw [top_bit n _ hlt hn]
  unfold sremN sgnN at *
  generalize magN n x % magN n y = r at *
  cases hb : x.testBit (n - 1)
  · simp only [hb, Bool.false_eq_true, if_false] at *
    simp; omega
  · simp only [hb, if_true] at *
    rcases neg_cases (2 ^ n) r (by omega) with ⟨rfl, h⟩ | ⟨h1, h⟩
    · exact absurd h hm
    · rw [h]; simp; omega
end Go.Proofs.Ytmgkidfikikjpaa
