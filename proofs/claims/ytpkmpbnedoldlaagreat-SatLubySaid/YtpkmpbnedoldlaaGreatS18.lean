/-
  Luby of the program; Enough.
-/
import Derived.Test.YtpkmpbnedoldlaaGreatS17
namespace Go.Proofs.YtpkmpbnedoldlaaGreat
open Go.RowKit Go.Lib
theorem lub_step (f m : Nat) (h0 : 0 < m) (h : m < 2 ^ (f + 1)) (hne : m - 2 ^ Nat.log2 m ≠ 2 ^ Nat.log2 m - 1) : m - (2 ^ Nat.log2 m - 1) < 2 ^ f ∧ 2 ≤ 2 ^ Nat.log2 m := by
  have h1 : 2 ^ Nat.log2 m ≤ m := Nat.log2_self_le (by omega)
  have h2 : m < 2 ^ (Nat.log2 m + 1) := Nat.lt_log2_self
  have h3 : Nat.log2 m < f + 1 := (Nat.log2_lt (by omega)).2 h
  rw [Nat.pow_succ] at h2
  have h4 : 1 ≤ 2 ^ Nat.log2 m := Nat.one_le_two_pow
  constructor
  · rcases Nat.lt_or_ge (Nat.log2 m) f with h5 | h5
    · have : 2 ^ (Nat.log2 m + 1) ≤ 2 ^ f := Nat.pow_le_pow_right (by decide) h5
      rw [Nat.pow_succ] at this
      omega
    · have e : Nat.log2 m = f := by omega
      rw [e] at hne h1 h2 ⊢
      omega
  · omega
def chl : Nat → Bool
  | 0 => true
  | m+1 => Lib.bitLen (m + 1) == Nat.log2 (m + 1) + 1 && Nat.ble (Nat.log2 (m + 1)) 11 && chl m
set_option maxRecDepth 100000 in
theorem chl_all : chl 3000 = true := by decide +kernel
theorem chl_get : ∀ (n u : Nat), chl n = true → 1 ≤ u → u ≤ n → Lib.bitLen u = Nat.log2 u + 1 ∧ Nat.log2 u ≤ 11
  | 0, u, _, h1, h2 => by omega
  | n+1, u, h, h1, h2 => by
    simp only [chl, Bool.and_eq_true, beq_iff_eq, Nat.ble_eq] at h
    by_cases e : u = n + 1
    · rw [e]; exact h.1
    · exact chl_get n u h.2 h1 (by omega)
theorem wrap_pow (L : Nat) (h : L ≤ 11) : wrap64 ((2 : Int) ^ L) = ((2 ^ L : Nat) : Int) := by
  match L, h with
  | 0, _ | 1, _ | 2, _ | 3, _ | 4, _ | 5, _ | 6, _ | 7, _ | 8, _ | 9, _ | 10, _ | 11, _ => exact (by decide +kernel)
set_option maxRecDepth 100000 in
theorem luby_t (n : Int) (w : World) (h0 : -2 ≤ n) (h1 : n ≤ 3000) (R : Int) (hR : R = if n < 1 then 0 else ((lubN 13 n.toNat : Nat) : Int)) : Calls Tryz.prog 5 #[.int .i64 n] w (RW w (.int .i64 R)) := by
  have hB := fun (m : Nat) (hm : m ≤ 3000) => Tryz.bits_Len (m : Int) w (by omega) (by omega)
  replace hR := Lib.hid hR
  replace hB := Lib.hid hB
  go_enter Tryz.func5, Tryz.ntmps5
  go_wp2_with fail
  go_loopw [0] (fun v wr => ∃ x : Int, v = .int .i64 x ∧ x ≤ 3000 ∧ (n < 1 → x = n) ∧ (1 ≤ n → ∃ f m : Nat, x = (m : Int) ∧ 0 < m ∧ m < 2 ^ f ∧ ((lubN f m : Nat) : Int) = R) ∧ wr = w) (fun v _ => (intOf v).toNat)
  case atStart => exact ⟨n, rfl, h1, fun _ => rfl, fun h => ⟨13, n.toNat, by omega, by omega, by omega, by rw [hR.out, if_neg (by omega)]⟩, rfl⟩
  case round =>
    obtain ⟨x, rfl, hx, hn1, hn2, rfl⟩ := hrel
    by_cases hlt : n < 1
    · have e := hn1 hlt
      subst e
      have e2 := hR.out
      rw [if_pos hlt] at e2
      subst e2
      clear hn1 hn2
      go_wp2_with fail
      go_ret
      exact ⟨rfl, rfl⟩
    · obtain ⟨f, m, rfl, hm0, hmf, hL⟩ := hn2 (by omega)
      clear hn1 hn2
      have hBm := Lib.hid (hB.out m (by omega))
      obtain ⟨f, rfl⟩ : ∃ g, f = g + 1 := ⟨f - 1, by
        cases f with
        | zero => simp at hmf; omega
        | succ g => rfl⟩
      obtain ⟨hb1, hb2⟩ := chl_get 3000 m chl_all hm0 (by omega)
      have hst := lub_step f m hm0 hmf
      have h1p : 2 ^ Nat.log2 m ≤ m := Nat.log2_self_le (by omega)
      have hpp : 1 ≤ 2 ^ Nat.log2 m := Nat.one_le_two_pow
      have hB2 := hBm.out
      rw [Int.toNat_natCast, hb1] at hB2
      have hS := wrap_pow _ hb2
      have hlb : lubN (f + 1) m = if m - 2 ^ Nat.log2 m = 2 ^ Nat.log2 m - 1 then 2 ^ Nat.log2 m else lubN f (m - (2 ^ Nat.log2 m - 1)) := by
        rw [lubN, if_neg (by omega)]
      rw [hlb] at hL
      obtain ⟨p, hp⟩ : ∃ p, 2 ^ Nat.log2 m = p := ⟨_, rfl⟩
      obtain ⟨L, hLL⟩ : ∃ L, Nat.log2 m = L := ⟨_, rfl⟩
      rw [hLL] at hp hb2 hB2 hS
      rw [hLL, hp] at hst h1p hpp hL
      rw [hp] at hS
      clear hlb hb1 hp hLL hBm
      replace hmf := Lib.hid hmf
      replace hL := Lib.hid hL
      replace hst := Lib.hid hst
      replace hB2 := Lib.hid hB2
      go_wp2_with fail
      (with_reducible refine hB2.out.mono ?_)
      rintro e w2 ⟨rfl, rfl⟩
      by_cases hq : m - p = p - 1
      · have hL2 := hL.out
        rw [if_pos hq] at hL2
        subst hL2
        have hq2 : (((m : Int) - (p : Int)) == ((p : Int) - 1)) = true := by simp; omega
        clear hL hst
        go_wp2_with fail
        go_ret
        exact ⟨congrArg (fun x => Ending.returned (Value.int IntKind.i64 x)) hS, rfl⟩
      · have hL2 := hL.out
        rw [if_neg hq] at hL2
        have hst2 := hst.out hq
        have hq2 : (((m : Int) - (p : Int)) == ((p : Int) - 1)) = false := by simp; omega
        have hq3 := hst2.2
        replace hL2 := Lib.hid hL2
        replace hst2 := Lib.hid hst2
        clear hL hst
        go_wp2_with fail
        go_roundw
        case rel =>
          refine ⟨_, rfl, by omega, fun h => by omega, fun _ => ⟨f, m - (p - 1), by omega, by omega, hst2.out.1, hL2.out⟩, trivial⟩
        case measure => (change ((m : Int) - ((p : Int) - 1)).toNat < ((m : Int)).toNat; omega)
theorem pow3_le (k : Nat) (hk : k ≤ 35) : 6 * 3 ^ k ≤ 300189270593998242 := by
  have h := Nat.pow_le_pow_right (n := 3) (by decide) hk
  have e : 3 ^ 35 = 50031545098999707 := by decide +kernel
  omega
set_option maxRecDepth 100000 in
theorem enough_t (n : Int) (w : World) (h0 : -3 ≤ n) (h1 : n ≤ 41) (R : Int) (hR : R = if 35 < n then 4611686018427387904 else 6 * 3 ^ n.toNat) : Calls Tryz.prog 7 #[.int .i64 n] w (RW w (.int .i64 R)) := by
  by_cases hb : 35 < n
  · rw [if_pos hb] at hR
    subst hR
    go_enter Tryz.func7, Tryz.ntmps7
    go_wp2_with fail
    go_ret
    exact ⟨rfl, rfl⟩
  · rw [if_neg hb] at hR
    replace hR := Lib.hid hR
    go_enter Tryz.func7, Tryz.ntmps7
    go_wp2_with fail
    go_loopw [3, 7] (fun v q wr => ∃ k : Nat, v = .int .i64 ((6 * 3 ^ k : Nat) : Int) ∧ q = .int .i64 (k : Int) ∧ (k = 0 ∨ (k : Int) ≤ n) ∧ wr = w) (fun _ q _ => (n - intOf q).toNat)
    case atStart => exact ⟨0, rfl, rfl, .inl rfl, rfl⟩
    case round =>
      obtain ⟨k, rfl, rfl, hk, rfl⟩ := hrel
      have hp := pow3_le k (by omega)
      obtain ⟨V, hV⟩ : ∃ V, 6 * 3 ^ k = V := ⟨_, rfl⟩
      rw [hV] at hp ⊢
      by_cases hlt : (k : Int) < n
      · replace hV := Lib.hid hV
        go_wp2_with fail
        go_roundw
        case rel => exact ⟨k + 1, by rw [Nat.pow_succ, ← Nat.mul_assoc, hV.out]; simp, by simp, .inr (by omega), trivial⟩
        case measure => (change (n - ((k : Int) + 1)).toNat < (n - (k : Int)).toNat; omega)
      · have e : R = (V : Int) := by
          rw [hR.out, ← hV, show n.toNat = k by omega]
          simp
        subst e
        clear hV
        go_wp2_with fail
        go_ret
        exact ⟨rfl, rfl⟩
end Go.Proofs.YtpkmpbnedoldlaaGreat
