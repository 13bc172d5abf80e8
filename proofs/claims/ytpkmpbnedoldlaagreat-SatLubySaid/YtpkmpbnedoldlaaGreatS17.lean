/-
  Luby of the program and of the reference; Enough.
-/
import Derived.Test.YtpkmpbnedoldlaaGreatS1
import Derived.Test.YtpkmpbnedoldlaaGreatLc
namespace Go.Proofs.YtpkmpbnedoldlaaGreat
open Go.RowKit Go.Lib
def lubN : Nat → Nat → Nat
  | 0, _ => 0
  | f+1, i => if i = 0 then 0 else if i - 2 ^ Nat.log2 i = 2 ^ Nat.log2 i - 1 then 2 ^ Nat.log2 i else lubN f (i - (2 ^ Nat.log2 i - 1))
/-- A number's lowest bit. -/
def low : Nat → Nat → Nat
  | 0, _ => 0
  | f+1, u => if u % 2 = 1 then 1 else 2 * low f (u / 2)
def stp (s : Nat × Nat) : Nat × Nat := if low 13 s.1 = s.2 then (s.1 + 1, 1) else (s.1, 2 * s.2)
def chk : Nat → Nat → Nat × Nat → Bool
  | 0, _, _ => true
  | f+1, n, s => lubN 13 n == s.2 && Nat.ble s.1 3000 && Nat.ble s.2 4096 && chk f (n+1) (stp s)
def sq : Nat → Nat × Nat
  | 0 => (1, 1)
  | n+1 => stp (sq n)
set_option maxRecDepth 100000 in
theorem chk_all : chk 3001 1 (1, 1) = true := by decide +kernel
theorem chk_get : ∀ (f n : Nat) (s : Nat × Nat), chk f n s = true → ∀ (m k : Nat), s = sq m → n = m + 1 → k < f → lubN 13 (m + k + 1) = (sq (m + k)).2 ∧ (sq (m + k)).1 ≤ 3000 ∧ (sq (m + k)).2 ≤ 4096
  | 0, _, _, _, _, k, _, _, hk => absurd hk (Nat.not_lt_zero k)
  | f+1, n, s, h, m, k, hs, hn, hk => by
    simp only [chk, Bool.and_eq_true, beq_iff_eq, Nat.ble_eq] at h
    obtain ⟨⟨⟨h1, h2⟩, h3⟩, h4⟩ := h
    cases k with
    | zero => subst hs; subst hn; exact ⟨h1, h2, h3⟩
    | succ k =>
      have := chk_get f (n+1) (stp s) h4 (m+1) k (by rw [hs]; rfl) (by omega) (by omega)
      rwa [show m + 1 + k = m + (k + 1) by omega] at this
theorem lub_sq (n : Nat) (hn : n ≤ 3000) : lubN 13 (n + 1) = (sq n).2 ∧ (sq n).1 ≤ 3000 ∧ (sq n).2 ≤ 4096 := by
  have := chk_get 3001 1 (1, 1) chk_all 0 n rfl rfl (by omega)
  simpa using this
theorem sq_pos : ∀ n, 1 ≤ (sq n).1 ∧ 1 ≤ (sq n).2
  | 0 => ⟨Nat.le_refl _, Nat.le_refl _⟩
  | n+1 => by
    have h := sq_pos n
    show 1 ≤ (stp (sq n)).1 ∧ 1 ≤ (stp (sq n)).2
    unfold stp
    split
    · exact ⟨by simp, Nat.le_refl _⟩
    · exact ⟨h.1, by simp; omega⟩
def chb : Nat → Bool
  | 0 => true
  | u+1 => bits BinOp.and IntKind.i64 ((u + 1 : Nat) : Int) (-((u + 1 : Nat) : Int)) == ((low 13 (u + 1) : Nat) : Int) && chb u
set_option maxRecDepth 100000 in
theorem chb_all : chb 3000 = true := by decide +kernel
theorem chb_get : ∀ (n u : Nat), chb n = true → 1 ≤ u → u ≤ n → bits BinOp.and IntKind.i64 (u : Int) (-(u : Int)) = ((low 13 u : Nat) : Int)
  | 0, u, _, h1, h2 => by omega
  | n+1, u, h, h1, h2 => by
    simp only [chb, Bool.and_eq_true, beq_iff_eq] at h
    by_cases e : u = n + 1
    · rw [e]; exact h.1
    · exact chb_get n u h.2 h1 (by omega)
set_option maxRecDepth 100000 in
theorem refLuby_t (n : Int) (w : World) (h0 : -2 ≤ n) (h1 : n ≤ 3000) (R : Int) (hR : R = if n < 1 then 0 else ((sq (n.toNat - 1)).2 : Int)) : Calls Tryz.prog 6 #[.int .i64 n] w (RW w (.int .i64 R)) := by
  replace hR := Lib.hid hR
  go_enter Tryz.func6, Tryz.ntmps6
  go_wp2_with fail
  go_loopw [3, 4, 5] (fun u v nn wr => ∃ k : Nat, u = .int .i64 ((sq k).1 : Int) ∧ v = .int .i64 ((sq k).2 : Int) ∧ nn = .int .i64 ((k + 1 : Nat) : Int) ∧ (k = 0 ∨ (k : Int) + 1 ≤ n) ∧ wr = w) (fun _ _ nn _ => (n - intOf nn).toNat)
  case atStart => exact ⟨0, rfl, rfl, rfl, .inl rfl, rfl⟩
  case round =>
    obtain ⟨k, rfl, rfl, rfl, hk, rfl⟩ := hrel
    have hp := sq_pos k
    have hkl : k ≤ 3000 := by omega
    obtain ⟨hl1, hl2, hl3⟩ := lub_sq k hkl
    have hst : sq (k + 1) = stp (sq k) := rfl
    obtain ⟨u, hu⟩ : ∃ u, (sq k).1 = u := ⟨_, rfl⟩
    obtain ⟨v, hv⟩ : ∃ v, (sq k).2 = v := ⟨_, rfl⟩
    rw [hu] at hl2 hp
    rw [hv] at hl3 hp
    rw [hu, hv]
    by_cases hlt : (k : Int) + 1 < n
    · have hb := chb_get 3000 u chb_all hp.1 hl2
      by_cases hc : low 13 u = v
      · have hq : sq (k + 1) = (u + 1, 1) := by
          rw [hst]; unfold stp; rw [hu, hv, if_pos hc]
        rw [hc] at hb
        have hd : (bits BinOp.and IntKind.i64 (u : Int) (-(u : Int)) == (v : Int)) = true := by rw [hb]; simp
        clear hst hl1 hb
        replace hu := Lib.hid hu
        replace hv := Lib.hid hv
        replace hq := Lib.hid hq
        go_wp2_with fail
        go_roundw
        case rel => exact ⟨k + 1, by rw [hq.out]; rfl, by rw [hq.out]; rfl, by simp, .inr (by omega), trivial⟩
        case measure => (change (n - ((k : Int) + 1 + 1)).toNat < (n - ((k + 1 : Nat) : Int)).toNat; omega)
      · have hq : sq (k + 1) = (u, 2 * v) := by
          rw [hst]; unfold stp; rw [hu, hv, if_neg hc]
        have hd : (bits BinOp.and IntKind.i64 (u : Int) (-(u : Int)) == (v : Int)) = false := by rw [hb]; simp; omega
        clear hst hl1 hb
        replace hu := Lib.hid hu
        replace hv := Lib.hid hv
        replace hq := Lib.hid hq
        go_wp2_with fail
        go_roundw
        case rel => exact ⟨k + 1, by rw [hq.out], by rw [hq.out]; simp, by simp, .inr (by omega), trivial⟩
        case measure => (change (n - ((k : Int) + 1 + 1)).toNat < (n - ((k + 1 : Nat) : Int)).toNat; omega)
    · have hRv : R = if n < 1 then 0 else (v : Int) := by
        rw [hR.out]
        by_cases h1 : n < 1
        · rw [if_pos h1, if_pos h1]
        · rw [if_neg h1, if_neg h1, show n.toNat - 1 = k by omega, hv]
      by_cases hn1 : n < 1
      · rw [if_pos hn1] at hRv
        subst hRv
        clear hst hl1 hu hv
        go_wp2_with fail
        go_ret
        exact ⟨rfl, rfl⟩
      · rw [if_neg hn1] at hRv
        subst hRv
        clear hst hl1 hu hv
        go_wp2_with fail
        go_ret
        exact ⟨rfl, rfl⟩
end Go.Proofs.YtpkmpbnedoldlaaGreat
