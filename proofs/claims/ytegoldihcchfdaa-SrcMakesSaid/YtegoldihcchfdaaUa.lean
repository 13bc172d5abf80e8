/-
  The walks of the reference for files: named, New; of the statements' few and Files; of src's Get and Find.
-/
import Derived.Test.YtegoldihcchfdaaTd0
namespace Go.Proofs.Ytegoldihcchfdaa
open Go.RowKit
theorem namF_step (s : ByteArray) (k : Nat) (h : k < s.size) : namF s (s.size - k) k = if forB (s[k]'h).toNat then false else namF s (s.size - (k + 1)) (k + 1) := by
  obtain ⟨d, hd⟩ : ∃ d, s.size - k = d + 1 := ⟨s.size - k - 1, by omega⟩
  rw [hd, show s.size - (k + 1) = d by omega]
  show (if h : k < s.size then _ else _) = _
  rw [dif_pos h]

set_option maxRecDepth 100000 in
set_option maxHeartbeats 2000000 in
theorem named_t (s : ByteArray) (w : World) (hs : s.size ≤ 9223372036854775807) : Calls Try.prog 26 #[.string s] w fun e w' => e = .returned (.bool (nameB s)) ∧ w = w' := by
  go_enter Try.func26, Try.ntmps26
  go_wp2
  go_loop [3] (fun i => ∃ k : Nat, k ≤ s.size ∧ i = .int .i64 (k : Int) ∧ namF s (s.size - k) k = namB s) (fun i => s.size - (intOf i).toNat)
  case atStart => exact ⟨0, Nat.zero_le _, rfl, rfl⟩
  case round =>
    obtain ⟨k, hk, rfl, hl⟩ := hrel
    by_cases hlt : k < s.size
    · rw [namF_step s k hlt] at hl
      have hc : (97 ≤ s[k].toNat ∧ s[k].toNat ≤ 122) ∨ (s[k].toNat < 97 ∧ 65 ≤ s[k].toNat ∧ s[k].toNat ≤ 90) ∨ (s[k].toNat < 65 ∧ 48 ≤ s[k].toNat ∧ s[k].toNat ≤ 57) ∨ s[k].toNat = 95 ∨ s[k].toNat = 45 ∨ s[k].toNat = 46 ∨ 122 < s[k].toNat ∨ (s[k].toNat < 97 ∧ 90 < s[k].toNat ∧ s[k].toNat ≠ 95) ∨ (s[k].toNat < 65 ∧ 57 < s[k].toNat) ∨ (s[k].toNat < 48 ∧ s[k].toNat ≠ 45 ∧ s[k].toNat ≠ 46) := by omega
      rcases hc with hc | hc | hc | hc | hc | hc | hc | hc | hc | hc
      · rw [if_neg (by rw [forB_no (by omega)]; decide)] at hl
        replace hl := Lib.hid hl
        go_wp2
        all_goals exact ⟨⟨k + 1, by omega, by go_num, hl.out⟩, by simp [intOf]; omega⟩
      · rw [if_neg (by rw [forB_no (by omega)]; decide)] at hl
        replace hl := Lib.hid hl
        go_wp2
        all_goals exact ⟨⟨k + 1, by omega, by go_num, hl.out⟩, by simp [intOf]; omega⟩
      · rw [if_neg (by rw [forB_no (by omega)]; decide)] at hl
        replace hl := Lib.hid hl
        go_wp2
        all_goals exact ⟨⟨k + 1, by omega, by go_num, hl.out⟩, by simp [intOf]; omega⟩
      · rw [if_neg (by rw [forB_no (by omega)]; decide)] at hl
        have b95 : ((s[k].toNat : Int) == 95) = true := by simp; omega
        have b45 : ((s[k].toNat : Int) == 45) = false := by simp; omega
        have b46 : ((s[k].toNat : Int) == 46) = false := by simp; omega
        replace hl := Lib.hid hl
        go_wp2
        all_goals exact ⟨⟨k + 1, by omega, by go_num, hl.out⟩, by simp [intOf]; omega⟩
      · rw [if_neg (by rw [forB_no (by omega)]; decide)] at hl
        have b95 : ((s[k].toNat : Int) == 95) = false := by simp; omega
        have b45 : ((s[k].toNat : Int) == 45) = true := by simp; omega
        have b46 : ((s[k].toNat : Int) == 46) = false := by simp; omega
        replace hl := Lib.hid hl
        go_wp2
        all_goals exact ⟨⟨k + 1, by omega, by go_num, hl.out⟩, by simp [intOf]; omega⟩
      · rw [if_neg (by rw [forB_no (by omega)]; decide)] at hl
        have b95 : ((s[k].toNat : Int) == 95) = false := by simp; omega
        have b45 : ((s[k].toNat : Int) == 45) = false := by simp; omega
        have b46 : ((s[k].toNat : Int) == 46) = true := by simp; omega
        replace hl := Lib.hid hl
        go_wp2
        all_goals exact ⟨⟨k + 1, by omega, by go_num, hl.out⟩, by simp [intOf]; omega⟩
      · rw [if_pos (forB_yes (by omega))] at hl
        have b95 : ((s[k].toNat : Int) == 95) = false := by simp; omega
        have b45 : ((s[k].toNat : Int) == 45) = false := by simp; omega
        have b46 : ((s[k].toNat : Int) == 46) = false := by simp; omega
        have d122 : decide ((s[k].toNat : Int) ≤ 122) = false := by simp; omega
        have d90 : decide ((s[k].toNat : Int) ≤ 90) = false := by simp; omega
        have d57 : decide ((s[k].toNat : Int) ≤ 57) = false := by simp; omega
        have e := Lib.hid (show nameB s = false by unfold nameB; rw [← hl]; simp)
        clear hl
        go_wp2
        go_ret
        exact ⟨by rw [e.out]; rfl, rfl⟩
      · rw [if_pos (forB_yes (by omega))] at hl
        have b95 : ((s[k].toNat : Int) == 95) = false := by simp; omega
        have b45 : ((s[k].toNat : Int) == 45) = false := by simp; omega
        have b46 : ((s[k].toNat : Int) == 46) = false := by simp; omega
        have d90 : decide ((s[k].toNat : Int) ≤ 90) = false := by simp; omega
        have d57 : decide ((s[k].toNat : Int) ≤ 57) = false := by simp; omega
        have e := Lib.hid (show nameB s = false by unfold nameB; rw [← hl]; simp)
        clear hl
        go_wp2
        go_ret
        exact ⟨by rw [e.out]; rfl, rfl⟩
      · rw [if_pos (forB_yes (by omega))] at hl
        have b95 : ((s[k].toNat : Int) == 95) = false := by simp; omega
        have b45 : ((s[k].toNat : Int) == 45) = false := by simp; omega
        have b46 : ((s[k].toNat : Int) == 46) = false := by simp; omega
        have d57 : decide ((s[k].toNat : Int) ≤ 57) = false := by simp; omega
        have e := Lib.hid (show nameB s = false by unfold nameB; rw [← hl]; simp)
        clear hl
        go_wp2
        go_ret
        exact ⟨by rw [e.out]; rfl, rfl⟩
      · rw [if_pos (forB_yes (by omega))] at hl
        have b95 : ((s[k].toNat : Int) == 95) = false := by simp; omega
        have b45 : ((s[k].toNat : Int) == 45) = false := by simp; omega
        have b46 : ((s[k].toNat : Int) == 46) = false := by simp; omega
        have e := Lib.hid (show nameB s = false by unfold nameB; rw [← hl]; simp)
        clear hl
        go_wp2
        go_ret
        exact ⟨by rw [e.out]; rfl, rfl⟩
    · obtain rfl : k = s.size := by omega
      rw [Nat.sub_self] at hl
      have hl2 : namB s = true := by rw [← hl]; rfl
      clear hl
      by_cases h1 : 1 ≤ s.size
      · have e := Lib.hid (show nameB s = decide (s.size ≤ 40) by unfold nameB; rw [hl2]; simp; omega)
        clear hl2
        go_wp2
        go_ret
        exact ⟨by rw [e.out]; exact ret_bool (by simp; omega), rfl⟩
      · have e := Lib.hid (show nameB s = false by unfold nameB; simp; omega)
        have h2 : decide ((1 : Int) ≤ (s.size : Int)) = false := by simp; omega
        clear hl2
        go_wp2
        go_ret
        exact ⟨by rw [e.out]; exact ret_bool (by simp), rfl⟩
/-- The sum of sizes as the reference counts it. -/
def clB (tx : Nat → ByteArray) : Nat → Nat
  | 0 => 0
  | k + 1 => if 1000000 < clB tx k + (tx k).size then 1000000 else clB tx k + (tx k).size
theorem clB_le (tx : Nat → ByteArray) : ∀ k, clB tx k ≤ 1000000
  | 0 => by simp [clB]
  | k + 1 => by unfold clB; split <;> omega
theorem clB_tot (tx : Nat → ByteArray) : ∀ k, (clB tx k = totB tx k) ∨ (clB tx k = 1000000 ∧ 1000000 ≤ totB tx k)
  | 0 => .inl rfl
  | k + 1 => by
    have h := clB_tot tx k
    rw [show clB tx (k + 1) = if 1000000 < clB tx k + (tx k).size then 1000000 else clB tx k + (tx k).size from rfl, show totB tx (k + 1) = totB tx k + (tx k).size from rfl]
    split <;> omega
theorem clB_iff (tx : Nat → ByteArray) (k : Nat) : 32768 < clB tx k ↔ 32768 < totB tx k := by
  have h := clB_tot tx k; omega
theorem dup_yes (nm : Nat → ByteArray) (n i : Nat) (hi : i < n) (h : anyB (fun k => (nm k).toList == (nm i).toList) i = true) : dupB nm n = true := by
  have h1 : dupB nm (i + 1) = true := by
    show (anyB _ i || anyB (fun k => (nm k).toList == (nm i).toList) i) = true
    rw [h]; simp
  have := anyB_mono (fun i => anyB (fun k => (nm k).toList == (nm i).toList) i) (i + 1) (n - (i + 1)) h1
  rwa [show i + 1 + (n - (i + 1)) = n by omega] at this
theorem any_snoc (p : Nat → Bool) (k : Nat) (h1 : anyB p k = false) (h2 : p k = false) : anyB p (k + 1) = false := by
  show (anyB p k || p k) = false
  rw [h1, h2]; rfl
theorem any_at (p : Nat → Bool) (j n : Nat) (hj : j < n) (h : p j = true) : anyB p n = true := by
  have h1 : anyB p (j + 1) = true := by show (_ || _) = true; rw [h]; simp
  have := anyB_mono p (j + 1) (n - (j + 1)) h1
  rwa [show j + 1 + (n - (j + 1)) = n by omega] at this
set_option maxRecDepth 100000 in
set_option maxHeartbeats 2000000 in
theorem refNew_t (n c : Nat) (A : Option Addr) (nm tx : Nat → ByteArray) (w : World) (hA : RF w A n nm tx) (hn : n ≤ 1000000) (hc : n ≤ c) (hs : ∀ j, j < n → (tx j).size ≤ 140737488355328) (hm : ∀ j, j < n → (nm j).size ≤ 140737488355328) :
    Calls Try.prog 12 #[.slice A n c] w (RV w (.int .i64 (ferr n nm tx))) := by
  by_cases h16 : n ≤ 16
  case neg =>
    have e := Lib.hid (show ferr n nm tx = 19 from if_pos (by omega))
    have d16 : 16 < n := by omega
    go_enter Try.func12, Try.ntmps12
    go_wp2_with fail
    go_ret
    exact ⟨by rw [e.out]; rfl, Below.refl _ _⟩
  have d16 : ¬ 16 < n := by omega
  replace hA := Lib.hid hA
  replace hs := Lib.hid hs
  have hNm := Lib.hid (fun j w (hj : j < n) => named_t (nm j) w (by have := hm j hj; omega))
  clear hm
  go_enter Try.func12, Try.ntmps12
  go_wp2_with fail
  go_loop [3] (fun i => ∃ k : Nat, k ≤ n ∧ i = .int .i64 (k : Int) ∧ anyB (fun j => !nameB (nm j)) k = false) (fun i => n - (intOf i).toNat)
  case atStart => exact ⟨0, Nat.zero_le _, rfl, rfl⟩
  case round =>
    obtain ⟨k, hk, rfl, hany⟩ := hrel
    by_cases hlt : k < n
    · obtain ⟨b, off, rfl, hb, hcs⟩ := hA.out (by omega)
      obtain ⟨c0, c1⟩ := hcs k hlt
      have cN := fun w => hNm.out k w hlt
      clear hcs
      cases hx : nameB (nm k) with
      | true =>
        rw [hx] at cN
        have h2 : anyB (fun j => !nameB (nm j)) (k + 1) = false := any_snoc _ _ hany (by simp [hx])
        replace cN := Lib.hid cN
        replace h2 := Lib.hid h2
        clear hany hx
        go_wp2_with (go_at_call 26; (with_reducible refine (cN.out _).mono ?_); rintro e w1 ⟨rfl, rfl⟩)
        go_round
        case rel => exact ⟨k + 1, by omega, by go_num, h2.out⟩
        case measure => simp [intOf]; omega
      | false =>
        rw [hx] at cN
        have e := Lib.hid (show ferr n nm tx = 9 by unfold ferr; rw [if_neg (by omega), if_pos (any_at _ k n hlt (by simp [hx]))])
        replace cN := Lib.hid cN
        clear hany hx
        go_wp2_with (go_at_call 26; (with_reducible refine (cN.out _).mono ?_); rintro e w1 ⟨rfl, rfl⟩)
        go_ret
        exact ⟨by rw [e.out]; rfl, Below.refl _ _⟩
    · obtain rfl : k = n := by omega
      have e0 := Lib.hid (show ferr k nm tx = if dupB nm k then 10 else if 32768 < totB tx k then 4 else 0 by unfold ferr; rw [if_neg (by omega), if_neg (by rw [hany]; decide)])
      clear hany hNm
      go_wp2_with fail
      go_loopw [4, 5] (fun s i wr => ∃ x : Nat, x ≤ k ∧ i = .int .i64 (x : Int) ∧ s = .int .i64 ((clB tx x : Nat) : Int) ∧ dupB nm x = false ∧ Below w.heap.size w wr) (fun _ i _ => k - (intOf i).toNat)
      case atStart => exact ⟨0, Nat.zero_le _, rfl, rfl, rfl, Below.refl _ _⟩
      case round =>
        obtain ⟨x, hx, rfl, rfl, hdup, hbw⟩ := hrel
        have hcl := clB_le tx x
        by_cases hlt2 : x < k
        · obtain ⟨b, off, rfl, hb, hcs⟩ := (hA.out.keep hbw) (by omega)
          have hsx := hs.out x hlt2
          obtain ⟨wo, rfl⟩ : ∃ wo : World, wo = wr := ⟨_, rfl⟩
          replace hcs := Lib.hid hcs
          go_wp2_with fail
          go_loopw [6] (fun j wz => ∃ y : Nat, y ≤ x ∧ j = .int .i64 (y : Int) ∧ anyB (fun j => (nm j).toList == (nm x).toList) y = false ∧ Below wo.heap.size wo wz) (fun j _ => x - (intOf j).toNat)
          case atStart => exact ⟨0, Nat.zero_le _, rfl, rfl, Below.refl _ _⟩
          case round =>
            obtain ⟨y, hy, rfl, hany, hbz⟩ := hrel
            have hbw2 : Below w.heap.size w wr := below_call hbz hbw
            by_cases hlt3 : y < x
            · have cy := cell_over (hcs.out y (by omega)).1 hbz
              have cx := cell_over (hcs.out x (by omega)).1 hbz
              have k0 : (0 : Int) ≤ (y : Int) := by omega
              have k1 : (y : Int) < (k : Int) := by omega
              have k2 : (0 : Int) ≤ (x : Int) := by omega
              have k3 : (x : Int) < (k : Int) := by omega
              cases hq : (nm y).toList == (nm x).toList with
              | true =>
                have e2 := Lib.hid (e0.out.trans (if_pos (dup_yes nm k x hlt2 (any_at _ y x hlt3 hq))))
                go_wp2
                go_quiet (fail)
                go_wp2
                go_ret
                exact ⟨by rw [e2.out]; rfl, below_dN hbw2 nq⟩
              | false =>
                have h2 := Lib.hid (show anyB (fun j => (nm j).toList == (nm x).toList) (y + 1) = false from any_snoc _ _ hany hq)
                clear hany
                go_wp2
                go_quiet (fail)
                go_wp2
                go_roundw
                case rel => exact ⟨y + 1, by omega, by go_num, h2.out, below_dN hbz nq⟩
                case measure => simp [intOf]; omega
            · obtain rfl : y = x := by omega
              have c1 := cell_over (hcs.out y (by omega)).2 hbz
              have hd2 := Lib.hid (show dupB nm (y + 1) = false from any_snoc _ _ hdup hany)
              clear hany hdup
              by_cases hbig : 1000000 < clB tx y + (tx y).size
              · have e3 := Lib.hid (show clB tx (y + 1) = 1000000 from if_pos hbig)
                have hbig2 : (1000000 : Int) < (clB tx y : Int) + ((tx y).size : Int) := by omega
                go_wp2_with fail
                go_roundw
                case rel => exact ⟨y + 1, by omega, by go_num, by rw [e3.out]; rfl, hd2.out, hbw2⟩
                case measure => simp [intOf]; omega
              · have e3 := Lib.hid (show clB tx (y + 1) = clB tx y + (tx y).size from if_neg hbig)
                have hbig2 : ¬ (1000000 : Int) < (clB tx y : Int) + ((tx y).size : Int) := by omega
                go_wp2_with fail
                go_roundw
                case rel => exact ⟨y + 1, by omega, by go_num, by rw [e3.out]; go_num, hd2.out, hbw2⟩
                case measure => simp [intOf]; omega
        · obtain rfl : x = k := by omega
          have e2 := Lib.hid (e0.out.trans (if_neg (by rw [hdup]; decide)))
          by_cases ht : 32768 < clB tx x
          · have e3 := Lib.hid (e2.out.trans (if_pos ((clB_iff tx x).1 ht)))
            clear hdup
            go_wp2_with fail
            go_ret
            exact ⟨by rw [e3.out]; rfl, hbw⟩
          · have e3 := Lib.hid (e2.out.trans (if_neg (fun h => ht ((clB_iff tx x).2 h))))
            clear hdup
            go_wp2_with fail
            go_ret
            exact ⟨by rw [e3.out]; rfl, hbw⟩
end Go.Proofs.Ytegoldihcchfdaa
