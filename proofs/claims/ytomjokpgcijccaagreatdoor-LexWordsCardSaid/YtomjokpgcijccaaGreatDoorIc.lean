/-
  The reference's Parse, of any text: what the program's returns.
  The walks of the reference's letter, digit, and of Word at a name.
  The walk of the reference's Word at a number.
  The walk of the reference's signs, and of Word at a sign.
  The walk of the reference's Word at a sign; Word whole.
-/
import Derived.Test.YtomjokpgcijccaaGreatDoorFp
import Derived.Test.YtomjokpgcijccaaGreatDoorHc
import Derived.Test.YtomjokpgcijccaaGreatDoorHd
import Derived.Test.YtomjokpgcijccaaGreatDoorHg
namespace Go.Proofs.YtomjokpgcijccaaGreatDoor
open Go.RowKit Go.Lib
theorem first39 (s : ByteArray) : ∀ n, (∀ k, k < n → bt s k ≠ 39) ∨ ∃ q, q < n ∧ bt s q = 39 ∧ ∀ k, k < q → bt s k ≠ 39
  | 0 => .inl fun k h => absurd h (by omega)
  | n + 1 => by
    rcases first39 s n with h | ⟨q, h1, h2, h3⟩
    · by_cases e : bt s n = 39
      · exact .inr ⟨n, by omega, e, h⟩
      · refine .inl fun k hk => ?_
        by_cases e2 : k = n
        · rw [e2]; exact e
        · exact h k (by omega)
    · exact .inr ⟨q, by omega, h2, h3⟩
theorem base_cases (c b : Nat) (h : baseV c = b) (h0 : 0 < b) : (c = 98 ∧ b = 2) ∨ (c = 66 ∧ b = 2) ∨ (c = 111 ∧ b = 8) ∨ (c = 79 ∧ b = 8) ∨ (c = 100 ∧ b = 10) ∨ (c = 68 ∧ b = 10) ∨ (c = 104 ∧ b = 16) ∨ (c = 72 ∧ b = 16) := by
  unfold baseV at h
  split at h
  · omega
  · split at h
    · omega
    · split at h
      · omega
      · split at h <;> omega
theorem base_none (c : Nat) (h : baseV c = 0) : c ≠ 98 ∧ c ≠ 66 ∧ c ≠ 111 ∧ c ≠ 79 ∧ c ≠ 100 ∧ c ≠ 68 ∧ c ≠ 104 ∧ c ≠ 72 := by
  unfold baseV at h
  split at h
  · omega
  · split at h
    · omega
    · split at h
      · omega
      · split at h <;> omega
theorem ext_le (s : ByteArray) (a b : Nat) (hs : s.size ≤ maxLen) : (s.extract a b).size ≤ maxLen := by
  unfold maxLen at *
  have : (s.extract a b).size ≤ s.size := by simp; omega
  omega
theorem tl_none (s t : ByteArray) (h : Nat) (sg : Bool) (h0 : t.size = 0) : tlV s h sg t = badP 6 := by unfold tlV; rw [if_pos h0]
theorem tl_form (s t : ByteArray) (h : Nat) (sg : Bool) (h0 : 0 < t.size) (hb : baseV (bt t 0) = 0) : tlV s h sg t = badP 5 := by unfold tlV; rw [if_neg (by omega), if_pos hb]
theorem tl_z (s t : ByteArray) (sg : Bool) (b : Nat) (h0 : 0 < t.size) (hb : baseV (bt t 0) = b) (hp : 0 < b) :
    tlV s 0 sg t = if dgV (t.extract 1 t.size) b ≠ 0 then badP (dgV (t.extract 1 t.size) b) else if 32 < 1 ∨ 128 < 32 then badP 2 else ⟨32, numF (t.extract 1 t.size) b 32 (t.extract 1 t.size).size, sg, false, 0⟩ := by
  unfold tlV dgV
  rw [hb, if_neg (by omega), if_neg (by omega)]
  by_cases c1 : (t.extract 1 t.size).size = 0
  · rw [if_pos c1, if_pos c1, if_pos (by decide)]
  rw [if_neg c1, if_neg c1]
  by_cases c2 : dA (t.extract 1 t.size) b < (t.extract 1 t.size).size
  · rw [if_pos c2, if_pos c2, if_pos (by decide)]
  rw [if_neg c2, if_neg c2, if_pos rfl, if_neg (by decide), if_neg (by decide)]
theorem tl_p (s t : ByteArray) (q : Nat) (sg : Bool) (b : Nat) (hq : 0 < q) (h0 : 0 < t.size) (hb : baseV (bt t 0) = b) (hp : 0 < b) :
    tlV s q sg t = if dgV (t.extract 1 t.size) b ≠ 0 then badP (dgV (t.extract 1 t.size) b) else if capF (s.extract 0 q) 1000 (s.extract 0 q).size < 1 ∨ 128 < capF (s.extract 0 q) 1000 (s.extract 0 q).size then badP 2
      else ⟨capF (s.extract 0 q) 1000 (s.extract 0 q).size, numF (t.extract 1 t.size) b (capF (s.extract 0 q) 1000 (s.extract 0 q).size) (t.extract 1 t.size).size, sg, true, 0⟩ := by
  obtain ⟨k1, k2⟩ := cap_same (s.extract 0 q) (s.extract 0 q).size
  unfold tlV dgV
  rw [hb, if_neg (by omega), if_neg (by omega)]
  by_cases c1 : (t.extract 1 t.size).size = 0
  · rw [if_pos c1, if_pos c1, if_pos (by decide)]
  rw [if_neg c1, if_neg c1]
  by_cases c2 : dA (t.extract 1 t.size) b < (t.extract 1 t.size).size
  · rw [if_pos c2, if_pos c2, if_pos (by decide)]
  rw [if_neg c2, if_neg c2, if_neg (show ¬ q = 0 by omega)]
  by_cases c3 : 1 ≤ capF (s.extract 0 q) 129 (s.extract 0 q).size ∧ capF (s.extract 0 q) 129 (s.extract 0 q).size ≤ 128
  · rw [if_pos c3, k1 c3, if_neg (show ¬ ((0 : Int) ≠ 0) by decide), if_neg (by omega)]
  · rw [if_neg c3, if_neg (show ¬ ((0 : Int) ≠ 0) by decide), if_pos (k2 c3)]
theorem refParse_at_z (s : ByteArray) (w : World) (hs : s.size ≤ maxLen) (hq : 0 < s.size) (h39 : bt s 0 = 39) : Calls Tryz.prog 20 #[.string s] w (PL w (bhV s 0 (s.extract (0 + 1) s.size))) := by
  have hf : ∀ k, k < 0 → bt s k ≠ 39 := fun k h => absurd h (by omega)
  have hr1 := ext_le s (0 + 1) s.size hs
  obtain ⟨r, hr⟩ : ∃ r, s.extract (0 + 1) s.size = r := ⟨_, rfl⟩
  rw [hr] at hr1 ⊢
  unfold bhV
  by_cases r0 : r.size = 0
  · rw [if_pos r0]; exact rP_z_none_end s w 0 hs hq h39 hf rfl r hr r0
  rw [if_neg r0]
  have rp : 0 < r.size := by omega
  have tail : ∀ (t : ByteArray) (b : Nat), t.size ≤ maxLen → 0 < t.size → baseV (bt t 0) = b → 0 < b →
      (∀ w, Calls Tryz.prog 34 #[.string (t.extract 1 t.size), .int .i64 (b : Int)] w fun e' w' => e' = .returned (.int .i64 (dgV (t.extract 1 t.size) b)) ∧ w' = w) ∧
      (dgV (t.extract 1 t.size) b = 0 → 1 ≤ 32 → 32 ≤ 128 → ∀ w, Calls Tryz.prog 37 #[.string (t.extract 1 t.size), .int .i64 (b : Int), .int .i64 32] w fun e w' => ∃ g, e = .returned (.slice (some ⟨g, 0, none⟩) 32 32) ∧ RA w' g 32 (numF (t.extract 1 t.size) b 32 (t.extract 1 t.size).size) ∧ Below w.heap.size w w') := fun t b ht h0 hb hp =>
    ⟨fun w => digits_t _ b w (ext_le t 1 t.size ht), fun _ _ _ w => refnumber_t _ b 32 w (ext_le t 1 t.size ht) (by rw [← hb]; exact baseV_le _) (by decide) (by decide)⟩
  by_cases hsg : bt r 0 = 115 ∨ bt r 0 = 83
  · rw [if_pos hsg]
    have ht1 := ext_le r 1 r.size hr1
    obtain ⟨t, ht⟩ : ∃ t, r.extract 1 r.size = t := ⟨_, rfl⟩
    rw [ht] at ht1 ⊢
    by_cases t0 : t.size = 0
    · rw [tl_none s t 0 true t0]
      rcases hsg with h1 | h1
      · exact rP_z_s_end s w 0 hs hq h39 hf rfl r hr rp h1 t ht t0
      · exact rP_z_S_end s w 0 hs hq h39 hf rfl r hr rp h1 t ht t0
    have tp : 0 < t.size := by omega
    obtain ⟨b, hb⟩ : ∃ b, baseV (bt t 0) = b := ⟨_, rfl⟩
    by_cases b0 : b = 0
    · rw [tl_form s t 0 true tp (hb.trans b0)]
      obtain ⟨n0, n1, n2, n3, n4, n5, n6, n7⟩ := base_none _ (hb.trans b0)
      rcases hsg with h1 | h1
      · exact rP_z_s_form s w 0 hs hq h39 hf rfl r hr rp h1 t ht tp n0 n1 n2 n3 n4 n5 n6 n7
      · exact rP_z_S_form s w 0 hs hq h39 hf rfl r hr rp h1 t ht tp n0 n1 n2 n3 n4 n5 n6 n7
    · have bp : 0 < b := by omega
      obtain ⟨hE, hN⟩ := tail t b ht1 tp hb bp
      rw [tl_z s t true b tp hb bp]
      rcases hsg with h1 | h1
      · exact rP_z_s_good s w 0 hs hq h39 hf rfl r hr rp h1 t ht tp b (base_cases _ b hb bp) _ rfl _ _ hE hN
      · exact rP_z_S_good s w 0 hs hq h39 hf rfl r hr rp h1 t ht tp b (base_cases _ b hb bp) _ rfl _ _ hE hN
  · rw [if_neg hsg]
    have h1 : bt r 0 ≠ 115 := fun h => hsg (.inl h)
    have h2 : bt r 0 ≠ 83 := fun h => hsg (.inr h)
    obtain ⟨b, hb⟩ : ∃ b, baseV (bt r 0) = b := ⟨_, rfl⟩
    by_cases b0 : b = 0
    · rw [tl_form s r 0 false rp (hb.trans b0)]
      obtain ⟨n0, n1, n2, n3, n4, n5, n6, n7⟩ := base_none _ (hb.trans b0)
      exact rP_z_other_form s w 0 hs hq h39 hf rfl r hr rp h1 h2 n0 n1 n2 n3 n4 n5 n6 n7
    · have bp : 0 < b := by omega
      obtain ⟨hE, hN⟩ := tail r b hr1 rp hb bp
      rw [tl_z s r false b rp hb bp]
      exact rP_z_other_good s w 0 hs hq h39 hf rfl r hr rp h1 h2 b (base_cases _ b hb bp) _ rfl _ _ hE hN
theorem refParse_at_p (s : ByteArray) (w : World) (q : Nat) (hs : s.size ≤ maxLen) (hq : q < s.size) (h39 : bt s q = 39) (hf : ∀ k, k < q → bt s k ≠ 39) (hp : 0 < q) :
    Calls Tryz.prog 20 #[.string s] w (PL w (if dA s 10 < q then badP 5 else bhV s q (s.extract (q + 1) s.size))) := by
  have hx := ext_size s q (by omega)
  have hxl := ext_le s 0 q hs
  have hD := fun w => digits_t (s.extract 0 q) 10 w hxl
  have hdv : dgV (s.extract 0 q) 10 = if dA s 10 < q then 5 else 0 := by
    unfold dgV
    rw [hx, if_neg (by omega), dA_ext s 10 q (by omega)]
    by_cases c : dA s 10 < q
    · rw [if_pos c, if_pos (by omega)]
    · rw [if_neg c, if_neg (by omega)]
  by_cases c : dA s 10 < q
  · rw [if_pos c] at hdv ⊢
    rw [hdv] at hD
    exact refParse_at_err s w q 5 hs hq h39 hf hp (by decide) hD
  rw [if_neg c] at hdv ⊢
  rw [hdv] at hD
  have hC := fun w => decimal_t (s.extract 0 q) 1000 w hxl (by decide)
  have tp1 := fun t sg b => tl_p s t q sg b hp
  generalize capF (s.extract 0 q) 1000 (s.extract 0 q).size = W at *
  have hr1 := ext_le s (q + 1) s.size hs
  obtain ⟨r, hr⟩ : ∃ r, s.extract (q + 1) s.size = r := ⟨_, rfl⟩
  rw [hr] at hr1 ⊢
  unfold bhV
  by_cases r0 : r.size = 0
  · rw [if_pos r0]; exact rP_p_none_end s w q hs hq h39 hf hp W hD hC r hr r0
  rw [if_neg r0]
  have rp : 0 < r.size := by omega
  have tail : ∀ (t : ByteArray) (b : Nat), t.size ≤ maxLen → 0 < t.size → baseV (bt t 0) = b → 0 < b →
      (∀ w, Calls Tryz.prog 34 #[.string (t.extract 1 t.size), .int .i64 (b : Int)] w fun e' w' => e' = .returned (.int .i64 (dgV (t.extract 1 t.size) b)) ∧ w' = w) ∧
      (dgV (t.extract 1 t.size) b = 0 → 1 ≤ W → W ≤ 128 → ∀ w, Calls Tryz.prog 37 #[.string (t.extract 1 t.size), .int .i64 (b : Int), .int .i64 (W : Int)] w fun e w' => ∃ g, e = .returned (.slice (some ⟨g, 0, none⟩) W W) ∧ RA w' g W (numF (t.extract 1 t.size) b W (t.extract 1 t.size).size) ∧ Below w.heap.size w w') := fun t b ht h0 hb hp =>
    ⟨fun w => digits_t _ b w (ext_le t 1 t.size ht), fun _ w1 w2 w => refnumber_t _ b W w (ext_le t 1 t.size ht) (by rw [← hb]; exact baseV_le _) w1 w2⟩
  by_cases hsg : bt r 0 = 115 ∨ bt r 0 = 83
  · rw [if_pos hsg]
    have ht1 := ext_le r 1 r.size hr1
    obtain ⟨t, ht⟩ : ∃ t, r.extract 1 r.size = t := ⟨_, rfl⟩
    rw [ht] at ht1 ⊢
    by_cases t0 : t.size = 0
    · rw [tl_none s t q true t0]
      rcases hsg with h1 | h1
      · exact rP_p_s_end s w q hs hq h39 hf hp W hD hC r hr rp h1 t ht t0
      · exact rP_p_S_end s w q hs hq h39 hf hp W hD hC r hr rp h1 t ht t0
    have tp : 0 < t.size := by omega
    obtain ⟨b, hb⟩ : ∃ b, baseV (bt t 0) = b := ⟨_, rfl⟩
    by_cases b0 : b = 0
    · rw [tl_form s t q true tp (hb.trans b0)]
      obtain ⟨n0, n1, n2, n3, n4, n5, n6, n7⟩ := base_none _ (hb.trans b0)
      rcases hsg with h1 | h1
      · exact rP_p_s_form s w q hs hq h39 hf hp W hD hC r hr rp h1 t ht tp n0 n1 n2 n3 n4 n5 n6 n7
      · exact rP_p_S_form s w q hs hq h39 hf hp W hD hC r hr rp h1 t ht tp n0 n1 n2 n3 n4 n5 n6 n7
    · have bp : 0 < b := by omega
      obtain ⟨hE, hN⟩ := tail t b ht1 tp hb bp
      rw [tp1 t true b tp hb bp]
      rcases hsg with h1 | h1
      · exact rP_p_s_good s w q hs hq h39 hf hp W hD hC r hr rp h1 t ht tp b (base_cases _ b hb bp) _ rfl _ _ hE hN
      · exact rP_p_S_good s w q hs hq h39 hf hp W hD hC r hr rp h1 t ht tp b (base_cases _ b hb bp) _ rfl _ _ hE hN
  · rw [if_neg hsg]
    have h1 : bt r 0 ≠ 115 := fun h => hsg (.inl h)
    have h2 : bt r 0 ≠ 83 := fun h => hsg (.inr h)
    obtain ⟨b, hb⟩ : ∃ b, baseV (bt r 0) = b := ⟨_, rfl⟩
    by_cases b0 : b = 0
    · rw [tl_form s r q false rp (hb.trans b0)]
      obtain ⟨n0, n1, n2, n3, n4, n5, n6, n7⟩ := base_none _ (hb.trans b0)
      exact rP_p_other_form s w q hs hq h39 hf hp W hD hC r hr rp h1 h2 n0 n1 n2 n3 n4 n5 n6 n7
    · have bp : 0 < b := by omega
      obtain ⟨hE, hN⟩ := tail r b hr1 rp hb bp
      rw [tp1 r false b rp hb bp]
      exact rP_p_other_good s w q hs hq h39 hf hp W hD hC r hr rp h1 h2 b (base_cases _ b hb bp) _ rfl _ _ hE hN
/-- The reference's Parse returns what the program's Parse returns, the bits in a list. -/
theorem refParse_t (s : ByteArray) (w : World) (hs : s.size ≤ maxLen) : Calls Tryz.prog 20 #[.string s] w (PL w (paV s)) := by
  rcases first39 s s.size with h | ⟨q, hq, h39, hf⟩
  · exact refParse_no s w hs h
  · rw [paV_at s q hq h39 hf]
    by_cases h0 : q = 0
    · subst h0
      rw [if_neg (by omega)]
      exact refParse_at_z s w hs hq h39
    · exact refParse_at_p s w q hs hq h39 hf (by omega)
end Go.Proofs.YtomjokpgcijccaaGreatDoor
namespace Go.Proofs.YtomjokpgcijccaaGreatDoor
open Go.RowKit Go.Lib
def rlB (c : Nat) : Bool := letB c || decide (c = 95)
set_option maxHeartbeats 1600000 in
theorem rLetter_t (c : Nat) (hc : c < 256) (w : World) : Calls Tryz.prog 18 #[.int .u8 (c : Int)] w fun e w' => e = .returned (.bool (rlB c)) ∧ w' = w := by
  have h : c < 65 ∨ (65 ≤ c ∧ c ≤ 90) ∨ (90 < c ∧ c < 95) ∨ c = 95 ∨ c = 96 ∨ (97 ≤ c ∧ c ≤ 122) ∨ 122 < c := by omega
  obtain ⟨b, hb⟩ : ∃ b, rlB c = b := ⟨_, rfl⟩
  rw [hb]
  have hv : b = decide ((65 ≤ c ∧ c ≤ 90) ∨ (97 ≤ c ∧ c ≤ 122) ∨ c = 95) := by
    rw [← hb, Bool.eq_iff_iff]; unfold rlB letB; simp; omega
  clear hb
  replace hv := Lib.hid hv
  have n1 : ((c : Int) == 95) = decide (c = 95) := by rw [Bool.eq_iff_iff]; simp; omega
  rcases h with h | ⟨h, h'⟩ | ⟨h, h'⟩ | h | h | ⟨h, h'⟩ | h
  all_goals
    have n2 : decide (c = 95) = decide (c = 95) := rfl
    first
      | (have n3 : ((c : Int) == 95) = false := by simp; omega)
      | (have n3 : ((c : Int) == 95) = true := by simp; omega)
    clear n1 n2
    have hh := Lib.hid h
    go_enter Tryz.func18, Tryz.ntmps18
    go_wp2
    all_goals
      go_ret
      exact ⟨ret_bool (by rw [hv.out, Bool.eq_iff_iff]; simp; omega), rfl⟩
set_option maxHeartbeats 1600000 in
theorem rDigit_t (c : Nat) (hc : c < 256) (w : World) : Calls Tryz.prog 19 #[.int .u8 (c : Int)] w fun e w' => e = .returned (.bool (digB c)) ∧ w' = w := by
  have h : c < 48 ∨ (48 ≤ c ∧ c ≤ 57) ∨ 57 < c := by omega
  obtain ⟨b, hb⟩ : ∃ b, digB c = b := ⟨_, rfl⟩
  rw [hb]
  have hv : b = decide (48 ≤ c ∧ c ≤ 57) := by
    rw [← hb, Bool.eq_iff_iff]; unfold digB; simp
  clear hb
  replace hv := Lib.hid hv
  rcases h with h | ⟨h, h'⟩ | h
  all_goals
    go_enter Tryz.func19, Tryz.ntmps19
    go_wp2
    all_goals
      go_ret
      exact ⟨ret_bool (by rw [hv.out, Bool.eq_iff_iff]; simp; omega), rfl⟩
/-- What the reference's Word returns. -/
def WV (nb : List UInt8 → Bool) (l : List UInt8) : Int × Int × Int := if ck nb (me l).1 (l.take (me l).2) = 0 then (((me l).1 : Int), ((me l).2 : Int), 0) else (0, 0, ck nb (me l).1 (l.take (me l).2))
def WP (nb : List UInt8 → Bool) (l : List UInt8) (w : World) (e : Ending) (w' : World) : Prop := e = .returned (.tuple #[.int .i64 (WV nb l).1, .int .i64 (WV nb l).2.1, .int .i64 (WV nb l).2.2]) ∧ Below w.heap.size w w'
theorem part_rl (c : Nat) : partB c = (rlB c || digB c) := by
  unfold partB rlB
  cases letB c <;> cases digB c <;> cases decide (c = 95) <;> rfl
theorem take1 {c : UInt8} {t : List UInt8} {n : Nat} (hn : 0 < n) (hl : n ≤ (c :: t).length) : (c :: t).take n = [36] ↔ c.toNat = 36 ∧ n = 1 := by
  obtain ⟨m, rfl⟩ : ∃ m, n = m + 1 := ⟨n - 1, by omega⟩
  rw [List.take_succ_cons]
  constructor
  · intro h
    obtain ⟨h1, h2⟩ := List.cons.inj h
    have := congrArg List.length h2
    rw [List.length_take, List.length_nil] at this
    simp only [List.length_cons] at hl
    exact ⟨by rw [h1]; rfl, by omega⟩
  · rintro ⟨h1, h2⟩
    obtain rfl : m = 0 := by omega
    rw [List.take_zero]
    congr 1
    apply UInt8.toNat_inj.1
    rw [h1]; rfl
set_option maxRecDepth 100000 in
set_option maxHeartbeats 6400000 in
theorem Word_name (nb : List UInt8 → Bool) (c : UInt8) (t : List UInt8) (w : World) (hl : t.length < 4611686018427387900) (h : (letB c.toNat || decide (c.toNat = 95) || decide (c.toNat = 36)) = true) : Calls Tryz.prog 11 #[.string (tx (c :: t))] w (WP nb (c :: t) w) := by
  have hm : me (c :: t) = (1, 1 + ah partB t) := by rw [me_cons, if_pos h]
  have hle := ah_le partB t
  have hlen : (c :: t).length = t.length + 1 := rfl
  have hWv : (c.toNat = 36 ∧ 1 + ah partB t = 1 ∨ 40 < 1 + ah partB t) → WV nb (c :: t) = (0, 0, 9) := fun hh => by
    have hc : ck nb 1 ((c :: t).take (1 + ah partB t)) = 9 := by
      unfold ck
      rw [if_neg (by rw [Nat.add_comm, List.take_succ_cons]; simp), if_pos rfl, if_pos]
      rcases hh with hh | hh
      · exact Or.inl ((take1 (by omega) (by rw [hlen]; omega)).2 hh)
      · right; rw [List.length_take, hlen]; omega
    unfold WV
    rw [hm]
    simp only [hc]
    rw [if_neg (by decide)]
  have hWn : ¬ 40 < 1 + ah partB t → ¬ (c.toNat = 36 ∧ 1 + ah partB t = 1) → WV nb (c :: t) = (1, ((1 + ah partB t : Nat) : Int), 0) := fun h1 h2 => by
    have hc : ck nb 1 ((c :: t).take (1 + ah partB t)) = 0 := by
      unfold ck
      rw [if_neg (by rw [Nat.add_comm, List.take_succ_cons]; simp), if_pos rfl, if_neg]
      rintro (hh | hh)
      · exact h2 ((take1 (by omega) (by rw [hlen]; omega)).1 hh)
      · rw [List.length_take, hlen] at hh; omega
    unfold WV
    rw [hm]
    simp only [hc]
    rw [if_pos trivial]; rfl
  have h00 : 1 + ah partB ((c :: t).drop 1) = 1 + ah partB t := rfl
  have hb : ∀ (h : 0 < (tx (c :: t)).size), (tx (c :: t))[0].toNat = c.toNat := fun _ => rfl
  have hz : (tx (c :: t)).size = t.length + 1 := rfl
  obtain ⟨l, hll⟩ : ∃ l, c :: t = l := ⟨_, rfl⟩
  unfold WP
  rw [hll] at hWv hWn h00 hb hz hlen ⊢
  obtain ⟨S, hS⟩ : ∃ S, tx l = S := ⟨_, rfl⟩
  rw [hS] at hb hz ⊢
  have hbt := fun (k : Nat) (h : k < S.size) (h' : k < l.length) => (show S[k].toNat = (l[k]).toNat by subst hS; rfl)
  have hLt := fun w => rLetter_t c.toNat (UInt8.toNat_lt _) w
  generalize 1 + ah partB t = R at *
  generalize c.toNat = x at *
  generalize t.length = n at *
  have hz0 : 0 < S.size := by omega
  have hb0 := hb hz0
  replace hLt := Lib.hid hLt
  replace hbt := Lib.hid hbt
  replace h00 := Lib.hid h00
  replace hlen := Lib.hid hlen
  have hx : rlB x = true ∨ (rlB x = false ∧ x = 36) := by
    unfold rlB
    simp only [Bool.or_eq_true, decide_eq_true_eq] at h
    cases hlb : letB x
    · by_cases h95 : x = 95
      · left; simp [h95]
      · right; exact ⟨by simp [h95], by rw [hlb] at h; simpa [h95] using h⟩
    · left; rfl
  clear hm hll h hb hS
  have hlx := Lib.hid hx
  generalize rlB x = rx at *
  have hg : ((x : Int) == 36) = decide (x = 36) := by rw [Bool.eq_iff_iff]; simp; omega
  clear hlx
  rcases hx with rfl | ⟨rfl, h36x⟩
  · clear hg
    go_enter Tryz.func11, Tryz.ntmps11
    go_wp2_with (go_at_call 18; (with_reducible refine (hLt.out _).mono ?_); rintro e w' ⟨rfl, rfl⟩)
    go_loop [6] (fun i => ∃ k : Nat, 1 ≤ k ∧ k ≤ S.size ∧ i = .int .i64 (k : Int) ∧ k + ah partB (l.drop k) = R) (fun i => S.size - (RowKit.intOf i).toNat)
    case atStart => exact ⟨1, Nat.le_refl _, by omega, rfl, h00.out⟩
    case round =>
      obtain ⟨k, hk1, hk, rfl, hr⟩ := hrel
      clear h00 hLt
      by_cases hlt : k < S.size
      · have hkl : k < l.length := by have := hlen.out; omega
        have hbk := hbt.out k hlt hkl
        have hcb : (l[k]).toNat < 256 := UInt8.toNat_lt _
        rw [ah_step partB l k hkl, part_rl] at hr
        have hLy := Lib.hid (rLetter_t (l[k]).toNat hcb)
        have hDy := Lib.hid (rDigit_t (l[k]).toNat hcb)
        clear hcb
        generalize (l[k]).toNat = y at *
        have hw1 : IntKind.i64.wrap ((k : Int) + 1) = (k : Int) + 1 := IntWalk.i64_in _ (by omega)
        have hpp : rlB y = true ∨ (rlB y = false ∧ digB y = true) ∨ (rlB y = false ∧ digB y = false) := by cases rlB y <;> cases digB y <;> simp
        generalize rlB y = ry at *
        generalize digB y = dy at *
        rcases hpp with rfl | ⟨rfl, rfl⟩ | ⟨rfl, rfl⟩
        · have hr' : k + 1 + ah partB (l.drop (k + 1)) = R := by simp at hr; omega
          replace hr' := Lib.hid hr'
          clear hr hkl
          go_wp2_with (first | (go_at_call 18; (with_reducible refine (hLy.out _).mono ?_); rintro e w' ⟨rfl, rfl⟩) | (go_at_call 19; (with_reducible refine (hDy.out _).mono ?_); rintro e w' ⟨rfl, rfl⟩))
          go_round
          case rel => exact ⟨k + 1, by omega, by omega, by go_num, hr'.out⟩
          case measure => simp [RowKit.intOf]; omega
        · have hr' : k + 1 + ah partB (l.drop (k + 1)) = R := by simp at hr; omega
          replace hr' := Lib.hid hr'
          clear hr hkl
          go_wp2_with (first | (go_at_call 18; (with_reducible refine (hLy.out _).mono ?_); rintro e w' ⟨rfl, rfl⟩) | (go_at_call 19; (with_reducible refine (hDy.out _).mono ?_); rintro e w' ⟨rfl, rfl⟩))
          go_round
          case rel => exact ⟨k + 1, by omega, by omega, by go_num, hr'.out⟩
          case measure => simp [RowKit.intOf]; omega
        · have hkR : k = R := by simpa using hr
          rw [← hkR] at hWv hWn
          clear hr hkl hkR
          by_cases h40 : 40 < k
          · have hW : WV nb l = (0, 0, 9) := hWv (Or.inr h40)
            have q1 : decide ((40 : Int) < (k : Int)) = true := by simp; omega
            have q2 : (40 : Int) < (k : Int) := by omega
            replace hW := Lib.hid hW
            clear hWv hWn
            go_wp2_with (first | (go_at_call 18; (with_reducible refine (hLy.out _).mono ?_); rintro e w' ⟨rfl, rfl⟩) | (go_at_call 19; (with_reducible refine (hDy.out _).mono ?_); rintro e w' ⟨rfl, rfl⟩))
            all_goals refine bodyPost_ret (v := .tuple #[.int .i64 0, .int .i64 0, .int .i64 9]) (by simp [results, Tryz.results11, go_sem]) rfl ⟨by rw [hW.out], Below.refl _ _⟩
          · by_cases h36 : x = 36 ∧ k = 1
            · have hW : WV nb l = (0, 0, 9) := hWv (Or.inl h36)
              obtain ⟨h36, hk1⟩ := h36
              have q1 : decide ((40 : Int) < (k : Int)) = false := by simp; omega
              have q2 : ¬ (40 : Int) < (k : Int) := by omega
              have q3 : ((x : Int) == 36) = true := by simp; omega
              have q4 : ((k : Int) == 1) = true := by simp; omega
              have q5 : (x : Int) = 36 := by omega
              have q6 : (k : Int) = 1 := by omega
              replace hW := Lib.hid hW
              replace h36 := Lib.hid h36
              replace hk1 := Lib.hid hk1
              replace q5 := Lib.hid q5
              replace q6 := Lib.hid q6
              clear hWv hWn
              go_wp2_with (first | (go_at_call 18; (with_reducible refine (hLy.out _).mono ?_); rintro e w' ⟨rfl, rfl⟩) | (go_at_call 19; (with_reducible refine (hDy.out _).mono ?_); rintro e w' ⟨rfl, rfl⟩))
              all_goals refine bodyPost_ret (v := .tuple #[.int .i64 0, .int .i64 0, .int .i64 9]) (by simp [results, Tryz.results11, go_sem]) rfl ⟨by rw [hW.out], Below.refl _ _⟩
            · have hW : WV nb l = (1, (k : Int), 0) := hWn h40 h36
              have q1 : decide ((40 : Int) < (k : Int)) = false := by simp; omega
              have q2 : ¬ (40 : Int) < (k : Int) := by omega
              replace hW := Lib.hid hW
              clear hWv hWn
              by_cases h36 : x = 36
              · have q3 : ((x : Int) == 36) = true := by simp; omega
                have q4 : ((k : Int) == 1) = false := by simp; omega
                have q6 : ¬ (k : Int) = 1 := by omega
                replace h36 := Lib.hid h36
                go_wp2_with (first | (go_at_call 18; (with_reducible refine (hLy.out _).mono ?_); rintro e w' ⟨rfl, rfl⟩) | (go_at_call 19; (with_reducible refine (hDy.out _).mono ?_); rintro e w' ⟨rfl, rfl⟩))
                all_goals refine bodyPost_ret (v := .tuple #[.int .i64 1, .int .i64 (k : Int), .int .i64 0]) (by simp [results, Tryz.results11, go_sem]) rfl ⟨by rw [hW.out], Below.refl _ _⟩
              · have q3 : ((x : Int) == 36) = false := by simp; omega
                have q5 : ¬ (x : Int) = 36 := by omega
                replace h36 := Lib.hid h36
                go_wp2_with (first | (go_at_call 18; (with_reducible refine (hLy.out _).mono ?_); rintro e w' ⟨rfl, rfl⟩) | (go_at_call 19; (with_reducible refine (hDy.out _).mono ?_); rintro e w' ⟨rfl, rfl⟩))
                all_goals refine bodyPost_ret (v := .tuple #[.int .i64 1, .int .i64 (k : Int), .int .i64 0]) (by simp [results, Tryz.results11, go_sem]) rfl ⟨by rw [hW.out], Below.refl _ _⟩
      · have hkS : k = S.size := by omega
        have hkR : k = R := by
          rw [List.drop_eq_nil_of_le (by have := hlen.out; omega)] at hr
          exact hr
        rw [← hkR] at hWv hWn
        have hks2 : ¬ (k : Int) < (S.size : Int) := by omega
        clear hr hkR
        replace hkS := Lib.hid hkS
        by_cases h40 : 40 < k
        · have hW : WV nb l = (0, 0, 9) := hWv (Or.inr h40)
          have q1 : decide ((40 : Int) < (k : Int)) = true := by simp; omega
          have q2 : (40 : Int) < (k : Int) := by omega
          replace hW := Lib.hid hW
          clear hWv hWn
          go_wp2_with fail
          all_goals refine bodyPost_ret (v := .tuple #[.int .i64 0, .int .i64 0, .int .i64 9]) (by simp [results, Tryz.results11, go_sem]) rfl ⟨by rw [hW.out], Below.refl _ _⟩
        · by_cases h36 : x = 36 ∧ k = 1
          · have hW : WV nb l = (0, 0, 9) := hWv (Or.inl h36)
            obtain ⟨h36, hk1⟩ := h36
            have q1 : decide ((40 : Int) < (k : Int)) = false := by simp; omega
            have q2 : ¬ (40 : Int) < (k : Int) := by omega
            have q3 : ((x : Int) == 36) = true := by simp; omega
            have q4 : ((k : Int) == 1) = true := by simp; omega
            have q5 : (x : Int) = 36 := by omega
            have q6 : (k : Int) = 1 := by omega
            replace hW := Lib.hid hW
            replace h36 := Lib.hid h36
            replace hk1 := Lib.hid hk1
            replace q5 := Lib.hid q5
            replace q6 := Lib.hid q6
            clear hWv hWn
            go_wp2_with fail
            all_goals refine bodyPost_ret (v := .tuple #[.int .i64 0, .int .i64 0, .int .i64 9]) (by simp [results, Tryz.results11, go_sem]) rfl ⟨by rw [hW.out], Below.refl _ _⟩
          · have hW : WV nb l = (1, (k : Int), 0) := hWn h40 h36
            have q1 : decide ((40 : Int) < (k : Int)) = false := by simp; omega
            have q2 : ¬ (40 : Int) < (k : Int) := by omega
            replace hW := Lib.hid hW
            clear hWv hWn
            by_cases h36 : x = 36
            · have q3 : ((x : Int) == 36) = true := by simp; omega
              have q4 : ((k : Int) == 1) = false := by simp; omega
              have q6 : ¬ (k : Int) = 1 := by omega
              replace h36 := Lib.hid h36
              go_wp2_with fail
              all_goals refine bodyPost_ret (v := .tuple #[.int .i64 1, .int .i64 (k : Int), .int .i64 0]) (by simp [results, Tryz.results11, go_sem]) rfl ⟨by rw [hW.out], Below.refl _ _⟩
            · have q3 : ((x : Int) == 36) = false := by simp; omega
              have q5 : ¬ (x : Int) = 36 := by omega
              replace h36 := Lib.hid h36
              go_wp2_with fail
              all_goals refine bodyPost_ret (v := .tuple #[.int .i64 1, .int .i64 (k : Int), .int .i64 0]) (by simp [results, Tryz.results11, go_sem]) rfl ⟨by rw [hW.out], Below.refl _ _⟩
  · have q36 : ((x : Int) == 36) = true := by simp; omega
    replace h36x := Lib.hid h36x
    clear hg
    go_enter Tryz.func11, Tryz.ntmps11
    go_wp2_with (go_at_call 18; (with_reducible refine (hLt.out _).mono ?_); rintro e w' ⟨rfl, rfl⟩)
    go_loop [6] (fun i => ∃ k : Nat, 1 ≤ k ∧ k ≤ S.size ∧ i = .int .i64 (k : Int) ∧ k + ah partB (l.drop k) = R) (fun i => S.size - (RowKit.intOf i).toNat)
    case atStart => exact ⟨1, Nat.le_refl _, by omega, rfl, h00.out⟩
    case round =>
      obtain ⟨k, hk1, hk, rfl, hr⟩ := hrel
      clear h00 hLt
      by_cases hlt : k < S.size
      · have hkl : k < l.length := by have := hlen.out; omega
        have hbk := hbt.out k hlt hkl
        have hcb : (l[k]).toNat < 256 := UInt8.toNat_lt _
        rw [ah_step partB l k hkl, part_rl] at hr
        have hLy := Lib.hid (rLetter_t (l[k]).toNat hcb)
        have hDy := Lib.hid (rDigit_t (l[k]).toNat hcb)
        clear hcb
        generalize (l[k]).toNat = y at *
        have hw1 : IntKind.i64.wrap ((k : Int) + 1) = (k : Int) + 1 := IntWalk.i64_in _ (by omega)
        have hpp : rlB y = true ∨ (rlB y = false ∧ digB y = true) ∨ (rlB y = false ∧ digB y = false) := by cases rlB y <;> cases digB y <;> simp
        generalize rlB y = ry at *
        generalize digB y = dy at *
        rcases hpp with rfl | ⟨rfl, rfl⟩ | ⟨rfl, rfl⟩
        · have hr' : k + 1 + ah partB (l.drop (k + 1)) = R := by simp at hr; omega
          replace hr' := Lib.hid hr'
          clear hr hkl
          go_wp2_with (first | (go_at_call 18; (with_reducible refine (hLy.out _).mono ?_); rintro e w' ⟨rfl, rfl⟩) | (go_at_call 19; (with_reducible refine (hDy.out _).mono ?_); rintro e w' ⟨rfl, rfl⟩))
          go_round
          case rel => exact ⟨k + 1, by omega, by omega, by go_num, hr'.out⟩
          case measure => simp [RowKit.intOf]; omega
        · have hr' : k + 1 + ah partB (l.drop (k + 1)) = R := by simp at hr; omega
          replace hr' := Lib.hid hr'
          clear hr hkl
          go_wp2_with (first | (go_at_call 18; (with_reducible refine (hLy.out _).mono ?_); rintro e w' ⟨rfl, rfl⟩) | (go_at_call 19; (with_reducible refine (hDy.out _).mono ?_); rintro e w' ⟨rfl, rfl⟩))
          go_round
          case rel => exact ⟨k + 1, by omega, by omega, by go_num, hr'.out⟩
          case measure => simp [RowKit.intOf]; omega
        · have hkR : k = R := by simpa using hr
          rw [← hkR] at hWv hWn
          clear hr hkl hkR
          by_cases h40 : 40 < k
          · have hW : WV nb l = (0, 0, 9) := hWv (Or.inr h40)
            have q1 : decide ((40 : Int) < (k : Int)) = true := by simp; omega
            have q2 : (40 : Int) < (k : Int) := by omega
            replace hW := Lib.hid hW
            clear hWv hWn
            go_wp2_with (first | (go_at_call 18; (with_reducible refine (hLy.out _).mono ?_); rintro e w' ⟨rfl, rfl⟩) | (go_at_call 19; (with_reducible refine (hDy.out _).mono ?_); rintro e w' ⟨rfl, rfl⟩))
            all_goals refine bodyPost_ret (v := .tuple #[.int .i64 0, .int .i64 0, .int .i64 9]) (by simp [results, Tryz.results11, go_sem]) rfl ⟨by rw [hW.out], Below.refl _ _⟩
          · by_cases h36 : x = 36 ∧ k = 1
            · have hW : WV nb l = (0, 0, 9) := hWv (Or.inl h36)
              obtain ⟨h36, hk1⟩ := h36
              have q1 : decide ((40 : Int) < (k : Int)) = false := by simp; omega
              have q2 : ¬ (40 : Int) < (k : Int) := by omega
              have q3 : ((x : Int) == 36) = true := by simp; omega
              have q4 : ((k : Int) == 1) = true := by simp; omega
              have q5 : (x : Int) = 36 := by omega
              have q6 : (k : Int) = 1 := by omega
              replace hW := Lib.hid hW
              replace h36 := Lib.hid h36
              replace hk1 := Lib.hid hk1
              replace q5 := Lib.hid q5
              replace q6 := Lib.hid q6
              clear hWv hWn
              go_wp2_with (first | (go_at_call 18; (with_reducible refine (hLy.out _).mono ?_); rintro e w' ⟨rfl, rfl⟩) | (go_at_call 19; (with_reducible refine (hDy.out _).mono ?_); rintro e w' ⟨rfl, rfl⟩))
              all_goals refine bodyPost_ret (v := .tuple #[.int .i64 0, .int .i64 0, .int .i64 9]) (by simp [results, Tryz.results11, go_sem]) rfl ⟨by rw [hW.out], Below.refl _ _⟩
            · have hW : WV nb l = (1, (k : Int), 0) := hWn h40 h36
              have q1 : decide ((40 : Int) < (k : Int)) = false := by simp; omega
              have q2 : ¬ (40 : Int) < (k : Int) := by omega
              replace hW := Lib.hid hW
              clear hWv hWn
              by_cases h36 : x = 36
              · have q3 : ((x : Int) == 36) = true := by simp; omega
                have q4 : ((k : Int) == 1) = false := by simp; omega
                have q6 : ¬ (k : Int) = 1 := by omega
                replace h36 := Lib.hid h36
                go_wp2_with (first | (go_at_call 18; (with_reducible refine (hLy.out _).mono ?_); rintro e w' ⟨rfl, rfl⟩) | (go_at_call 19; (with_reducible refine (hDy.out _).mono ?_); rintro e w' ⟨rfl, rfl⟩))
                all_goals refine bodyPost_ret (v := .tuple #[.int .i64 1, .int .i64 (k : Int), .int .i64 0]) (by simp [results, Tryz.results11, go_sem]) rfl ⟨by rw [hW.out], Below.refl _ _⟩
              · have q3 : ((x : Int) == 36) = false := by simp; omega
                have q5 : ¬ (x : Int) = 36 := by omega
                replace h36 := Lib.hid h36
                go_wp2_with (first | (go_at_call 18; (with_reducible refine (hLy.out _).mono ?_); rintro e w' ⟨rfl, rfl⟩) | (go_at_call 19; (with_reducible refine (hDy.out _).mono ?_); rintro e w' ⟨rfl, rfl⟩))
                all_goals refine bodyPost_ret (v := .tuple #[.int .i64 1, .int .i64 (k : Int), .int .i64 0]) (by simp [results, Tryz.results11, go_sem]) rfl ⟨by rw [hW.out], Below.refl _ _⟩
      · have hkS : k = S.size := by omega
        have hkR : k = R := by
          rw [List.drop_eq_nil_of_le (by have := hlen.out; omega)] at hr
          exact hr
        rw [← hkR] at hWv hWn
        have hks2 : ¬ (k : Int) < (S.size : Int) := by omega
        clear hr hkR
        replace hkS := Lib.hid hkS
        by_cases h40 : 40 < k
        · have hW : WV nb l = (0, 0, 9) := hWv (Or.inr h40)
          have q1 : decide ((40 : Int) < (k : Int)) = true := by simp; omega
          have q2 : (40 : Int) < (k : Int) := by omega
          replace hW := Lib.hid hW
          clear hWv hWn
          go_wp2_with fail
          all_goals refine bodyPost_ret (v := .tuple #[.int .i64 0, .int .i64 0, .int .i64 9]) (by simp [results, Tryz.results11, go_sem]) rfl ⟨by rw [hW.out], Below.refl _ _⟩
        · by_cases h36 : x = 36 ∧ k = 1
          · have hW : WV nb l = (0, 0, 9) := hWv (Or.inl h36)
            obtain ⟨h36, hk1⟩ := h36
            have q1 : decide ((40 : Int) < (k : Int)) = false := by simp; omega
            have q2 : ¬ (40 : Int) < (k : Int) := by omega
            have q3 : ((x : Int) == 36) = true := by simp; omega
            have q4 : ((k : Int) == 1) = true := by simp; omega
            have q5 : (x : Int) = 36 := by omega
            have q6 : (k : Int) = 1 := by omega
            replace hW := Lib.hid hW
            replace h36 := Lib.hid h36
            replace hk1 := Lib.hid hk1
            replace q5 := Lib.hid q5
            replace q6 := Lib.hid q6
            clear hWv hWn
            go_wp2_with fail
            all_goals refine bodyPost_ret (v := .tuple #[.int .i64 0, .int .i64 0, .int .i64 9]) (by simp [results, Tryz.results11, go_sem]) rfl ⟨by rw [hW.out], Below.refl _ _⟩
          · have hW : WV nb l = (1, (k : Int), 0) := hWn h40 h36
            have q1 : decide ((40 : Int) < (k : Int)) = false := by simp; omega
            have q2 : ¬ (40 : Int) < (k : Int) := by omega
            replace hW := Lib.hid hW
            clear hWv hWn
            by_cases h36 : x = 36
            · have q3 : ((x : Int) == 36) = true := by simp; omega
              have q4 : ((k : Int) == 1) = false := by simp; omega
              have q6 : ¬ (k : Int) = 1 := by omega
              replace h36 := Lib.hid h36
              go_wp2_with fail
              all_goals refine bodyPost_ret (v := .tuple #[.int .i64 1, .int .i64 (k : Int), .int .i64 0]) (by simp [results, Tryz.results11, go_sem]) rfl ⟨by rw [hW.out], Below.refl _ _⟩
            · have q3 : ((x : Int) == 36) = false := by simp; omega
              have q5 : ¬ (x : Int) = 36 := by omega
              replace h36 := Lib.hid h36
              go_wp2_with fail
              all_goals refine bodyPost_ret (v := .tuple #[.int .i64 1, .int .i64 (k : Int), .int .i64 0]) (by simp [results, Tryz.results11, go_sem]) rfl ⟨by rw [hW.out], Below.refl _ _⟩
end Go.Proofs.YtomjokpgcijccaaGreatDoor
namespace Go.Proofs.YtomjokpgcijccaaGreatDoor
open Go.RowKit Go.Lib
theorem WV_num (l : List UInt8) (n : Nat) (hm : me l = (2, n)) (hn : 0 < n) (h0 : l ≠ []) : WV nbP l = if nbP (l.take n) then (2, (n : Int), 0) else (0, 0, 7) := by
  have hne : l.take n ≠ [] := by
    cases l with
    | nil => exact absurd rfl h0
    | cons a r =>
      obtain ⟨m, rfl⟩ : ∃ m, n = m + 1 := ⟨n - 1, by omega⟩
      rw [List.take_succ_cons]; simp
  have hc : ck nbP 2 (l.take n) = if nbP (l.take n) then 0 else 7 := by unfold ck; rw [if_neg hne, if_neg (by decide), if_pos rfl]
  unfold WV
  rw [hm]
  simp only [hc]
  cases nbP (l.take n)
  · rw [if_neg (by decide), if_neg (by decide)]; rfl
  · rw [if_pos rfl, if_pos rfl]; rfl
set_option maxRecDepth 100000 in
set_option maxHeartbeats 12800000 in
theorem Word_num (c : UInt8) (t : List UInt8) (w : World) (hl : t.length < 4611686018427387900) (h : ¬ (letB c.toNat || decide (c.toNat = 95) || decide (c.toNat = 36)) = true) (h' : (digB c.toNat || decide (c.toNat = 39)) = true) : Calls Tryz.prog 11 #[.string (tx (c :: t))] w (WP nbP (c :: t) w) := by
  have hm : me (c :: t) = (2, if ((c :: t).drop (ah duB (c :: t))).head? = some 39 then ah duB (c :: t) + 1 + ah partB ((c :: t).drop (ah duB (c :: t) + 1)) else ah duB (c :: t)) := by rw [me_cons, if_neg h, if_pos h']
  have hWq : ((c :: t).drop (ah duB (c :: t))).head? = some 39 → WV nbP (c :: t) = if nbP ((c :: t).take (ah duB (c :: t) + 1 + ah partB ((c :: t).drop (ah duB (c :: t) + 1)))) then (2, ((ah duB (c :: t) + 1 + ah partB ((c :: t).drop (ah duB (c :: t) + 1)) : Nat) : Int), 0) else (0, 0, 7) := fun hh => by
    rw [if_pos hh] at hm
    exact WV_num _ _ hm (by omega) (by simp)
  have hWn : ¬ ((c :: t).drop (ah duB (c :: t))).head? = some 39 → WV nbP (c :: t) = if nbP ((c :: t).take (ah duB (c :: t))) then (2, ((ah duB (c :: t) : Nat) : Int), 0) else (0, 0, 7) := fun hh => by
    rw [if_neg hh] at hm
    refine WV_num _ _ hm ?_ (by simp)
    rcases Nat.eq_zero_or_pos (ah duB (c :: t)) with h0 | h0
    · exfalso
      rw [h0, List.drop_zero] at hh
      simp only [Bool.or_eq_true, decide_eq_true_eq] at h'
      rcases h' with h' | h'
      · have : ah duB (c :: t) = ah duB t + 1 := by simp only [ah]; rw [if_pos (by unfold duB; rw [h']; rfl)]
        omega
      · apply hh
        rw [List.head?_cons]
        congr 1
        apply UInt8.toNat_inj.1
        rw [h']; rfl
    · exact h0
  have hlen : (c :: t).length = t.length + 1 := rfl
  have h00 : 0 + ah duB ((c :: t).drop 0) = ah duB (c :: t) := by rw [List.drop_zero, Nat.zero_add]
  have hb : ∀ (h : 0 < (tx (c :: t)).size), (tx (c :: t))[0].toNat = c.toNat := fun _ => rfl
  have hz : (tx (c :: t)).size = t.length + 1 := rfl
  obtain ⟨l, hll⟩ : ∃ l, c :: t = l := ⟨_, rfl⟩
  unfold WP
  rw [hll] at hWq hWn h00 hb hz hlen ⊢
  obtain ⟨S, hS⟩ : ∃ S, tx l = S := ⟨_, rfl⟩
  rw [hS] at hb hz ⊢
  have hbt := fun (k : Nat) (h : k < S.size) (h' : k < l.length) => (show S[k].toNat = (l[k]).toNat by subst hS; rfl)
  have hLt := fun w => rLetter_t c.toNat (UInt8.toNat_lt _) w
  have hDt := fun w => rDigit_t c.toNat (UInt8.toNat_lt _) w
  generalize ah duB l = R at *
  generalize c.toNat = x at *
  generalize t.length = n at *
  have hz0 : 0 < S.size := by omega
  have hb0 := hb hz0
  have hx : (letB x = false ∧ x ≠ 95 ∧ x ≠ 36) ∧ (digB x = true ∨ digB x = false ∧ x = 39) := by
    simp only [Bool.or_eq_true, decide_eq_true_eq, not_or] at h h'
    refine ⟨⟨by simpa using h.1.1, h.1.2, h.2⟩, ?_⟩
    rcases h' with h' | h'
    · exact Or.inl h'
    · cases hd : digB x
      · exact Or.inr ⟨rfl, h'⟩
      · exact Or.inl rfl
  obtain ⟨⟨hx1, hx2, hx3⟩, hx4⟩ := hx
  have hrl : rlB x = false := by unfold rlB; rw [hx1]; simpa using hx2
  rw [hrl] at hLt
  have x36 : ((x : Int) == 36) = false := by simp; omega
  have x36' : ¬ (x : Int) = 36 := by omega
  replace hLt := Lib.hid hLt
  replace hbt := Lib.hid hbt
  replace h00 := Lib.hid h00
  replace hlen := Lib.hid hlen
  replace hS := Lib.hid hS
  clear hm hll h h' hb hx1 hx2 hx3 hrl
  rcases hx4 with hd | ⟨hd, h39x⟩
  · rw [hd] at hDt
    replace hDt := Lib.hid hDt
    clear hd
    go_enter Tryz.func11, Tryz.ntmps11
    go_wp2_with (first | (go_at_call 18; (with_reducible refine (hLt.out _).mono ?_); rintro e w' ⟨rfl, rfl⟩) | (go_at_call 19; (with_reducible refine (hDt.out _).mono ?_); rintro e w' ⟨rfl, rfl⟩))
    go_loop [6] (fun i => ∃ k : Nat, k ≤ S.size ∧ i = .int .i64 (k : Int) ∧ k + ah duB (l.drop k) = R) (fun i => S.size - (RowKit.intOf i).toNat)
    case atStart => exact ⟨0, by omega, rfl, h00.out⟩
    case round =>
      obtain ⟨k, hk, rfl, hr⟩ := hrel
      clear h00 hLt hDt
      by_cases hlt : k < S.size
      · have hkl : k < l.length := by have := hlen.out; omega
        have hbk := hbt.out k hlt hkl
        have hcb : (l[k]).toNat < 256 := UInt8.toNat_lt _
        rw [ah_step duB l k hkl] at hr
        have hdu : duB (l[k]).toNat = (digB (l[k]).toNat || decide ((l[k]).toNat = 95)) := rfl
        rw [hdu] at hr
        have hLy := Lib.hid (rLetter_t (l[k]).toNat hcb)
        have hDy := Lib.hid (rDigit_t (l[k]).toNat hcb)
        have hhd : (l.drop k).head? = some l[k] := by rw [List.drop_eq_getElem_cons hkl]; rfl
        have h39i : ((l.drop k).head? = some 39) ↔ (l[k]).toNat = 39 := by
          rw [hhd, Option.some.injEq]
          constructor
          · intro e; rw [e]; rfl
          · intro e; apply UInt8.toNat_inj.1; rw [e]; rfl
        clear hcb hdu hhd
        generalize (l[k]).toNat = y at *
        have hw1 : IntKind.i64.wrap ((k : Int) + 1) = (k : Int) + 1 := IntWalk.i64_in _ (by omega)
        by_cases h95 : y = 95
        · have y95 : ((y : Int) == 95) = true := by simp; omega
          have hr' : k + 1 + ah duB (l.drop (k + 1)) = R := by simp [h95] at hr; omega
          replace hr' := Lib.hid hr'
          replace h95 := Lib.hid h95
          clear hr hkl h39i
          generalize digB y = dy at *
          cases dy
          all_goals
            go_wp2_with (first | (go_at_call 18; (with_reducible refine (hLy.out _).mono ?_); rintro e w' ⟨rfl, rfl⟩) | (go_at_call 19; (with_reducible refine (hDy.out _).mono ?_); rintro e w' ⟨rfl, rfl⟩))
            go_round
            case rel => exact ⟨k + 1, by omega, by go_num, hr'.out⟩
            case measure => simp [RowKit.intOf]; omega
        · have y95 : ((y : Int) == 95) = false := by simp; omega
          have y95' : ¬ (y : Int) = 95 := by omega
          have hd95 : decide (y = 95) = false := by simpa using h95
          rw [hd95] at hr
          replace h95 := Lib.hid h95
          by_cases hdg : digB y = true
          · rw [hdg] at hr hDy
            have hr' : k + 1 + ah duB (l.drop (k + 1)) = R := by simp at hr; omega
            replace hr' := Lib.hid hr'
            clear hr hkl h39i hdg hd95
            go_wp2_with (first | (go_at_call 18; (with_reducible refine (hLy.out _).mono ?_); rintro e w' ⟨rfl, rfl⟩) | (go_at_call 19; (with_reducible refine (hDy.out _).mono ?_); rintro e w' ⟨rfl, rfl⟩))
            go_round
            case rel => exact ⟨k + 1, by omega, by go_num, hr'.out⟩
            case measure => simp [RowKit.intOf]; omega
          · have hdf : digB y = false := by simpa using hdg
            rw [hdf] at hr hDy
            have hkR : k = R := by simpa using hr
            clear hr hdg hdf hd95
            by_cases h39 : y = 39
            · have y39 : ((y : Int) == 39) = true := by simp; omega
              have hW3 := hWq (by rw [← hkR]; exact h39i.2 h39)
              rw [← hkR] at hW3
              obtain ⟨R3, hR3⟩ : ∃ R3, k + 1 + ah partB (l.drop (k + 1)) = R3 := ⟨_, rfl⟩
              rw [hR3] at hW3
              have h3 := hR3
              replace h39 := Lib.hid h39
              clear hkR hkl h39i hWq hWn hR3
              go_wp2_with (first | (go_at_call 18; (with_reducible refine (hLy.out _).mono ?_); rintro e w' ⟨rfl, rfl⟩) | (go_at_call 19; (with_reducible refine (hDy.out _).mono ?_); rintro e w' ⟨rfl, rfl⟩))
              go_loop [6] (fun i => ∃ k : Nat, k ≤ S.size ∧ i = .int .i64 (k : Int) ∧ k + ah partB (l.drop k) = R3) (fun i => S.size - (RowKit.intOf i).toNat)
              case atStart => exact ⟨k + 1, by omega, by go_num, h3⟩
              case round =>
                clear hLy hDy h3
                obtain ⟨k, hk, rfl, hr⟩ := hrel
                by_cases hlt : k < S.size
                · have hkl : k < l.length := by have := hlen.out; omega
                  have hbk := hbt.out k hlt hkl
                  have hcb : (l[k]).toNat < 256 := UInt8.toNat_lt _
                  rw [ah_step partB l k hkl, part_rl] at hr
                  have hLy := Lib.hid (rLetter_t (l[k]).toNat hcb)
                  have hDy := Lib.hid (rDigit_t (l[k]).toNat hcb)
                  clear hcb
                  generalize (l[k]).toNat = y3 at *
                  have hw1 : IntKind.i64.wrap ((k : Int) + 1) = (k : Int) + 1 := IntWalk.i64_in _ (by omega)
                  have hpp : digB y3 = true ∨ (digB y3 = false ∧ rlB y3 = true) ∨ (digB y3 = false ∧ rlB y3 = false) := by cases rlB y3 <;> cases digB y3 <;> simp
                  generalize rlB y3 = ry at *
                  generalize digB y3 = dy at *
                  rcases hpp with rfl | ⟨rfl, rfl⟩ | ⟨rfl, rfl⟩
                  · have hr' : k + 1 + ah partB (l.drop (k + 1)) = R3 := by simp at hr; omega
                    replace hr' := Lib.hid hr'
                    clear hr hkl
                    go_wp2_with (first | (go_at_call 18; (with_reducible refine (hLy.out _).mono ?_); rintro e w' ⟨rfl, rfl⟩) | (go_at_call 19; (with_reducible refine (hDy.out _).mono ?_); rintro e w' ⟨rfl, rfl⟩))
                    go_round
                    case rel => exact ⟨k + 1, by omega, by go_num, hr'.out⟩
                    case measure => simp [RowKit.intOf]; omega
                  · have hr' : k + 1 + ah partB (l.drop (k + 1)) = R3 := by simp at hr; omega
                    replace hr' := Lib.hid hr'
                    clear hr hkl
                    go_wp2_with (first | (go_at_call 18; (with_reducible refine (hLy.out _).mono ?_); rintro e w' ⟨rfl, rfl⟩) | (go_at_call 19; (with_reducible refine (hDy.out _).mono ?_); rintro e w' ⟨rfl, rfl⟩))
                    go_round
                    case rel => exact ⟨k + 1, by omega, by go_num, hr'.out⟩
                    case measure => simp [RowKit.intOf]; omega
                  · have hkR : k = R3 := by simpa using hr
                    have hWk := hW3
                    rw [← hkR] at hWk
                    clear hr hkl hkR hW3
                    have e9 := tx_take l k
                    have hP9 := fun w => refParse_t (tx (l.take k)) w (by unfold maxLen; show (l.take k).length ≤ _; rw [List.length_take]; have := hlen.out; omega)
                    have hnb : nbP (l.take k) = ((paV (tx (l.take k))).e == 0) := rfl
                    rw [hnb] at hWk
                    unfold PL at hP9
                    obtain ⟨T, hT⟩ : ∃ T, tx (l.take k) = T := ⟨_, rfl⟩
                    rw [hT] at e9 hP9 hWk
                    rw [hS.out] at e9
                    generalize (paV T).e = e0 at *
                    generalize (paV T).sg = s0 at *
                    generalize (paV T).sz = z0 at *
                    generalize (paV T).n = n0 at *
                    replace hP9 := Lib.hid hP9
                    clear hT hnb
                    by_cases h1 : e0 = 0
                    · have e1 : (e0 == 0) = true := by simpa using h1
                      have e2 : (e0 != 0) = false := by simpa using h1
                      have hW := hWk
                      rw [e1, if_pos rfl] at hW
                      replace hW := Lib.hid hW
                      replace h1 := Lib.hid h1
                      clear hWk
                      go_wp2_with (first | (go_at_call 18; (with_reducible refine (hLy.out _).mono ?_); rintro e w' ⟨rfl, rfl⟩) | (go_at_call 19; (with_reducible refine (hDy.out _).mono ?_); rintro e w' ⟨rfl, rfl⟩))
                      (with_reducible refine (hP9.out _).mono ?_)
                      rintro e w1 ⟨A9, c9, rfl, _, hb9⟩
                      have z9 := hb9.size
                      go_wp2_with fail
                      refine bodyPost_ret (v := .tuple #[.int .i64 2, .int .i64 (k : Int), .int .i64 0]) (by simp [results, Tryz.results11, go_sem]) rfl ⟨by rw [hW.out], by go_grown⟩
                    · have e1 : (e0 == 0) = false := by simpa using h1
                      have e2 : (e0 != 0) = true := by simpa using h1
                      have hW := hWk
                      rw [e1, if_neg (by decide)] at hW
                      replace hW := Lib.hid hW
                      replace h1 := Lib.hid h1
                      clear hWk
                      go_wp2_with (first | (go_at_call 18; (with_reducible refine (hLy.out _).mono ?_); rintro e w' ⟨rfl, rfl⟩) | (go_at_call 19; (with_reducible refine (hDy.out _).mono ?_); rintro e w' ⟨rfl, rfl⟩))
                      (with_reducible refine (hP9.out _).mono ?_)
                      rintro e w1 ⟨A9, c9, rfl, _, hb9⟩
                      have z9 := hb9.size
                      go_wp2_with fail
                      refine bodyPost_ret (v := .tuple #[.int .i64 0, .int .i64 0, .int .i64 7]) (by simp [results, Tryz.results11, go_sem]) rfl ⟨by rw [hW.out], by go_grown⟩
                · have hkS : k = S.size := by omega
                  have hkR : k = R3 := by
                    rw [List.drop_eq_nil_of_le (by have := hlen.out; omega)] at hr
                    exact hr
                  have hWk := hW3
                  rw [← hkR] at hWk
                  have hks2 : ¬ (k : Int) < (S.size : Int) := by omega
                  clear hr hkR hW3
                  replace hkS := Lib.hid hkS
                  have e9 := tx_take l k
                  have hP9 := fun w => refParse_t (tx (l.take k)) w (by unfold maxLen; show (l.take k).length ≤ _; rw [List.length_take]; have := hlen.out; omega)
                  have hnb : nbP (l.take k) = ((paV (tx (l.take k))).e == 0) := rfl
                  rw [hnb] at hWk
                  unfold PL at hP9
                  obtain ⟨T, hT⟩ : ∃ T, tx (l.take k) = T := ⟨_, rfl⟩
                  rw [hT] at e9 hP9 hWk
                  rw [hS.out] at e9
                  generalize (paV T).e = e0 at *
                  generalize (paV T).sg = s0 at *
                  generalize (paV T).sz = z0 at *
                  generalize (paV T).n = n0 at *
                  replace hP9 := Lib.hid hP9
                  clear hT hnb
                  by_cases h1 : e0 = 0
                  · have e1 : (e0 == 0) = true := by simpa using h1
                    have e2 : (e0 != 0) = false := by simpa using h1
                    have hW := hWk
                    rw [e1, if_pos rfl] at hW
                    replace hW := Lib.hid hW
                    replace h1 := Lib.hid h1
                    clear hWk
                    go_wp2_with fail
                    (with_reducible refine (hP9.out _).mono ?_)
                    rintro e w1 ⟨A9, c9, rfl, _, hb9⟩
                    have z9 := hb9.size
                    go_wp2_with fail
                    refine bodyPost_ret (v := .tuple #[.int .i64 2, .int .i64 (k : Int), .int .i64 0]) (by simp [results, Tryz.results11, go_sem]) rfl ⟨by rw [hW.out], by go_grown⟩
                  · have e1 : (e0 == 0) = false := by simpa using h1
                    have e2 : (e0 != 0) = true := by simpa using h1
                    have hW := hWk
                    rw [e1, if_neg (by decide)] at hW
                    replace hW := Lib.hid hW
                    replace h1 := Lib.hid h1
                    clear hWk
                    go_wp2_with fail
                    (with_reducible refine (hP9.out _).mono ?_)
                    rintro e w1 ⟨A9, c9, rfl, _, hb9⟩
                    have z9 := hb9.size
                    go_wp2_with fail
                    refine bodyPost_ret (v := .tuple #[.int .i64 0, .int .i64 0, .int .i64 7]) (by simp [results, Tryz.results11, go_sem]) rfl ⟨by rw [hW.out], by go_grown⟩
            · have y39 : ((y : Int) == 39) = false := by simp; omega
              have y39' : ¬ (y : Int) = 39 := by omega
              have hWk := hWn (by rw [← hkR]; exact fun e => h39 (h39i.1 e))
              rw [← hkR] at hWk
              replace h39 := Lib.hid h39
              clear hkR hkl h39i hWq hWn
              have e9 := tx_take l k
              have hP9 := fun w => refParse_t (tx (l.take k)) w (by unfold maxLen; show (l.take k).length ≤ _; rw [List.length_take]; have := hlen.out; omega)
              have hnb : nbP (l.take k) = ((paV (tx (l.take k))).e == 0) := rfl
              rw [hnb] at hWk
              unfold PL at hP9
              obtain ⟨T, hT⟩ : ∃ T, tx (l.take k) = T := ⟨_, rfl⟩
              rw [hT] at e9 hP9 hWk
              rw [hS.out] at e9
              generalize (paV T).e = e0 at *
              generalize (paV T).sg = s0 at *
              generalize (paV T).sz = z0 at *
              generalize (paV T).n = n0 at *
              replace hP9 := Lib.hid hP9
              clear hT hnb
              by_cases h1 : e0 = 0
              · have e1 : (e0 == 0) = true := by simpa using h1
                have e2 : (e0 != 0) = false := by simpa using h1
                have hW := hWk
                rw [e1, if_pos rfl] at hW
                replace hW := Lib.hid hW
                replace h1 := Lib.hid h1
                clear hWk
                go_wp2_with (first | (go_at_call 18; (with_reducible refine (hLy.out _).mono ?_); rintro e w' ⟨rfl, rfl⟩) | (go_at_call 19; (with_reducible refine (hDy.out _).mono ?_); rintro e w' ⟨rfl, rfl⟩))
                (with_reducible refine (hP9.out _).mono ?_)
                rintro e w1 ⟨A9, c9, rfl, _, hb9⟩
                have z9 := hb9.size
                go_wp2_with fail
                refine bodyPost_ret (v := .tuple #[.int .i64 2, .int .i64 (k : Int), .int .i64 0]) (by simp [results, Tryz.results11, go_sem]) rfl ⟨by rw [hW.out], by go_grown⟩
              · have e1 : (e0 == 0) = false := by simpa using h1
                have e2 : (e0 != 0) = true := by simpa using h1
                have hW := hWk
                rw [e1, if_neg (by decide)] at hW
                replace hW := Lib.hid hW
                replace h1 := Lib.hid h1
                clear hWk
                go_wp2_with (first | (go_at_call 18; (with_reducible refine (hLy.out _).mono ?_); rintro e w' ⟨rfl, rfl⟩) | (go_at_call 19; (with_reducible refine (hDy.out _).mono ?_); rintro e w' ⟨rfl, rfl⟩))
                (with_reducible refine (hP9.out _).mono ?_)
                rintro e w1 ⟨A9, c9, rfl, _, hb9⟩
                have z9 := hb9.size
                go_wp2_with fail
                refine bodyPost_ret (v := .tuple #[.int .i64 0, .int .i64 0, .int .i64 7]) (by simp [results, Tryz.results11, go_sem]) rfl ⟨by rw [hW.out], by go_grown⟩
      · have hkS : k = S.size := by omega
        have hkR : k = R := by
          rw [List.drop_eq_nil_of_le (by have := hlen.out; omega)] at hr
          exact hr
        have hWk := hWn (by rw [← hkR, List.drop_eq_nil_of_le (by have := hlen.out; omega)]; simp)
        rw [← hkR] at hWk
        have hks2 : ¬ (k : Int) < (S.size : Int) := by omega
        clear hr hkR hWq hWn
        replace hkS := Lib.hid hkS
        have e9 := tx_take l k
        have hP9 := fun w => refParse_t (tx (l.take k)) w (by unfold maxLen; show (l.take k).length ≤ _; rw [List.length_take]; have := hlen.out; omega)
        have hnb : nbP (l.take k) = ((paV (tx (l.take k))).e == 0) := rfl
        rw [hnb] at hWk
        unfold PL at hP9
        obtain ⟨T, hT⟩ : ∃ T, tx (l.take k) = T := ⟨_, rfl⟩
        rw [hT] at e9 hP9 hWk
        rw [hS.out] at e9
        generalize (paV T).e = e0 at *
        generalize (paV T).sg = s0 at *
        generalize (paV T).sz = z0 at *
        generalize (paV T).n = n0 at *
        replace hP9 := Lib.hid hP9
        clear hT hnb
        by_cases h1 : e0 = 0
        · have e1 : (e0 == 0) = true := by simpa using h1
          have e2 : (e0 != 0) = false := by simpa using h1
          have hW := hWk
          rw [e1, if_pos rfl] at hW
          replace hW := Lib.hid hW
          replace h1 := Lib.hid h1
          clear hWk
          go_wp2_with fail
          (with_reducible refine (hP9.out _).mono ?_)
          rintro e w1 ⟨A9, c9, rfl, _, hb9⟩
          have z9 := hb9.size
          go_wp2_with fail
          refine bodyPost_ret (v := .tuple #[.int .i64 2, .int .i64 (k : Int), .int .i64 0]) (by simp [results, Tryz.results11, go_sem]) rfl ⟨by rw [hW.out], by go_grown⟩
        · have e1 : (e0 == 0) = false := by simpa using h1
          have e2 : (e0 != 0) = true := by simpa using h1
          have hW := hWk
          rw [e1, if_neg (by decide)] at hW
          replace hW := Lib.hid hW
          replace h1 := Lib.hid h1
          clear hWk
          go_wp2_with fail
          (with_reducible refine (hP9.out _).mono ?_)
          rintro e w1 ⟨A9, c9, rfl, _, hb9⟩
          have z9 := hb9.size
          go_wp2_with fail
          refine bodyPost_ret (v := .tuple #[.int .i64 0, .int .i64 0, .int .i64 7]) (by simp [results, Tryz.results11, go_sem]) rfl ⟨by rw [hW.out], by go_grown⟩
  · rw [hd] at hDt
    have x39 : ((x : Int) == 39) = true := by simp; omega
    replace h39x := Lib.hid h39x
    replace hDt := Lib.hid hDt
    clear hd
    go_enter Tryz.func11, Tryz.ntmps11
    go_wp2_with (first | (go_at_call 18; (with_reducible refine (hLt.out _).mono ?_); rintro e w' ⟨rfl, rfl⟩) | (go_at_call 19; (with_reducible refine (hDt.out _).mono ?_); rintro e w' ⟨rfl, rfl⟩))
    go_loop [6] (fun i => ∃ k : Nat, k ≤ S.size ∧ i = .int .i64 (k : Int) ∧ k + ah duB (l.drop k) = R) (fun i => S.size - (RowKit.intOf i).toNat)
    case atStart => exact ⟨0, by omega, rfl, h00.out⟩
    case round =>
      obtain ⟨k, hk, rfl, hr⟩ := hrel
      clear h00 hLt hDt
      by_cases hlt : k < S.size
      · have hkl : k < l.length := by have := hlen.out; omega
        have hbk := hbt.out k hlt hkl
        have hcb : (l[k]).toNat < 256 := UInt8.toNat_lt _
        rw [ah_step duB l k hkl] at hr
        have hdu : duB (l[k]).toNat = (digB (l[k]).toNat || decide ((l[k]).toNat = 95)) := rfl
        rw [hdu] at hr
        have hLy := Lib.hid (rLetter_t (l[k]).toNat hcb)
        have hDy := Lib.hid (rDigit_t (l[k]).toNat hcb)
        have hhd : (l.drop k).head? = some l[k] := by rw [List.drop_eq_getElem_cons hkl]; rfl
        have h39i : ((l.drop k).head? = some 39) ↔ (l[k]).toNat = 39 := by
          rw [hhd, Option.some.injEq]
          constructor
          · intro e; rw [e]; rfl
          · intro e; apply UInt8.toNat_inj.1; rw [e]; rfl
        clear hcb hdu hhd
        generalize (l[k]).toNat = y at *
        have hw1 : IntKind.i64.wrap ((k : Int) + 1) = (k : Int) + 1 := IntWalk.i64_in _ (by omega)
        by_cases h95 : y = 95
        · have y95 : ((y : Int) == 95) = true := by simp; omega
          have hr' : k + 1 + ah duB (l.drop (k + 1)) = R := by simp [h95] at hr; omega
          replace hr' := Lib.hid hr'
          replace h95 := Lib.hid h95
          clear hr hkl h39i
          generalize digB y = dy at *
          cases dy
          all_goals
            go_wp2_with (first | (go_at_call 18; (with_reducible refine (hLy.out _).mono ?_); rintro e w' ⟨rfl, rfl⟩) | (go_at_call 19; (with_reducible refine (hDy.out _).mono ?_); rintro e w' ⟨rfl, rfl⟩))
            go_round
            case rel => exact ⟨k + 1, by omega, by go_num, hr'.out⟩
            case measure => simp [RowKit.intOf]; omega
        · have y95 : ((y : Int) == 95) = false := by simp; omega
          have y95' : ¬ (y : Int) = 95 := by omega
          have hd95 : decide (y = 95) = false := by simpa using h95
          rw [hd95] at hr
          replace h95 := Lib.hid h95
          by_cases hdg : digB y = true
          · rw [hdg] at hr hDy
            have hr' : k + 1 + ah duB (l.drop (k + 1)) = R := by simp at hr; omega
            replace hr' := Lib.hid hr'
            clear hr hkl h39i hdg hd95
            go_wp2_with (first | (go_at_call 18; (with_reducible refine (hLy.out _).mono ?_); rintro e w' ⟨rfl, rfl⟩) | (go_at_call 19; (with_reducible refine (hDy.out _).mono ?_); rintro e w' ⟨rfl, rfl⟩))
            go_round
            case rel => exact ⟨k + 1, by omega, by go_num, hr'.out⟩
            case measure => simp [RowKit.intOf]; omega
          · have hdf : digB y = false := by simpa using hdg
            rw [hdf] at hr hDy
            have hkR : k = R := by simpa using hr
            clear hr hdg hdf hd95
            by_cases h39 : y = 39
            · have y39 : ((y : Int) == 39) = true := by simp; omega
              have hW3 := hWq (by rw [← hkR]; exact h39i.2 h39)
              rw [← hkR] at hW3
              obtain ⟨R3, hR3⟩ : ∃ R3, k + 1 + ah partB (l.drop (k + 1)) = R3 := ⟨_, rfl⟩
              rw [hR3] at hW3
              have h3 := hR3
              replace h39 := Lib.hid h39
              clear hkR hkl h39i hWq hWn hR3
              go_wp2_with (first | (go_at_call 18; (with_reducible refine (hLy.out _).mono ?_); rintro e w' ⟨rfl, rfl⟩) | (go_at_call 19; (with_reducible refine (hDy.out _).mono ?_); rintro e w' ⟨rfl, rfl⟩))
              go_loop [6] (fun i => ∃ k : Nat, k ≤ S.size ∧ i = .int .i64 (k : Int) ∧ k + ah partB (l.drop k) = R3) (fun i => S.size - (RowKit.intOf i).toNat)
              case atStart => exact ⟨k + 1, by omega, by go_num, h3⟩
              case round =>
                clear hLy hDy h3
                obtain ⟨k, hk, rfl, hr⟩ := hrel
                by_cases hlt : k < S.size
                · have hkl : k < l.length := by have := hlen.out; omega
                  have hbk := hbt.out k hlt hkl
                  have hcb : (l[k]).toNat < 256 := UInt8.toNat_lt _
                  rw [ah_step partB l k hkl, part_rl] at hr
                  have hLy := Lib.hid (rLetter_t (l[k]).toNat hcb)
                  have hDy := Lib.hid (rDigit_t (l[k]).toNat hcb)
                  clear hcb
                  generalize (l[k]).toNat = y3 at *
                  have hw1 : IntKind.i64.wrap ((k : Int) + 1) = (k : Int) + 1 := IntWalk.i64_in _ (by omega)
                  have hpp : digB y3 = true ∨ (digB y3 = false ∧ rlB y3 = true) ∨ (digB y3 = false ∧ rlB y3 = false) := by cases rlB y3 <;> cases digB y3 <;> simp
                  generalize rlB y3 = ry at *
                  generalize digB y3 = dy at *
                  rcases hpp with rfl | ⟨rfl, rfl⟩ | ⟨rfl, rfl⟩
                  · have hr' : k + 1 + ah partB (l.drop (k + 1)) = R3 := by simp at hr; omega
                    replace hr' := Lib.hid hr'
                    clear hr hkl
                    go_wp2_with (first | (go_at_call 18; (with_reducible refine (hLy.out _).mono ?_); rintro e w' ⟨rfl, rfl⟩) | (go_at_call 19; (with_reducible refine (hDy.out _).mono ?_); rintro e w' ⟨rfl, rfl⟩))
                    go_round
                    case rel => exact ⟨k + 1, by omega, by go_num, hr'.out⟩
                    case measure => simp [RowKit.intOf]; omega
                  · have hr' : k + 1 + ah partB (l.drop (k + 1)) = R3 := by simp at hr; omega
                    replace hr' := Lib.hid hr'
                    clear hr hkl
                    go_wp2_with (first | (go_at_call 18; (with_reducible refine (hLy.out _).mono ?_); rintro e w' ⟨rfl, rfl⟩) | (go_at_call 19; (with_reducible refine (hDy.out _).mono ?_); rintro e w' ⟨rfl, rfl⟩))
                    go_round
                    case rel => exact ⟨k + 1, by omega, by go_num, hr'.out⟩
                    case measure => simp [RowKit.intOf]; omega
                  · have hkR : k = R3 := by simpa using hr
                    have hWk := hW3
                    rw [← hkR] at hWk
                    clear hr hkl hkR hW3
                    have e9 := tx_take l k
                    have hP9 := fun w => refParse_t (tx (l.take k)) w (by unfold maxLen; show (l.take k).length ≤ _; rw [List.length_take]; have := hlen.out; omega)
                    have hnb : nbP (l.take k) = ((paV (tx (l.take k))).e == 0) := rfl
                    rw [hnb] at hWk
                    unfold PL at hP9
                    obtain ⟨T, hT⟩ : ∃ T, tx (l.take k) = T := ⟨_, rfl⟩
                    rw [hT] at e9 hP9 hWk
                    rw [hS.out] at e9
                    generalize (paV T).e = e0 at *
                    generalize (paV T).sg = s0 at *
                    generalize (paV T).sz = z0 at *
                    generalize (paV T).n = n0 at *
                    replace hP9 := Lib.hid hP9
                    clear hT hnb
                    by_cases h1 : e0 = 0
                    · have e1 : (e0 == 0) = true := by simpa using h1
                      have e2 : (e0 != 0) = false := by simpa using h1
                      have hW := hWk
                      rw [e1, if_pos rfl] at hW
                      replace hW := Lib.hid hW
                      replace h1 := Lib.hid h1
                      clear hWk
                      go_wp2_with (first | (go_at_call 18; (with_reducible refine (hLy.out _).mono ?_); rintro e w' ⟨rfl, rfl⟩) | (go_at_call 19; (with_reducible refine (hDy.out _).mono ?_); rintro e w' ⟨rfl, rfl⟩))
                      (with_reducible refine (hP9.out _).mono ?_)
                      rintro e w1 ⟨A9, c9, rfl, _, hb9⟩
                      have z9 := hb9.size
                      go_wp2_with fail
                      refine bodyPost_ret (v := .tuple #[.int .i64 2, .int .i64 (k : Int), .int .i64 0]) (by simp [results, Tryz.results11, go_sem]) rfl ⟨by rw [hW.out], by go_grown⟩
                    · have e1 : (e0 == 0) = false := by simpa using h1
                      have e2 : (e0 != 0) = true := by simpa using h1
                      have hW := hWk
                      rw [e1, if_neg (by decide)] at hW
                      replace hW := Lib.hid hW
                      replace h1 := Lib.hid h1
                      clear hWk
                      go_wp2_with (first | (go_at_call 18; (with_reducible refine (hLy.out _).mono ?_); rintro e w' ⟨rfl, rfl⟩) | (go_at_call 19; (with_reducible refine (hDy.out _).mono ?_); rintro e w' ⟨rfl, rfl⟩))
                      (with_reducible refine (hP9.out _).mono ?_)
                      rintro e w1 ⟨A9, c9, rfl, _, hb9⟩
                      have z9 := hb9.size
                      go_wp2_with fail
                      refine bodyPost_ret (v := .tuple #[.int .i64 0, .int .i64 0, .int .i64 7]) (by simp [results, Tryz.results11, go_sem]) rfl ⟨by rw [hW.out], by go_grown⟩
                · have hkS : k = S.size := by omega
                  have hkR : k = R3 := by
                    rw [List.drop_eq_nil_of_le (by have := hlen.out; omega)] at hr
                    exact hr
                  have hWk := hW3
                  rw [← hkR] at hWk
                  have hks2 : ¬ (k : Int) < (S.size : Int) := by omega
                  clear hr hkR hW3
                  replace hkS := Lib.hid hkS
                  have e9 := tx_take l k
                  have hP9 := fun w => refParse_t (tx (l.take k)) w (by unfold maxLen; show (l.take k).length ≤ _; rw [List.length_take]; have := hlen.out; omega)
                  have hnb : nbP (l.take k) = ((paV (tx (l.take k))).e == 0) := rfl
                  rw [hnb] at hWk
                  unfold PL at hP9
                  obtain ⟨T, hT⟩ : ∃ T, tx (l.take k) = T := ⟨_, rfl⟩
                  rw [hT] at e9 hP9 hWk
                  rw [hS.out] at e9
                  generalize (paV T).e = e0 at *
                  generalize (paV T).sg = s0 at *
                  generalize (paV T).sz = z0 at *
                  generalize (paV T).n = n0 at *
                  replace hP9 := Lib.hid hP9
                  clear hT hnb
                  by_cases h1 : e0 = 0
                  · have e1 : (e0 == 0) = true := by simpa using h1
                    have e2 : (e0 != 0) = false := by simpa using h1
                    have hW := hWk
                    rw [e1, if_pos rfl] at hW
                    replace hW := Lib.hid hW
                    replace h1 := Lib.hid h1
                    clear hWk
                    go_wp2_with fail
                    (with_reducible refine (hP9.out _).mono ?_)
                    rintro e w1 ⟨A9, c9, rfl, _, hb9⟩
                    have z9 := hb9.size
                    go_wp2_with fail
                    refine bodyPost_ret (v := .tuple #[.int .i64 2, .int .i64 (k : Int), .int .i64 0]) (by simp [results, Tryz.results11, go_sem]) rfl ⟨by rw [hW.out], by go_grown⟩
                  · have e1 : (e0 == 0) = false := by simpa using h1
                    have e2 : (e0 != 0) = true := by simpa using h1
                    have hW := hWk
                    rw [e1, if_neg (by decide)] at hW
                    replace hW := Lib.hid hW
                    replace h1 := Lib.hid h1
                    clear hWk
                    go_wp2_with fail
                    (with_reducible refine (hP9.out _).mono ?_)
                    rintro e w1 ⟨A9, c9, rfl, _, hb9⟩
                    have z9 := hb9.size
                    go_wp2_with fail
                    refine bodyPost_ret (v := .tuple #[.int .i64 0, .int .i64 0, .int .i64 7]) (by simp [results, Tryz.results11, go_sem]) rfl ⟨by rw [hW.out], by go_grown⟩
            · have y39 : ((y : Int) == 39) = false := by simp; omega
              have y39' : ¬ (y : Int) = 39 := by omega
              have hWk := hWn (by rw [← hkR]; exact fun e => h39 (h39i.1 e))
              rw [← hkR] at hWk
              replace h39 := Lib.hid h39
              clear hkR hkl h39i hWq hWn
              have e9 := tx_take l k
              have hP9 := fun w => refParse_t (tx (l.take k)) w (by unfold maxLen; show (l.take k).length ≤ _; rw [List.length_take]; have := hlen.out; omega)
              have hnb : nbP (l.take k) = ((paV (tx (l.take k))).e == 0) := rfl
              rw [hnb] at hWk
              unfold PL at hP9
              obtain ⟨T, hT⟩ : ∃ T, tx (l.take k) = T := ⟨_, rfl⟩
              rw [hT] at e9 hP9 hWk
              rw [hS.out] at e9
              generalize (paV T).e = e0 at *
              generalize (paV T).sg = s0 at *
              generalize (paV T).sz = z0 at *
              generalize (paV T).n = n0 at *
              replace hP9 := Lib.hid hP9
              clear hT hnb
              by_cases h1 : e0 = 0
              · have e1 : (e0 == 0) = true := by simpa using h1
                have e2 : (e0 != 0) = false := by simpa using h1
                have hW := hWk
                rw [e1, if_pos rfl] at hW
                replace hW := Lib.hid hW
                replace h1 := Lib.hid h1
                clear hWk
                go_wp2_with (first | (go_at_call 18; (with_reducible refine (hLy.out _).mono ?_); rintro e w' ⟨rfl, rfl⟩) | (go_at_call 19; (with_reducible refine (hDy.out _).mono ?_); rintro e w' ⟨rfl, rfl⟩))
                (with_reducible refine (hP9.out _).mono ?_)
                rintro e w1 ⟨A9, c9, rfl, _, hb9⟩
                have z9 := hb9.size
                go_wp2_with fail
                refine bodyPost_ret (v := .tuple #[.int .i64 2, .int .i64 (k : Int), .int .i64 0]) (by simp [results, Tryz.results11, go_sem]) rfl ⟨by rw [hW.out], by go_grown⟩
              · have e1 : (e0 == 0) = false := by simpa using h1
                have e2 : (e0 != 0) = true := by simpa using h1
                have hW := hWk
                rw [e1, if_neg (by decide)] at hW
                replace hW := Lib.hid hW
                replace h1 := Lib.hid h1
                clear hWk
                go_wp2_with (first | (go_at_call 18; (with_reducible refine (hLy.out _).mono ?_); rintro e w' ⟨rfl, rfl⟩) | (go_at_call 19; (with_reducible refine (hDy.out _).mono ?_); rintro e w' ⟨rfl, rfl⟩))
                (with_reducible refine (hP9.out _).mono ?_)
                rintro e w1 ⟨A9, c9, rfl, _, hb9⟩
                have z9 := hb9.size
                go_wp2_with fail
                refine bodyPost_ret (v := .tuple #[.int .i64 0, .int .i64 0, .int .i64 7]) (by simp [results, Tryz.results11, go_sem]) rfl ⟨by rw [hW.out], by go_grown⟩
      · have hkS : k = S.size := by omega
        have hkR : k = R := by
          rw [List.drop_eq_nil_of_le (by have := hlen.out; omega)] at hr
          exact hr
        have hWk := hWn (by rw [← hkR, List.drop_eq_nil_of_le (by have := hlen.out; omega)]; simp)
        rw [← hkR] at hWk
        have hks2 : ¬ (k : Int) < (S.size : Int) := by omega
        clear hr hkR hWq hWn
        replace hkS := Lib.hid hkS
        have e9 := tx_take l k
        have hP9 := fun w => refParse_t (tx (l.take k)) w (by unfold maxLen; show (l.take k).length ≤ _; rw [List.length_take]; have := hlen.out; omega)
        have hnb : nbP (l.take k) = ((paV (tx (l.take k))).e == 0) := rfl
        rw [hnb] at hWk
        unfold PL at hP9
        obtain ⟨T, hT⟩ : ∃ T, tx (l.take k) = T := ⟨_, rfl⟩
        rw [hT] at e9 hP9 hWk
        rw [hS.out] at e9
        generalize (paV T).e = e0 at *
        generalize (paV T).sg = s0 at *
        generalize (paV T).sz = z0 at *
        generalize (paV T).n = n0 at *
        replace hP9 := Lib.hid hP9
        clear hT hnb
        by_cases h1 : e0 = 0
        · have e1 : (e0 == 0) = true := by simpa using h1
          have e2 : (e0 != 0) = false := by simpa using h1
          have hW := hWk
          rw [e1, if_pos rfl] at hW
          replace hW := Lib.hid hW
          replace h1 := Lib.hid h1
          clear hWk
          go_wp2_with fail
          (with_reducible refine (hP9.out _).mono ?_)
          rintro e w1 ⟨A9, c9, rfl, _, hb9⟩
          have z9 := hb9.size
          go_wp2_with fail
          refine bodyPost_ret (v := .tuple #[.int .i64 2, .int .i64 (k : Int), .int .i64 0]) (by simp [results, Tryz.results11, go_sem]) rfl ⟨by rw [hW.out], by go_grown⟩
        · have e1 : (e0 == 0) = false := by simpa using h1
          have e2 : (e0 != 0) = true := by simpa using h1
          have hW := hWk
          rw [e1, if_neg (by decide)] at hW
          replace hW := Lib.hid hW
          replace h1 := Lib.hid h1
          clear hWk
          go_wp2_with fail
          (with_reducible refine (hP9.out _).mono ?_)
          rintro e w1 ⟨A9, c9, rfl, _, hb9⟩
          have z9 := hb9.size
          go_wp2_with fail
          refine bodyPost_ret (v := .tuple #[.int .i64 0, .int .i64 0, .int .i64 7]) (by simp [results, Tryz.results11, go_sem]) rfl ⟨by rw [hW.out], by go_grown⟩
end Go.Proofs.YtomjokpgcijccaaGreatDoor
namespace Go.Proofs.YtomjokpgcijccaaGreatDoor
open Go.RowKit Go.Lib
def sL : Nat → List (List UInt8)
  | 3 => [[60, 60, 60], [62, 62, 62]]
  | 2 => [[60, 60], [62, 62], [60, 61], [62, 61], [61, 61], [33, 61], [38, 38], [124, 124], [126, 38], [126, 124], [126, 94], [94, 126]]
  | _ => [[43], [45], [42], [47], [37], [38], [124], [94], [126], [33], [60], [62], [63], [58], [61], [40], [41], [91], [93], [123], [125], [59], [44], [46], [35], [64]]
theorem sL_all : sgL = sL 3 ++ (sL 2 ++ sL 1) := by decide +kernel
theorem sL_len : ∀ n, 1 ≤ n → n ≤ 3 → ∀ s, s ∈ sL n → s.length = n := by
  intro n h1 h3
  have : n = 1 ∨ n = 2 ∨ n = 3 := by omega
  rcases this with rfl | rfl | rfl
  · decide +kernel
  · decide +kernel
  · decide +kernel
theorem sgn_big (l : List UInt8) (n : Nat) (h1 : 1 ≤ n) (h3 : n ≤ 3) (hno : ∀ m, n < m → m ≤ 3 → ∀ s, s ∈ sL m → s.isPrefixOf l = false) (s : List UInt8) (hs : s ∈ sL n) (hp : s.isPrefixOf l = true) : sgn l = n := by
  have key : ∀ (a b : List (List UInt8)), (∀ s, s ∈ a → s.isPrefixOf l = false) → (a ++ b).find? (fun s => s.isPrefixOf l) = b.find? (fun s => s.isPrefixOf l) := fun a b h => by
    rw [List.find?_append, List.find?_eq_none.2 (fun x hx => by rw [h x hx]; decide)]; rfl
  have hit : ∀ (a b : List (List UInt8)), s ∈ a → ∃ s', s' ∈ a ∧ (a ++ b).find? (fun s => s.isPrefixOf l) = some s' := fun a b h => by
    cases hf : a.find? (fun s => s.isPrefixOf l) with
    | none => exact absurd hp (by simpa using List.find?_eq_none.1 hf s h)
    | some s' => exact ⟨s', List.mem_of_find?_eq_some hf, by rw [List.find?_append, hf]; rfl⟩
  unfold sgn
  rw [sL_all]
  have : n = 1 ∨ n = 2 ∨ n = 3 := by omega
  rcases this with rfl | rfl | rfl
  · rw [key _ _ (hno 3 (by omega) (by omega)), key _ _ (hno 2 (by omega) (by omega))]
    obtain ⟨s', hm, he⟩ := hit (sL 1) [] hs
    rw [List.append_nil] at he
    rw [he]
    exact sL_len 1 (by omega) (by omega) s' hm
  · rw [key _ _ (hno 3 (by omega) (by omega))]
    obtain ⟨s', hm, he⟩ := hit (sL 2) (sL 1) hs
    rw [he]
    exact sL_len 2 (by omega) (by omega) s' hm
  · obtain ⟨s', hm, he⟩ := hit (sL 3) (sL 2 ++ sL 1) hs
    rw [he]
    exact sL_len 3 (by omega) (by omega) s' hm
theorem sgn_none (l : List UInt8) (hno : ∀ m, 0 < m → m ≤ 3 → ∀ s, s ∈ sL m → s.isPrefixOf l = false) : sgn l = 0 := by
  unfold sgn
  rw [sL_all, List.find?_eq_none.2]
  intro s hs
  rw [List.mem_append, List.mem_append] at hs
  rcases hs with h | h | h
  · rw [hno 3 (by omega) (by omega) s h]; decide
  · rw [hno 2 (by omega) (by omega) s h]; decide
  · rw [hno 1 (by omega) (by omega) s h]; decide
theorem pre_take (s l : List UInt8) : s.isPrefixOf l = (decide (s.length ≤ l.length) && (l.take s.length == s)) := by
  rw [Bool.eq_iff_iff]
  simp only [List.isPrefixOf_iff_prefix, Bool.and_eq_true, decide_eq_true_eq, beq_iff_eq]
  constructor
  · rintro ⟨r, rfl⟩
    simp
  · rintro ⟨_, h⟩
    exact ⟨l.drop s.length, by rw [← h, List.length_take, Nat.min_eq_left (by omega), List.take_append_drop]⟩
def SN (n : Nat) (w : World) (e : Ending) (w' : World) : Prop :=
  e = .returned (.slice (some ⟨w.heap.size, 0, none⟩) (sL n).length (sL n).length) ∧ w'.rowIs w.heap.size 9 (sL n).length (fun j => .string (tx ((sL n).getD j []))) ∧ Below w.heap.size w w'
theorem row_lit (w : World) (L : List (List UInt8)) (c : Array Value) (hc : c.toList = L.map fun s => Value.string (tx s)) : (w.alloc (.cells c 9)).rowIs w.heap.size 9 L.length (fun j => .string (tx (L.getD j []))) := by
  have hs : c.size = L.length := by rw [← Array.length_toList, hc, List.length_map]
  have := World.rowIs_alloc w c 9 (fun j => .string (tx (L.getD j []))) (fun i hi => by
    rw [← Array.getElem?_toList, hc, List.getElem?_map, List.getElem?_eq_getElem (by omega), List.getD_eq_getElem?_getD, List.getElem?_eq_getElem (by omega)]; rfl)
  rwa [hs] at this
set_option maxRecDepth 100000 in
set_option maxHeartbeats 3200000 in
theorem signs_t (n : Nat) (h1 : 1 ≤ n) (h3 : n ≤ 3) (w : World) : Calls Tryz.prog 21 #[.int .i64 (n : Int)] w (SN n w) := by
  have hn : n = 1 ∨ n = 2 ∨ n = 3 := by omega
  clear h1 h3
  unfold SN
  rcases hn with rfl | rfl | rfl
  · have hr := row_lit w (sL 1) ((sL 1).map fun s => Value.string (tx s)).toArray rfl
    replace hr := Lib.hid hr
    go_enter Tryz.func21, Tryz.ntmps21
    go_wp2_with fail
    go_ret
    exact ⟨rfl, hr.out, by go_grown⟩
  · have hr := row_lit w (sL 2) ((sL 2).map fun s => Value.string (tx s)).toArray rfl
    replace hr := Lib.hid hr
    go_enter Tryz.func21, Tryz.ntmps21
    go_wp2_with fail
    go_ret
    exact ⟨rfl, hr.out, by go_grown⟩
  · have hr := row_lit w (sL 3) ((sL 3).map fun s => Value.string (tx s)).toArray rfl
    replace hr := Lib.hid hr
    go_enter Tryz.func21, Tryz.ntmps21
    go_wp2_with fail
    go_ret
    exact ⟨rfl, hr.out, by go_grown⟩
end Go.Proofs.YtomjokpgcijccaaGreatDoor
namespace Go.Proofs.YtomjokpgcijccaaGreatDoor
open Go.RowKit Go.Lib
theorem WV_sign (nb : List UInt8 → Bool) (l : List UInt8) (hm : me l = (3, sgn l)) : (sgn l = 0 → WV nb l = (0, 0, 7)) ∧ (∀ n, sgn l = n → 0 < n → WV nb l = (3, (n : Int), 0)) := by
  refine ⟨fun h => ?_, fun n h hn => ?_⟩
  · unfold WV
    have hc : ck nb 3 [] = 7 := by unfold ck; rw [if_pos rfl]
    rw [hm, h]
    simp [hc]
  · have hl : l ≠ [] := by
      rintro rfl
      have e : sgn [] = 0 := by decide +kernel
      omega
    have hne : l.take n ≠ [] := by
      cases l with
      | nil => exact absurd rfl hl
      | cons a r =>
        obtain ⟨m, rfl⟩ : ∃ m, n = m + 1 := ⟨n - 1, by omega⟩
        rw [List.take_succ_cons]; simp
    unfold WV
    rw [hm, h]
    simp only
    rw [if_pos (by unfold ck; rw [if_neg hne, if_neg (by decide), if_neg (by decide)])]
    rfl
set_option maxRecDepth 100000 in
set_option maxHeartbeats 12800000 in
theorem Word_sign (nb : List UInt8 → Bool) (c : UInt8) (t : List UInt8) (w : World) (hl : t.length < 4611686018427387900) (h : ¬ (letB c.toNat || decide (c.toNat = 95) || decide (c.toNat = 36)) = true) (h' : ¬ (digB c.toNat || decide (c.toNat = 39)) = true) : Calls Tryz.prog 11 #[.string (tx (c :: t))] w (WP nb (c :: t) w) := by
  have hm : me (c :: t) = (3, sgn (c :: t)) := by rw [me_cons, if_neg h, if_neg h']
  obtain ⟨hW0, hWn⟩ := WV_sign nb (c :: t) hm
  have hbig := sgn_big (c :: t)
  have hnone := sgn_none (c :: t)
  have hpt := fun s => pre_take s (c :: t)
  have hlen : (c :: t).length = t.length + 1 := rfl
  have hb : ∀ (h : 0 < (tx (c :: t)).size), (tx (c :: t))[0].toNat = c.toNat := fun _ => rfl
  have hz : (tx (c :: t)).size = t.length + 1 := rfl
  obtain ⟨l, hll⟩ : ∃ l, c :: t = l := ⟨_, rfl⟩
  unfold WP
  rw [hll] at hW0 hWn hbig hnone hb hz hlen ⊢
  simp only [hll] at hpt
  obtain ⟨S, hS⟩ : ∃ S, tx l = S := ⟨_, rfl⟩
  rw [hS] at hb hz ⊢
  have hLt := fun w => rLetter_t c.toNat (UInt8.toNat_lt _) w
  have hDt := fun w => rDigit_t c.toNat (UInt8.toNat_lt _) w
  generalize c.toNat = x at *
  generalize t.length = n at *
  have hz0 : 0 < S.size := by omega
  have hb0 := hb hz0
  have hx : (letB x = false ∧ x ≠ 95 ∧ x ≠ 36) ∧ digB x = false ∧ x ≠ 39 := by
    simp only [Bool.or_eq_true, decide_eq_true_eq, not_or] at h h'
    exact ⟨⟨by simpa using h.1.1, h.1.2, h.2⟩, by simpa using h'.1, h'.2⟩
  obtain ⟨⟨hx1, hx2, hx3⟩, hx4, hx5⟩ := hx
  have hrl : rlB x = false := by unfold rlB; rw [hx1]; simpa using hx2
  rw [hrl] at hLt
  rw [hx4] at hDt
  have x36 : ((x : Int) == 36) = false := by simp; omega
  have x39 : ((x : Int) == 39) = false := by simp; omega
  have x36' : ¬ (x : Int) = 36 := by omega
  have x39' : ¬ (x : Int) = 39 := by omega
  have hSg := fun n h1 h3 w => signs_t n h1 h3 w
  have hSb : S.size ≤ 4611686018427387902 := by omega
  have hlz : l.length = S.size := by omega
  replace hLt := Lib.hid hLt
  replace hDt := Lib.hid hDt
  replace hW0 := Lib.hid hW0
  replace hWn := Lib.hid hWn
  replace hbig := Lib.hid hbig
  replace hnone := Lib.hid hnone
  replace hpt := Lib.hid hpt
  replace hlen := Lib.hid hlz
  replace hS := Lib.hid hS
  replace hSg := Lib.hid hSg
  clear hm hll h h' hb hx1 hx2 hx3 hrl hx4 hx5 hz hlz
  go_enter Tryz.func11, Tryz.ntmps11
  go_wp2_with (first | (go_at_call 18; (with_reducible refine (hLt.out _).mono ?_); rintro e w' ⟨rfl, hw⟩; replace hw := hw.symm; subst hw) | (go_at_call 19; (with_reducible refine (hDt.out _).mono ?_); rintro e w' ⟨rfl, hw⟩; replace hw := hw.symm; subst hw))
  go_loopw [6] (fun nv wr => ∃ k : Nat, k ≤ 3 ∧ nv = .int .i64 (k : Int) ∧ (∀ m, k < m → m ≤ 3 → ∀ s, s ∈ sL m → s.isPrefixOf l = false) ∧ Below w.heap.size w wr) (fun nv _ => (RowKit.intOf nv).toNat)
  case atStart => exact ⟨3, Nat.le_refl _, rfl, fun m h1 h2 => by omega, Below.refl _ _⟩
  case round =>
    obtain ⟨k, hk, rfl, hno, hbw⟩ := hrel
    clear hLt hDt
    by_cases hk0 : k = 0
    · subst hk0
      have hW := hW0.out (hnone.out fun m h1 h2 => hno m h1 h2)
      replace hW := Lib.hid hW
      replace hno := Lib.hid hno
      go_wp2_with fail
      refine bodyPost_ret (v := .tuple #[.int .i64 0, .int .i64 0, .int .i64 7]) (by simp [results, Tryz.results11, go_sem]) rfl ⟨by rw [hW.out], hbw⟩
    · have hk1 : 1 ≤ k := by omega
      have hkp : (0 : Int) < (k : Int) := by omega
      have hSk := hSg.out k hk1 hk
      obtain ⟨G, hG⟩ : ∃ G, wr.heap.size = G := ⟨_, rfl⟩
      unfold SN at hSk
      obtain ⟨m, hm⟩ : ∃ m, (sL k).length = m := ⟨_, rfl⟩
      have hm30 : m ≤ 30 := by
        have : k = 1 ∨ k = 2 ∨ k = 3 := by omega
        rcases this with rfl | rfl | rfl <;> (rw [← hm]; decide)
      rw [hm] at hSk
      replace hSk := Lib.hid hSk
      replace hno := Lib.hid hno
      replace hk0 := Lib.hid hk0
      replace hm := Lib.hid hm
      go_wp2_with fail
      (with_reducible refine (hSk.out _).mono ?_)
      rintro e w1 ⟨rfl, hR1, hb1⟩
      have hbw1 := below_call hb1 hbw
      have hg1 := hR1.lt
      rw [hG] at hg1 hR1
      replace hR1 := Lib.hid hR1
      replace hbw1 := Lib.hid hbw1
      clear hb1 hbw
      rw [hG]
      replace hG := Lib.hid hG
      go_wp2_with fail
      go_loopw [10] (fun iv wq => ∃ i : Nat, i ≤ m ∧ iv = .int .i64 (i : Int) ∧ (∀ j (hj : j < (sL k).length), j < i → (sL k)[j].isPrefixOf l = false) ∧ Below w1.heap.size w1 wq) (fun iv _ => m - (RowKit.intOf iv).toNat)
      case atStart => exact ⟨0, Nat.zero_le _, rfl, fun j _ hj => by omega, Below.refl _ _⟩
      case round =>
        obtain ⟨i, hi, rfl, hni, hbq⟩ := hrel
        by_cases him : i < m
        · have hik : i < (sL k).length := by rw [hm.out]; exact him
          have hci := (hbq.cell (p := ⟨G, i, none⟩) hg1).trans (hR1.out.cell him)
          have hgi : (sL k).getD i [] = (sL k)[i] := by rw [List.getD_eq_getElem?_getD, List.getElem?_eq_getElem hik]; rfl
          rw [hgi] at hci
          have hsl := sL_len k hk1 hk (sL k)[i] (List.getElem_mem hik)
          have hps := hpt.out (sL k)[i]
          rw [hsl] at hps
          have hhit := fun (hp : (sL k)[i].isPrefixOf l = true) => hWn.out k (hbig.out k hk1 hk hno.out (sL k)[i] (List.getElem_mem hik) hp) hk1
          have hmiss := fun (hp : (sL k)[i].isPrefixOf l = false) j (hj : j < (sL k).length) (hji : j < i + 1) => (show (sL k)[j].isPrefixOf l = false from by
            by_cases e : j = i
            · subst e; exact hp
            · exact hni j hj (by omega))
          obtain ⟨s, hss⟩ : ∃ s, (sL k)[i] = s := ⟨_, rfl⟩
          rw [hss] at hci hsl hps hhit hmiss
          obtain ⟨T, hT⟩ : ∃ T, tx s = T := ⟨_, rfl⟩
          rw [hT] at hci
          have hTl : T.toList = s := by rw [← hT, tx_toList]
          have e9 := tx_take l k
          rw [hS.out] at e9
          obtain ⟨U, hU⟩ : ∃ U, tx (l.take k) = U := ⟨_, rfl⟩
          rw [hU] at e9
          have hUl : U.toList = l.take k := by rw [← hU, tx_toList]
          have hcmp : (U.toList == T.toList) = (l.take k == s) := by rw [hUl, hTl]
          have hw1 : IntKind.i64.wrap ((i : Int) + 1) = (i : Int) + 1 := IntWalk.i64_in _ (by omega)
          clear hgi hss hT hU hUl hTl hni hik
          replace hbq := Lib.hid hbq
          by_cases hks : k ≤ S.size
          · have hks1 : decide ((k : Int) ≤ (S.size : Int)) = true := by simp; omega
            have hks2 : (k : Int) ≤ (S.size : Int) := by omega
            have hkl : decide (k ≤ l.length) = true := by have := hlen.out; simp; omega
            rw [hkl, Bool.true_and] at hps
            rw [← hps] at hcmp
            cases hp : s.isPrefixOf l
            · have hr' := hmiss hp
              rw [hp] at hcmp
              have hcm2 : ¬ U.toList = T.toList := by simpa using hcmp
              replace hr' := Lib.hid hr'
              replace hcm2 := Lib.hid hcm2
              clear hps hhit hmiss hp hkl hsl
              go_wp2_with fail
              have hci2 := hci
              go_region_held3 (fun w' => w'.cell? ⟨G, i, none⟩ = some (.string T)) (first | (with_reducible exact hci2) | (exact hci2)) (fail)
              go_wp2_with fail
              go_roundw
              case rel => exact ⟨i + 1, by omega, by go_num, hr'.out, hbq.out.drew⟩
              case measure => simp [RowKit.intOf]; omega
            · have hW := hhit hp
              rw [hp] at hcmp
              have hbf := hbw1.out.trans (hbq.out.mono hbw1.out.size)
              have hcm2 : U.toList = T.toList := by simpa using hcmp
              replace hcm2 := Lib.hid hcm2
              replace hW := Lib.hid hW
              replace hbf := Lib.hid hbf
              clear hps hhit hmiss hp hkl hsl
              go_wp2_with fail
              have hci2 := hci
              go_region_held3 (fun w' => w'.cell? ⟨G, i, none⟩ = some (.string T)) (first | (with_reducible exact hci2) | (exact hci2)) (fail)
              go_wp2_with fail
              refine bodyPost_ret (v := .tuple #[.int .i64 3, .int .i64 (k : Int), .int .i64 0]) (by simp [results, Tryz.results11, go_sem]) rfl ⟨by rw [hW.out], hbf.out.drew⟩
          · have hks1 : decide ((k : Int) ≤ (S.size : Int)) = false := by simp; omega
            have hks2 : ¬ (k : Int) ≤ (S.size : Int) := by omega
            have hkl : decide (k ≤ l.length) = false := by have := hlen.out; simp; omega
            rw [hkl, Bool.false_and] at hps
            have hr' := hmiss hps
            replace hr' := Lib.hid hr'
            clear hps hhit hmiss hkl hsl hcmp
            go_wp2_with fail
            refine region_anyT (S := fun _ => True) (n := 13) (by kernel_rfl) ?_
            refine anyT_take (i := 0) (v := .string S) rfl (by kernel_rfl) (by kernel_rfl) (fun _ _ _ h => h) (Or.inl ⟨by rfl, ?_⟩) trivial ?_
            · intro w1 _
              go_simp
              first | with_reducible rfl | exact hks1 | (simp [hks1]) | skip
            try simp only [Act.put, List.getElem_toArray, List.getElem_cons_zero, List.getElem_cons_succ, List.setIfInBounds_toArray, List.set_cons_zero, List.set_cons_succ]
            refine anyT_take (i := 1) (v := .int .i64 (S.size : Int)) rfl (by kernel_rfl) (by kernel_rfl) (fun _ _ _ h => h) (Or.inl ⟨by rfl, ?_⟩) trivial ?_
            · intro w1 _
              go_simp
              first | with_reducible rfl | exact hks1 | (simp [hks1]) | skip
            try simp only [Act.put, List.getElem_toArray, List.getElem_cons_zero, List.getElem_cons_succ, List.setIfInBounds_toArray, List.set_cons_zero, List.set_cons_succ]
            refine anyT_take (i := 2) (v := .int .i64 (k : Int)) rfl (by kernel_rfl) (by kernel_rfl) (fun _ _ _ h => h) (Or.inl ⟨by rfl, ?_⟩) trivial ?_
            · intro w1 _
              go_simp
              first | with_reducible rfl | exact hks1 | (simp [hks1]) | skip
            try simp only [Act.put, List.getElem_toArray, List.getElem_cons_zero, List.getElem_cons_succ, List.setIfInBounds_toArray, List.set_cons_zero, List.set_cons_succ]
            refine anyT_take (i := 3) (v := .bool false) rfl (by kernel_rfl) (by kernel_rfl) (fun _ _ _ h => h) (Or.inl ⟨by rfl, ?_⟩) trivial ?_
            · intro w1 _
              go_simp
              first | with_reducible rfl | exact hks1 | (simp [hks1]) | skip
            try simp only [Act.put, List.getElem_toArray, List.getElem_cons_zero, List.getElem_cons_succ, List.setIfInBounds_toArray, List.set_cons_zero, List.set_cons_succ]
            refine anyT_take (i := 4) (v := .bool false) rfl (by kernel_rfl) (by kernel_rfl) (fun _ _ _ h => h) (Or.inl ⟨by rfl, ?_⟩) trivial ?_
            · intro w1 _
              go_simp
              first | with_reducible rfl | exact hks1 | (simp [hks1]) | skip
            try simp only [Act.put, List.getElem_toArray, List.getElem_cons_zero, List.getElem_cons_succ, List.setIfInBounds_toArray, List.set_cons_zero, List.set_cons_succ]
            refine anyT_take (i := 5) (v := undef) rfl (by kernel_rfl) (by kernel_rfl) (fun _ _ _ h => h) (Or.inr ⟨by kernel_rfl, rfl⟩) trivial ?_
            try simp only [Act.put, List.getElem_toArray, List.getElem_cons_zero, List.getElem_cons_succ, List.setIfInBounds_toArray, List.set_cons_zero, List.set_cons_succ]
            refine anyT_take (i := 6) (v := undef) rfl (by kernel_rfl) (by kernel_rfl) (fun _ _ _ h => h) (Or.inr ⟨by kernel_rfl, rfl⟩) trivial ?_
            try simp only [Act.put, List.getElem_toArray, List.getElem_cons_zero, List.getElem_cons_succ, List.setIfInBounds_toArray, List.set_cons_zero, List.set_cons_succ]
            refine anyT_take (i := 7) (v := undef) rfl (by kernel_rfl) (by kernel_rfl) (fun _ _ _ h => h) (Or.inr ⟨by kernel_rfl, rfl⟩) trivial ?_
            try simp only [Act.put, List.getElem_toArray, List.getElem_cons_zero, List.getElem_cons_succ, List.setIfInBounds_toArray, List.set_cons_zero, List.set_cons_succ]
            refine anyT_take (i := 8) (v := undef) rfl (by kernel_rfl) (by kernel_rfl) (fun _ _ _ h => h) (Or.inr ⟨by kernel_rfl, rfl⟩) trivial ?_
            try simp only [Act.put, List.getElem_toArray, List.getElem_cons_zero, List.getElem_cons_succ, List.setIfInBounds_toArray, List.set_cons_zero, List.set_cons_succ]
            refine anyT_take (i := 9) (v := undef) rfl (by kernel_rfl) (by kernel_rfl) (fun _ _ _ h => h) (Or.inr ⟨by kernel_rfl, rfl⟩) trivial ?_
            try simp only [Act.put, List.getElem_toArray, List.getElem_cons_zero, List.getElem_cons_succ, List.setIfInBounds_toArray, List.set_cons_zero, List.set_cons_succ]
            refine anyT_take (i := 10) (v := undef) rfl (by kernel_rfl) (by kernel_rfl) (fun _ _ _ h => h) (Or.inr ⟨by kernel_rfl, rfl⟩) trivial ?_
            try simp only [Act.put, List.getElem_toArray, List.getElem_cons_zero, List.getElem_cons_succ, List.setIfInBounds_toArray, List.set_cons_zero, List.set_cons_succ]
            refine anyT_take (i := 11) (v := undef) rfl (by kernel_rfl) (by kernel_rfl) (fun _ _ _ h => h) (Or.inr ⟨by kernel_rfl, rfl⟩) trivial ?_
            try simp only [Act.put, List.getElem_toArray, List.getElem_cons_zero, List.getElem_cons_succ, List.setIfInBounds_toArray, List.set_cons_zero, List.set_cons_succ]
            refine anyT_take (i := 12) (v := undef) rfl (by kernel_rfl) (by kernel_rfl) (fun _ _ _ h => h) (Or.inr ⟨by kernel_rfl, rfl⟩) trivial ?_
            try simp only [Act.put, List.getElem_toArray, List.getElem_cons_zero, List.getElem_cons_succ, List.setIfInBounds_toArray, List.set_cons_zero, List.set_cons_succ]
            refine anyT_one (i := 13) (by kernel_rfl) ?_
            refine wpOp_step rfl (fun K hK => ?_)
            replace hK := Lib.hid hK
            go_simp
            refine hK.out _ _ ⟨fun _ => trivial, ?_⟩
            clear hK K
            try simp only [Act.put, List.getElem_toArray, List.getElem_cons_zero, List.getElem_cons_succ, List.setIfInBounds_toArray, List.set_cons_zero, List.set_cons_succ]
            refine anyT_done (by kernel_rfl) ?_ _
            go_wp2_with fail
            go_roundw
            case rel => exact ⟨i + 1, by omega, by go_num, hr'.out, hbq.out.drew⟩
            case measure => simp [RowKit.intOf]; omega
        · obtain rfl : i = m := by omega
          have hno' : ∀ q, k - 1 < q → q ≤ 3 → ∀ s, s ∈ sL q → s.isPrefixOf l = false := fun q h1 h2 s hs => by
            by_cases e : q = k
            · subst e
              obtain ⟨j, hj, rfl⟩ := List.mem_iff_getElem.1 hs
              exact hni j hj (by rw [← hm.out]; exact hj)
            · exact hno.out q (by omega) h2 s hs
          have hwk : IntKind.i64.wrap ((k : Int) - 1) = ((k - 1 : Nat) : Int) := by rw [IntWalk.i64_in _ (by omega)]; omega
          have hbf := hbw1.out.trans (hbq.mono hbw1.out.size)
          obtain ⟨kk, hkk⟩ : ∃ kk, k - 1 = kk := ⟨_, rfl⟩
          rw [hkk] at hwk hno'
          have hkk2 : kk + 1 = k := by omega
          replace hno' := Lib.hid hno'
          replace hkk := Lib.hid hkk
          replace hkk2 := Lib.hid hkk2
          replace hbf := Lib.hid hbf
          clear hni hbq
          go_wp2_with fail
          go_roundw
          case rel => exact ⟨kk, by have := hkk2.out; omega, rfl, hno'.out, hbf.out⟩
          case measure => have := hkk2.out; simp [RowKit.intOf]; omega
theorem Word_t (l : List UInt8) (w : World) (hl : l.length < 4611686018427387900) (h0 : l ≠ []) : Calls Tryz.prog 11 #[.string (tx l)] w (WP nbP l w) := by
  cases l with
  | nil => exact absurd rfl h0
  | cons c t =>
    have hl' : t.length < 4611686018427387900 := by simp at hl; omega
    by_cases h1 : (letB c.toNat || decide (c.toNat = 95) || decide (c.toNat = 36)) = true
    · exact Word_name nbP c t w hl' h1
    · by_cases h2 : (digB c.toNat || decide (c.toNat = 39)) = true
      · exact Word_num c t w hl' h1 h2
      · exact Word_sign nbP c t w hl' h1 h2
end Go.Proofs.YtomjokpgcijccaaGreatDoor
