/-
  The reference's Parse, of any text: what the program's returns.
-/
import Derived.Test.YtcifljbcoioogaaGreatDoorFp
namespace Go.Proofs.YtcifljbcoioogaaGreatDoor
open Go.RowKit Go.Lib
theorem first39 (s : ByteArray) : ∀ n, (∀ k, k < n → bt s k ≠ 39) ∨ ∃ q, q < n ∧ bt s q = 39 ∧ ∀ k, k < q → bt s k ≠ 39
  | 0 => .inl fun k h => absurd h (by omega)
  | n + 1 => by
    rcases first39 s n with h | ⟨q, h1, h2, h3⟩
    · by_cases e : bt s n = 39
      · exact .inr ⟨n, by omega, e, h⟩
      · refine .inl fun k hk => ?_
        by_cases e2 : k = n
        · rw [e2]; exact e
        · exact h k (by omega)
    · exact .inr ⟨q, by omega, h2, h3⟩
theorem base_cases (c b : Nat) (h : baseV c = b) (h0 : 0 < b) : (c = 98 ∧ b = 2) ∨ (c = 66 ∧ b = 2) ∨ (c = 111 ∧ b = 8) ∨ (c = 79 ∧ b = 8) ∨ (c = 100 ∧ b = 10) ∨ (c = 68 ∧ b = 10) ∨ (c = 104 ∧ b = 16) ∨ (c = 72 ∧ b = 16) := by
  unfold baseV at h
  split at h
  · omega
  · split at h
    · omega
    · split at h
      · omega
      · split at h <;> omega
theorem base_none (c : Nat) (h : baseV c = 0) : c ≠ 98 ∧ c ≠ 66 ∧ c ≠ 111 ∧ c ≠ 79 ∧ c ≠ 100 ∧ c ≠ 68 ∧ c ≠ 104 ∧ c ≠ 72 := by
  unfold baseV at h
  split at h
  · omega
  · split at h
    · omega
    · split at h
      · omega
      · split at h <;> omega
theorem ext_le (s : ByteArray) (a b : Nat) (hs : s.size ≤ maxLen) : (s.extract a b).size ≤ maxLen := by
  unfold maxLen at *
  have : (s.extract a b).size ≤ s.size := by simp; omega
  omega
theorem tl_none (s t : ByteArray) (h : Nat) (sg : Bool) (h0 : t.size = 0) : tlV s h sg t = badP 6 := by unfold tlV; rw [if_pos h0]
theorem tl_form (s t : ByteArray) (h : Nat) (sg : Bool) (h0 : 0 < t.size) (hb : baseV (bt t 0) = 0) : tlV s h sg t = badP 5 := by unfold tlV; rw [if_neg (by omega), if_pos hb]
theorem tl_z (s t : ByteArray) (sg : Bool) (b : Nat) (h0 : 0 < t.size) (hb : baseV (bt t 0) = b) (hp : 0 < b) :
    tlV s 0 sg t = if dgV (t.extract 1 t.size) b ≠ 0 then badP (dgV (t.extract 1 t.size) b) else if 32 < 1 ∨ 128 < 32 then badP 2 else ⟨32, numF (t.extract 1 t.size) b 32 (t.extract 1 t.size).size, sg, false, 0⟩ := by
  unfold tlV dgV
  rw [hb, if_neg (by omega), if_neg (by omega)]
  by_cases c1 : (t.extract 1 t.size).size = 0
  · rw [if_pos c1, if_pos c1, if_pos (by decide)]
  rw [if_neg c1, if_neg c1]
  by_cases c2 : dA (t.extract 1 t.size) b < (t.extract 1 t.size).size
  · rw [if_pos c2, if_pos c2, if_pos (by decide)]
  rw [if_neg c2, if_neg c2, if_pos rfl, if_neg (by decide), if_neg (by decide)]
theorem tl_p (s t : ByteArray) (q : Nat) (sg : Bool) (b : Nat) (hq : 0 < q) (h0 : 0 < t.size) (hb : baseV (bt t 0) = b) (hp : 0 < b) :
    tlV s q sg t = if dgV (t.extract 1 t.size) b ≠ 0 then badP (dgV (t.extract 1 t.size) b) else if capF (s.extract 0 q) 1000 (s.extract 0 q).size < 1 ∨ 128 < capF (s.extract 0 q) 1000 (s.extract 0 q).size then badP 2
      else ⟨capF (s.extract 0 q) 1000 (s.extract 0 q).size, numF (t.extract 1 t.size) b (capF (s.extract 0 q) 1000 (s.extract 0 q).size) (t.extract 1 t.size).size, sg, true, 0⟩ := by
  obtain ⟨k1, k2⟩ := cap_same (s.extract 0 q) (s.extract 0 q).size
  unfold tlV dgV
  rw [hb, if_neg (by omega), if_neg (by omega)]
  by_cases c1 : (t.extract 1 t.size).size = 0
  · rw [if_pos c1, if_pos c1, if_pos (by decide)]
  rw [if_neg c1, if_neg c1]
  by_cases c2 : dA (t.extract 1 t.size) b < (t.extract 1 t.size).size
  · rw [if_pos c2, if_pos c2, if_pos (by decide)]
  rw [if_neg c2, if_neg c2, if_neg (show ¬ q = 0 by omega)]
  by_cases c3 : 1 ≤ capF (s.extract 0 q) 129 (s.extract 0 q).size ∧ capF (s.extract 0 q) 129 (s.extract 0 q).size ≤ 128
  · rw [if_pos c3, k1 c3, if_neg (show ¬ ((0 : Int) ≠ 0) by decide), if_neg (by omega)]
  · rw [if_neg c3, if_neg (show ¬ ((0 : Int) ≠ 0) by decide), if_pos (k2 c3)]
theorem refParse_at_z (s : ByteArray) (w : World) (hs : s.size ≤ maxLen) (hq : 0 < s.size) (h39 : bt s 0 = 39) : Calls Tryz.prog 23 #[.string s] w (PL w (bhV s 0 (s.extract (0 + 1) s.size))) := by
  have hf : ∀ k, k < 0 → bt s k ≠ 39 := fun k h => absurd h (by omega)
  have hr1 := ext_le s (0 + 1) s.size hs
  obtain ⟨r, hr⟩ : ∃ r, s.extract (0 + 1) s.size = r := ⟨_, rfl⟩
  rw [hr] at hr1 ⊢
  unfold bhV
  by_cases r0 : r.size = 0
  · rw [if_pos r0]; exact rP_z_none_end s w 0 hs hq h39 hf rfl r hr r0
  rw [if_neg r0]
  have rp : 0 < r.size := by omega
  have tail : ∀ (t : ByteArray) (b : Nat), t.size ≤ maxLen → 0 < t.size → baseV (bt t 0) = b → 0 < b →
      (∀ w, Calls Tryz.prog 34 #[.string (t.extract 1 t.size), .int .i64 (b : Int)] w fun e' w' => e' = .returned (.int .i64 (dgV (t.extract 1 t.size) b)) ∧ w' = w) ∧
      (dgV (t.extract 1 t.size) b = 0 → 1 ≤ 32 → 32 ≤ 128 → ∀ w, Calls Tryz.prog 37 #[.string (t.extract 1 t.size), .int .i64 (b : Int), .int .i64 32] w fun e w' => ∃ g, e = .returned (.slice (some ⟨g, 0, none⟩) 32 32) ∧ RA w' g 32 (numF (t.extract 1 t.size) b 32 (t.extract 1 t.size).size) ∧ Below w.heap.size w w') := fun t b ht h0 hb hp =>
    ⟨fun w => digits_t _ b w (ext_le t 1 t.size ht), fun _ _ _ w => refnumber_t _ b 32 w (ext_le t 1 t.size ht) (by rw [← hb]; exact baseV_le _) (by decide) (by decide)⟩
  by_cases hsg : bt r 0 = 115 ∨ bt r 0 = 83
  · rw [if_pos hsg]
    have ht1 := ext_le r 1 r.size hr1
    obtain ⟨t, ht⟩ : ∃ t, r.extract 1 r.size = t := ⟨_, rfl⟩
    rw [ht] at ht1 ⊢
    by_cases t0 : t.size = 0
    · rw [tl_none s t 0 true t0]
      rcases hsg with h1 | h1
      · exact rP_z_s_end s w 0 hs hq h39 hf rfl r hr rp h1 t ht t0
      · exact rP_z_S_end s w 0 hs hq h39 hf rfl r hr rp h1 t ht t0
    have tp : 0 < t.size := by omega
    obtain ⟨b, hb⟩ : ∃ b, baseV (bt t 0) = b := ⟨_, rfl⟩
    by_cases b0 : b = 0
    · rw [tl_form s t 0 true tp (hb.trans b0)]
      obtain ⟨n0, n1, n2, n3, n4, n5, n6, n7⟩ := base_none _ (hb.trans b0)
      rcases hsg with h1 | h1
      · exact rP_z_s_form s w 0 hs hq h39 hf rfl r hr rp h1 t ht tp n0 n1 n2 n3 n4 n5 n6 n7
      · exact rP_z_S_form s w 0 hs hq h39 hf rfl r hr rp h1 t ht tp n0 n1 n2 n3 n4 n5 n6 n7
    · have bp : 0 < b := by omega
      obtain ⟨hE, hN⟩ := tail t b ht1 tp hb bp
      rw [tl_z s t true b tp hb bp]
      rcases hsg with h1 | h1
      · exact rP_z_s_good s w 0 hs hq h39 hf rfl r hr rp h1 t ht tp b (base_cases _ b hb bp) _ rfl _ _ hE hN
      · exact rP_z_S_good s w 0 hs hq h39 hf rfl r hr rp h1 t ht tp b (base_cases _ b hb bp) _ rfl _ _ hE hN
  · rw [if_neg hsg]
    have h1 : bt r 0 ≠ 115 := fun h => hsg (.inl h)
    have h2 : bt r 0 ≠ 83 := fun h => hsg (.inr h)
    obtain ⟨b, hb⟩ : ∃ b, baseV (bt r 0) = b := ⟨_, rfl⟩
    by_cases b0 : b = 0
    · rw [tl_form s r 0 false rp (hb.trans b0)]
      obtain ⟨n0, n1, n2, n3, n4, n5, n6, n7⟩ := base_none _ (hb.trans b0)
      exact rP_z_other_form s w 0 hs hq h39 hf rfl r hr rp h1 h2 n0 n1 n2 n3 n4 n5 n6 n7
    · have bp : 0 < b := by omega
      obtain ⟨hE, hN⟩ := tail r b hr1 rp hb bp
      rw [tl_z s r false b rp hb bp]
      exact rP_z_other_good s w 0 hs hq h39 hf rfl r hr rp h1 h2 b (base_cases _ b hb bp) _ rfl _ _ hE hN
theorem refParse_at_p (s : ByteArray) (w : World) (q : Nat) (hs : s.size ≤ maxLen) (hq : q < s.size) (h39 : bt s q = 39) (hf : ∀ k, k < q → bt s k ≠ 39) (hp : 0 < q) :
    Calls Tryz.prog 23 #[.string s] w (PL w (if dA s 10 < q then badP 5 else bhV s q (s.extract (q + 1) s.size))) := by
  have hx := ext_size s q (by omega)
  have hxl := ext_le s 0 q hs
  have hD := fun w => digits_t (s.extract 0 q) 10 w hxl
  have hdv : dgV (s.extract 0 q) 10 = if dA s 10 < q then 5 else 0 := by
    unfold dgV
    rw [hx, if_neg (by omega), dA_ext s 10 q (by omega)]
    by_cases c : dA s 10 < q
    · rw [if_pos c, if_pos (by omega)]
    · rw [if_neg c, if_neg (by omega)]
  by_cases c : dA s 10 < q
  · rw [if_pos c] at hdv ⊢
    rw [hdv] at hD
    exact refParse_at_err s w q 5 hs hq h39 hf hp (by decide) hD
  rw [if_neg c] at hdv ⊢
  rw [hdv] at hD
  have hC := fun w => decimal_t (s.extract 0 q) 1000 w hxl (by decide)
  have tp1 := fun t sg b => tl_p s t q sg b hp
  generalize capF (s.extract 0 q) 1000 (s.extract 0 q).size = W at *
  have hr1 := ext_le s (q + 1) s.size hs
  obtain ⟨r, hr⟩ : ∃ r, s.extract (q + 1) s.size = r := ⟨_, rfl⟩
  rw [hr] at hr1 ⊢
  unfold bhV
  by_cases r0 : r.size = 0
  · rw [if_pos r0]; exact rP_p_none_end s w q hs hq h39 hf hp W hD hC r hr r0
  rw [if_neg r0]
  have rp : 0 < r.size := by omega
  have tail : ∀ (t : ByteArray) (b : Nat), t.size ≤ maxLen → 0 < t.size → baseV (bt t 0) = b → 0 < b →
      (∀ w, Calls Tryz.prog 34 #[.string (t.extract 1 t.size), .int .i64 (b : Int)] w fun e' w' => e' = .returned (.int .i64 (dgV (t.extract 1 t.size) b)) ∧ w' = w) ∧
      (dgV (t.extract 1 t.size) b = 0 → 1 ≤ W → W ≤ 128 → ∀ w, Calls Tryz.prog 37 #[.string (t.extract 1 t.size), .int .i64 (b : Int), .int .i64 (W : Int)] w fun e w' => ∃ g, e = .returned (.slice (some ⟨g, 0, none⟩) W W) ∧ RA w' g W (numF (t.extract 1 t.size) b W (t.extract 1 t.size).size) ∧ Below w.heap.size w w') := fun t b ht h0 hb hp =>
    ⟨fun w => digits_t _ b w (ext_le t 1 t.size ht), fun _ w1 w2 w => refnumber_t _ b W w (ext_le t 1 t.size ht) (by rw [← hb]; exact baseV_le _) w1 w2⟩
  by_cases hsg : bt r 0 = 115 ∨ bt r 0 = 83
  · rw [if_pos hsg]
    have ht1 := ext_le r 1 r.size hr1
    obtain ⟨t, ht⟩ : ∃ t, r.extract 1 r.size = t := ⟨_, rfl⟩
    rw [ht] at ht1 ⊢
    by_cases t0 : t.size = 0
    · rw [tl_none s t q true t0]
      rcases hsg with h1 | h1
      · exact rP_p_s_end s w q hs hq h39 hf hp W hD hC r hr rp h1 t ht t0
      · exact rP_p_S_end s w q hs hq h39 hf hp W hD hC r hr rp h1 t ht t0
    have tp : 0 < t.size := by omega
    obtain ⟨b, hb⟩ : ∃ b, baseV (bt t 0) = b := ⟨_, rfl⟩
    by_cases b0 : b = 0
    · rw [tl_form s t q true tp (hb.trans b0)]
      obtain ⟨n0, n1, n2, n3, n4, n5, n6, n7⟩ := base_none _ (hb.trans b0)
      rcases hsg with h1 | h1
      · exact rP_p_s_form s w q hs hq h39 hf hp W hD hC r hr rp h1 t ht tp n0 n1 n2 n3 n4 n5 n6 n7
      · exact rP_p_S_form s w q hs hq h39 hf hp W hD hC r hr rp h1 t ht tp n0 n1 n2 n3 n4 n5 n6 n7
    · have bp : 0 < b := by omega
      obtain ⟨hE, hN⟩ := tail t b ht1 tp hb bp
      rw [tp1 t true b tp hb bp]
      rcases hsg with h1 | h1
      · exact rP_p_s_good s w q hs hq h39 hf hp W hD hC r hr rp h1 t ht tp b (base_cases _ b hb bp) _ rfl _ _ hE hN
      · exact rP_p_S_good s w q hs hq h39 hf hp W hD hC r hr rp h1 t ht tp b (base_cases _ b hb bp) _ rfl _ _ hE hN
  · rw [if_neg hsg]
    have h1 : bt r 0 ≠ 115 := fun h => hsg (.inl h)
    have h2 : bt r 0 ≠ 83 := fun h => hsg (.inr h)
    obtain ⟨b, hb⟩ : ∃ b, baseV (bt r 0) = b := ⟨_, rfl⟩
    by_cases b0 : b = 0
    · rw [tl_form s r q false rp (hb.trans b0)]
      obtain ⟨n0, n1, n2, n3, n4, n5, n6, n7⟩ := base_none _ (hb.trans b0)
      exact rP_p_other_form s w q hs hq h39 hf hp W hD hC r hr rp h1 h2 n0 n1 n2 n3 n4 n5 n6 n7
    · have bp : 0 < b := by omega
      obtain ⟨hE, hN⟩ := tail r b hr1 rp hb bp
      rw [tp1 r false b rp hb bp]
      exact rP_p_other_good s w q hs hq h39 hf hp W hD hC r hr rp h1 h2 b (base_cases _ b hb bp) _ rfl _ _ hE hN
/-- The reference's Parse returns what the program's Parse returns, the bits in a list. -/
theorem refParse_t (s : ByteArray) (w : World) (hs : s.size ≤ maxLen) : Calls Tryz.prog 23 #[.string s] w (PL w (paV s)) := by
  rcases first39 s s.size with h | ⟨q, hq, h39, hf⟩
  · exact refParse_no s w hs h
  · rw [paV_at s q hq h39 hf]
    by_cases h0 : q = 0
    · subst h0
      rw [if_neg (by omega)]
      exact refParse_at_z s w hs hq h39
    · exact refParse_at_p s w q hs hq h39 hf (by omega)
end Go.Proofs.YtcifljbcoioogaaGreatDoor
