/-
  The walks of lex's measure and skipBlanks.
-/
import Derived.Test.YtomjokpgcijccaaGreatDoorHe
namespace Go.Proofs.YtomjokpgcijccaaGreatDoor
open Go.RowKit Go.Lib
theorem call_part : ∀ args w, (callFunc 27 args).run Tryz.prog w = .ok (.enter 27 args) w := fun _ _ => by kernel_rfl
theorem call_du : ∀ args w, (callFunc 30 args).run Tryz.prog w = .ok (.enter 30 args) w := fun _ _ => by kernel_rfl
theorem call_blk : ∀ args w, (callFunc 15 args).run Tryz.prog w = .ok (.enter 15 args) w := fun _ _ => by kernel_rfl
def MR (l : List UInt8) (w : World) (e : Ending) (w' : World) : Prop := e = .returned (.tuple #[.int .i64 ((me l).1 : Int), .int .i64 ((me l).2 : Int)]) ∧ w' = w
theorem quote_pre (l : List UInt8) : ([39] : List UInt8).isPrefixOf l = decide (l.head? = some 39) := by
  cases l with
  | nil => rfl
  | cons a r =>
    have e : ([39] : List UInt8).isPrefixOf (a :: r) = ((39 : UInt8) == a) := by simp only [List.isPrefixOf, Bool.and_true]
    rw [e, List.head?_cons, Bool.eq_iff_iff]
    simp only [beq_iff_eq, decide_eq_true_eq, Option.some.injEq]
    exact ⟨fun h => h.symm, fun h => h.symm⟩
section
variable (c : UInt8) (t : List UInt8) (w : World) (hl : t.length < 4611686018427387900)
include hl
set_option maxRecDepth 100000 in
set_option maxHeartbeats 3200000 in
theorem measure_name (h : (letB c.toNat || decide (c.toNat = 95) || decide (c.toNat = 36)) = true) : Calls Tryz.prog 16 #[.string (tx (c :: t))] w (MR (c :: t) w) := by
  have hA := fun w => ahead_t 27 partB call_part isPart_t t (by unfold maxLen; omega) w
  have hle := ah_le partB t
  have hm : me (c :: t) = (1, 1 + ah partB t) := by rw [me_cons, if_pos h]
  have e1 := tx_drop (c :: t) 1
  have hb : ∀ (h : 0 < (tx (c :: t)).size), (tx (c :: t))[0].toNat = c.toNat := fun _ => rfl
  have hz : (tx (c :: t)).size = t.length + 1 := rfl
  have hLt := fun w => isLetter_t c.toNat (UInt8.toNat_lt _) w
  rw [List.drop_succ_cons, List.drop_zero, show (c :: t).length = t.length + 1 from rfl] at e1
  unfold MR
  rw [hm]
  obtain ⟨S, hS⟩ : ∃ S, tx (c :: t) = S := ⟨_, rfl⟩
  obtain ⟨T, hT⟩ : ∃ T, tx t = T := ⟨_, rfl⟩
  have hAT : ∀ w, Calls Tryz.prog 14 #[.string T, .func (.func 27) #[] #[]] w fun e w' => e = .returned (.int .i64 (ah partB t : Int)) ∧ w' = w := hT ▸ hA
  rw [hS] at e1 hb hz ⊢
  rw [hT] at e1
  generalize ah partB t = a at *
  generalize t.length = n at *
  generalize c.toNat = x at *
  clear hA hm hS hT
  replace hAT := Lib.hid hAT
  replace hLt := Lib.hid hLt
  have hz0 : 0 < S.size := by omega
  have hb' := hb hz0
  have hx : letB x = true ∨ (letB x = false ∧ x = 95) ∨ (letB x = false ∧ x ≠ 95 ∧ x = 36) := by
    cases hlb : letB x
    · rw [hlb] at h
      by_cases h95 : x = 95
      · exact Or.inr (Or.inl ⟨rfl, h95⟩)
      · exact Or.inr (Or.inr ⟨rfl, h95, by simpa [h95] using h⟩)
    · exact Or.inl rfl
  clear h hb
  have hw : IntKind.i64.wrap (1 + (a : Int)) = (a : Int) + 1 := by rw [IntWalk.i64_in _ (by omega)]; omega
  have hfin : ((1 + a : Nat) : Int) = (a : Int) + 1 := by omega
  replace hfin := Lib.hid hfin
  generalize letB x = lb at *
  rcases hx with rfl | ⟨rfl, h95⟩ | ⟨rfl, h95, h36⟩
  · go_enter Tryz.func16, Tryz.ntmps16
    go_wp2_with (first | (go_at_call 28; (with_reducible refine (hLt.out _).mono ?_); rintro e w' ⟨rfl, rfl⟩) | (go_at_call 14; (with_reducible refine (hAT.out _).mono ?_); rintro e w' ⟨rfl, rfl⟩))
    go_ret2
    exact ⟨by rw [hfin.out]; rfl, rfl⟩
  · have t1 : ((x : Int) == 95) = true := by simp; omega
    replace h95 := Lib.hid h95
    go_enter Tryz.func16, Tryz.ntmps16
    go_wp2_with (first | (go_at_call 28; (with_reducible refine (hLt.out _).mono ?_); rintro e w' ⟨rfl, rfl⟩) | (go_at_call 14; (with_reducible refine (hAT.out _).mono ?_); rintro e w' ⟨rfl, rfl⟩))
    go_ret2
    exact ⟨by rw [hfin.out]; rfl, rfl⟩
  · have t1 : ((x : Int) == 95) = false := by simp; omega
    have t2 : ((x : Int) == 36) = true := by simp; omega
    replace h95 := Lib.hid h95
    replace h36 := Lib.hid h36
    go_enter Tryz.func16, Tryz.ntmps16
    go_wp2_with (first | (go_at_call 28; (with_reducible refine (hLt.out _).mono ?_); rintro e w' ⟨rfl, rfl⟩) | (go_at_call 14; (with_reducible refine (hAT.out _).mono ?_); rintro e w' ⟨rfl, rfl⟩))
    go_ret2
    exact ⟨by rw [hfin.out]; rfl, rfl⟩
set_option maxRecDepth 100000 in
set_option maxHeartbeats 3200000 in
theorem measure_num (h : ¬ (letB c.toNat || decide (c.toNat = 95) || decide (c.toNat = 36)) = true) (h' : (digB c.toNat || decide (c.toNat = 39)) = true) : Calls Tryz.prog 16 #[.string (tx (c :: t))] w (MR (c :: t) w) := by
  have hA := fun w => ahead_t 30 duB call_du isDu_t (c :: t) (by unfold maxLen; simp; omega) w
  have hle := ah_le duB (c :: t)
  have hm : me (c :: t) = (2, if ((c :: t).drop (ah duB (c :: t))).head? = some 39 then ah duB (c :: t) + 1 + ah partB ((c :: t).drop (ah duB (c :: t) + 1)) else ah duB (c :: t)) := by rw [me_cons, if_neg h, if_pos h']
  have hlen : (c :: t).length = t.length + 1 := rfl
  obtain ⟨q, hq⟩ : ∃ q, ah duB (c :: t) = q := ⟨_, rfl⟩
  rw [hq] at hA hm hle
  have hB := fun w => ahead_t 27 partB call_part isPart_t ((c :: t).drop (q + 1)) (by unfold maxLen; rw [List.length_drop]; omega) w
  have hPp := fun w => (show Calls Tryz.prog 31 #[.string (tx ((c :: t).drop q)), .string ⟨#[39]⟩] w fun e w' => e = .returned (.bool (decide (((c :: t).drop q).head? = some 39))) ∧ w' = w from quote_pre ((c :: t).drop q) ▸ Tryz.strings_HasPrefix (tx ((c :: t).drop q)) ⟨#[39]⟩ w)
  have hle2 := ah_le partB ((c :: t).drop (q + 1))
  rw [List.length_drop, hlen] at hle2
  have hlt9 : ((c :: t).drop q).head? = some 39 → q + 1 ≤ t.length + 1 := fun hh => by
    rcases Nat.lt_or_ge q (c :: t).length with h | h
    · rw [hlen] at h; omega
    · rw [List.drop_eq_nil_of_le h] at hh; cases hh
  have e1 := tx_drop (c :: t) q
  have e2 := tx_drop (c :: t) (q + 1)
  have hb : ∀ (h : 0 < (tx (c :: t)).size), (tx (c :: t))[0].toNat = c.toNat := fun _ => rfl
  have hz : (tx (c :: t)).size = t.length + 1 := rfl
  have hLt := fun w => isLetter_t c.toNat (UInt8.toNat_lt _) w
  have hDt := fun w => isDigit_t c.toNat (UInt8.toNat_lt _) w
  rw [hlen] at e1 e2 hle
  unfold MR
  rw [hm]
  obtain ⟨S, hS⟩ : ∃ S, tx (c :: t) = S := ⟨_, rfl⟩
  obtain ⟨T, hT⟩ : ∃ T, tx ((c :: t).drop q) = T := ⟨_, rfl⟩
  obtain ⟨U, hU⟩ : ∃ U, tx ((c :: t).drop (q + 1)) = U := ⟨_, rfl⟩
  have hAD : ∀ w, Calls Tryz.prog 14 #[.string S, .func (.func 30) #[] #[]] w fun e w' => e = .returned (.int .i64 (q : Int)) ∧ w' = w := hS ▸ hA
  have hAT : ∀ w, Calls Tryz.prog 14 #[.string U, .func (.func 27) #[] #[]] w fun e w' => e = .returned (.int .i64 (ah partB ((c :: t).drop (q + 1)) : Int)) ∧ w' = w := hU ▸ hB
  have hPt : ∀ w, Calls Tryz.prog 31 #[.string T, .string ⟨#[39]⟩] w fun e w' => e = .returned (.bool (decide (((c :: t).drop q).head? = some 39))) ∧ w' = w := hT ▸ hPp
  rw [hS] at e1 e2 hb hz ⊢
  rw [hT] at e1
  rw [hU] at e2
  clear hA hB hPp hm hS hT hU hq hlen
  generalize ah partB ((c :: t).drop (q + 1)) = a at *
  generalize ((c :: t).drop q).head? = hd at *
  generalize t.length = n at *
  generalize c.toNat = x at *
  replace hAT := Lib.hid hAT
  replace hAD := Lib.hid hAD
  replace hLt := Lib.hid hLt
  replace hDt := Lib.hid hDt
  have hz0 : 0 < S.size := by omega
  have hb' := hb hz0
  have hx : digB x = true ∨ (digB x = false ∧ x = 39) := by
    cases hlb : digB x
    · rw [hlb] at h'
      exact Or.inr ⟨rfl, by simpa using h'⟩
    · exact Or.inl rfl
  have hn : letB x = false ∧ x ≠ 95 ∧ x ≠ 36 := by
    simp only [Bool.or_eq_true, decide_eq_true_eq, not_or] at h
    exact ⟨by simpa using h.1.1, h.1.2, h.2⟩
  clear h hb h'
  obtain ⟨hn1, hn2, hn3⟩ := hn
  have t1 : ((x : Int) == 95) = false := by simp; omega
  have t2 : ((x : Int) == 36) = false := by simp; omega
  have hw1 : IntKind.i64.wrap ((q : Int) + 1) = (q : Int) + 1 := IntWalk.i64_in _ (by omega)
  generalize letB x = lb at *
  generalize digB x = db at *
  subst hn1
  by_cases hq39 : hd = some 39
  · have hdt : decide (hd = some 39) = true := by simpa using hq39
    rw [if_pos hq39]
    have hqn := hlt9 hq39
    rw [hdt] at hPt
    replace hPt := Lib.hid hPt
    clear hdt hq39 hlt9
    have hw2 : IntKind.i64.wrap ((q : Int) + 1 + (a : Int)) = (q : Int) + 1 + (a : Int) := IntWalk.i64_in _ (by omega)
    have hfin : ((q + 1 + a : Nat) : Int) = (q : Int) + 1 + (a : Int) := by omega
    replace hfin := Lib.hid hfin
    rcases hx with rfl | ⟨rfl, h39⟩
    · go_enter Tryz.func16, Tryz.ntmps16
      go_wp2_with (first | (go_at_call 28; (with_reducible refine (hLt.out _).mono ?_); rintro e w' ⟨rfl, rfl⟩) | (go_at_call 29; (with_reducible refine (hDt.out _).mono ?_); rintro e w' ⟨rfl, rfl⟩) | (go_at_call 14; (with_reducible refine (hAD.out _).mono ?_); rintro e w' ⟨rfl, rfl⟩) | (go_at_call 14; (with_reducible refine (hAT.out _).mono ?_); rintro e w' ⟨rfl, rfl⟩) | (go_at_call 31; (with_reducible refine (hPt.out _).mono ?_); rintro e w' ⟨rfl, rfl⟩))
      go_ret2
      exact ⟨by rw [hfin.out]; rfl, rfl⟩
    · have t3 : ((x : Int) == 39) = true := by simp; omega
      replace h39 := Lib.hid h39
      go_enter Tryz.func16, Tryz.ntmps16
      go_wp2_with (first | (go_at_call 28; (with_reducible refine (hLt.out _).mono ?_); rintro e w' ⟨rfl, rfl⟩) | (go_at_call 29; (with_reducible refine (hDt.out _).mono ?_); rintro e w' ⟨rfl, rfl⟩) | (go_at_call 14; (with_reducible refine (hAD.out _).mono ?_); rintro e w' ⟨rfl, rfl⟩) | (go_at_call 14; (with_reducible refine (hAT.out _).mono ?_); rintro e w' ⟨rfl, rfl⟩) | (go_at_call 31; (with_reducible refine (hPt.out _).mono ?_); rintro e w' ⟨rfl, rfl⟩) | (go_at_call 32; (with_reducible refine (hSt.out _).mono ?_); rintro e w' ⟨rfl, rfl⟩))
      go_ret2
      exact ⟨by rw [hfin.out]; rfl, rfl⟩
  · have hdt : decide (hd = some 39) = false := by simpa using hq39
    rw [if_neg hq39]
    rw [hdt] at hPt
    replace hPt := Lib.hid hPt
    clear hdt hq39 hlt9
    rcases hx with rfl | ⟨rfl, h39⟩
    · go_enter Tryz.func16, Tryz.ntmps16
      go_wp2_with (first | (go_at_call 28; (with_reducible refine (hLt.out _).mono ?_); rintro e w' ⟨rfl, rfl⟩) | (go_at_call 29; (with_reducible refine (hDt.out _).mono ?_); rintro e w' ⟨rfl, rfl⟩) | (go_at_call 14; (with_reducible refine (hAD.out _).mono ?_); rintro e w' ⟨rfl, rfl⟩) | (go_at_call 14; (with_reducible refine (hAT.out _).mono ?_); rintro e w' ⟨rfl, rfl⟩) | (go_at_call 31; (with_reducible refine (hPt.out _).mono ?_); rintro e w' ⟨rfl, rfl⟩) | (go_at_call 32; (with_reducible refine (hSt.out _).mono ?_); rintro e w' ⟨rfl, rfl⟩))
      go_ret2
      exact ⟨rfl, rfl⟩
    · have t3 : ((x : Int) == 39) = true := by simp; omega
      replace h39 := Lib.hid h39
      go_enter Tryz.func16, Tryz.ntmps16
      go_wp2_with (first | (go_at_call 28; (with_reducible refine (hLt.out _).mono ?_); rintro e w' ⟨rfl, rfl⟩) | (go_at_call 29; (with_reducible refine (hDt.out _).mono ?_); rintro e w' ⟨rfl, rfl⟩) | (go_at_call 14; (with_reducible refine (hAD.out _).mono ?_); rintro e w' ⟨rfl, rfl⟩) | (go_at_call 14; (with_reducible refine (hAT.out _).mono ?_); rintro e w' ⟨rfl, rfl⟩) | (go_at_call 31; (with_reducible refine (hPt.out _).mono ?_); rintro e w' ⟨rfl, rfl⟩) | (go_at_call 32; (with_reducible refine (hSt.out _).mono ?_); rintro e w' ⟨rfl, rfl⟩))
      go_ret2
      exact ⟨rfl, rfl⟩
set_option maxRecDepth 100000 in
set_option maxHeartbeats 3200000 in
theorem measure_sign (h : ¬ (letB c.toNat || decide (c.toNat = 95) || decide (c.toNat = 36)) = true) (h' : ¬ (digB c.toNat || decide (c.toNat = 39)) = true) (hL : LS w) : Calls Tryz.prog 16 #[.string (tx (c :: t))] w (MR (c :: t) w) := by
  have hm : me (c :: t) = (3, sgn (c :: t)) := by rw [me_cons, if_neg h, if_neg h']
  have hb : ∀ (h : 0 < (tx (c :: t)).size), (tx (c :: t))[0].toNat = c.toNat := fun _ => rfl
  have hz : (tx (c :: t)).size = t.length + 1 := rfl
  have hLt := fun w => isLetter_t c.toNat (UInt8.toNat_lt _) w
  have hDt := fun w => isDigit_t c.toNat (UInt8.toNat_lt _) w
  have hS0 := signAhead_t (c :: t) w hL
  unfold MR
  rw [hm]
  obtain ⟨S, hS⟩ : ∃ S, tx (c :: t) = S := ⟨_, rfl⟩
  have hSt : Calls Tryz.prog 32 #[.string S] w fun e w' => e = .returned (.int .i64 (sgn (c :: t) : Int)) ∧ w' = w := hS ▸ hS0
  rw [hS] at hb hz ⊢
  clear hS0 hm hS
  generalize sgn (c :: t) = a at *
  generalize t.length = n at *
  generalize c.toNat = x at *
  replace hLt := Lib.hid hLt
  replace hDt := Lib.hid hDt
  replace hSt := Lib.hid hSt
  replace hL := Lib.hid hL
  have hz0 : 0 < S.size := by omega
  have hb' := hb hz0
  have hn : letB x = false ∧ x ≠ 95 ∧ x ≠ 36 := by
    simp only [Bool.or_eq_true, decide_eq_true_eq, not_or] at h
    exact ⟨by simpa using h.1.1, h.1.2, h.2⟩
  have hn' : digB x = false ∧ x ≠ 39 := by
    simp only [Bool.or_eq_true, decide_eq_true_eq, not_or] at h'
    exact ⟨by simpa using h'.1, h'.2⟩
  clear h hb h'
  obtain ⟨hn1, hn2, hn3⟩ := hn
  obtain ⟨hn4, hn5⟩ := hn'
  have t1 : ((x : Int) == 95) = false := by simp; omega
  have t2 : ((x : Int) == 36) = false := by simp; omega
  have t3 : ((x : Int) == 39) = false := by simp; omega
  generalize letB x = lb at *
  generalize digB x = db at *
  subst hn1 hn4
  go_enter Tryz.func16, Tryz.ntmps16
  go_wp2_with (first | (go_at_call 28; (with_reducible refine (hLt.out _).mono ?_); rintro e w' ⟨rfl, rfl⟩) | (go_at_call 29; (with_reducible refine (hDt.out _).mono ?_); rintro e w' ⟨rfl, rfl⟩) | (go_at_call 32; (with_reducible refine hSt.out.mono ?_); rintro e w' ⟨rfl, rfl⟩))
  go_ret2
  exact ⟨rfl, rfl⟩
end
theorem measure_t (l : List UInt8) (w : World) (hl : l.length < 4611686018427387900) (h0 : l ≠ []) (hL : LS w) : Calls Tryz.prog 16 #[.string (tx l)] w (MR l w) := by
  cases l with
  | nil => exact absurd rfl h0
  | cons c t =>
    have hl' : t.length < 4611686018427387900 := by simp at hl; omega
    by_cases h1 : (letB c.toNat || decide (c.toNat = 95) || decide (c.toNat = 36)) = true
    · exact measure_name c t w hl' h1
    · by_cases h2 : (digB c.toNat || decide (c.toNat = 39)) = true
      · exact measure_num c t w hl' h1 h2
      · exact measure_sign c t w hl' h1 h2 hL
set_option maxRecDepth 100000 in
set_option maxHeartbeats 3200000 in
/-- skipBlanks. -/
theorem skipBlanks_t (b : Nat) (l : List UInt8) (p : PS) (fx : Bool) (w : World) (h : RD w b (tx l) p fx) (hp : p.ok) (hl : l.length < 4611686018427387904) :
    Calls Tryz.prog 9 #[.pointer (some ⟨b, 0, none⟩)] w fun e w' => e = .returned (.tuple #[]) ∧ RD w' b (tx (l.drop (ah blkB l))) (adv fx p (l.take (ah blkB l))) fx ∧ KB b w w' := by
  have hA := fun w => (show Calls Tryz.prog 14 #[.string (tx l), .func (.func 15) #[] #[]] w fun e w' => e = .returned (.int .i64 (ah blkB l : Int)) ∧ w' = w from ahead_t 15 blkB call_blk isBlank_t l (by unfold maxLen; omega) w)
  have hS := skip_t b l p fx (ah blkB l) (ah_le _ _) w h hp hl
  obtain ⟨b0, c0, c1, c2, c3, c4, hf⟩ := h.cells
  unfold SK at hS
  generalize tx l = S at *
  generalize ah blkB l = n at *
  replace hA := Lib.hid hA
  replace hS := Lib.hid hS
  replace h := Lib.hid h
  clear c1 c2 c3 c4
  go_enter Tryz.func9, Tryz.ntmps9
  go_wp2_with (first | (go_at_call 14; (with_reducible refine (hA.out _).mono ?_); rintro e w' ⟨rfl, rfl⟩) | (go_at_call 13; (with_reducible refine hS.out.mono ?_); rintro e w' ⟨rfl, hR, hK⟩))
  refine bodyPost_end (v := .tuple #[]) (by simp [results, Tryz.results9, go_sem]) rfl ⟨rfl, hR, hK⟩
end Go.Proofs.YtomjokpgcijccaaGreatDoor
