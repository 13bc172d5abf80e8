/-
  The walks of strings.ContainsFunc at the test on a rune, and of src's isName: a name is right just if each byte is.
-/
import Derived.Test.YtegoldihcchfdaaSa
import Derived.Lib.TrimU
import Derived.Lib.OthersKept
import Derived.Deep.LoopGhost
import Derived.Laws.RangeString
import Derived.Laws.RangeAny
namespace Go.Proofs.Ytegoldihcchfdaa
open Go.RowKit
/-- The bytes from place pos on may all stand in a name (at most f of them are asked). -/
def namF (s : ByteArray) : Nat → Nat → Bool
  | 0, _ => true
  | f + 1, pos => if h : pos < s.size then (if forB (s[pos]'h).toNat then false else namF s f (pos + 1)) else true
def namB (s : ByteArray) : Bool := namF s s.size 0
theorem namF_end (s : ByteArray) (f pos : Nat) (h : ¬ pos < s.size) : namF s f pos = true := by cases f <;> simp [namF, h]
theorem forB_high {r : Nat} (h : 128 ≤ r) : forB r = true := forB_yes (by omega)
/-- Where the first rune that may not stand in a name begins, or -1. -/
def idxF (s : ByteArray) : Nat → Nat → Int
  | 0, _ => -1
  | f + 1, pos => if pos < s.size then (if forB (Utf8.decode s pos).1 = true then (pos : Int) else idxF s f (pos + (Utf8.decode s pos).2)) else -1
theorem idxF_end (s : ByteArray) (f pos : Nat) (h : ¬ pos < s.size) : idxF s f pos = -1 := by cases f <;> simp [idxF, h]
theorem idxF_nam (s : ByteArray) : ∀ f pos, decide (0 ≤ idxF s f pos) = !namF s f pos
  | 0, _ => by simp [idxF, namF]
  | f + 1, pos => by
    unfold idxF namF
    by_cases h : pos < s.size
    · rw [if_pos h, dif_pos h]
      by_cases ha : (s[pos]'h).toNat < 128
      · rw [decode_ascii s pos h ha]
        by_cases hf : forB (s[pos]'h).toNat = true
        · rw [if_pos hf, if_pos hf]; simp
        · rw [if_neg hf, if_neg hf]; exact idxF_nam s f (pos + 1)
      · have hd := decode_high s pos h (by omega)
        rw [if_pos (forB_high hd.1), if_pos (forB_high (by omega))]; simp
    · rw [if_neg h, dif_neg h]; simp
set_option maxHeartbeats 800000 in
set_option maxRecDepth 100000 in
theorem indexFunc_t (s : ByteArray) (w : World) :
    Calls Try.prog 44 #[.string s, .func (.func 40) #[] #[], .bool true] w fun e w' => e = .returned (.int .i64 (idxF s s.size 0)) ∧ Below w.heap.size w w' := by
  go_enter Try.func44, Try.ntmps44
  go_wp2
  go_loopg [] s.size (fun gf wx => ∃ pos : Nat, wx.heap[w.heap.size]? = some (.stringIter s pos) ∧ Below w.heap.size w wx ∧ idxF s gf pos = idxF s s.size 0 ∧ s.size ≤ pos + gf)
  case atStart => exact ⟨0, World.iter_heap w s 0, (Below.refl _ w).alloc (Nat.le_refl _) _, rfl, by omega⟩
  case round =>
    obtain ⟨pos, hit, hbw, hleft, hfu⟩ := hrel
    by_cases hps : pos < s.size
    · obtain ⟨g', rfl⟩ : ∃ g', gk = g' + 1 := ⟨gk - 1, by omega⟩
      have hnx : ∀ ty, (Instr.next (.pointer (some ⟨w.heap.size, 0, none⟩)) true ty).run Try.prog wr = _ := fun ty => Lib.run_next_any_at wr w.heap.size s pos ty hit hps
      have hwd := Lib.width_pos s pos
      obtain ⟨R, hR⟩ : ∃ R, (Utf8.decode s pos).1 = R := ⟨_, rfl⟩
      obtain ⟨K, hK⟩ : ∃ K, (Utf8.decode s pos).2 = K := ⟨_, rfl⟩
      simp only [idxF, hps, if_true, hR, hK] at hleft
      rw [hR, hK] at hnx
      rw [hK] at hwd
      have hit2 := Lib.iterAt_heap wr w.heap.size s pos (pos + K) hit
      have hbw2 := Lib.below_iterAt hbw (k := w.heap.size) (Nat.le_refl _) s (pos + K)
      obtain ⟨W, hWd⟩ : ∃ W, wr.iterAt w.heap.size s (pos + K) = W := ⟨_, rfl⟩
      rw [hWd] at hnx hit2 hbw2
      have cS := foreign_t R W
      cases hsp : forB R <;> rw [hsp] at cS <;> simp only [hsp, if_true, Bool.false_eq_true, if_false] at hleft
      · replace cS := Lib.hid cS
        clear hsp
        go_wp2_with (go_at_call 40; refine cS.out.mono ?_; rintro e W' ⟨rfl, rfl⟩)
        go_roundg g'
        case measure => omega
        case rel => exact ⟨pos + K, hit2, hbw2, hleft, by omega⟩
      · replace cS := Lib.hid cS
        replace hleft := Lib.hid hleft
        clear hsp
        go_wp2_with (go_at_call 40; refine cS.out.mono ?_; rintro e W' ⟨rfl, rfl⟩)
        go_ret
        exact ⟨by rw [← hleft.out] <;> rfl, hbw2⟩
    · have hnx : ∀ ty, (Instr.next (.pointer (some ⟨w.heap.size, 0, none⟩)) true ty).run Try.prog wr = _ := fun ty => Lib.run_next_end_at wr w.heap.size s pos ty hit hps
      rw [idxF_end s gk pos hps] at hleft
      replace hleft := Lib.hid hleft
      go_wp2
      go_ret
      exact ⟨by rw [← hleft.out] <;> rfl, hbw⟩
set_option maxHeartbeats 400000 in
theorem containsFunc_t (s : ByteArray) (w : World) :
    Calls Try.prog 41 #[.string s, .func (.func 40) #[] #[]] w (RV w (.bool (!namB s))) := by
  have hI := fun w => indexFunc_t s w
  have e := idxF_nam s s.size 0
  obtain ⟨I, hI2⟩ : ∃ I, idxF s s.size 0 = I := ⟨_, rfl⟩
  rw [hI2] at hI e
  clear hI2
  have e2 := Lib.hid (show decide (0 ≤ I) = !namB s from e)
  clear e
  replace hI := Lib.hid hI
  have hJ : ∀ w, Calls Try.prog 43 #[.string s, .func (.func 40) #[] #[]] w fun e w' => e = .returned (.int .i64 I) ∧ Below w.heap.size w w' := fun w => by
    go_enter Try.func43, Try.ntmps43
    go_wp2_with (go_at_call 44; (with_reducible refine (hI.out _).mono ?_); rintro e w' ⟨rfl, hb⟩)
    go_ret
    exact ⟨rfl, hb⟩
  replace hJ := Lib.hid hJ
  go_enter Try.func41, Try.ntmps41
  go_wp2_with (go_at_call 43; (with_reducible refine (hJ.out _).mono ?_); rintro e w' ⟨rfl, hb⟩)
  go_ret
  exact ⟨by rw [← e2.out]; rfl, hb⟩
/-- Is it a name? -/
def nameB (s : ByteArray) : Bool := decide (0 < s.size) && decide (s.size ≤ 40) && namB s
set_option maxHeartbeats 400000 in
theorem isName_t (s : ByteArray) (w : World) : Calls Try.prog 34 #[.string s] w (RV w (.bool (nameB s))) := by
  have hC := Lib.hid (fun w => containsFunc_t s w)
  by_cases h0 : 0 < s.size
  · by_cases h1 : s.size ≤ 40
    · have e := Lib.hid (show nameB s = namB s by unfold nameB; simp [h0, h1])
      go_enter Try.func34, Try.ntmps34
      go_wp2_with (go_at_call 41; (with_reducible refine (hC.out _).mono ?_); rintro e w' ⟨rfl, hb⟩)
      go_ret
      exact ⟨by rw [e.out]; exact ret_bool (by simp), hb⟩
    · have e := Lib.hid (show nameB s = false by unfold nameB; simp [h1])
      have h2 : decide (s.size ≤ 40) = false := by simp; omega
      go_enter Try.func34, Try.ntmps34
      go_wp2_with (go_at_call 41; (with_reducible refine (hC.out _).mono ?_); rintro e w' ⟨rfl, hb⟩)
      go_ret
      exact ⟨by rw [e.out]; exact ret_bool (by simp), Below.refl _ _⟩
  · have e := Lib.hid (show nameB s = false by unfold nameB; simp [h0])
    have h2 : decide (0 < s.size) = false := decide_eq_false h0
    go_enter Try.func34, Try.ntmps34
    go_wp2_with (go_at_call 41; (with_reducible refine (hC.out _).mono ?_); rintro e w' ⟨rfl, hb⟩)
    go_ret
    exact ⟨by rw [e.out]; exact ret_bool (by simp), Below.refl _ _⟩
end Go.Proofs.Ytegoldihcchfdaa
