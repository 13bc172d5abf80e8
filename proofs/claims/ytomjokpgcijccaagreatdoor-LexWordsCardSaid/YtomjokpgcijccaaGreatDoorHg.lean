/-
  The walks of lex's check and next.
-/
import Derived.Test.YtomjokpgcijccaaGreatDoorFg
import Derived.Test.YtomjokpgcijccaaGreatDoorHf
namespace Go.Proofs.YtomjokpgcijccaaGreatDoor
open Go.RowKit Go.Lib
/-- Is a text a literal? -/
def nbP (t : List UInt8) : Bool := (paV (tx t)).e == 0
def tkV (x : TK) : Value := .agg #[.int .i64 (x.k : Int), .string (tx x.t), .int .i64 x.p.f, .int .i64 x.p.l, .int .i64 x.p.c]
theorem tx_toList (t : List UInt8) : (tx t).toList = t := by rw [Go.Lib.toList_data]
set_option maxRecDepth 100000 in
set_option maxHeartbeats 3200000 in
theorem check_empty (k : Nat) (p : PS) (w : World) : Calls Tryz.prog 17 #[tkV ⟨k, [], p⟩] w (RV w (.int .i64 7)) := by
  have hne := tx_toList []
  obtain ⟨S, hS⟩ : ∃ S, tx [] = S := ⟨_, rfl⟩
  unfold tkV
  simp only [hS]
  rw [hS] at hne
  have hne2 : S.toList.isEmpty = true := by rw [hne]; rfl
  clear hS
  go_enter Tryz.func17, Tryz.ntmps17
  go_wp2_with fail
  go_ret
  exact ⟨rfl, by go_grown⟩
theorem ne_toList {t : List UInt8} {S : ByteArray} (hS : tx t = S) (h0 : t ≠ []) : ¬ S.toList = [] ∧ S.toList.isEmpty = false := by
  have e : S.toList = t := by rw [← hS]; exact tx_toList t
  rw [e]
  refine ⟨h0, ?_⟩
  cases t with
  | nil => exact absurd rfl h0
  | cons a r => rfl
set_option maxRecDepth 100000 in
set_option maxHeartbeats 3200000 in
theorem check_name (t : List UInt8) (p : PS) (w : World) (h0 : t ≠ []) (hl : t.length < 4611686018427387904) : Calls Tryz.prog 17 #[tkV ⟨1, t, p⟩] w (RV w (.int .i64 (ck nbP 1 t))) := by
  have hc : ck nbP 1 t = if t = [36] ∨ 40 < t.length then 9 else 0 := by unfold ck; rw [if_neg h0, if_pos rfl]
  have htl := tx_toList t
  obtain ⟨S, hS⟩ : ∃ S, tx t = S := ⟨_, rfl⟩
  have hz : S.size = t.length := by rw [← hS]; rfl
  obtain ⟨hne, hne2⟩ := ne_toList hS h0
  unfold tkV
  simp only [hS]
  rw [hS] at htl
  rw [hc]
  by_cases h1 : t = [36]
  · rw [if_pos (Or.inl h1)]
    have e1 : (S.toList == [36]) = true := by rw [htl, h1]; rfl
    have e2 : S.toList = [36] := by rw [htl, h1]
    replace e2 := Lib.hid e2
    clear hS hz htl hc
    go_enter Tryz.func17, Tryz.ntmps17
    go_wp2_with fail
    go_ret
    exact ⟨rfl, by go_grown⟩
  · have e1 : (S.toList == [36]) = false := by rw [htl]; simpa using h1
    have e3 : ¬ S.toList = [36] := by rw [htl]; exact h1
    by_cases h2 : 40 < t.length
    · rw [if_pos (Or.inr h2)]
      have e2 : decide ((40 : Int) < (S.size : Int)) = true := by rw [hz]; simp; omega
      have e4 : 40 < S.size := by rw [hz]; exact h2
      replace e3 := Lib.hid e3
      clear hS hz htl hc
      go_enter Tryz.func17, Tryz.ntmps17
      go_wp2_with fail
      go_ret
      exact ⟨rfl, by go_grown⟩
    · rw [if_neg (by rintro (h | h); exact h1 h; exact h2 h)]
      have e2 : decide ((40 : Int) < (S.size : Int)) = false := by rw [hz]; simp; omega
      have e4 : ¬ 40 < S.size := by rw [hz]; exact h2
      replace e3 := Lib.hid e3
      clear hS hz htl hc
      go_enter Tryz.func17, Tryz.ntmps17
      go_wp2_with fail
      go_ret
      exact ⟨rfl, by go_grown⟩
set_option maxRecDepth 100000 in
set_option maxHeartbeats 3200000 in
theorem check_num (t : List UInt8) (p : PS) (w : World) (h0 : t ≠ []) (hl : t.length < 4611686018427387904) : Calls Tryz.prog 17 #[tkV ⟨2, t, p⟩] w (RV w (.int .i64 (ck nbP 2 t))) := by
  have hc : ck nbP 2 t = if nbP t then 0 else 7 := by unfold ck; rw [if_neg h0, if_neg (by decide), if_pos rfl]
  have hP := fun w => Parse_t (tx t) w (by unfold maxLen; show t.length ≤ _; omega)
  unfold PR.val lv RV at hP
  have hnb : nbP t = ((paV (tx t)).e == 0) := rfl
  obtain ⟨S, hS⟩ : ∃ S, tx t = S := ⟨_, rfl⟩
  obtain ⟨hne, hne2⟩ := ne_toList hS h0
  unfold tkV
  simp only [hS]
  rw [hS] at hP hnb
  rw [hc, hnb]
  generalize (paV S).e = e0 at *
  generalize (paV S).n = n0 at *
  generalize (paV S).x = x0 at *
  generalize (paV S).sg = s0 at *
  generalize (paV S).sz = z0 at *
  replace hP := Lib.hid hP
  clear hS hc hnb
  by_cases h1 : e0 = 0
  · have e1 : (e0 == 0) = true := by simpa using h1
    rw [e1, if_pos rfl]
    have e2 : (e0 != 0) = false := by simpa using h1
    replace h1 := Lib.hid h1
    go_enter Tryz.func17, Tryz.ntmps17
    go_wp2_with fail
    (with_reducible refine (hP.out _).mono ?_)
    rintro e w1 ⟨rfl, hb1⟩
    have hbw : Below w.heap.size w w1 := below_call hb1 (by go_grown)
    have z1 := hbw.size
    clear hb1
    go_wp2_with fail
    go_ret
    exact ⟨rfl, by go_grown⟩
  · have e1 : (e0 == 0) = false := by simpa using h1
    rw [e1, if_neg (by decide)]
    have e2 : (e0 != 0) = true := by simpa using h1
    replace h1 := Lib.hid h1
    go_enter Tryz.func17, Tryz.ntmps17
    go_wp2_with fail
    (with_reducible refine (hP.out _).mono ?_)
    rintro e w1 ⟨rfl, hb1⟩
    have hbw : Below w.heap.size w w1 := below_call hb1 (by go_grown)
    have z1 := hbw.size
    clear hb1
    go_wp2_with fail
    go_ret
    exact ⟨rfl, by go_grown⟩
set_option maxRecDepth 100000 in
set_option maxHeartbeats 3200000 in
theorem check_sign (t : List UInt8) (p : PS) (w : World) (h0 : t ≠ []) : Calls Tryz.prog 17 #[tkV ⟨3, t, p⟩] w (RV w (.int .i64 (ck nbP 3 t))) := by
  have hc : ck nbP 3 t = 0 := by unfold ck; rw [if_neg h0, if_neg (by decide), if_neg (by decide)]
  obtain ⟨S, hS⟩ : ∃ S, tx t = S := ⟨_, rfl⟩
  obtain ⟨hne, hne2⟩ := ne_toList hS h0
  unfold tkV
  simp only [hS]
  rw [hc]
  clear hS hc
  go_enter Tryz.func17, Tryz.ntmps17
  go_wp2_with fail
  go_ret
  exact ⟨rfl, by go_grown⟩
theorem me_kind (l : List UInt8) : (me l).1 = 1 ∨ (me l).1 = 2 ∨ (me l).1 = 3 := by
  cases l with
  | nil => exact Or.inr (Or.inr rfl)
  | cons c t =>
    rw [me_cons]
    split
    · exact Or.inl rfl
    · split
      · exact Or.inr (Or.inl rfl)
      · exact Or.inr (Or.inr rfl)
theorem check_t (k : Nat) (hk : k = 1 ∨ k = 2 ∨ k = 3) (t : List UInt8) (p : PS) (w : World) (hl : t.length < 4611686018427387904) : Calls Tryz.prog 17 #[tkV ⟨k, t, p⟩] w (RV w (.int .i64 (ck nbP k t))) := by
  by_cases h0 : t = []
  · subst h0
    exact check_empty k p w
  · rcases hk with rfl | rfl | rfl
    · exact check_name t p w h0 hl
    · exact check_num t p w h0 hl
    · exact check_sign t p w h0
end Go.Proofs.YtomjokpgcijccaaGreatDoor
