/-
  The reference's numbers as text, and its Text.
-/
import Derived.Test.YtikngnbnodaflaaGreatDoorQa
import Derived.Test.YtikngnbnodaflaaGreatDoorNg
import Derived.Test.YtikngnbnodaflaaGreatDoorRt
import Derived.BigQuiet
namespace Go.Proofs.YtikngnbnodaflaaGreatDoor
open Go.RowKit Go.Lib
theorem dd_big {u : Nat} (h : ¬ u < 10) : decDigits u = decDigits (u / 10) ++ [UInt8.ofNat (48 + u % 10)] := by rw [decDigits, dif_neg h]
theorem dd_one {u : Nat} (h : u < 10) : decDigits u = [UInt8.ofNat (48 + u)] := by rw [decDigits, dif_pos h]
theorem ba_app (a b : List UInt8) : (⟨a.toArray⟩ : ByteArray) ++ ⟨b.toArray⟩ = ⟨(a ++ b).toArray⟩ := by
  apply ByteArray.ext
  simp
theorem push_bytes (l : List UInt8) : (l.map fun c => ((c.toNat : Nat) : Int)).foldl (fun r n => r.push (UInt8.ofNat n.toNat)) ByteArray.empty = ⟨l.toArray⟩ := by
  have : ∀ (l : List UInt8) (r : ByteArray), (l.map fun c => ((c.toNat : Nat) : Int)).foldl (fun r n => r.push (UInt8.ofNat n.toNat)) r = ⟨r.data ++ l.toArray⟩ := by
    intro l
    induction l with
    | nil => intro r; simp
    | cons c l ih =>
      intro r
      rw [List.map_cons, List.foldl_cons, ih]
      apply ByteArray.ext
      simp [ByteArray.push]
  rw [this]
  apply ByteArray.ext
  simp
theorem conv_one (c : UInt8) (w : World) :
    (convert 43 9 (.slice (some ⟨w.heap.size, 0, none⟩) 1 1)).run Tryz.prog (w.alloc (.cells #[.int .u8 ((c.toNat : Nat) : Int)] 5)) = .ok (.string ⟨#[c]⟩) (w.alloc (.cells #[.int .u8 ((c.toNat : Nat) : Int)] 5)) := by
  rw [run_convert_bytes_string _ _ _ 5 _ _ _ Tryz.underlying43 Tryz.underlying5 Tryz.underlying9, show (⟨#[c]⟩ : ByteArray) = ⟨[c].toArray⟩ from rfl, ← push_bytes]
  refine run_bytesToString _ _ _ _ [((c.toNat : Nat) : Int)] ?_
  have hl := run_loadCells_list (P := Tryz.prog) (w.alloc (.cells #[.int .u8 ((c.toNat : Nat) : Int)] 5)) ⟨w.heap.size, 0, none⟩ [Value.int .u8 ((c.toNat : Nat) : Int)] (fun j v hv => by
    have hj : j = 0 := by
      rcases Nat.eq_zero_or_pos j with h | h
      · exact h
      · rw [List.getElem?_eq_none (by simp; omega)] at hv; cases hv
    subst hj
    cases hv
    exact World.cell?_alloc_new w _ _ 0)
  simpa using hl
theorem dec_step (n : Nat) (h : 9 < n) (hn : n < 4611686018427387904) : ∃ (d q : Nat) (c : UInt8), (n : Int) % 10 = (d : Int) ∧ (n : Int).tmod 10 = (d : Int) ∧ IntKind.u8.wrap (48 + (d : Int)) = ((c.toNat : Nat) : Int) ∧ IntKind.i64.wrap ((n : Int) / 10) = (q : Int) ∧ q < n ∧ decDigits n = decDigits q ++ [c] := by
  have hc : (UInt8.ofNat (48 + n % 10)).toNat = 48 + n % 10 := UInt8.toNat_ofNat_of_lt (by show 48 + n % 10 < 256; omega)
  refine ⟨n % 10, n / 10, UInt8.ofNat (48 + n % 10), by omega, ?_, ?_, ?_, by omega, dd_big (by omega)⟩
  · rw [Int.tmod_eq_emod_of_nonneg (by omega)]; omega
  · rw [hc, IntWalk.u8_in _ (by omega)]; omega
  · rw [IntWalk.i64_in _ (by omega)]; omega
theorem dec_last (n : Nat) (h : ¬ 9 < n) : ∃ c : UInt8, IntKind.u8.wrap (48 + (n : Int)) = ((c.toNat : Nat) : Int) ∧ decDigits n = [c] := by
  have hc : (UInt8.ofNat (48 + n)).toNat = 48 + n := UInt8.toNat_ofNat_of_lt (by show 48 + n < 256; omega)
  refine ⟨UInt8.ofNat (48 + n), ?_, dd_one (by omega)⟩
  rw [hc, IntWalk.u8_in _ (by omega)]; omega
set_option maxRecDepth 100000 in
set_option maxHeartbeats 1600000 in
theorem Dec_t (x : Nat) (hx : x < 4611686018427387904) (w : World) : Calls Tryz.prog 41 #[.int .i64 (x : Int)] w (RV w (.string ⟨(decDigits x).toArray⟩)) := by
  have hL : (decDigits x).length ≤ 19 := dd_len 18 x (Nat.lt_of_lt_of_le hx (by decide))
  obtain ⟨M, hM⟩ : ∃ M, (decDigits x).length = M := ⟨_, rfl⟩
  rw [hM] at hL
  replace hM := Lib.hid hM
  go_enter Tryz.func41, Tryz.ntmps41
  go_wp2
  go_loopw [0, 3] (fun vn vs wr => ∃ (n : Nat) (s : List UInt8), vn = .int .i64 (n : Int) ∧ vs = .string ⟨s.toArray⟩ ∧ decDigits x = decDigits n ++ s ∧ n ≤ x ∧ Below w.heap.size w wr) (fun vn _ _ => (RowKit.intOf vn).toNat)
  case atStart => exact ⟨x, [], rfl, rfl, by simp, Nat.le_refl _, by go_grown⟩
  case round =>
    obtain ⟨n, s, rfl, rfl, hs, hnx, hbw⟩ := hrel
    have hsl : s.length ≤ 19 := by have := hM.out; rw [hs] at this; simp at this; omega
    obtain ⟨S, hS⟩ : ∃ S : ByteArray, (⟨s.toArray⟩ : ByteArray) = S := ⟨_, rfl⟩
    have hSl : S.size ≤ 19 := by rw [← hS]; exact hsl
    have q1 : 1 + S.size ≤ 9223372036854775807 := by omega
    have hn62 : n < 4611686018427387904 := by omega
    rw [hS]
    by_cases h9 : 9 < n
    · obtain ⟨d, q, c, e1, e2, e3, e4, hqn, hds⟩ := dec_step n h9 hn62
      have hconv := conv_one c
      have hfin := Lib.hid (show decDigits x = decDigits q ++ ([c] ++ s) by rw [hs, hds, List.append_assoc])
      have happ := Lib.hid (show (⟨#[c]⟩ : ByteArray) ++ S = ⟨([c] ++ s).toArray⟩ by rw [← hS]; exact ba_app [c] s)
      have hqx : q ≤ x := by omega
      replace hqx := Lib.hid hqx
      clear hs hS hsl hL hx hSl hds hnx hn62
      go_wp2
      go_roundw
      case rel => exact ⟨q, [c] ++ s, rfl, by rw [happ.out], hfin.out, hqx.out, hbw.alloc hbw.size _⟩
      case measure => simp [RowKit.intOf]; omega
    · obtain ⟨c, e3, hds⟩ := dec_last n h9
      have hconv := conv_one c
      have hfin := Lib.hid (show (⟨#[c]⟩ : ByteArray) ++ S = ⟨(decDigits x).toArray⟩ by rw [hs, hds, ← hS]; exact ba_app [c] s)
      clear hs hS hsl hL hx hSl hds hnx hn62
      go_wp2
      go_ret
      exact ⟨by rw [hfin.out]; rfl, hbw.alloc hbw.size _⟩
end Go.Proofs.YtikngnbnodaflaaGreatDoor
