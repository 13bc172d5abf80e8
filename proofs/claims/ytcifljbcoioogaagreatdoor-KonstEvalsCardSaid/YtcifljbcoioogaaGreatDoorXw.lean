/-
  The reference's bad, good, truth, power, bits, number, bitwise.
  The reference's bits and number of a constant.
  The reference's number and bitwise of a constant.
-/
import Derived.Test.YtcifljbcoioogaaGreatDoorXq
import Derived.Deep.OwnRows
import Derived.Test.YtcifljbcoioogaaGreatDoorIc
namespace Go.Proofs.YtcifljbcoioogaaGreatDoor
open Go.RowKit Go.Lib Go.Maps
/-- A number or the place of an error, as a value. -/
abbrev ov (r : KR) : Value := .agg #[.int .i64 r.n, .int .i64 r.f, .int .i64 r.l, .int .i64 r.c, .int .i64 r.e]
set_option maxRecDepth 100000 in
set_option maxHeartbeats 1600000 in
theorem rbad_t (h : XH) (A : Option Addr) (n c : Nat) (e : Int) (w : World) : Calls Tryz.prog 24 #[xv h A n c, .int .i64 e] w (RV w (ov (badR h e))) := by
  unfold ov badR
  go_enter Tryz.func24, Tryz.ntmps24
  go_wp2_with fail
  refine bodyPost_ret (v := .agg #[.int .i64 0, .int .i64 h.f, .int .i64 h.l, .int .i64 h.c, .int .i64 e]) (by simp [results, Tryz.results24, go_sem]) rfl ⟨rfl, ?_⟩
  go_grown
set_option maxRecDepth 100000 in
set_option maxHeartbeats 1600000 in
theorem rgood_t (h : XH) (A : Option Addr) (n c : Nat) (m : Int) (w : World) : Calls Tryz.prog 26 #[xv h A n c, .int .i64 m] w (RV w (ov (chk h (okR m)))) := by
  have hbad := fun W => rbad_t h A n c 3 W
  by_cases hr : m < -2147483648 ∨ 2147483647 < m
  · have e : chk h (okR m) = badR h 3 := by unfold chk okR; rw [if_neg (by simp), if_pos hr]
    rw [e]
    unfold ov badR
    unfold ov badR at hbad
    replace hbad := Lib.hid hbad
    have hO : (((w.alloc (.cells #[.int .i64 h.k, .int .i64 h.f, .int .i64 h.l, .int .i64 h.c, .string h.s, .slice A n c] 33)).alloc (.cells #[.int .i64 0, .int .i64 0, .int .i64 0, .int .i64 0, .int .i64 0] 50))).heap[w.heap.size + 1]? = some (.cells #[.int .i64 0, .int .i64 0, .int .i64 0, .int .i64 0, .int .i64 0] 50 (0, 0)) := by
      have h1 := heap_alloc_new (w.alloc (.cells #[.int .i64 h.k, .int .i64 h.f, .int .i64 h.l, .int .i64 h.c, .string h.s, .slice A n c] 33)) (.cells #[.int .i64 0, .int .i64 0, .int .i64 0, .int .i64 0, .int .i64 0] 50)
      rw [show (w.alloc (.cells #[.int .i64 h.k, .int .i64 h.f, .int .i64 h.l, .int .i64 h.c, .string h.s, .slice A n c] 33)).heap.size = w.heap.size + 1 by simp] at h1
      exact h1
    have hb0 : Below w.heap.size w (((w.alloc (.cells #[.int .i64 h.k, .int .i64 h.f, .int .i64 h.l, .int .i64 h.c, .string h.s, .slice A n c] 33)).alloc (.cells #[.int .i64 0, .int .i64 0, .int .i64 0, .int .i64 0, .int .i64 0] 50))) := by go_grown
    replace hO := Lib.hid hO
    replace hb0 := Lib.hid hb0
    have hr2 : 2147483647 < m → ¬ m < -2147483648 := fun h => by omega
    rcases hr with hr | hr
    all_goals (try have hr3 := hr2 hr)
    all_goals clear hr2
    all_goals go_enter Tryz.func26, Tryz.ntmps26
    all_goals go_wp2_with fail
    all_goals (with_reducible refine (hbad.out _).mono ?_)
    all_goals rintro e w1 ⟨rfl, hb1⟩
    all_goals (have hO1 := (hb1.block (w.heap.size + 1) (lt_of_get hO.out)).trans hO.out; have hbw := below_call hb1 hb0.out; have o0 : w1.cell? ⟨w.heap.size + 1, 0, none⟩ = some (.int .i64 0) := (by rw [Lib.cell_of_heap hO1]; rfl); have o1 : w1.cell? ⟨w.heap.size + 1, 1, none⟩ = some (.int .i64 0) := (by rw [Lib.cell_of_heap hO1]; rfl); have o2 : w1.cell? ⟨w.heap.size + 1, 2, none⟩ = some (.int .i64 0) := (by rw [Lib.cell_of_heap hO1]; rfl); have o3 : w1.cell? ⟨w.heap.size + 1, 3, none⟩ = some (.int .i64 0) := (by rw [Lib.cell_of_heap hO1]; rfl); have o4 : w1.cell? ⟨w.heap.size + 1, 4, none⟩ = some (.int .i64 0) := (by rw [Lib.cell_of_heap hO1]; rfl); have of := Lib.frozen_of_heap hO1; have ol := lt_of_get hO1; clear hb1 hO1)
    all_goals go_wp2_with fail
    all_goals refine bodyPost_ret (v := .agg #[.int .i64 0, .int .i64 h.f, .int .i64 h.l, .int .i64 h.c, .int .i64 3]) (by simp [results, Tryz.results26, go_sem, o0, o1, o2, o3, o4]) rfl ⟨rfl, ?_⟩
    all_goals go_grown
  · have e : chk h (okR m) = okR m := by unfold chk okR; rw [if_neg (by simp), if_neg hr]
    rw [e]
    obtain ⟨r1, r2⟩ : ¬ m < -2147483648 ∧ ¬ 2147483647 < m := by omega
    unfold ov okR
    clear hr hbad
    go_enter Tryz.func26, Tryz.ntmps26
    go_wp2_with fail
    refine bodyPost_ret (v := .agg #[.int .i64 m, .int .i64 0, .int .i64 0, .int .i64 0, .int .i64 0]) (by simp [results, Tryz.results26, go_sem]) rfl ⟨rfl, ?_⟩
    go_grown
theorem rtruth_t (b : Bool) (w : World) : Calls Tryz.prog 27 #[.bool b] w fun x w' => x = .returned (.int .i64 (ofB b)) ∧ w' = w := by
  cases b <;> (go_enter Tryz.func27, Tryz.ntmps27; go_wp2; go_ret; exact ⟨rfl, rfl⟩)
set_option maxRecDepth 100000 in
theorem rpower_t (n : Nat) (hn : n ≤ 40) (w : World) : Calls Tryz.prog 29 #[.int .i64 (n : Int)] w fun x w' => x = .returned (.int .i64 ((2 : Int) ^ n)) ∧ w' = w := by
  go_enter Tryz.func29, Tryz.ntmps29
  go_wp2_with fail
  go_loopw [0, 3] (fun nv pv wr => ∃ k : Nat, k ≤ n ∧ nv = .int .i64 ((n - k : Nat) : Int) ∧ pv = .int .i64 ((2 : Int) ^ k) ∧ wr = w) (fun nv _ _ => (RowKit.intOf nv).toNat)
  case atStart => exact ⟨0, Nat.zero_le _, rfl, rfl, rfl⟩
  case round =>
    obtain ⟨k, hk, rfl, rfl, rfl⟩ := hrel
    obtain ⟨m, hm⟩ : ∃ m, n - k = m := ⟨_, rfl⟩
    by_cases h0 : m = 0
    · obtain rfl : k = n := by omega
      rw [hm]
      subst h0
      have hp := Lib.hid hm
      clear hm
      go_wp2_with fail
      go_ret
      exact ⟨rfl, rfl⟩
    · have hpw : (2 : Int) ^ k ≤ 1099511627776 := by
        have h : 2 ^ k ≤ 2 ^ 40 := Nat.pow_le_pow_right (by decide) (by omega)
        have e : ((2 ^ k : Nat) : Int) = (2 : Int) ^ k := by simp
        omega
      have hp0 : (0 : Int) < 2 ^ k := Int.pow_pos (by decide)
      have hs : 2 * (2 : Int) ^ k = 2 ^ (k + 1) := by rw [Int.pow_succ]; omega
      obtain ⟨q, hq⟩ : ∃ q, (2 : Int) ^ k = q := ⟨_, rfl⟩
      rw [hq] at hpw hp0 hs ⊢
      rw [hm]
      have hm1 : 1 ≤ m := by omega
      have hm40 : m ≤ 40 := by omega
      have hd : ¬ m = 0 := h0
      have hmi : (0 : Int) < (m : Int) := by omega
      have hn1 := Lib.hid (show n - (k + 1) = m - 1 by omega)
      have hkn : k + 1 ≤ n := by omega
      replace hs := Lib.hid hs
      clear hq hm h0
      go_wp2_with fail
      go_roundw
      case rel => exact ⟨k + 1, hkn, by rw [hn1.out]; congr 1; omega, by rw [← hs.out], by first | trivial | rfl⟩
      case measure => (simp [RowKit.intOf]; omega)
end Go.Proofs.YtcifljbcoioogaaGreatDoor
namespace Go.Proofs.YtcifljbcoioogaaGreatDoor
open Go.RowKit Go.Lib Go.Maps
def kbitC (a : Int) (k j : Nat) : Value := .bool (decide (j < k) && bF a j)
theorem half_cases (q : Int) (_hq : InR q) : (q % 2 = 0 ∧ q.tmod 2 = 0 ∧ (q - 0).tdiv 2 = q / 2) ∨ (q % 2 = 1 ∧ q.tmod 2 = 1 ∧ (q - 1).tdiv 2 = q / 2) ∨ (q % 2 = 1 ∧ q.tmod 2 = -1 ∧ (q - 1).tdiv 2 = q / 2) := by
  have h1 := Int.tmod_add_mul_tdiv q 2
  have h2 : q.tdiv 2 = q / 2 + if 0 ≤ q ∨ (2 : Int) ∣ q then 0 else Int.sign 2 := Int.tdiv_eq_ediv
  have h3 : (q - 1).tdiv 2 = (q - 1) / 2 + if 0 ≤ q - 1 ∨ (2 : Int) ∣ (q - 1) then 0 else Int.sign 2 := Int.tdiv_eq_ediv
  have hs : Int.sign 2 = 1 := rfl
  rw [hs] at h2 h3
  have e0 : q - 0 = q := by omega
  rw [e0]
  rcases Int.emod_two_eq q with h | h
  · left
    have : (0 ≤ q ∨ (2 : Int) ∣ q) := Or.inr (by omega)
    rw [if_pos this] at h2
    omega
  · right
    have hd : (0 ≤ q - 1 ∨ (2 : Int) ∣ (q - 1)) := Or.inr (by omega)
    rw [if_pos hd] at h3
    by_cases hp : 0 ≤ q
    · left
      rw [if_pos (Or.inl hp)] at h2
      omega
    · right
      rw [if_neg (by omega)] at h2
      omega
set_option maxRecDepth 100000 in
set_option maxHeartbeats 1600000 in
theorem rbits_t (a : Int) (ha : InR a) (w : World) : Calls Tryz.prog 40 #[.int .i64 a] w (GS w 33 (bF a)) := by
  have hmk := run_make_row' (P := Tryz.prog) 69 4 (.bool false) 1 Tryz.underlying69 info_bool rfl .i64 .i64 33 (by omega) (by omega)
  simp at hmk
  have R0 := Lib.hid (World.rowIs_made w (.bool false) 33 4)
  go_enter Tryz.func40, Tryz.ntmps40
  go_wp2_with fail
  go_loopw [0, 4] (fun q i wr => ∃ (k : Nat) (n : Int), k ≤ 33 ∧ q = .int .i64 n ∧ n = a / 2 ^ k ∧ InR n ∧ i = .int .i64 (k : Int) ∧ wr.rowIs w.heap.size 4 33 (kbitC a k) ∧ Below w.heap.size w wr) (fun _ i _ => 33 - (RowKit.intOf i).toNat)
  case atStart => exact ⟨0, a, Nat.zero_le _, rfl, by simp, ha, rfl, World.rowIs.congr R0.out fun j hj => by unfold kbitC; simp, by go_grown⟩
  case round =>
    obtain ⟨k, n, hk, rfl, hn, hin, rfl, R, hbw⟩ := hrel
    clear R0 hmk
    by_cases hlt : k < 33
    · have hcr : wr.cell? ⟨w.heap.size, k, none⟩ = some (.bool false) := by rw [World.rowIs.cell R hlt]; unfold kbitC; simp
      have hf := World.rowIs.frozen R
      have hin2 := hin
      unfold InR at hin2
      have hnx : n / 2 = a / 2 ^ (k + 1) := by rw [hn, Int.ediv_ediv_of_nonneg (Int.le_of_lt (Int.pow_pos (by decide))), Int.pow_succ]
      have hbk : bF a k = decide (n % 2 = 1) := by unfold bF; rw [← hn]
      have hin3 : InR (n / 2) := by unfold InR; omega
      have hfin : ∀ b : Bool, bF a k = b → ∀ j, j < 33 → (if j = k then Value.bool b else kbitC a k j) = kbitC a (k + 1) j := fun b hb j hj => by
        by_cases hj1 : j = k
        · subst hj1; rw [if_pos rfl]; unfold kbitC; simp [hb]
        · rw [if_neg hj1]; unfold kbitC
          congr 2
          rw [Bool.eq_iff_iff]; simp; omega
      replace hnx := Lib.hid hnx
      replace hin3 := Lib.hid hin3
      replace hfin := Lib.hid hfin
      clear hn ha
      rcases half_cases n hin with ⟨c1, c2, c3⟩ | ⟨c1, c2, c3⟩ | ⟨c1, c2, c3⟩
      · have hb : bF a k = false := by rw [hbk, c1]; rfl
        rw [show n - 0 = n by omega] at c3
        obtain ⟨m, hm⟩ : ∃ m, n / 2 = m := ⟨_, rfl⟩
        rw [hm] at c3 hnx hin3
        obtain ⟨m1, m2⟩ := hin3.out
        replace hb := Lib.hid hb
        clear c1 hbk hm
        replace hin := Lib.hid hin
        go_wp2_with fail
        go_roundw
        case rel => exact ⟨k + 1, m, by omega, rfl, hnx.out, hin3.out, by go_num, World.rowIs.congr (World.rowIs.set R k _) (hfin.out false hb.out), hbw.setCell (by simp) _⟩
        case measure => (simp [RowKit.intOf]; omega)
      · have hb : bF a k = true := by rw [hbk, c1]; rfl
        obtain ⟨m, hm⟩ : ∃ m, n / 2 = m := ⟨_, rfl⟩
        rw [hm] at c3 hnx hin3
        obtain ⟨m1, m2⟩ := hin3.out
        replace hb := Lib.hid hb
        clear c1 hbk hm
        replace hin := Lib.hid hin
        go_wp2_with fail
        go_roundw
        case rel => exact ⟨k + 1, m, by omega, rfl, hnx.out, hin3.out, by go_num, World.rowIs.congr (World.rowIs.set R k _) (hfin.out true hb.out), hbw.setCell (by simp) _⟩
        case measure => (simp [RowKit.intOf]; omega)
      · have hb : bF a k = true := by rw [hbk, c1]; rfl
        obtain ⟨m, hm⟩ : ∃ m, n / 2 = m := ⟨_, rfl⟩
        rw [hm] at c3 hnx hin3
        obtain ⟨m1, m2⟩ := hin3.out
        replace hb := Lib.hid hb
        clear c1 hbk hm
        replace hin := Lib.hid hin
        go_wp2_with fail
        go_roundw
        case rel => exact ⟨k + 1, m, by omega, rfl, hnx.out, hin3.out, by go_num, World.rowIs.congr (World.rowIs.set R k _) (hfin.out true hb.out), hbw.setCell (by simp) _⟩
        case measure => (simp [RowKit.intOf]; omega)
    · obtain rfl : k = 33 := by omega
      have R2 := RB_row (h := bF a) (World.rowIs.congr R fun j hj => by unfold kbitC; simp [hj])
      replace R2 := Lib.hid R2
      clear R
      go_wp2_with fail
      go_ret
      exact ⟨_, _, rfl, R2.out, hbw⟩
end Go.Proofs.YtcifljbcoioogaaGreatDoor
namespace Go.Proofs.YtcifljbcoioogaaGreatDoor
open Go.RowKit Go.Lib Go.Maps
set_option maxRecDepth 100000 in
set_option maxHeartbeats 1600000 in
theorem rnumber_t (A : Option Addr) (c : Nat) (f : Nat → Bool) (w : World) (hA : RB w A 33 f) : Calls Tryz.prog 41 #[.slice A 33 c] w fun x w' => x = .returned (.int .i64 (nmF f)) ∧ w' = w := by
  obtain ⟨b, off, rfl, hb, hc⟩ := hA (by decide)
  have hP := fun (n : Nat) (hn : n ≤ 40) W => rpower_t n hn W
  have hP32 : ∀ W, Calls Tryz.prog 29 #[.int .i64 32] W fun x w' => x = .returned (.int .i64 4294967296) ∧ w' = W := fun W => rpower_t 32 (by decide) W
  have h32 := hc 32 (by decide)
  obtain ⟨R, hR⟩ : ∃ R, nmF f = R := ⟨_, rfl⟩
  rw [hR]
  replace hR := Lib.hid hR
  replace hc := Lib.hid hc
  replace hP := Lib.hid hP
  replace hP32 := Lib.hid hP32
  go_enter Tryz.func41, Tryz.ntmps41
  go_wp2_with fail
  go_loopw [3, 4] (fun q i wr => ∃ k : Nat, k ≤ 32 ∧ q = .int .i64 ((valB f k : Nat) : Int) ∧ i = .int .i64 (k : Int) ∧ wr = w) (fun _ i _ => 32 - (RowKit.intOf i).toNat)
  case atStart => exact ⟨0, Nat.zero_le _, rfl, rfl, rfl⟩
  case round =>
    obtain ⟨k, hk, rfl, rfl, rfl⟩ := hrel
    have hv := valB_lt f k
    have hv2 : 2 ^ k ≤ 4294967296 := Nat.pow_le_pow_right (n := 2) (by decide) (show k ≤ 32 by omega)
    by_cases hlt : k < 32
    · have hck := hc.out k (by omega)
      cases hf : f k
      · rw [hf] at hck
        have hn : valB f (k + 1) = valB f k := valB_no f k hf
        obtain ⟨V, hV⟩ : ∃ V, valB f k = V := ⟨_, rfl⟩
        rw [hV] at hn hv ⊢
        replace hn := Lib.hid hn
        replace hf := Lib.hid hf
        clear hV hv hv2
        go_wp2_with fail
        go_roundw
        case rel => exact ⟨k + 1, by omega, by rw [hn.out], by go_num, by first | trivial | rfl⟩
        case measure => (simp [RowKit.intOf]; omega)
      · rw [hf] at hck
        have hn : valB f (k + 1) = valB f k + 2 ^ k := by rw [valB, hf]; simp
        have hPk := hP.out k (by omega)
        obtain ⟨V, hV⟩ : ∃ V, valB f k = V := ⟨_, rfl⟩
        have hpe : ((2 ^ k : Nat) : Int) = (2 : Int) ^ k := by simp
        obtain ⟨p, hp⟩ : ∃ p : Nat, 2 ^ k = p := ⟨_, rfl⟩
        rw [hV, hp] at hn
        rw [hV, hp] at hv
        rw [hp] at hpe hv2
        rw [← hpe] at hPk
        rw [hV]
        replace hPk := Lib.hid hPk
        replace hn := Lib.hid hn
        replace hf := Lib.hid hf
        clear hV hpe hp
        go_wp2_with fail
        (with_reducible refine (hPk.out _).mono ?_)
        rintro e w' ⟨rfl, hw⟩
        subst hw
        go_wp2_with fail
        go_roundw
        case rel => exact ⟨k + 1, by omega, (by have e := hn.out; rw [e]; first | done | congr 1 | (congr 1; omega)), by go_num, by first | trivial | rfl⟩
        case measure => (simp [RowKit.intOf]; omega)
    · obtain rfl : k = 32 := by omega
      cases hf : f 32
      · rw [hf] at h32
        have hR2 : ((valB f 32 : Nat) : Int) = R := by rw [← hR.out]; unfold nmF; rw [hf]; simp
        obtain ⟨V, hV⟩ : ∃ V, valB f 32 = V := ⟨_, rfl⟩
        rw [hV] at hv hR2 ⊢
        replace hR2 := Lib.hid hR2
        replace hf := Lib.hid hf
        clear hV hv hv2
        go_wp2_with fail
        go_ret
        exact ⟨ret64 hR2.out, rfl⟩
      · rw [hf] at h32
        have hR2 : ((valB f 32 : Nat) : Int) - 4294967296 = R := by rw [← hR.out]; unfold nmF; rw [hf]; simp
        obtain ⟨V, hV⟩ : ∃ V, valB f 32 = V := ⟨_, rfl⟩
        rw [hV] at hv hR2 ⊢
        have hv3 : V < 4294967296 := hv
        replace hR2 := Lib.hid hR2
        replace hf := Lib.hid hf
        clear hV hv hv2
        go_wp2_with fail
        (with_reducible refine (hP32.out _).mono ?_)
        rintro e w' ⟨rfl, hw⟩
        subst hw
        go_wp2_with fail
        go_ret
        exact ⟨ret64 hR2.out, rfl⟩
/-- The operator of bits. -/
def opB : List UInt8 → Bool → Bool → Bool
  | [38], x, y => x && y
  | [124], x, y => x || y
  | [94], x, y => x != y
  | _, x, y => x == y
def opC (op : List UInt8) (f g : Nat → Bool) (k j : Nat) : Value := .bool (decide (j < k) && opB op (f j) (g j))
set_option maxRecDepth 100000 in
set_option maxHeartbeats 3200000 in
theorem rbw_0 (s : ByteArray) (a b : Int) (ha : InR a) (hb : InR b) (w : World) (h : s.toList = [38]) : Calls Tryz.prog 28 #[.string s, .int .i64 a, .int .i64 b] w (RV w (.int .i64 (opV [38] a b))) := by
  have hfin : nmF (fun j => opB [38] (bF a j) (bF b j)) = opV [38] a b := bw_and a b ha hb
  have hx := fun W => rbits_t a ha W
  have hy := fun W => rbits_t b hb W
  have hN := fun (W : World) (A : Option Addr) (c : Nat) (q : RB W A 33 (fun j => opB [38] (bF a j) (bF b j))) => rnumber_t A c _ W q
  rw [hfin] at hN
  have hmk := run_make_row' (P := Tryz.prog) 69 4 (.bool false) 1 Tryz.underlying69 info_bool rfl .i64 .i64 33 (by omega) (by omega)
  simp at hmk
  obtain ⟨F, hF⟩ : ∃ F, bF a = F := ⟨_, rfl⟩
  obtain ⟨G, hG⟩ : ∃ G, bF b = G := ⟨_, rfl⟩
  obtain ⟨r, hr⟩ : ∃ r, opV [38] a b = r := ⟨_, rfl⟩
  rw [hF] at hx hN
  rw [hG] at hy hN
  rw [hr] at hN ⊢
  unfold GS at hx hy
  replace hx := Lib.hid hx
  replace hy := Lib.hid hy
  replace hN := Lib.hid hN
  clear hfin hF hG hr ha hb
  go_enter Tryz.func28, Tryz.ntmps28
  go_wp2_with fail
  (with_reducible refine (hx.out _).mono ?_)
  rintro e w1 ⟨A1, c1, rfl, hA1, hb1⟩
  replace hA1 := Lib.hid hA1
  replace hb1 := Lib.hid hb1
  go_wp2_with fail
  (with_reducible refine (hy.out _).mono ?_)
  rintro e w2 ⟨A2, c2, rfl, hA2, hb2⟩
  have hA1' := hA1.out.keep hb2
  have hbw2 := below_call hb2 hb1.out
  have R0 := Lib.hid (World.rowIs_made w2 (.bool false) 33 4)
  obtain ⟨b1, o1, rfl, hl1, hc1⟩ := hA1' (by decide)
  obtain ⟨b2, o2, rfl, hl2, hc2⟩ := hA2 (by decide)
  replace hc1 := Lib.hid hc1
  replace hc2 := Lib.hid hc2
  replace hbw2 := Lib.hid hbw2
  have z2 : w.heap.size ≤ w2.heap.size := hbw2.out.size
  clear hA1' hA2 hb2 hx hy hA1 hb1
  go_wp2_with fail
  go_loopw [10] (fun i wr => ∃ k : Nat, k ≤ 33 ∧ i = .int .i64 (k : Int) ∧ wr.rowIs w2.heap.size 4 33 (opC [38] F G k) ∧ Below w2.heap.size w2 wr) (fun i _ => 33 - (RowKit.intOf i).toNat)
  case atStart => exact ⟨0, Nat.zero_le _, rfl, World.rowIs.congr R0.out fun j hj => by unfold opC; simp, by go_grown⟩
  case round =>
    obtain ⟨k, hk, rfl, R, hbw⟩ := hrel
    clear R0 hmk
    by_cases hlt : k < 33
    · have hcr : wr.cell? ⟨w2.heap.size, k, none⟩ = some (.bool false) := by rw [World.rowIs.cell R hlt]; unfold opC; simp
      have hf := World.rowIs.frozen R
      have hk1 := (hbw.cell (p := ⟨b1, o1 + k, none⟩) hl1).trans (hc1.out k hlt)
      have hk2 := (hbw.cell (p := ⟨b2, o2 + k, none⟩) hl2).trans (hc2.out k hlt)
      have zr := hbw.size
      have hlr := World.rowIs.lt R
      have hfi : ∀ x : Bool, opB [38] (F k) (G k) = x → ∀ j, j < 33 → (if j = k then Value.bool x else opC [38] F G k j) = opC [38] F G (k + 1) j := fun x hx j hj => by
        by_cases hj1 : j = k
        · subst hj1; rw [if_pos rfl]; unfold opC; simp [hx]
        · rw [if_neg hj1]; unfold opC
          congr 2
          rw [Bool.eq_iff_iff]; simp; omega
      cases hF : F k <;> cases hG : G k
      all_goals rw [hF, hG] at hfi
      all_goals rw [hF] at hk1
      all_goals rw [hG] at hk2
      all_goals (replace hfi := Lib.hid hfi; replace hF := Lib.hid hF; replace hG := Lib.hid hG)
      all_goals go_wp2_with fail
      all_goals (try go_region)
      all_goals (try go_wp2_with fail)
      all_goals go_roundw
      all_goals first
        | (case rel => exact ⟨k + 1, by omega, by go_num, World.rowIs.congr (World.rowIs.set R k _) (hfi.out _ rfl), by go_grown⟩)
        | (case measure => (simp [RowKit.intOf]; omega))
        | skip
    · obtain rfl : k = 33 := by omega
      have R2 := RB_row (h := fun j => opB [38] (F j) (G j)) (World.rowIs.congr R fun j hj => by unfold opC; simp [hj])
      have hbz := below_call hbw hbw2.out
      replace R2 := Lib.hid R2
      replace hbz := Lib.hid hbz
      clear R hbw
      go_wp2_with fail
      (with_reducible refine (hN.out _ _ _ R2.out).mono ?_)
      rintro e w' ⟨rfl, hw⟩
      subst hw
      go_wp2_with fail
      go_ret
      exact ⟨rfl, hbz.out⟩
set_option maxRecDepth 100000 in
set_option maxHeartbeats 3200000 in
theorem rbw_1 (s : ByteArray) (a b : Int) (ha : InR a) (hb : InR b) (w : World) (h : s.toList = [124]) : Calls Tryz.prog 28 #[.string s, .int .i64 a, .int .i64 b] w (RV w (.int .i64 (opV [124] a b))) := by
  have hfin : nmF (fun j => opB [124] (bF a j) (bF b j)) = opV [124] a b := bw_or a b ha hb
  have hx := fun W => rbits_t a ha W
  have hy := fun W => rbits_t b hb W
  have hN := fun (W : World) (A : Option Addr) (c : Nat) (q : RB W A 33 (fun j => opB [124] (bF a j) (bF b j))) => rnumber_t A c _ W q
  rw [hfin] at hN
  have hmk := run_make_row' (P := Tryz.prog) 69 4 (.bool false) 1 Tryz.underlying69 info_bool rfl .i64 .i64 33 (by omega) (by omega)
  simp at hmk
  obtain ⟨F, hF⟩ : ∃ F, bF a = F := ⟨_, rfl⟩
  obtain ⟨G, hG⟩ : ∃ G, bF b = G := ⟨_, rfl⟩
  obtain ⟨r, hr⟩ : ∃ r, opV [124] a b = r := ⟨_, rfl⟩
  rw [hF] at hx hN
  rw [hG] at hy hN
  rw [hr] at hN ⊢
  unfold GS at hx hy
  replace hx := Lib.hid hx
  replace hy := Lib.hid hy
  replace hN := Lib.hid hN
  clear hfin hF hG hr ha hb
  go_enter Tryz.func28, Tryz.ntmps28
  go_wp2_with fail
  (with_reducible refine (hx.out _).mono ?_)
  rintro e w1 ⟨A1, c1, rfl, hA1, hb1⟩
  replace hA1 := Lib.hid hA1
  replace hb1 := Lib.hid hb1
  go_wp2_with fail
  (with_reducible refine (hy.out _).mono ?_)
  rintro e w2 ⟨A2, c2, rfl, hA2, hb2⟩
  have hA1' := hA1.out.keep hb2
  have hbw2 := below_call hb2 hb1.out
  have R0 := Lib.hid (World.rowIs_made w2 (.bool false) 33 4)
  obtain ⟨b1, o1, rfl, hl1, hc1⟩ := hA1' (by decide)
  obtain ⟨b2, o2, rfl, hl2, hc2⟩ := hA2 (by decide)
  replace hc1 := Lib.hid hc1
  replace hc2 := Lib.hid hc2
  replace hbw2 := Lib.hid hbw2
  have z2 : w.heap.size ≤ w2.heap.size := hbw2.out.size
  clear hA1' hA2 hb2 hx hy hA1 hb1
  go_wp2_with fail
  go_loopw [10] (fun i wr => ∃ k : Nat, k ≤ 33 ∧ i = .int .i64 (k : Int) ∧ wr.rowIs w2.heap.size 4 33 (opC [124] F G k) ∧ Below w2.heap.size w2 wr) (fun i _ => 33 - (RowKit.intOf i).toNat)
  case atStart => exact ⟨0, Nat.zero_le _, rfl, World.rowIs.congr R0.out fun j hj => by unfold opC; simp, by go_grown⟩
  case round =>
    obtain ⟨k, hk, rfl, R, hbw⟩ := hrel
    clear R0 hmk
    by_cases hlt : k < 33
    · have hcr : wr.cell? ⟨w2.heap.size, k, none⟩ = some (.bool false) := by rw [World.rowIs.cell R hlt]; unfold opC; simp
      have hf := World.rowIs.frozen R
      have hk1 := (hbw.cell (p := ⟨b1, o1 + k, none⟩) hl1).trans (hc1.out k hlt)
      have hk2 := (hbw.cell (p := ⟨b2, o2 + k, none⟩) hl2).trans (hc2.out k hlt)
      have zr := hbw.size
      have hlr := World.rowIs.lt R
      have hfi : ∀ x : Bool, opB [124] (F k) (G k) = x → ∀ j, j < 33 → (if j = k then Value.bool x else opC [124] F G k j) = opC [124] F G (k + 1) j := fun x hx j hj => by
        by_cases hj1 : j = k
        · subst hj1; rw [if_pos rfl]; unfold opC; simp [hx]
        · rw [if_neg hj1]; unfold opC
          congr 2
          rw [Bool.eq_iff_iff]; simp; omega
      cases hF : F k <;> cases hG : G k
      all_goals rw [hF, hG] at hfi
      all_goals rw [hF] at hk1
      all_goals rw [hG] at hk2
      all_goals (replace hfi := Lib.hid hfi; replace hF := Lib.hid hF; replace hG := Lib.hid hG)
      all_goals go_wp2_with fail
      all_goals (try go_region)
      all_goals (try go_wp2_with fail)
      all_goals go_roundw
      all_goals first
        | (case rel => exact ⟨k + 1, by omega, by go_num, World.rowIs.congr (World.rowIs.set R k _) (hfi.out _ rfl), by go_grown⟩)
        | (case measure => (simp [RowKit.intOf]; omega))
        | skip
    · obtain rfl : k = 33 := by omega
      have R2 := RB_row (h := fun j => opB [124] (F j) (G j)) (World.rowIs.congr R fun j hj => by unfold opC; simp [hj])
      have hbz := below_call hbw hbw2.out
      replace R2 := Lib.hid R2
      replace hbz := Lib.hid hbz
      clear R hbw
      go_wp2_with fail
      (with_reducible refine (hN.out _ _ _ R2.out).mono ?_)
      rintro e w' ⟨rfl, hw⟩
      subst hw
      go_wp2_with fail
      go_ret
      exact ⟨rfl, hbz.out⟩
set_option maxRecDepth 100000 in
set_option maxHeartbeats 3200000 in
theorem rbw_2 (s : ByteArray) (a b : Int) (ha : InR a) (hb : InR b) (w : World) (h : s.toList = [94]) : Calls Tryz.prog 28 #[.string s, .int .i64 a, .int .i64 b] w (RV w (.int .i64 (opV [94] a b))) := by
  have hfin : nmF (fun j => opB [94] (bF a j) (bF b j)) = opV [94] a b := bw_xor a b ha hb
  have hx := fun W => rbits_t a ha W
  have hy := fun W => rbits_t b hb W
  have hN := fun (W : World) (A : Option Addr) (c : Nat) (q : RB W A 33 (fun j => opB [94] (bF a j) (bF b j))) => rnumber_t A c _ W q
  rw [hfin] at hN
  have hmk := run_make_row' (P := Tryz.prog) 69 4 (.bool false) 1 Tryz.underlying69 info_bool rfl .i64 .i64 33 (by omega) (by omega)
  simp at hmk
  obtain ⟨F, hF⟩ : ∃ F, bF a = F := ⟨_, rfl⟩
  obtain ⟨G, hG⟩ : ∃ G, bF b = G := ⟨_, rfl⟩
  obtain ⟨r, hr⟩ : ∃ r, opV [94] a b = r := ⟨_, rfl⟩
  rw [hF] at hx hN
  rw [hG] at hy hN
  rw [hr] at hN ⊢
  unfold GS at hx hy
  replace hx := Lib.hid hx
  replace hy := Lib.hid hy
  replace hN := Lib.hid hN
  clear hfin hF hG hr ha hb
  go_enter Tryz.func28, Tryz.ntmps28
  go_wp2_with fail
  (with_reducible refine (hx.out _).mono ?_)
  rintro e w1 ⟨A1, c1, rfl, hA1, hb1⟩
  replace hA1 := Lib.hid hA1
  replace hb1 := Lib.hid hb1
  go_wp2_with fail
  (with_reducible refine (hy.out _).mono ?_)
  rintro e w2 ⟨A2, c2, rfl, hA2, hb2⟩
  have hA1' := hA1.out.keep hb2
  have hbw2 := below_call hb2 hb1.out
  have R0 := Lib.hid (World.rowIs_made w2 (.bool false) 33 4)
  obtain ⟨b1, o1, rfl, hl1, hc1⟩ := hA1' (by decide)
  obtain ⟨b2, o2, rfl, hl2, hc2⟩ := hA2 (by decide)
  replace hc1 := Lib.hid hc1
  replace hc2 := Lib.hid hc2
  replace hbw2 := Lib.hid hbw2
  have z2 : w.heap.size ≤ w2.heap.size := hbw2.out.size
  clear hA1' hA2 hb2 hx hy hA1 hb1
  go_wp2_with fail
  go_loopw [10] (fun i wr => ∃ k : Nat, k ≤ 33 ∧ i = .int .i64 (k : Int) ∧ wr.rowIs w2.heap.size 4 33 (opC [94] F G k) ∧ Below w2.heap.size w2 wr) (fun i _ => 33 - (RowKit.intOf i).toNat)
  case atStart => exact ⟨0, Nat.zero_le _, rfl, World.rowIs.congr R0.out fun j hj => by unfold opC; simp, by go_grown⟩
  case round =>
    obtain ⟨k, hk, rfl, R, hbw⟩ := hrel
    clear R0 hmk
    by_cases hlt : k < 33
    · have hcr : wr.cell? ⟨w2.heap.size, k, none⟩ = some (.bool false) := by rw [World.rowIs.cell R hlt]; unfold opC; simp
      have hf := World.rowIs.frozen R
      have hk1 := (hbw.cell (p := ⟨b1, o1 + k, none⟩) hl1).trans (hc1.out k hlt)
      have hk2 := (hbw.cell (p := ⟨b2, o2 + k, none⟩) hl2).trans (hc2.out k hlt)
      have zr := hbw.size
      have hlr := World.rowIs.lt R
      have hfi : ∀ x : Bool, opB [94] (F k) (G k) = x → ∀ j, j < 33 → (if j = k then Value.bool x else opC [94] F G k j) = opC [94] F G (k + 1) j := fun x hx j hj => by
        by_cases hj1 : j = k
        · subst hj1; rw [if_pos rfl]; unfold opC; simp [hx]
        · rw [if_neg hj1]; unfold opC
          congr 2
          rw [Bool.eq_iff_iff]; simp; omega
      cases hF : F k <;> cases hG : G k
      all_goals rw [hF, hG] at hfi
      all_goals rw [hF] at hk1
      all_goals rw [hG] at hk2
      all_goals (replace hfi := Lib.hid hfi; replace hF := Lib.hid hF; replace hG := Lib.hid hG)
      all_goals go_wp2_with fail
      all_goals (try go_region)
      all_goals (try go_wp2_with fail)
      all_goals go_roundw
      all_goals first
        | (case rel => exact ⟨k + 1, by omega, by go_num, World.rowIs.congr (World.rowIs.set R k _) (hfi.out _ rfl), by go_grown⟩)
        | (case measure => (simp [RowKit.intOf]; omega))
        | skip
    · obtain rfl : k = 33 := by omega
      have R2 := RB_row (h := fun j => opB [94] (F j) (G j)) (World.rowIs.congr R fun j hj => by unfold opC; simp [hj])
      have hbz := below_call hbw hbw2.out
      replace R2 := Lib.hid R2
      replace hbz := Lib.hid hbz
      clear R hbw
      go_wp2_with fail
      (with_reducible refine (hN.out _ _ _ R2.out).mono ?_)
      rintro e w' ⟨rfl, hw⟩
      subst hw
      go_wp2_with fail
      go_ret
      exact ⟨rfl, hbz.out⟩
set_option maxRecDepth 100000 in
set_option maxHeartbeats 3200000 in
theorem rbw_3 (s : ByteArray) (a b : Int) (ha : InR a) (hb : InR b) (w : World) (h : s.toList = [126, 94]) : Calls Tryz.prog 28 #[.string s, .int .i64 a, .int .i64 b] w (RV w (.int .i64 (opV [126, 94] a b))) := by
  have hfin : nmF (fun j => opB [126, 94] (bF a j) (bF b j)) = opV [126, 94] a b := bw_xnor a b ha hb
  have hx := fun W => rbits_t a ha W
  have hy := fun W => rbits_t b hb W
  have hN := fun (W : World) (A : Option Addr) (c : Nat) (q : RB W A 33 (fun j => opB [126, 94] (bF a j) (bF b j))) => rnumber_t A c _ W q
  rw [hfin] at hN
  have hmk := run_make_row' (P := Tryz.prog) 69 4 (.bool false) 1 Tryz.underlying69 info_bool rfl .i64 .i64 33 (by omega) (by omega)
  simp at hmk
  obtain ⟨F, hF⟩ : ∃ F, bF a = F := ⟨_, rfl⟩
  obtain ⟨G, hG⟩ : ∃ G, bF b = G := ⟨_, rfl⟩
  obtain ⟨r, hr⟩ : ∃ r, opV [126, 94] a b = r := ⟨_, rfl⟩
  rw [hF] at hx hN
  rw [hG] at hy hN
  rw [hr] at hN ⊢
  unfold GS at hx hy
  replace hx := Lib.hid hx
  replace hy := Lib.hid hy
  replace hN := Lib.hid hN
  clear hfin hF hG hr ha hb
  go_enter Tryz.func28, Tryz.ntmps28
  go_wp2_with fail
  (with_reducible refine (hx.out _).mono ?_)
  rintro e w1 ⟨A1, c1, rfl, hA1, hb1⟩
  replace hA1 := Lib.hid hA1
  replace hb1 := Lib.hid hb1
  go_wp2_with fail
  (with_reducible refine (hy.out _).mono ?_)
  rintro e w2 ⟨A2, c2, rfl, hA2, hb2⟩
  have hA1' := hA1.out.keep hb2
  have hbw2 := below_call hb2 hb1.out
  have R0 := Lib.hid (World.rowIs_made w2 (.bool false) 33 4)
  obtain ⟨b1, o1, rfl, hl1, hc1⟩ := hA1' (by decide)
  obtain ⟨b2, o2, rfl, hl2, hc2⟩ := hA2 (by decide)
  replace hc1 := Lib.hid hc1
  replace hc2 := Lib.hid hc2
  replace hbw2 := Lib.hid hbw2
  have z2 : w.heap.size ≤ w2.heap.size := hbw2.out.size
  clear hA1' hA2 hb2 hx hy hA1 hb1
  go_wp2_with fail
  go_loopw [10] (fun i wr => ∃ k : Nat, k ≤ 33 ∧ i = .int .i64 (k : Int) ∧ wr.rowIs w2.heap.size 4 33 (opC [126, 94] F G k) ∧ Below w2.heap.size w2 wr) (fun i _ => 33 - (RowKit.intOf i).toNat)
  case atStart => exact ⟨0, Nat.zero_le _, rfl, World.rowIs.congr R0.out fun j hj => by unfold opC; simp, by go_grown⟩
  case round =>
    obtain ⟨k, hk, rfl, R, hbw⟩ := hrel
    clear R0 hmk
    by_cases hlt : k < 33
    · have hcr : wr.cell? ⟨w2.heap.size, k, none⟩ = some (.bool false) := by rw [World.rowIs.cell R hlt]; unfold opC; simp
      have hf := World.rowIs.frozen R
      have hk1 := (hbw.cell (p := ⟨b1, o1 + k, none⟩) hl1).trans (hc1.out k hlt)
      have hk2 := (hbw.cell (p := ⟨b2, o2 + k, none⟩) hl2).trans (hc2.out k hlt)
      have zr := hbw.size
      have hlr := World.rowIs.lt R
      have hfi : ∀ x : Bool, opB [126, 94] (F k) (G k) = x → ∀ j, j < 33 → (if j = k then Value.bool x else opC [126, 94] F G k j) = opC [126, 94] F G (k + 1) j := fun x hx j hj => by
        by_cases hj1 : j = k
        · subst hj1; rw [if_pos rfl]; unfold opC; simp [hx]
        · rw [if_neg hj1]; unfold opC
          congr 2
          rw [Bool.eq_iff_iff]; simp; omega
      cases hF : F k <;> cases hG : G k
      all_goals rw [hF, hG] at hfi
      all_goals rw [hF] at hk1
      all_goals rw [hG] at hk2
      all_goals (replace hfi := Lib.hid hfi; replace hF := Lib.hid hF; replace hG := Lib.hid hG)
      all_goals go_wp2_with fail
      all_goals (try go_region)
      all_goals (try go_wp2_with fail)
      all_goals go_roundw
      all_goals first
        | (case rel => exact ⟨k + 1, by omega, by go_num, World.rowIs.congr (World.rowIs.set R k _) (hfi.out _ rfl), by go_grown⟩)
        | (case measure => (simp [RowKit.intOf]; omega))
        | skip
    · obtain rfl : k = 33 := by omega
      have R2 := RB_row (h := fun j => opB [126, 94] (F j) (G j)) (World.rowIs.congr R fun j hj => by unfold opC; simp [hj])
      have hbz := below_call hbw hbw2.out
      replace R2 := Lib.hid R2
      replace hbz := Lib.hid hbz
      clear R hbw
      go_wp2_with fail
      (with_reducible refine (hN.out _ _ _ R2.out).mono ?_)
      rintro e w' ⟨rfl, hw⟩
      subst hw
      go_wp2_with fail
      go_ret
      exact ⟨rfl, hbz.out⟩
end Go.Proofs.YtcifljbcoioogaaGreatDoor
