/-
  The walk of the reference's Text.
-/
import Derived.Test.YtalmhopbnaeamaaGreatDoorGs
namespace Go.Proofs.YtalmhopbnaeamaaGreatDoor
open Go.RowKit Go.Lib
theorem hxf_cons : ∀ k x, hxf (k + 1) x = hxd (x / 16 ^ k % 16) :: hxf k x
  | 0, x => by simp [hxf]
  | k + 1, x => by
    have ih := hxf_cons k (x / 16)
    rw [hxf, ih, Nat.div_div_eq_div_mul, show 16 * 16 ^ k = 16 ^ (k + 1) by rw [Nat.pow_succ, Nat.mul_comm]]
    rfl
/-- What j of a digit's four bits make. -/
def nb (x i j : Nat) : Nat := x / 2 ^ (i + 4 - j) % 2 ^ j
theorem nb_lt (x i j : Nat) (h : j ≤ 4) : nb x i j < 16 := Nat.lt_of_lt_of_le (Nat.mod_lt _ (Nat.two_pow_pos j)) (Nat.le_trans (Nat.pow_le_pow_right (by decide) h) (by decide))
theorem nb_step (x i j : Nat) (h : j ≤ 3) : nb x i (j + 1) = 2 * nb x i j + (x.testBit (i + (3 - j))).toNat := by
  unfold nb
  have e1 : i + 4 - (j + 1) = i + (3 - j) := by omega
  have e2 : i + 4 - j = i + (3 - j) + 1 := by omega
  rw [e1, e2, Nat.testBit_eq_decide_div_mod_eq, Nat.pow_succ 2 j, Nat.mul_comm (2 ^ j) 2, Nat.mod_mul, Nat.pow_succ 2 (i + (3 - j)), ← Nat.div_div_eq_div_mul]
  generalize x / 2 ^ (i + (3 - j)) = y
  have : y % 2 = 0 ∨ y % 2 = 1 := by omega
  rcases this with h0 | h0
  · rw [h0]; simp
  · rw [h0]; simp; omega
theorem nb_four (x m : Nat) : nb x (4 * m) 4 = x / 16 ^ m % 16 := by
  unfold nb
  rw [show 4 * m + 4 - 4 = 4 * m by omega, Nat.pow_mul, show (2 : Nat) ^ 4 = 16 by decide]
def hx16 : ByteArray := ⟨#[48, 49, 50, 51, 52, 53, 54, 55, 56, 57, 97, 98, 99, 100, 101, 102]⟩
theorem idx16 (d c : Nat) (hd : d < 16) (hc : (hxd d).toNat = c) (w : World) :
    (Instr.index 9 (.string ⟨#[48, 49, 50, 51, 52, 53, 54, 55, 56, 57, 97, 98, 99, 100, 101, 102]⟩) (.int .i64 (d : Int))).run Tryz.prog w = .ok (.int .u8 (c : Int)) w := by
  subst hc
  change (Instr.index 9 (.string hx16) (.int .i64 (d : Int))).run Tryz.prog w = _
  have hs : hx16.size = 16 := by decide
  rw [run_index_string w 9 hx16 .i64 _ Tryz.underlying9, dif_pos ⟨by omega, by omega⟩]
  have : ∀ d : Fin 16, hx16.data.toList[d.val]? = some (hxd d.val) := by decide
  obtain ⟨h1, h2⟩ := List.getElem?_eq_some_iff.1 (this ⟨d, hd⟩)
  rw [← h2]
  rfl
theorem ext_one (c : UInt8) (X : List UInt8) : (⟨(c :: X).toArray⟩ : ByteArray).extract 1 (⟨(c :: X).toArray⟩ : ByteArray).size = ⟨X.toArray⟩ := ext_r [c] X _ rfl
def strLen (v : Value) : Nat := match v with
  | .string s => s.size
  | _ => 0
set_option maxRecDepth 100000 in
set_option maxHeartbeats 6400000 in
theorem refBit_t (n c i : Nat) (A : Option Addr) (f : Nat → Bool) (w : World) (hi : i < 1000) (hA : RB w A n f) :
    Calls Tryz.prog 40 #[.slice A n c, .int .i64 (i : Int)] w fun e w' => e = .returned (.bool ((valB f n).testBit i)) ∧ w' = w := by
  rw [valB_testBit]
  by_cases h : i < n
  · obtain ⟨b, off, rfl, hb, hcs⟩ := hA (by omega)
    have hc := hcs i h
    have e : (decide (i < n) && f i) = f i := by simp [h]
    have k1 : (i : Int) < (n : Int) := by omega
    have k2 : decide ((i : Int) < (n : Int)) = true := by simp; omega
    rw [e]
    clear hcs e
    generalize f i = bt0 at *
    go_enter Tryz.func40, Tryz.ntmps40
    go_wp2
    go_ret
    exact ⟨rfl, rfl⟩
  · have e : (decide (i < n) && f i) = false := by simp [h]
    have k2 : decide ((i : Int) < (n : Int)) = false := by simp; omega
    rw [e]
    clear e
    go_enter Tryz.func40, Tryz.ntmps40
    go_wp2
    go_ret
    exact ⟨rfl, rfl⟩
set_option maxRecDepth 100000 in
set_option maxHeartbeats 6400000 in
theorem refText_w0 (n c : Nat) (A : Option Addr) (sg sz : Bool) (w : World) (h0 : n = 0) : Calls Tryz.prog 14 #[.agg #[.slice A n c, .bool sg, .bool sz]] w (RV w (.string ⟨#[]⟩)) := by
  have nz : ((n : Int) == 0) = true := by simp; omega
  clear h0
  go_enter Tryz.func14, Tryz.ntmps14
  go_wp2_with fail
  go_ret
  exact ⟨rfl, by go_grown⟩
set_option maxRecDepth 100000 in
set_option maxHeartbeats 6400000 in
theorem refText_no (n c : Nat) (A : Option Addr) (sg : Bool) (w : World) (h0 : n ≠ 0) (h32 : n ≠ 32) : Calls Tryz.prog 14 #[.agg #[.slice A n c, .bool sg, .bool false]] w (RV w (.string ⟨#[]⟩)) := by
  have nz : ((n : Int) == 0) = false := by simp; omega
  have n2 : ((n : Int) != 32) = true := by simp; omega
  have n3 : ((n : Int) == 32) = false := by simp; omega
  clear h0 h32
  go_enter Tryz.func14, Tryz.ntmps14
  go_wp2_with fail
  go_ret
  exact ⟨rfl, by go_grown⟩
set_option maxRecDepth 100000 in
set_option maxHeartbeats 6400000 in
theorem refText_dec (n c x b off : Nat) (w : World) (h32 : n = 32) (hl : b < w.heap.size) (hc : w.cell? ⟨b, off + 31, none⟩ = some (.bool false))
    (hM : ∀ w1, Below w.heap.size w w1 → Calls Tryz.prog 39 #[.slice (some ⟨b, off, none⟩) n c, .int .i64 2147483648] w1 fun e w' => e = .returned (.int .i64 (x : Int)) ∧ w' = w1) (hx : x < 2147483648) :
    Calls Tryz.prog 14 #[.agg #[.slice (some ⟨b, off, none⟩) n c, .bool true, .bool false]] w (RV w (.string ⟨(decDigits x).toArray⟩)) := by
  have nz : ((n : Int) == 0) = false := by simp; omega
  have n2 : ((n : Int) != 32) = false := by simp; omega
  have n3 : ((n : Int) == 32) = true := by simp; omega
  have q1 : (31 : Int) < (n : Int) := by omega
  have q2 : 31 < n := by omega
  have hD := Lib.hid (fun w => Dec_t x (by omega) w)
  replace hM := Lib.hid hM
  clear h32 hx
  go_enter Tryz.func14, Tryz.ntmps14
  go_wp2_with fail
  (with_reducible refine (hM.out _ (by go_grown)).mono ?_)
  rintro e w1 ⟨rfl, rfl⟩
  go_wp2_with fail
  (with_reducible refine (hD.out _).mono ?_)
  rintro e w2 ⟨rfl, hb2⟩
  have hbw2 : Below w.heap.size w w2 := below_call hb2 (by go_grown)
  clear hb2
  go_wp2_with fail
  go_ret
  exact ⟨rfl, hbw2⟩
set_option maxRecDepth 100000 in
set_option maxHeartbeats 6400000 in
theorem refText_z0 (n c x : Nat) (A : Option Addr) (w : World) (h1 : 1 ≤ n) (hn : n ≤ 128) (hx : x < 2 ^ n)
    (hB : ∀ (w1 : World) (i : Nat), i < 1000 → Below w.heap.size w w1 → Calls Tryz.prog 40 #[.slice A n c, .int .i64 (i : Int)] w1 fun e w' => e = .returned (.bool (x.testBit i)) ∧ w' = w1) :
    Calls Tryz.prog 14 #[.agg #[.slice A n c, .bool false, .bool true]] w (RV w (.string ⟨(decDigits n ++ 39 :: ([] ++ 104 :: hxs x)).toArray⟩)) := by
  have nz : ((n : Int) == 0) = false := by simp; omega
  obtain ⟨X0, hX0⟩ : ∃ X0 : ByteArray, (⟨(hxs x).toArray⟩ : ByteArray) = X0 := ⟨_, rfl⟩
  have hpad := hxs_pad
  have hXl : (hxs x).length ≤ 32 := (hxs_pad 32 x (by decide) (Nat.lt_of_lt_of_le hx (Nat.le_trans (Nat.pow_le_pow_right (by decide) hn) (by decide)))).1
  have hXs : X0.size ≤ 32 := by rw [← hX0]; exact hXl
  obtain ⟨I, hI0⟩ : ∃ I : ByteArray, (⟨(decDigits n).toArray⟩ : ByteArray) = I := ⟨_, rfl⟩
  have hIs : I.size ≤ 3 := by rw [← hI0]; exact dec_len 2 n (by omega)
  have hD := fun w => Dec_t n (by omega) w
  rw [hI0] at hD
  replace hD := Lib.hid hD
  have p1 : I.size + 1 ≤ 9223372036854775807 := by omega
  have p2 : I.size + 1 + 1 ≤ 9223372036854775807 := by omega
  have p3 : I.size + 1 + 1 + 1 ≤ 9223372036854775807 := by omega
  have p4 : I.size + 1 + 1 + X0.size ≤ 9223372036854775807 := by omega
  have p5 : I.size + 1 + 1 + 1 + X0.size ≤ 9223372036854775807 := by omega
  have hfin : ((((I ++ ⟨#[39]⟩) ++ ⟨#[104]⟩) ++ X0) : ByteArray) = ⟨(decDigits n ++ 39 :: ([] ++ 104 :: hxs x)).toArray⟩ := by
    rw [← hX0, ← hI0]
    apply ByteArray.ext
    simp
  rw [← hfin]
  clear hfin hI0 hIs hXs
  replace hB := Lib.hid hB
  replace hX0 := Lib.hid hX0
  replace hx := Lib.hid hx
  replace hpad := Lib.hid hpad
  go_enter Tryz.func14, Tryz.ntmps14
  go_wp2_with fail
  (with_reducible refine (hD.out _).mono ?_)
  rintro e w1 ⟨rfl, hb1⟩
  have R0 := Lib.hid ((H3.new w 34 (.slice A n c) (.bool false) (.bool true)).over hb1)
  have r0 := (R0.out).all
  have r0l := (R0.out).lt
  have hbw0 : Below w.heap.size w w1 := below_call hb1 (by go_grown)
  clear hb1 hD
  go_wp2_with fail
  go_loopw [5, 6] (fun vd vi wr => ∃ m : Nat, vd = .string ⟨(hxf m x).toArray⟩ ∧ vi = .int .i64 ((4 * m : Nat) : Int) ∧ 4 * m < n + 4 ∧ H3 34 wr w.heap.size (.slice A n c) (.bool false) (.bool true) ∧ Below w.heap.size w wr) (fun _ vi _ => 200 - (RowKit.intOf vi).toNat)
  case atStart => exact ⟨0, rfl, rfl, by omega, R0.out, hbw0⟩
  case round =>
    obtain ⟨m, rfl, rfl, hm, R, hbw⟩ := hrel
    clear R0 hbw0 r0 r0l
    have ra := R.all
    have ral := R.lt
    obtain ⟨i, hi⟩ : ∃ i, 4 * m = i := ⟨_, rfl⟩
    by_cases hlt : 4 * m < n
    · have hlt2 : decide ((i : Int) < (n : Int)) = true := by simp; omega
      have hlt3 : decide (i < n) = true := by simp; omega
      have hi1000 : i < 132 := by omega
      have hDl : (hxf m x).length ≤ 32 := by rw [hxf_len]; omega
      obtain ⟨D, hD1⟩ : ∃ D : ByteArray, (⟨(hxf m x).toArray⟩ : ByteArray) = D := ⟨_, rfl⟩
      have hDs : D.size ≤ 32 := by rw [← hD1]; exact hDl
      have q9 : 1 + D.size ≤ 9223372036854775807 := by omega
      rw [hD1, hi]
      replace hD1 := Lib.hid hD1
      replace hi := Lib.hid hi
      clear hDl hDs hlt hm
      go_wp2_with fail
      go_loopw [7, 8] (fun vn vk wr => ∃ j : Nat, j ≤ 4 ∧ vn = .int .i64 ((nb x i j : Nat) : Int) ∧ ((j = 4 ∧ vk = .int .i64 (-1)) ∨ ∃ k : Nat, k + j = 3 ∧ vk = .int .i64 (k : Int)) ∧ H3 34 wr w.heap.size (.slice A n c) (.bool false) (.bool true) ∧ Below w.heap.size w wr) (fun _ vk _ => (RowKit.intOf vk + 1).toNat)
      case atStart => exact ⟨0, by omega, by unfold nb; simp [Nat.mod_one], .inr ⟨3, rfl, rfl⟩, R, hbw⟩
      case round =>
        obtain ⟨j, hj, rfl, hk, R2, hbw2⟩ := hrel
        clear R ra ral hbw
        have ra := R2.all
        have ral := R2.lt
        rcases hk with ⟨rfl, rfl⟩ | ⟨k, hkj, rfl⟩
        · have hn16 := nb_lt x i 4 (by omega)
          have hfour : nb x i 4 = x / 16 ^ m % 16 := by rw [← hi.out]; exact nb_four x m
          generalize nb x i 4 = d at *
          obtain ⟨cc, hcc⟩ : ∃ cc : UInt8, hxd d = cc := ⟨_, rfl⟩
          have hix := idx16 d cc.toNat hn16 (by rw [hcc])
          have hconv := conv_one cc
          have happ := Lib.hid (show (⟨#[cc]⟩ : ByteArray) ++ D = ⟨(hxf (m + 1) x).toArray⟩ by
            rw [← hD1.out, hxf_cons, ← hfour, hcc]; exact ba_app [cc] (hxf m x))
          have ei : IntKind.i64.wrap ((i : Int) + 4) = ((4 * (m + 1) : Nat) : Int) := by have := hi.out; rw [IntWalk.i64_in _ (by omega)]; omega
          have hm2 := Lib.hid (show 4 * (m + 1) < n + 4 by have := hi.out; have := of_decide_eq_true hlt2; omega)
          obtain ⟨i2, hi2⟩ : ∃ i2 : Nat, 4 * (m + 1) = i2 := ⟨_, rfl⟩
          rw [hi2] at ei
          replace hi2 := Lib.hid hi2
          have hil := Lib.hid (show i < i2 ∧ i2 < 140 by have := hi.out; have := hi2.out; omega)
          have RA2 := Lib.hid (R2.alloc (.cells #[.int .u8 ((cc.toNat : Nat) : Int)] 5))
          have hbA := Lib.hid (hbw2.alloc hbw2.size (.cells #[.int .u8 ((cc.toNat : Nat) : Int)] 5))
          clear hcc hfour hn16 R2
          go_wp2_with fail
          go_roundw
          case rel => exact ⟨m + 1, by rw [happ.out], by rw [hi2.out], hm2.out, RA2.out, hbA.out⟩
          case measure => simp [RowKit.intOf]; have := hil.out; omega
        · have hst := nb_step x i j (by omega)
          have hn16 := nb_lt x i j (by omega)
          have hn16' := nb_lt x i (j + 1) (by omega)
          rw [show 3 - j = k by omega] at hst
          obtain ⟨p, hp⟩ : ∃ p, i + k = p := ⟨_, rfl⟩
          have ek : IntKind.i64.wrap ((i : Int) + (k : Int)) = (p : Int) := by rw [IntWalk.i64_in _ (by omega)]; omega
          have hb := hB.out
          have hbp := fun w1 h => hb w1 p (by omega) h
          rw [hp] at hst
          clear hb hp
          obtain ⟨N, hN⟩ : ∃ N, nb x i j = N := ⟨_, rfl⟩
          rw [hN] at hst hn16 ⊢
          have e2 : IntKind.i64.wrap (2 * (N : Int)) = ((2 * N : Nat) : Int) := by rw [IntWalk.i64_in _ (by omega)]; omega
          obtain ⟨N2, hN2⟩ : ∃ N2, 2 * N = N2 := ⟨_, rfl⟩
          rw [hN2] at hst e2
          have e3 : IntKind.i64.wrap ((N2 : Int) + 1) = ((N2 + 1 : Nat) : Int) := by rw [IntWalk.i64_in _ (by omega)]; omega
          obtain ⟨N3, hN3⟩ : ∃ N3, N2 + 1 = N3 := ⟨_, rfl⟩
          rw [hN3] at e3
          have e4 : IntKind.i64.wrap ((k : Int) - 1) = (k : Int) - 1 := IntWalk.i64_in _ (by omega)
          have hnx := Lib.hid (show ((j + 1 = 4 ∧ Value.int .i64 ((k : Int) - 1) = Value.int .i64 (-1)) ∨ ∃ k' : Nat, k' + (j + 1) = 3 ∧ Value.int .i64 ((k : Int) - 1) = Value.int .i64 (k' : Int)) from by
            rcases Nat.eq_zero_or_pos k with h | h
            · exact .inl ⟨by omega, by rw [h]; rfl⟩
            · exact .inr ⟨k - 1, by omega, by congr 1; omega⟩)
          have hj1 := Lib.hid (show j + 1 ≤ 4 by omega)
          cases hbit : x.testBit p
          · rw [hbit] at hst hbp
            have hst' := Lib.hid (show nb x i (j + 1) = N2 by simpa using hst)
            replace hbp := Lib.hid hbp
            clear hst hn16 hn16' hN hkj hN2 hN3 hbit
            go_wp2_with fail
            (with_reducible refine (hbp.out _ hbw2).mono ?_)
            rintro e w2 ⟨rfl, rfl⟩
            go_wp2_with fail
            go_roundw
            case rel => exact ⟨j + 1, hj1.out, by rw [hst'.out], hnx.out, R2, hbw2⟩
            case measure => simp [RowKit.intOf] <;> omega
          · rw [hbit] at hst hbp
            have hst' := Lib.hid (show nb x i (j + 1) = N3 by rw [← hN3]; simpa using hst)
            replace hbp := Lib.hid hbp
            clear hst hn16 hn16' hN hkj hN2 hN3 hbit
            go_wp2_with fail
            (with_reducible refine (hbp.out _ hbw2).mono ?_)
            rintro e w2 ⟨rfl, rfl⟩
            go_wp2_with fail
            go_roundw
            case rel => exact ⟨j + 1, hj1.out, by rw [hst'.out], hnx.out, R2, hbw2⟩
            case measure => simp [RowKit.intOf] <;> omega
    · have hlt2 : decide ((i : Int) < (n : Int)) = false := by simp; omega
      have hlt3 : decide (i < n) = false := by simp; omega
      have hpd := hpad.out m x (by omega) (Nat.lt_of_lt_of_le hx.out (by rw [show (16 : Nat) = 2 ^ 4 by decide, ← Nat.pow_mul]; exact Nat.pow_le_pow_right (by decide) (by omega)))
      have hml : m ≤ 40 := by omega
      rw [hpd.2]
      have hjm : m - (hxs x).length ≤ 40 := by omega
      rw [hi]
      clear hi hlt hm hpd ra ral
      generalize m - (hxs x).length = j0 at *
      go_wp2_with fail
      go_loopw [5] (fun vd wr => ∃ j : Nat, j ≤ 40 ∧ vd = .string ⟨(List.replicate j 48 ++ hxs x).toArray⟩ ∧ Below w.heap.size w wr) (fun vd _ => strLen vd)
      case atStart => exact ⟨j0, hjm, rfl, hbw⟩
      case round =>
        obtain ⟨j, hj, rfl, hbw2⟩ := hrel
        clear hbw hjm R
        rcases Nat.eq_zero_or_pos j with rfl | hjp
        · rw [show List.replicate 0 (48 : UInt8) ++ hxs x = hxs x from rfl, hX0.out]
          by_cases hx16 : x < 16
          · have hsz : X0.size = 1 := by rw [← hX0.out]; show (hxs x).length = 1; rw [hxs_small hx16]; rfl
            have g1 : decide ((1 : Int) < (X0.size : Int)) = false := by simp; omega
            have g2 : decide (1 < X0.size) = false := by simp; omega
            clear hsz hx16
            go_wp2_with fail
            go_ret
            exact ⟨rfl, hbw2⟩
          · obtain ⟨c0, rr, hcr, hc48⟩ := hxs_head x (by omega)
            have hsz : 1 < X0.size := by
              rw [← hX0.out]
              show 1 < (hxs x).length
              rw [hxs_big hx16]
              have := hxs_pos (x / 16)
              simp; omega
            have g1 : decide ((1 : Int) < (X0.size : Int)) = true := by simp; omega
            have g2 : decide (1 < X0.size) = true := by simp; omega
            have g3 : 0 < X0.size := by omega
            have hb0 : X0[0].toNat = c0.toNat := by rw [bt_at X0 0 g3, ← hX0.out, hcr, bt_l]; rfl
            have hne : c0.toNat ≠ 48 := fun e => by
              have : c0 = 48 := UInt8.toNat_inj.1 (by rw [e]; rfl)
              rw [this] at hc48; exact absurd hc48 (by decide)
            have g4 : (((c0.toNat : Nat) : Int) == 48) = false := by simp; omega
            have g5 : (c0.toNat == 48) = false := by simp; omega
            generalize c0.toNat = cn at *
            clear hcr hc48 hx16 hne
            go_wp2_with fail
            go_ret
            exact ⟨rfl, hbw2⟩
        · obtain ⟨j', rfl⟩ : ∃ j', j = j' + 1 := ⟨j - 1, by omega⟩
          rw [show List.replicate (j' + 1) (48 : UInt8) ++ hxs x = 48 :: (List.replicate j' 48 ++ hxs x) from rfl]
          obtain ⟨D, hD1⟩ : ∃ D : ByteArray, (⟨(48 :: (List.replicate j' 48 ++ hxs x)).toArray⟩ : ByteArray) = D := ⟨_, rfl⟩
          obtain ⟨E0, hE1⟩ : ∃ E0 : ByteArray, (⟨(List.replicate j' 48 ++ hxs x).toArray⟩ : ByteArray) = E0 := ⟨_, rfl⟩
          have hDs : D.size = j' + (hxs x).length + 1 := by rw [← hD1]; show (48 :: (List.replicate j' (48 : UInt8) ++ hxs x)).length = _; simp
          have hEs : E0.size = j' + (hxs x).length := by rw [← hE1]; show (List.replicate j' (48 : UInt8) ++ hxs x).length = _; simp
          have hxp := hxs_pos x
          have g1 : decide ((1 : Int) < (D.size : Int)) = true := by simp; omega
          have g2 : decide (1 < D.size) = true := by simp; omega
          have g3 : 0 < D.size := by omega
          have g6 : 1 ≤ D.size := by omega
          have g7 : (1 : Int) ≤ (D.size : Int) := by omega
          have hb0 : D[0].toNat = 48 := by rw [bt_at D 0 g3, ← hD1, bt_l]; rfl
          have hex : D.extract 1 D.size = E0 := by rw [← hE1, ← hD1]; exact ext_one 48 _
          have hmes := Lib.hid (show E0.size < D.size by omega)
          have hj2 := Lib.hid (show j' ≤ 40 by omega)
          replace hE1 := Lib.hid hE1
          rw [hD1]
          clear hD1 hDs hEs hxp hj hjp
          go_wp2_with fail
          go_roundw
          case rel => exact ⟨j', hj2.out, by rw [hE1.out], hbw2⟩
          case measure => show E0.size < D.size; exact hmes.out
set_option maxRecDepth 100000 in
set_option maxHeartbeats 6400000 in
theorem refText_z1 (n c x : Nat) (A : Option Addr) (w : World) (h1 : 1 ≤ n) (hn : n ≤ 128) (hx : x < 2 ^ n)
    (hB : ∀ (w1 : World) (i : Nat), i < 1000 → Below w.heap.size w w1 → Calls Tryz.prog 40 #[.slice A n c, .int .i64 (i : Int)] w1 fun e w' => e = .returned (.bool (x.testBit i)) ∧ w' = w1) :
    Calls Tryz.prog 14 #[.agg #[.slice A n c, .bool true, .bool true]] w (RV w (.string ⟨(decDigits n ++ 39 :: ([115] ++ 104 :: hxs x)).toArray⟩)) := by
  have nz : ((n : Int) == 0) = false := by simp; omega
  obtain ⟨X0, hX0⟩ : ∃ X0 : ByteArray, (⟨(hxs x).toArray⟩ : ByteArray) = X0 := ⟨_, rfl⟩
  have hpad := hxs_pad
  have hXl : (hxs x).length ≤ 32 := (hxs_pad 32 x (by decide) (Nat.lt_of_lt_of_le hx (Nat.le_trans (Nat.pow_le_pow_right (by decide) hn) (by decide)))).1
  have hXs : X0.size ≤ 32 := by rw [← hX0]; exact hXl
  obtain ⟨I, hI0⟩ : ∃ I : ByteArray, (⟨(decDigits n).toArray⟩ : ByteArray) = I := ⟨_, rfl⟩
  have hIs : I.size ≤ 3 := by rw [← hI0]; exact dec_len 2 n (by omega)
  have hD := fun w => Dec_t n (by omega) w
  rw [hI0] at hD
  replace hD := Lib.hid hD
  have p1 : I.size + 1 ≤ 9223372036854775807 := by omega
  have p2 : I.size + 1 + 1 ≤ 9223372036854775807 := by omega
  have p3 : I.size + 1 + 1 + 1 ≤ 9223372036854775807 := by omega
  have p4 : I.size + 1 + 1 + X0.size ≤ 9223372036854775807 := by omega
  have p5 : I.size + 1 + 1 + 1 + X0.size ≤ 9223372036854775807 := by omega
  have hfin : (((((I ++ ⟨#[39]⟩) ++ ⟨#[115]⟩) ++ ⟨#[104]⟩) ++ X0) : ByteArray) = ⟨(decDigits n ++ 39 :: ([115] ++ 104 :: hxs x)).toArray⟩ := by
    rw [← hX0, ← hI0]
    apply ByteArray.ext
    simp
  rw [← hfin]
  clear hfin hI0 hIs hXs
  replace hB := Lib.hid hB
  replace hX0 := Lib.hid hX0
  replace hx := Lib.hid hx
  replace hpad := Lib.hid hpad
  go_enter Tryz.func14, Tryz.ntmps14
  go_wp2_with fail
  (with_reducible refine (hD.out _).mono ?_)
  rintro e w1 ⟨rfl, hb1⟩
  have R0 := Lib.hid ((H3.new w 34 (.slice A n c) (.bool true) (.bool true)).over hb1)
  have r0 := (R0.out).all
  have r0l := (R0.out).lt
  have hbw0 : Below w.heap.size w w1 := below_call hb1 (by go_grown)
  clear hb1 hD
  go_wp2_with fail
  go_loopw [5, 6] (fun vd vi wr => ∃ m : Nat, vd = .string ⟨(hxf m x).toArray⟩ ∧ vi = .int .i64 ((4 * m : Nat) : Int) ∧ 4 * m < n + 4 ∧ H3 34 wr w.heap.size (.slice A n c) (.bool true) (.bool true) ∧ Below w.heap.size w wr) (fun _ vi _ => 200 - (RowKit.intOf vi).toNat)
  case atStart => exact ⟨0, rfl, rfl, by omega, R0.out, hbw0⟩
  case round =>
    obtain ⟨m, rfl, rfl, hm, R, hbw⟩ := hrel
    clear R0 hbw0 r0 r0l
    have ra := R.all
    have ral := R.lt
    obtain ⟨i, hi⟩ : ∃ i, 4 * m = i := ⟨_, rfl⟩
    by_cases hlt : 4 * m < n
    · have hlt2 : decide ((i : Int) < (n : Int)) = true := by simp; omega
      have hlt3 : decide (i < n) = true := by simp; omega
      have hi1000 : i < 132 := by omega
      have hDl : (hxf m x).length ≤ 32 := by rw [hxf_len]; omega
      obtain ⟨D, hD1⟩ : ∃ D : ByteArray, (⟨(hxf m x).toArray⟩ : ByteArray) = D := ⟨_, rfl⟩
      have hDs : D.size ≤ 32 := by rw [← hD1]; exact hDl
      have q9 : 1 + D.size ≤ 9223372036854775807 := by omega
      rw [hD1, hi]
      replace hD1 := Lib.hid hD1
      replace hi := Lib.hid hi
      clear hDl hDs hlt hm
      go_wp2_with fail
      go_loopw [7, 8] (fun vn vk wr => ∃ j : Nat, j ≤ 4 ∧ vn = .int .i64 ((nb x i j : Nat) : Int) ∧ ((j = 4 ∧ vk = .int .i64 (-1)) ∨ ∃ k : Nat, k + j = 3 ∧ vk = .int .i64 (k : Int)) ∧ H3 34 wr w.heap.size (.slice A n c) (.bool true) (.bool true) ∧ Below w.heap.size w wr) (fun _ vk _ => (RowKit.intOf vk + 1).toNat)
      case atStart => exact ⟨0, by omega, by unfold nb; simp [Nat.mod_one], .inr ⟨3, rfl, rfl⟩, R, hbw⟩
      case round =>
        obtain ⟨j, hj, rfl, hk, R2, hbw2⟩ := hrel
        clear R ra ral hbw
        have ra := R2.all
        have ral := R2.lt
        rcases hk with ⟨rfl, rfl⟩ | ⟨k, hkj, rfl⟩
        · have hn16 := nb_lt x i 4 (by omega)
          have hfour : nb x i 4 = x / 16 ^ m % 16 := by rw [← hi.out]; exact nb_four x m
          generalize nb x i 4 = d at *
          obtain ⟨cc, hcc⟩ : ∃ cc : UInt8, hxd d = cc := ⟨_, rfl⟩
          have hix := idx16 d cc.toNat hn16 (by rw [hcc])
          have hconv := conv_one cc
          have happ := Lib.hid (show (⟨#[cc]⟩ : ByteArray) ++ D = ⟨(hxf (m + 1) x).toArray⟩ by
            rw [← hD1.out, hxf_cons, ← hfour, hcc]; exact ba_app [cc] (hxf m x))
          have ei : IntKind.i64.wrap ((i : Int) + 4) = ((4 * (m + 1) : Nat) : Int) := by have := hi.out; rw [IntWalk.i64_in _ (by omega)]; omega
          have hm2 := Lib.hid (show 4 * (m + 1) < n + 4 by have := hi.out; have := of_decide_eq_true hlt2; omega)
          obtain ⟨i2, hi2⟩ : ∃ i2 : Nat, 4 * (m + 1) = i2 := ⟨_, rfl⟩
          rw [hi2] at ei
          replace hi2 := Lib.hid hi2
          have hil := Lib.hid (show i < i2 ∧ i2 < 140 by have := hi.out; have := hi2.out; omega)
          have RA2 := Lib.hid (R2.alloc (.cells #[.int .u8 ((cc.toNat : Nat) : Int)] 5))
          have hbA := Lib.hid (hbw2.alloc hbw2.size (.cells #[.int .u8 ((cc.toNat : Nat) : Int)] 5))
          clear hcc hfour hn16 R2
          go_wp2_with fail
          go_roundw
          case rel => exact ⟨m + 1, by rw [happ.out], by rw [hi2.out], hm2.out, RA2.out, hbA.out⟩
          case measure => simp [RowKit.intOf]; have := hil.out; omega
        · have hst := nb_step x i j (by omega)
          have hn16 := nb_lt x i j (by omega)
          have hn16' := nb_lt x i (j + 1) (by omega)
          rw [show 3 - j = k by omega] at hst
          obtain ⟨p, hp⟩ : ∃ p, i + k = p := ⟨_, rfl⟩
          have ek : IntKind.i64.wrap ((i : Int) + (k : Int)) = (p : Int) := by rw [IntWalk.i64_in _ (by omega)]; omega
          have hb := hB.out
          have hbp := fun w1 h => hb w1 p (by omega) h
          rw [hp] at hst
          clear hb hp
          obtain ⟨N, hN⟩ : ∃ N, nb x i j = N := ⟨_, rfl⟩
          rw [hN] at hst hn16 ⊢
          have e2 : IntKind.i64.wrap (2 * (N : Int)) = ((2 * N : Nat) : Int) := by rw [IntWalk.i64_in _ (by omega)]; omega
          obtain ⟨N2, hN2⟩ : ∃ N2, 2 * N = N2 := ⟨_, rfl⟩
          rw [hN2] at hst e2
          have e3 : IntKind.i64.wrap ((N2 : Int) + 1) = ((N2 + 1 : Nat) : Int) := by rw [IntWalk.i64_in _ (by omega)]; omega
          obtain ⟨N3, hN3⟩ : ∃ N3, N2 + 1 = N3 := ⟨_, rfl⟩
          rw [hN3] at e3
          have e4 : IntKind.i64.wrap ((k : Int) - 1) = (k : Int) - 1 := IntWalk.i64_in _ (by omega)
          have hnx := Lib.hid (show ((j + 1 = 4 ∧ Value.int .i64 ((k : Int) - 1) = Value.int .i64 (-1)) ∨ ∃ k' : Nat, k' + (j + 1) = 3 ∧ Value.int .i64 ((k : Int) - 1) = Value.int .i64 (k' : Int)) from by
            rcases Nat.eq_zero_or_pos k with h | h
            · exact .inl ⟨by omega, by rw [h]; rfl⟩
            · exact .inr ⟨k - 1, by omega, by congr 1; omega⟩)
          have hj1 := Lib.hid (show j + 1 ≤ 4 by omega)
          cases hbit : x.testBit p
          · rw [hbit] at hst hbp
            have hst' := Lib.hid (show nb x i (j + 1) = N2 by simpa using hst)
            replace hbp := Lib.hid hbp
            clear hst hn16 hn16' hN hkj hN2 hN3 hbit
            go_wp2_with fail
            (with_reducible refine (hbp.out _ hbw2).mono ?_)
            rintro e w2 ⟨rfl, rfl⟩
            go_wp2_with fail
            go_roundw
            case rel => exact ⟨j + 1, hj1.out, by rw [hst'.out], hnx.out, R2, hbw2⟩
            case measure => simp [RowKit.intOf] <;> omega
          · rw [hbit] at hst hbp
            have hst' := Lib.hid (show nb x i (j + 1) = N3 by rw [← hN3]; simpa using hst)
            replace hbp := Lib.hid hbp
            clear hst hn16 hn16' hN hkj hN2 hN3 hbit
            go_wp2_with fail
            (with_reducible refine (hbp.out _ hbw2).mono ?_)
            rintro e w2 ⟨rfl, rfl⟩
            go_wp2_with fail
            go_roundw
            case rel => exact ⟨j + 1, hj1.out, by rw [hst'.out], hnx.out, R2, hbw2⟩
            case measure => simp [RowKit.intOf] <;> omega
    · have hlt2 : decide ((i : Int) < (n : Int)) = false := by simp; omega
      have hlt3 : decide (i < n) = false := by simp; omega
      have hpd := hpad.out m x (by omega) (Nat.lt_of_lt_of_le hx.out (by rw [show (16 : Nat) = 2 ^ 4 by decide, ← Nat.pow_mul]; exact Nat.pow_le_pow_right (by decide) (by omega)))
      have hml : m ≤ 40 := by omega
      rw [hpd.2]
      have hjm : m - (hxs x).length ≤ 40 := by omega
      rw [hi]
      clear hi hlt hm hpd ra ral
      generalize m - (hxs x).length = j0 at *
      go_wp2_with fail
      go_loopw [5] (fun vd wr => ∃ j : Nat, j ≤ 40 ∧ vd = .string ⟨(List.replicate j 48 ++ hxs x).toArray⟩ ∧ Below w.heap.size w wr) (fun vd _ => strLen vd)
      case atStart => exact ⟨j0, hjm, rfl, hbw⟩
      case round =>
        obtain ⟨j, hj, rfl, hbw2⟩ := hrel
        clear hbw hjm R
        rcases Nat.eq_zero_or_pos j with rfl | hjp
        · rw [show List.replicate 0 (48 : UInt8) ++ hxs x = hxs x from rfl, hX0.out]
          by_cases hx16 : x < 16
          · have hsz : X0.size = 1 := by rw [← hX0.out]; show (hxs x).length = 1; rw [hxs_small hx16]; rfl
            have g1 : decide ((1 : Int) < (X0.size : Int)) = false := by simp; omega
            have g2 : decide (1 < X0.size) = false := by simp; omega
            clear hsz hx16
            go_wp2_with fail
            go_ret
            exact ⟨rfl, hbw2⟩
          · obtain ⟨c0, rr, hcr, hc48⟩ := hxs_head x (by omega)
            have hsz : 1 < X0.size := by
              rw [← hX0.out]
              show 1 < (hxs x).length
              rw [hxs_big hx16]
              have := hxs_pos (x / 16)
              simp; omega
            have g1 : decide ((1 : Int) < (X0.size : Int)) = true := by simp; omega
            have g2 : decide (1 < X0.size) = true := by simp; omega
            have g3 : 0 < X0.size := by omega
            have hb0 : X0[0].toNat = c0.toNat := by rw [bt_at X0 0 g3, ← hX0.out, hcr, bt_l]; rfl
            have hne : c0.toNat ≠ 48 := fun e => by
              have : c0 = 48 := UInt8.toNat_inj.1 (by rw [e]; rfl)
              rw [this] at hc48; exact absurd hc48 (by decide)
            have g4 : (((c0.toNat : Nat) : Int) == 48) = false := by simp; omega
            have g5 : (c0.toNat == 48) = false := by simp; omega
            generalize c0.toNat = cn at *
            clear hcr hc48 hx16 hne
            go_wp2_with fail
            go_ret
            exact ⟨rfl, hbw2⟩
        · obtain ⟨j', rfl⟩ : ∃ j', j = j' + 1 := ⟨j - 1, by omega⟩
          rw [show List.replicate (j' + 1) (48 : UInt8) ++ hxs x = 48 :: (List.replicate j' 48 ++ hxs x) from rfl]
          obtain ⟨D, hD1⟩ : ∃ D : ByteArray, (⟨(48 :: (List.replicate j' 48 ++ hxs x)).toArray⟩ : ByteArray) = D := ⟨_, rfl⟩
          obtain ⟨E0, hE1⟩ : ∃ E0 : ByteArray, (⟨(List.replicate j' 48 ++ hxs x).toArray⟩ : ByteArray) = E0 := ⟨_, rfl⟩
          have hDs : D.size = j' + (hxs x).length + 1 := by rw [← hD1]; show (48 :: (List.replicate j' (48 : UInt8) ++ hxs x)).length = _; simp
          have hEs : E0.size = j' + (hxs x).length := by rw [← hE1]; show (List.replicate j' (48 : UInt8) ++ hxs x).length = _; simp
          have hxp := hxs_pos x
          have g1 : decide ((1 : Int) < (D.size : Int)) = true := by simp; omega
          have g2 : decide (1 < D.size) = true := by simp; omega
          have g3 : 0 < D.size := by omega
          have g6 : 1 ≤ D.size := by omega
          have g7 : (1 : Int) ≤ (D.size : Int) := by omega
          have hb0 : D[0].toNat = 48 := by rw [bt_at D 0 g3, ← hD1, bt_l]; rfl
          have hex : D.extract 1 D.size = E0 := by rw [← hE1, ← hD1]; exact ext_one 48 _
          have hmes := Lib.hid (show E0.size < D.size by omega)
          have hj2 := Lib.hid (show j' ≤ 40 by omega)
          replace hE1 := Lib.hid hE1
          rw [hD1]
          clear hD1 hDs hEs hxp hj hjp
          go_wp2_with fail
          go_roundw
          case rel => exact ⟨j', hj2.out, by rw [hE1.out], hbw2⟩
          case measure => show E0.size < D.size; exact hmes.out
set_option maxRecDepth 100000 in
set_option maxHeartbeats 6400000 in
theorem refText_u0 (n c x : Nat) (A : Option Addr) (w : World) (h1 : 1 ≤ n) (hn : n ≤ 128) (hx : x < 2 ^ n) (h32 : n = 32)
    (hB : ∀ (w1 : World) (i : Nat), i < 1000 → Below w.heap.size w w1 → Calls Tryz.prog 40 #[.slice A n c, .int .i64 (i : Int)] w1 fun e w' => e = .returned (.bool (x.testBit i)) ∧ w' = w1) :
    Calls Tryz.prog 14 #[.agg #[.slice A n c, .bool false, .bool false]] w (RV w (.string ⟨([] ++ 39 :: ([] ++ 104 :: hxs x)).toArray⟩)) := by
  have nz : ((n : Int) == 0) = false := by simp; omega
  have n2 : ((n : Int) != 32) = false := by simp; omega
  have n3 : ((n : Int) == 32) = true := by simp; omega
  obtain ⟨X0, hX0⟩ : ∃ X0 : ByteArray, (⟨(hxs x).toArray⟩ : ByteArray) = X0 := ⟨_, rfl⟩
  have hpad := hxs_pad
  have hXl : (hxs x).length ≤ 32 := (hxs_pad 32 x (by decide) (Nat.lt_of_lt_of_le hx (Nat.le_trans (Nat.pow_le_pow_right (by decide) hn) (by decide)))).1
  have hXs : X0.size ≤ 32 := by rw [← hX0]; exact hXl
  have p4 : 1 + 1 + X0.size ≤ 9223372036854775807 := by omega
  have p5 : 2 + X0.size ≤ 9223372036854775807 := by omega
  have p6 : 3 + X0.size ≤ 9223372036854775807 := by omega
  have hfin : (((⟨#[39]⟩ ++ ⟨#[104]⟩) ++ X0) : ByteArray) = ⟨([] ++ 39 :: ([] ++ 104 :: hxs x)).toArray⟩ := by
    rw [← hX0]
    apply ByteArray.ext
    simp
  rw [← hfin]
  clear hfin hXs h32
  replace hB := Lib.hid hB
  replace hX0 := Lib.hid hX0
  replace hx := Lib.hid hx
  replace hpad := Lib.hid hpad
  go_enter Tryz.func14, Tryz.ntmps14
  go_wp2_with fail
  have R0 := Lib.hid (H3.new w 34 (.slice A n c) (.bool false) (.bool false))
  have hbw0 : Below w.heap.size w (w.alloc (.cells #[.slice A n c, .bool false, .bool false] 34)) := by go_grown
  go_loopw [5, 6] (fun vd vi wr => ∃ m : Nat, vd = .string ⟨(hxf m x).toArray⟩ ∧ vi = .int .i64 ((4 * m : Nat) : Int) ∧ 4 * m < n + 4 ∧ H3 34 wr w.heap.size (.slice A n c) (.bool false) (.bool false) ∧ Below w.heap.size w wr) (fun _ vi _ => 200 - (RowKit.intOf vi).toNat)
  case atStart => exact ⟨0, rfl, rfl, by omega, R0.out, hbw0⟩
  case round =>
    obtain ⟨m, rfl, rfl, hm, R, hbw⟩ := hrel
    clear R0 hbw0
    have ra := R.all
    have ral := R.lt
    obtain ⟨i, hi⟩ : ∃ i, 4 * m = i := ⟨_, rfl⟩
    by_cases hlt : 4 * m < n
    · have hlt2 : decide ((i : Int) < (n : Int)) = true := by simp; omega
      have hlt3 : decide (i < n) = true := by simp; omega
      have hi1000 : i < 132 := by omega
      have hDl : (hxf m x).length ≤ 32 := by rw [hxf_len]; omega
      obtain ⟨D, hD1⟩ : ∃ D : ByteArray, (⟨(hxf m x).toArray⟩ : ByteArray) = D := ⟨_, rfl⟩
      have hDs : D.size ≤ 32 := by rw [← hD1]; exact hDl
      have q9 : 1 + D.size ≤ 9223372036854775807 := by omega
      rw [hD1, hi]
      replace hD1 := Lib.hid hD1
      replace hi := Lib.hid hi
      clear hDl hDs hlt hm
      go_wp2_with fail
      go_loopw [7, 8] (fun vn vk wr => ∃ j : Nat, j ≤ 4 ∧ vn = .int .i64 ((nb x i j : Nat) : Int) ∧ ((j = 4 ∧ vk = .int .i64 (-1)) ∨ ∃ k : Nat, k + j = 3 ∧ vk = .int .i64 (k : Int)) ∧ H3 34 wr w.heap.size (.slice A n c) (.bool false) (.bool false) ∧ Below w.heap.size w wr) (fun _ vk _ => (RowKit.intOf vk + 1).toNat)
      case atStart => exact ⟨0, by omega, by unfold nb; simp [Nat.mod_one], .inr ⟨3, rfl, rfl⟩, R, hbw⟩
      case round =>
        obtain ⟨j, hj, rfl, hk, R2, hbw2⟩ := hrel
        clear R ra ral hbw
        have ra := R2.all
        have ral := R2.lt
        rcases hk with ⟨rfl, rfl⟩ | ⟨k, hkj, rfl⟩
        · have hn16 := nb_lt x i 4 (by omega)
          have hfour : nb x i 4 = x / 16 ^ m % 16 := by rw [← hi.out]; exact nb_four x m
          generalize nb x i 4 = d at *
          obtain ⟨cc, hcc⟩ : ∃ cc : UInt8, hxd d = cc := ⟨_, rfl⟩
          have hix := idx16 d cc.toNat hn16 (by rw [hcc])
          have hconv := conv_one cc
          have happ := Lib.hid (show (⟨#[cc]⟩ : ByteArray) ++ D = ⟨(hxf (m + 1) x).toArray⟩ by
            rw [← hD1.out, hxf_cons, ← hfour, hcc]; exact ba_app [cc] (hxf m x))
          have ei : IntKind.i64.wrap ((i : Int) + 4) = ((4 * (m + 1) : Nat) : Int) := by have := hi.out; rw [IntWalk.i64_in _ (by omega)]; omega
          have hm2 := Lib.hid (show 4 * (m + 1) < n + 4 by have := hi.out; have := of_decide_eq_true hlt2; omega)
          obtain ⟨i2, hi2⟩ : ∃ i2 : Nat, 4 * (m + 1) = i2 := ⟨_, rfl⟩
          rw [hi2] at ei
          replace hi2 := Lib.hid hi2
          have hil := Lib.hid (show i < i2 ∧ i2 < 140 by have := hi.out; have := hi2.out; omega)
          have RA2 := Lib.hid (R2.alloc (.cells #[.int .u8 ((cc.toNat : Nat) : Int)] 5))
          have hbA := Lib.hid (hbw2.alloc hbw2.size (.cells #[.int .u8 ((cc.toNat : Nat) : Int)] 5))
          clear hcc hfour hn16 R2
          go_wp2_with fail
          go_roundw
          case rel => exact ⟨m + 1, by rw [happ.out], by rw [hi2.out], hm2.out, RA2.out, hbA.out⟩
          case measure => simp [RowKit.intOf]; have := hil.out; omega
        · have hst := nb_step x i j (by omega)
          have hn16 := nb_lt x i j (by omega)
          have hn16' := nb_lt x i (j + 1) (by omega)
          rw [show 3 - j = k by omega] at hst
          obtain ⟨p, hp⟩ : ∃ p, i + k = p := ⟨_, rfl⟩
          have ek : IntKind.i64.wrap ((i : Int) + (k : Int)) = (p : Int) := by rw [IntWalk.i64_in _ (by omega)]; omega
          have hb := hB.out
          have hbp := fun w1 h => hb w1 p (by omega) h
          rw [hp] at hst
          clear hb hp
          obtain ⟨N, hN⟩ : ∃ N, nb x i j = N := ⟨_, rfl⟩
          rw [hN] at hst hn16 ⊢
          have e2 : IntKind.i64.wrap (2 * (N : Int)) = ((2 * N : Nat) : Int) := by rw [IntWalk.i64_in _ (by omega)]; omega
          obtain ⟨N2, hN2⟩ : ∃ N2, 2 * N = N2 := ⟨_, rfl⟩
          rw [hN2] at hst e2
          have e3 : IntKind.i64.wrap ((N2 : Int) + 1) = ((N2 + 1 : Nat) : Int) := by rw [IntWalk.i64_in _ (by omega)]; omega
          obtain ⟨N3, hN3⟩ : ∃ N3, N2 + 1 = N3 := ⟨_, rfl⟩
          rw [hN3] at e3
          have e4 : IntKind.i64.wrap ((k : Int) - 1) = (k : Int) - 1 := IntWalk.i64_in _ (by omega)
          have hnx := Lib.hid (show ((j + 1 = 4 ∧ Value.int .i64 ((k : Int) - 1) = Value.int .i64 (-1)) ∨ ∃ k' : Nat, k' + (j + 1) = 3 ∧ Value.int .i64 ((k : Int) - 1) = Value.int .i64 (k' : Int)) from by
            rcases Nat.eq_zero_or_pos k with h | h
            · exact .inl ⟨by omega, by rw [h]; rfl⟩
            · exact .inr ⟨k - 1, by omega, by congr 1; omega⟩)
          have hj1 := Lib.hid (show j + 1 ≤ 4 by omega)
          cases hbit : x.testBit p
          · rw [hbit] at hst hbp
            have hst' := Lib.hid (show nb x i (j + 1) = N2 by simpa using hst)
            replace hbp := Lib.hid hbp
            clear hst hn16 hn16' hN hkj hN2 hN3 hbit
            go_wp2_with fail
            (with_reducible refine (hbp.out _ hbw2).mono ?_)
            rintro e w2 ⟨rfl, rfl⟩
            go_wp2_with fail
            go_roundw
            case rel => exact ⟨j + 1, hj1.out, by rw [hst'.out], hnx.out, R2, hbw2⟩
            case measure => simp [RowKit.intOf] <;> omega
          · rw [hbit] at hst hbp
            have hst' := Lib.hid (show nb x i (j + 1) = N3 by rw [← hN3]; simpa using hst)
            replace hbp := Lib.hid hbp
            clear hst hn16 hn16' hN hkj hN2 hN3 hbit
            go_wp2_with fail
            (with_reducible refine (hbp.out _ hbw2).mono ?_)
            rintro e w2 ⟨rfl, rfl⟩
            go_wp2_with fail
            go_roundw
            case rel => exact ⟨j + 1, hj1.out, by rw [hst'.out], hnx.out, R2, hbw2⟩
            case measure => simp [RowKit.intOf] <;> omega
    · have hlt2 : decide ((i : Int) < (n : Int)) = false := by simp; omega
      have hlt3 : decide (i < n) = false := by simp; omega
      have hpd := hpad.out m x (by omega) (Nat.lt_of_lt_of_le hx.out (by rw [show (16 : Nat) = 2 ^ 4 by decide, ← Nat.pow_mul]; exact Nat.pow_le_pow_right (by decide) (by omega)))
      have hml : m ≤ 40 := by omega
      rw [hpd.2]
      have hjm : m - (hxs x).length ≤ 40 := by omega
      rw [hi]
      clear hi hlt hm hpd ra ral
      generalize m - (hxs x).length = j0 at *
      go_wp2_with fail
      go_loopw [5] (fun vd wr => ∃ j : Nat, j ≤ 40 ∧ vd = .string ⟨(List.replicate j 48 ++ hxs x).toArray⟩ ∧ Below w.heap.size w wr) (fun vd _ => strLen vd)
      case atStart => exact ⟨j0, hjm, rfl, hbw⟩
      case round =>
        obtain ⟨j, hj, rfl, hbw2⟩ := hrel
        clear hbw hjm R
        rcases Nat.eq_zero_or_pos j with rfl | hjp
        · rw [show List.replicate 0 (48 : UInt8) ++ hxs x = hxs x from rfl, hX0.out]
          by_cases hx16 : x < 16
          · have hsz : X0.size = 1 := by rw [← hX0.out]; show (hxs x).length = 1; rw [hxs_small hx16]; rfl
            have g1 : decide ((1 : Int) < (X0.size : Int)) = false := by simp; omega
            have g2 : decide (1 < X0.size) = false := by simp; omega
            clear hsz hx16
            go_wp2_with fail
            go_ret
            exact ⟨rfl, hbw2⟩
          · obtain ⟨c0, rr, hcr, hc48⟩ := hxs_head x (by omega)
            have hsz : 1 < X0.size := by
              rw [← hX0.out]
              show 1 < (hxs x).length
              rw [hxs_big hx16]
              have := hxs_pos (x / 16)
              simp; omega
            have g1 : decide ((1 : Int) < (X0.size : Int)) = true := by simp; omega
            have g2 : decide (1 < X0.size) = true := by simp; omega
            have g3 : 0 < X0.size := by omega
            have hb0 : X0[0].toNat = c0.toNat := by rw [bt_at X0 0 g3, ← hX0.out, hcr, bt_l]; rfl
            have hne : c0.toNat ≠ 48 := fun e => by
              have : c0 = 48 := UInt8.toNat_inj.1 (by rw [e]; rfl)
              rw [this] at hc48; exact absurd hc48 (by decide)
            have g4 : (((c0.toNat : Nat) : Int) == 48) = false := by simp; omega
            have g5 : (c0.toNat == 48) = false := by simp; omega
            generalize c0.toNat = cn at *
            clear hcr hc48 hx16 hne
            go_wp2_with fail
            go_ret
            exact ⟨rfl, hbw2⟩
        · obtain ⟨j', rfl⟩ : ∃ j', j = j' + 1 := ⟨j - 1, by omega⟩
          rw [show List.replicate (j' + 1) (48 : UInt8) ++ hxs x = 48 :: (List.replicate j' 48 ++ hxs x) from rfl]
          obtain ⟨D, hD1⟩ : ∃ D : ByteArray, (⟨(48 :: (List.replicate j' 48 ++ hxs x)).toArray⟩ : ByteArray) = D := ⟨_, rfl⟩
          obtain ⟨E0, hE1⟩ : ∃ E0 : ByteArray, (⟨(List.replicate j' 48 ++ hxs x).toArray⟩ : ByteArray) = E0 := ⟨_, rfl⟩
          have hDs : D.size = j' + (hxs x).length + 1 := by rw [← hD1]; show (48 :: (List.replicate j' (48 : UInt8) ++ hxs x)).length = _; simp
          have hEs : E0.size = j' + (hxs x).length := by rw [← hE1]; show (List.replicate j' (48 : UInt8) ++ hxs x).length = _; simp
          have hxp := hxs_pos x
          have g1 : decide ((1 : Int) < (D.size : Int)) = true := by simp; omega
          have g2 : decide (1 < D.size) = true := by simp; omega
          have g3 : 0 < D.size := by omega
          have g6 : 1 ≤ D.size := by omega
          have g7 : (1 : Int) ≤ (D.size : Int) := by omega
          have hb0 : D[0].toNat = 48 := by rw [bt_at D 0 g3, ← hD1, bt_l]; rfl
          have hex : D.extract 1 D.size = E0 := by rw [← hE1, ← hD1]; exact ext_one 48 _
          have hmes := Lib.hid (show E0.size < D.size by omega)
          have hj2 := Lib.hid (show j' ≤ 40 by omega)
          replace hE1 := Lib.hid hE1
          rw [hD1]
          clear hD1 hDs hEs hxp hj hjp
          go_wp2_with fail
          go_roundw
          case rel => exact ⟨j', hj2.out, by rw [hE1.out], hbw2⟩
          case measure => show E0.size < D.size; exact hmes.out
set_option maxRecDepth 100000 in
set_option maxHeartbeats 6400000 in
theorem refText_u1 (n c x : Nat) (A : Option Addr) (w : World) (h1 : 1 ≤ n) (hn : n ≤ 128) (hx : x < 2 ^ n) (h32 : n = 32)
    (hB : ∀ (w1 : World) (i : Nat), i < 1000 → Below w.heap.size w w1 → Calls Tryz.prog 40 #[.slice A n c, .int .i64 (i : Int)] w1 fun e w' => e = .returned (.bool (x.testBit i)) ∧ w' = w1) (b off : Nat) (hA : A = some ⟨b, off, none⟩) (hl : b < w.heap.size) (hc : w.cell? ⟨b, off + 31, none⟩ = some (.bool true)) :
    Calls Tryz.prog 14 #[.agg #[.slice A n c, .bool true, .bool false]] w (RV w (.string ⟨([] ++ 39 :: ([115] ++ 104 :: hxs x)).toArray⟩)) := by
  have nz : ((n : Int) == 0) = false := by simp; omega
  have n2 : ((n : Int) != 32) = false := by simp; omega
  have n3 : ((n : Int) == 32) = true := by simp; omega
  have q1 : (31 : Int) < (n : Int) := by omega
  have q2 : 31 < n := by omega
  subst hA
  obtain ⟨X0, hX0⟩ : ∃ X0 : ByteArray, (⟨(hxs x).toArray⟩ : ByteArray) = X0 := ⟨_, rfl⟩
  have hpad := hxs_pad
  have hXl : (hxs x).length ≤ 32 := (hxs_pad 32 x (by decide) (Nat.lt_of_lt_of_le hx (Nat.le_trans (Nat.pow_le_pow_right (by decide) hn) (by decide)))).1
  have hXs : X0.size ≤ 32 := by rw [← hX0]; exact hXl
  have p4 : 1 + 1 + X0.size ≤ 9223372036854775807 := by omega
  have p5 : 2 + X0.size ≤ 9223372036854775807 := by omega
  have p6 : 3 + X0.size ≤ 9223372036854775807 := by omega
  have hfin : ((((⟨#[39]⟩ ++ ⟨#[115]⟩) ++ ⟨#[104]⟩) ++ X0) : ByteArray) = ⟨([] ++ 39 :: ([115] ++ 104 :: hxs x)).toArray⟩ := by
    rw [← hX0]
    apply ByteArray.ext
    simp
  rw [← hfin]
  clear hfin hXs h32
  replace hB := Lib.hid hB
  replace hX0 := Lib.hid hX0
  replace hx := Lib.hid hx
  replace hpad := Lib.hid hpad
  go_enter Tryz.func14, Tryz.ntmps14
  go_wp2_with fail
  have R0 := Lib.hid (H3.new w 34 (.slice (some ⟨b, off, none⟩) n c) (.bool true) (.bool false))
  have hbw0 : Below w.heap.size w (w.alloc (.cells #[.slice (some ⟨b, off, none⟩) n c, .bool true, .bool false] 34)) := by go_grown
  go_loopw [5, 6] (fun vd vi wr => ∃ m : Nat, vd = .string ⟨(hxf m x).toArray⟩ ∧ vi = .int .i64 ((4 * m : Nat) : Int) ∧ 4 * m < n + 4 ∧ H3 34 wr w.heap.size (.slice (some ⟨b, off, none⟩) n c) (.bool true) (.bool false) ∧ Below w.heap.size w wr) (fun _ vi _ => 200 - (RowKit.intOf vi).toNat)
  case atStart => exact ⟨0, rfl, rfl, by omega, R0.out, hbw0⟩
  case round =>
    obtain ⟨m, rfl, rfl, hm, R, hbw⟩ := hrel
    clear R0 hbw0
    have ra := R.all
    have ral := R.lt
    obtain ⟨i, hi⟩ : ∃ i, 4 * m = i := ⟨_, rfl⟩
    by_cases hlt : 4 * m < n
    · have hlt2 : decide ((i : Int) < (n : Int)) = true := by simp; omega
      have hlt3 : decide (i < n) = true := by simp; omega
      have hi1000 : i < 132 := by omega
      have hDl : (hxf m x).length ≤ 32 := by rw [hxf_len]; omega
      obtain ⟨D, hD1⟩ : ∃ D : ByteArray, (⟨(hxf m x).toArray⟩ : ByteArray) = D := ⟨_, rfl⟩
      have hDs : D.size ≤ 32 := by rw [← hD1]; exact hDl
      have q9 : 1 + D.size ≤ 9223372036854775807 := by omega
      rw [hD1, hi]
      replace hD1 := Lib.hid hD1
      replace hi := Lib.hid hi
      clear hDl hDs hlt hm
      go_wp2_with fail
      go_loopw [7, 8] (fun vn vk wr => ∃ j : Nat, j ≤ 4 ∧ vn = .int .i64 ((nb x i j : Nat) : Int) ∧ ((j = 4 ∧ vk = .int .i64 (-1)) ∨ ∃ k : Nat, k + j = 3 ∧ vk = .int .i64 (k : Int)) ∧ H3 34 wr w.heap.size (.slice (some ⟨b, off, none⟩) n c) (.bool true) (.bool false) ∧ Below w.heap.size w wr) (fun _ vk _ => (RowKit.intOf vk + 1).toNat)
      case atStart => exact ⟨0, by omega, by unfold nb; simp [Nat.mod_one], .inr ⟨3, rfl, rfl⟩, R, hbw⟩
      case round =>
        obtain ⟨j, hj, rfl, hk, R2, hbw2⟩ := hrel
        clear R ra ral hbw
        have ra := R2.all
        have ral := R2.lt
        rcases hk with ⟨rfl, rfl⟩ | ⟨k, hkj, rfl⟩
        · have hn16 := nb_lt x i 4 (by omega)
          have hfour : nb x i 4 = x / 16 ^ m % 16 := by rw [← hi.out]; exact nb_four x m
          generalize nb x i 4 = d at *
          obtain ⟨cc, hcc⟩ : ∃ cc : UInt8, hxd d = cc := ⟨_, rfl⟩
          have hix := idx16 d cc.toNat hn16 (by rw [hcc])
          have hconv := conv_one cc
          have happ := Lib.hid (show (⟨#[cc]⟩ : ByteArray) ++ D = ⟨(hxf (m + 1) x).toArray⟩ by
            rw [← hD1.out, hxf_cons, ← hfour, hcc]; exact ba_app [cc] (hxf m x))
          have ei : IntKind.i64.wrap ((i : Int) + 4) = ((4 * (m + 1) : Nat) : Int) := by have := hi.out; rw [IntWalk.i64_in _ (by omega)]; omega
          have hm2 := Lib.hid (show 4 * (m + 1) < n + 4 by have := hi.out; have := of_decide_eq_true hlt2; omega)
          obtain ⟨i2, hi2⟩ : ∃ i2 : Nat, 4 * (m + 1) = i2 := ⟨_, rfl⟩
          rw [hi2] at ei
          replace hi2 := Lib.hid hi2
          have hil := Lib.hid (show i < i2 ∧ i2 < 140 by have := hi.out; have := hi2.out; omega)
          have RA2 := Lib.hid (R2.alloc (.cells #[.int .u8 ((cc.toNat : Nat) : Int)] 5))
          have hbA := Lib.hid (hbw2.alloc hbw2.size (.cells #[.int .u8 ((cc.toNat : Nat) : Int)] 5))
          clear hcc hfour hn16 R2
          go_wp2_with fail
          go_roundw
          case rel => exact ⟨m + 1, by rw [happ.out], by rw [hi2.out], hm2.out, RA2.out, hbA.out⟩
          case measure => simp [RowKit.intOf]; have := hil.out; omega
        · have hst := nb_step x i j (by omega)
          have hn16 := nb_lt x i j (by omega)
          have hn16' := nb_lt x i (j + 1) (by omega)
          rw [show 3 - j = k by omega] at hst
          obtain ⟨p, hp⟩ : ∃ p, i + k = p := ⟨_, rfl⟩
          have ek : IntKind.i64.wrap ((i : Int) + (k : Int)) = (p : Int) := by rw [IntWalk.i64_in _ (by omega)]; omega
          have hb := hB.out
          have hbp := fun w1 h => hb w1 p (by omega) h
          rw [hp] at hst
          clear hb hp
          obtain ⟨N, hN⟩ : ∃ N, nb x i j = N := ⟨_, rfl⟩
          rw [hN] at hst hn16 ⊢
          have e2 : IntKind.i64.wrap (2 * (N : Int)) = ((2 * N : Nat) : Int) := by rw [IntWalk.i64_in _ (by omega)]; omega
          obtain ⟨N2, hN2⟩ : ∃ N2, 2 * N = N2 := ⟨_, rfl⟩
          rw [hN2] at hst e2
          have e3 : IntKind.i64.wrap ((N2 : Int) + 1) = ((N2 + 1 : Nat) : Int) := by rw [IntWalk.i64_in _ (by omega)]; omega
          obtain ⟨N3, hN3⟩ : ∃ N3, N2 + 1 = N3 := ⟨_, rfl⟩
          rw [hN3] at e3
          have e4 : IntKind.i64.wrap ((k : Int) - 1) = (k : Int) - 1 := IntWalk.i64_in _ (by omega)
          have hnx := Lib.hid (show ((j + 1 = 4 ∧ Value.int .i64 ((k : Int) - 1) = Value.int .i64 (-1)) ∨ ∃ k' : Nat, k' + (j + 1) = 3 ∧ Value.int .i64 ((k : Int) - 1) = Value.int .i64 (k' : Int)) from by
            rcases Nat.eq_zero_or_pos k with h | h
            · exact .inl ⟨by omega, by rw [h]; rfl⟩
            · exact .inr ⟨k - 1, by omega, by congr 1; omega⟩)
          have hj1 := Lib.hid (show j + 1 ≤ 4 by omega)
          cases hbit : x.testBit p
          · rw [hbit] at hst hbp
            have hst' := Lib.hid (show nb x i (j + 1) = N2 by simpa using hst)
            replace hbp := Lib.hid hbp
            clear hst hn16 hn16' hN hkj hN2 hN3 hbit
            go_wp2_with fail
            (with_reducible refine (hbp.out _ hbw2).mono ?_)
            rintro e w2 ⟨rfl, rfl⟩
            go_wp2_with fail
            go_roundw
            case rel => exact ⟨j + 1, hj1.out, by rw [hst'.out], hnx.out, R2, hbw2⟩
            case measure => simp [RowKit.intOf] <;> omega
          · rw [hbit] at hst hbp
            have hst' := Lib.hid (show nb x i (j + 1) = N3 by rw [← hN3]; simpa using hst)
            replace hbp := Lib.hid hbp
            clear hst hn16 hn16' hN hkj hN2 hN3 hbit
            go_wp2_with fail
            (with_reducible refine (hbp.out _ hbw2).mono ?_)
            rintro e w2 ⟨rfl, rfl⟩
            go_wp2_with fail
            go_roundw
            case rel => exact ⟨j + 1, hj1.out, by rw [hst'.out], hnx.out, R2, hbw2⟩
            case measure => simp [RowKit.intOf] <;> omega
    · have hlt2 : decide ((i : Int) < (n : Int)) = false := by simp; omega
      have hlt3 : decide (i < n) = false := by simp; omega
      have hpd := hpad.out m x (by omega) (Nat.lt_of_lt_of_le hx.out (by rw [show (16 : Nat) = 2 ^ 4 by decide, ← Nat.pow_mul]; exact Nat.pow_le_pow_right (by decide) (by omega)))
      have hml : m ≤ 40 := by omega
      rw [hpd.2]
      have hjm : m - (hxs x).length ≤ 40 := by omega
      rw [hi]
      clear hi hlt hm hpd ra ral
      generalize m - (hxs x).length = j0 at *
      go_wp2_with fail
      go_loopw [5] (fun vd wr => ∃ j : Nat, j ≤ 40 ∧ vd = .string ⟨(List.replicate j 48 ++ hxs x).toArray⟩ ∧ Below w.heap.size w wr) (fun vd _ => strLen vd)
      case atStart => exact ⟨j0, hjm, rfl, hbw⟩
      case round =>
        obtain ⟨j, hj, rfl, hbw2⟩ := hrel
        clear hbw hjm R
        rcases Nat.eq_zero_or_pos j with rfl | hjp
        · rw [show List.replicate 0 (48 : UInt8) ++ hxs x = hxs x from rfl, hX0.out]
          by_cases hx16 : x < 16
          · have hsz : X0.size = 1 := by rw [← hX0.out]; show (hxs x).length = 1; rw [hxs_small hx16]; rfl
            have g1 : decide ((1 : Int) < (X0.size : Int)) = false := by simp; omega
            have g2 : decide (1 < X0.size) = false := by simp; omega
            clear hsz hx16
            go_wp2_with fail
            go_ret
            exact ⟨rfl, hbw2⟩
          · obtain ⟨c0, rr, hcr, hc48⟩ := hxs_head x (by omega)
            have hsz : 1 < X0.size := by
              rw [← hX0.out]
              show 1 < (hxs x).length
              rw [hxs_big hx16]
              have := hxs_pos (x / 16)
              simp; omega
            have g1 : decide ((1 : Int) < (X0.size : Int)) = true := by simp; omega
            have g2 : decide (1 < X0.size) = true := by simp; omega
            have g3 : 0 < X0.size := by omega
            have hb0 : X0[0].toNat = c0.toNat := by rw [bt_at X0 0 g3, ← hX0.out, hcr, bt_l]; rfl
            have hne : c0.toNat ≠ 48 := fun e => by
              have : c0 = 48 := UInt8.toNat_inj.1 (by rw [e]; rfl)
              rw [this] at hc48; exact absurd hc48 (by decide)
            have g4 : (((c0.toNat : Nat) : Int) == 48) = false := by simp; omega
            have g5 : (c0.toNat == 48) = false := by simp; omega
            generalize c0.toNat = cn at *
            clear hcr hc48 hx16 hne
            go_wp2_with fail
            go_ret
            exact ⟨rfl, hbw2⟩
        · obtain ⟨j', rfl⟩ : ∃ j', j = j' + 1 := ⟨j - 1, by omega⟩
          rw [show List.replicate (j' + 1) (48 : UInt8) ++ hxs x = 48 :: (List.replicate j' 48 ++ hxs x) from rfl]
          obtain ⟨D, hD1⟩ : ∃ D : ByteArray, (⟨(48 :: (List.replicate j' 48 ++ hxs x)).toArray⟩ : ByteArray) = D := ⟨_, rfl⟩
          obtain ⟨E0, hE1⟩ : ∃ E0 : ByteArray, (⟨(List.replicate j' 48 ++ hxs x).toArray⟩ : ByteArray) = E0 := ⟨_, rfl⟩
          have hDs : D.size = j' + (hxs x).length + 1 := by rw [← hD1]; show (48 :: (List.replicate j' (48 : UInt8) ++ hxs x)).length = _; simp
          have hEs : E0.size = j' + (hxs x).length := by rw [← hE1]; show (List.replicate j' (48 : UInt8) ++ hxs x).length = _; simp
          have hxp := hxs_pos x
          have g1 : decide ((1 : Int) < (D.size : Int)) = true := by simp; omega
          have g2 : decide (1 < D.size) = true := by simp; omega
          have g3 : 0 < D.size := by omega
          have g6 : 1 ≤ D.size := by omega
          have g7 : (1 : Int) ≤ (D.size : Int) := by omega
          have hb0 : D[0].toNat = 48 := by rw [bt_at D 0 g3, ← hD1, bt_l]; rfl
          have hex : D.extract 1 D.size = E0 := by rw [← hE1, ← hD1]; exact ext_one 48 _
          have hmes := Lib.hid (show E0.size < D.size by omega)
          have hj2 := Lib.hid (show j' ≤ 40 by omega)
          replace hE1 := Lib.hid hE1
          rw [hD1]
          clear hD1 hDs hEs hxp hj hjp
          go_wp2_with fail
          go_roundw
          case rel => exact ⟨j', hj2.out, by rw [hE1.out], hbw2⟩
          case measure => show E0.size < D.size; exact hmes.out
/-- The reference's Text, of any bits. -/
theorem refText_t (n c : Nat) (A : Option Addr) (f : Nat → Bool) (sg sz : Bool) (w : World) (hn : n ≤ 128) (hA : RB w A n f) :
    Calls Tryz.prog 14 #[.agg #[.slice A n c, .bool sg, .bool sz]] w (RV w (.string ⟨(txL n (valB f n) sg sz).toArray⟩)) := by
  unfold txL
  by_cases h0 : n = 0
  · rw [show txB n sz = true by unfold txB; simp [h0], if_pos rfl]
    exact refText_w0 n c A sg sz w h0
  have hx := valB_lt f n
  have hB := fun (w1 : World) (i : Nat) (hi : i < 1000) (hb : Below w.heap.size w w1) => refBit_t n c i A f w1 hi (hA.keep hb)
  have hM := fun w1 (hb : Below w.heap.size w w1) => refNum_nat n c 2147483648 (by decide) A f w1 hn (hA.keep hb)
  cases sz
  · by_cases h32 : n = 32
    · obtain ⟨b, off, hAe, hl, hcs⟩ := hA (by omega)
      have hc := hcs 31 (by omega)
      have ht : (valB f n).testBit 31 = f 31 := by rw [valB_testBit]; simp [h32]
      rw [show txB n false = false by unfold txB; simp [h32], if_neg (by decide), ht]
      cases sg
      · rw [if_neg (by simp), if_neg (by decide), if_neg (by decide)]
        exact refText_u0 n c _ A w (by omega) hn hx h32 hB
      · cases hb : f 31
        · rw [if_pos (by rfl)]
          rw [hb] at hc ht
          have hxs : valB f n < 2147483648 := by
            have := Nat.lt_pow_two_of_testBit (n := 31) (valB f n) (fun i hi => by
              rcases Nat.lt_or_ge i 32 with h | h
              · rw [show i = 31 by omega]; exact ht
              · exact Nat.testBit_lt_two_pow (Nat.lt_of_lt_of_le hx (by rw [h32]; exact Nat.pow_le_pow_right (by decide) h)))
            simpa using this
          subst hAe
          rw [Nat.min_eq_left (by omega)] at hM
          exact refText_dec n c _ b off w h32 hl hc hM hxs
        · rw [if_neg (by simp), if_neg (by decide), if_pos rfl]
          rw [hb] at hc
          exact refText_u1 n c _ A w (by omega) hn hx h32 hB b off hAe hl hc
    · rw [show txB n false = true by unfold txB; simp [h32], if_pos rfl]
      exact refText_no n c A sg w h0 h32
  · rw [show txB n true = false by unfold txB; simp [h0], if_neg (by decide), if_neg (by simp), if_pos rfl]
    cases sg
    · rw [if_neg (by decide)]
      exact refText_z0 n c _ A w (by omega) hn hx hB
    · rw [if_pos rfl]
      exact refText_z1 n c _ A w (by omega) hn hx hB
end Go.Proofs.YtalmhopbnaeamaaGreatDoor
