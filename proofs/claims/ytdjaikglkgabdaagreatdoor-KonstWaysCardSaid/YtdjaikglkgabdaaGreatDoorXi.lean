/-
  The operators of konst as function values.
  unaryOf, binaryOf, permits: the operator that a text names.
-/
import Derived.Test.YtdjaikglkgabdaaGreatDoorXe
namespace Go.Proofs.YtdjaikglkgabdaaGreatDoor
open Go.RowKit Go.Lib Go.Maps
/-- Function k is the operator op. -/
def OpFn (k : Nat) (op : List UInt8) : Prop := (∀ (args : Array Value) (w : World), (callFunc k args).run Tryz.prog w = .ok (.enter k args) w) ∧ ∀ (a b : Int) (w : World), InR a → InR b → pmt op b = true → Calls Tryz.prog k #[.int .i64 a, .int .i64 b] w fun e w' => e = .returned (.int .i64 (opV op a b)) ∧ w' = w
theorem ret64 {a b : Int} (h : a = b) : Ending.returned (.int .i64 a) = .returned (.int .i64 b) := by rw [h]
theorem wrap_toNat (v : BitVec 64) : IntKind.i64.wrap (v.toNat : Int) = v.toInt := by
  have h := v.isLt
  rw [IntKind.wrap_i64, BitVec.toInt_eq_toNat_cond]
  split <;> omega
theorem bits_and (a b : Int) : bits .and .i64 a b = bw (· &&& ·) a b := wrap_toNat _
theorem bits_or (a b : Int) : bits .or .i64 a b = bw (· ||| ·) a b := wrap_toNat _
theorem bits_xor (a b : Int) : bits .xor .i64 a b = bw (· ^^^ ·) a b := wrap_toNat _
theorem bits_not (a b : Int) : bits .xor .i64 (-1) (bits .xor .i64 a b) = -1 - bw (· ^^^ ·) a b := by
  rw [bits_xor a b, bits_xor]
  unfold bw
  simp only [BitVec.ofInt_toInt]
  generalize BitVec.ofInt 64 a ^^^ BitVec.ofInt 64 b = x
  have e : BitVec.ofInt 64 (-1) ^^^ x = ~~~x := by
    rw [show BitVec.ofInt 64 (-1) = BitVec.allOnes 64 by decide, BitVec.allOnes_xor]
  rw [e, BitVec.toInt_eq_toNat_cond, BitVec.toInt_eq_toNat_cond, BitVec.toNat_not]
  have h := x.isLt
  split <;> split <;> omega
theorem mul_in {a b : Int} (ha : InR a) (hb : InR b) : -4611686018427387904 ≤ a * b ∧ a * b ≤ 4611686018427387904 := by
  have h : (a * b).natAbs ≤ 2147483648 * 2147483648 := by
    rw [Int.natAbs_mul]
    unfold InR at ha hb
    exact Nat.mul_le_mul (by omega) (by omega)
  omega
theorem wrap_same {x : Int} (h : -9223372036854775808 ≤ x ∧ x ≤ 9223372036854775807) : wrap64 x = x := by
  unfold wrap64
  omega
theorem div_in {a b : Int} (ha : InR a) : -2147483648 ≤ a.tdiv b ∧ a.tdiv b ≤ 2147483648 := by
  have h : (a.tdiv b).natAbs ≤ 2147483648 := by
    rw [Int.natAbs_tdiv]
    unfold InR at ha
    exact Nat.le_trans (Nat.div_le_self _ _) (by omega)
  omega
theorem pow_in {b : Int} (h0 : 0 ≤ b) (h1 : b ≤ 31) : (1 : Int) ≤ 2 ^ b.toNat ∧ (2 : Int) ^ b.toNat ≤ 2147483648 := by
  have hp : (0 : Int) < 2 ^ b.toNat := Int.pow_pos (by decide)
  refine ⟨by omega, ?_⟩
  have h : 2 ^ b.toNat ≤ 2 ^ 31 := Nat.pow_le_pow_right (by decide) (by omega)
  have e : ((2 ^ b.toNat : Nat) : Int) = (2 : Int) ^ b.toNat := by simp
  omega
theorem shl_in {a b : Int} (ha : InR a) (h0 : 0 ≤ b) (h1 : b ≤ 31) : -9223372036854775808 ≤ a * 2 ^ b.toNat ∧ a * 2 ^ b.toNat ≤ 9223372036854775807 := by
  have hp := pow_in h0 h1
  have h : (a * 2 ^ b.toNat).natAbs ≤ 2147483648 * 2147483648 := by
    rw [Int.natAbs_mul]
    unfold InR at ha
    exact Nat.mul_le_mul (by omega) (by omega)
  omega
theorem op_0 : OpFn 79 [43] := by
  refine ⟨fun _ _ => by kernel_rfl, fun a b w ha hb hp => ?_⟩
  obtain ⟨a1, a2⟩ := ha
  obtain ⟨b1, b2⟩ := hb
  go_enter Tryz.func79, Tryz.ntmps79
  go_wp2
  go_ret
  exact ⟨ret64 (rfl), rfl⟩
theorem op_1 : OpFn 80 [45] := by
  refine ⟨fun _ _ => by kernel_rfl, fun a b w ha hb hp => ?_⟩
  obtain ⟨a1, a2⟩ := ha
  obtain ⟨b1, b2⟩ := hb
  go_enter Tryz.func80, Tryz.ntmps80
  go_wp2
  go_ret
  exact ⟨ret64 (rfl), rfl⟩
theorem op_2 : OpFn 81 [42] := by
  refine ⟨fun _ _ => by kernel_rfl, fun a b w ha hb hp => ?_⟩
  have hm := wrap_same (by have := mul_in ha hb; omega : -9223372036854775808 ≤ a * b ∧ a * b ≤ 9223372036854775807)
  obtain ⟨a1, a2⟩ := ha
  obtain ⟨b1, b2⟩ := hb
  replace hm := Lib.hid hm
  go_enter Tryz.func81, Tryz.ntmps81
  go_wp2
  go_ret
  exact ⟨ret64 (hm.out), rfl⟩
theorem op_3 : OpFn 82 [47] := by
  refine ⟨fun _ _ => by kernel_rfl, fun a b w ha hb hp => ?_⟩
  have h0 : ¬ b = 0 := by simpa [pmt] using hp
  have hm := wrap_same (by have := div_in (b := b) ha; omega : -9223372036854775808 ≤ a.tdiv b ∧ a.tdiv b ≤ 9223372036854775807)
  obtain ⟨a1, a2⟩ := ha
  obtain ⟨b1, b2⟩ := hb
  replace hm := Lib.hid hm
  go_enter Tryz.func82, Tryz.ntmps82
  go_wp2
  go_ret
  exact ⟨ret64 (hm.out), rfl⟩
theorem op_4 : OpFn 83 [37] := by
  refine ⟨fun _ _ => by kernel_rfl, fun a b w ha hb hp => ?_⟩
  have h0 : ¬ b = 0 := by simpa [pmt] using hp
  obtain ⟨a1, a2⟩ := ha
  obtain ⟨b1, b2⟩ := hb
  go_enter Tryz.func83, Tryz.ntmps83
  go_wp2
  go_ret
  exact ⟨ret64 (rfl), rfl⟩
theorem op_5 : OpFn 84 [38] := by
  refine ⟨fun _ _ => by kernel_rfl, fun a b w ha hb hp => ?_⟩
  obtain ⟨a1, a2⟩ := ha
  obtain ⟨b1, b2⟩ := hb
  go_enter Tryz.func84, Tryz.ntmps84
  go_wp2
  go_ret
  exact ⟨ret64 (bits_and a b), rfl⟩
theorem op_6 : OpFn 85 [124] := by
  refine ⟨fun _ _ => by kernel_rfl, fun a b w ha hb hp => ?_⟩
  obtain ⟨a1, a2⟩ := ha
  obtain ⟨b1, b2⟩ := hb
  go_enter Tryz.func85, Tryz.ntmps85
  go_wp2
  go_ret
  exact ⟨ret64 (bits_or a b), rfl⟩
theorem op_7 : OpFn 86 [94] := by
  refine ⟨fun _ _ => by kernel_rfl, fun a b w ha hb hp => ?_⟩
  obtain ⟨a1, a2⟩ := ha
  obtain ⟨b1, b2⟩ := hb
  go_enter Tryz.func86, Tryz.ntmps86
  go_wp2
  go_ret
  exact ⟨ret64 (bits_xor a b), rfl⟩
theorem op_8 : OpFn 87 [126, 94] := by
  refine ⟨fun _ _ => by kernel_rfl, fun a b w ha hb hp => ?_⟩
  obtain ⟨a1, a2⟩ := ha
  obtain ⟨b1, b2⟩ := hb
  go_enter Tryz.func87, Tryz.ntmps87
  go_wp2
  go_ret
  exact ⟨ret64 (bits_not a b), rfl⟩
theorem op_9 : OpFn 88 [60, 60] := by
  refine ⟨fun _ _ => by kernel_rfl, fun a b w ha hb hp => ?_⟩
  obtain ⟨h0, h1⟩ : 0 ≤ b ∧ b ≤ 31 := by simpa [pmt] using hp
  have hm := wrap_same (shl_in ha h0 h1)
  obtain ⟨a1, a2⟩ := ha
  obtain ⟨b1, b2⟩ := hb
  replace hm := Lib.hid hm
  go_enter Tryz.func88, Tryz.ntmps88
  go_wp2
  go_ret
  exact ⟨ret64 (hm.out), rfl⟩
theorem op_10 : OpFn 89 [62, 62] := by
  refine ⟨fun _ _ => by kernel_rfl, fun a b w ha hb hp => ?_⟩
  obtain ⟨h0, h1⟩ : 0 ≤ b ∧ b ≤ 31 := by simpa [pmt] using hp
  obtain ⟨a1, a2⟩ := ha
  obtain ⟨b1, b2⟩ := hb
  go_enter Tryz.func89, Tryz.ntmps89
  go_wp2
  go_ret
  exact ⟨ret64 (rfl), rfl⟩
theorem cmp_0 : OpFn 102 [60] := by
  refine ⟨fun _ _ => by kernel_rfl, fun a b w _ _ _ => ?_⟩
  go_enter Tryz.func102, Tryz.ntmps102
  go_wp2_with fail
  (with_reducible refine (truth_t _ _).mono ?_)
  rintro e w' ⟨rfl, rfl⟩
  go_wp2_with fail
  go_ret
  exact ⟨by simp [opV, ofB], rfl⟩
theorem cmp_1 : OpFn 103 [60, 61] := by
  refine ⟨fun _ _ => by kernel_rfl, fun a b w _ _ _ => ?_⟩
  go_enter Tryz.func103, Tryz.ntmps103
  go_wp2_with fail
  (with_reducible refine (truth_t _ _).mono ?_)
  rintro e w' ⟨rfl, rfl⟩
  go_wp2_with fail
  go_ret
  exact ⟨by simp [opV, ofB], rfl⟩
theorem cmp_2 : OpFn 104 [62] := by
  refine ⟨fun _ _ => by kernel_rfl, fun a b w _ _ _ => ?_⟩
  go_enter Tryz.func104, Tryz.ntmps104
  go_wp2_with fail
  (with_reducible refine (truth_t _ _).mono ?_)
  rintro e w' ⟨rfl, rfl⟩
  go_wp2_with fail
  go_ret
  exact ⟨by simp [opV, ofB], rfl⟩
theorem cmp_3 : OpFn 105 [62, 61] := by
  refine ⟨fun _ _ => by kernel_rfl, fun a b w _ _ _ => ?_⟩
  go_enter Tryz.func105, Tryz.ntmps105
  go_wp2_with fail
  (with_reducible refine (truth_t _ _).mono ?_)
  rintro e w' ⟨rfl, rfl⟩
  go_wp2_with fail
  go_ret
  exact ⟨by simp [opV, ofB], rfl⟩
theorem cmp_4 : OpFn 106 [61, 61] := by
  refine ⟨fun _ _ => by kernel_rfl, fun a b w _ _ _ => ?_⟩
  go_enter Tryz.func106, Tryz.ntmps106
  go_wp2_with fail
  (with_reducible refine (truth_t _ _).mono ?_)
  rintro e w' ⟨rfl, rfl⟩
  go_wp2_with fail
  go_ret
  exact ⟨by simp [opV, ofB], rfl⟩
theorem cmp_5 : OpFn 107 [33, 61] := by
  refine ⟨fun _ _ => by kernel_rfl, fun a b w _ _ _ => ?_⟩
  go_enter Tryz.func107, Tryz.ntmps107
  go_wp2_with fail
  (with_reducible refine (truth_t _ _).mono ?_)
  rintro e w' ⟨rfl, rfl⟩
  go_wp2_with fail
  go_ret
  exact ⟨by simp [opV, ofB], rfl⟩
end Go.Proofs.YtdjaikglkgabdaaGreatDoor
namespace Go.Proofs.YtdjaikglkgabdaaGreatDoor
open Go.RowKit Go.Lib Go.Maps
abbrev fnv (k : Nat) : Value := .func (.func k) #[] #[]
/-- What binaryOf leaves. -/
def BO (op : List UInt8) (w : World) (e : Ending) (w' : World) : Prop := ∃ k, e = .returned (fnv k) ∧ w' = w ∧ OpFn k op
theorem op_shl3 : OpFn 88 [60, 60, 60] := ⟨op_9.1, fun a b w ha hb hp => op_9.2 a b w ha hb hp⟩
theorem op_shr3 : OpFn 89 [62, 62, 62] := ⟨op_10.1, fun a b w ha hb hp => op_10.2 a b w ha hb hp⟩
theorem bo_0 (s : ByteArray) (w : World) (h : s.toList = [43]) : Calls Tryz.prog 62 #[.string s] w (BO [43] w) := by
  go_enter Tryz.func62, Tryz.ntmps62
  go_wp2_with fail
  go_ret
  exact ⟨_, rfl, rfl, op_0⟩
theorem bo_1 (s : ByteArray) (w : World) (h : s.toList = [45]) : Calls Tryz.prog 62 #[.string s] w (BO [45] w) := by
  go_enter Tryz.func62, Tryz.ntmps62
  go_wp2_with fail
  go_ret
  exact ⟨_, rfl, rfl, op_1⟩
theorem bo_2 (s : ByteArray) (w : World) (h : s.toList = [42]) : Calls Tryz.prog 62 #[.string s] w (BO [42] w) := by
  go_enter Tryz.func62, Tryz.ntmps62
  go_wp2_with fail
  go_ret
  exact ⟨_, rfl, rfl, op_2⟩
theorem bo_3 (s : ByteArray) (w : World) (h : s.toList = [47]) : Calls Tryz.prog 62 #[.string s] w (BO [47] w) := by
  go_enter Tryz.func62, Tryz.ntmps62
  go_wp2_with fail
  go_ret
  exact ⟨_, rfl, rfl, op_3⟩
theorem bo_4 (s : ByteArray) (w : World) (h : s.toList = [37]) : Calls Tryz.prog 62 #[.string s] w (BO [37] w) := by
  go_enter Tryz.func62, Tryz.ntmps62
  go_wp2_with fail
  go_ret
  exact ⟨_, rfl, rfl, op_4⟩
theorem bo_5 (s : ByteArray) (w : World) (h : s.toList = [38]) : Calls Tryz.prog 62 #[.string s] w (BO [38] w) := by
  go_enter Tryz.func62, Tryz.ntmps62
  go_wp2_with fail
  go_ret
  exact ⟨_, rfl, rfl, op_5⟩
theorem bo_6 (s : ByteArray) (w : World) (h : s.toList = [124]) : Calls Tryz.prog 62 #[.string s] w (BO [124] w) := by
  go_enter Tryz.func62, Tryz.ntmps62
  go_wp2_with fail
  go_ret
  exact ⟨_, rfl, rfl, op_6⟩
theorem bo_7 (s : ByteArray) (w : World) (h : s.toList = [94]) : Calls Tryz.prog 62 #[.string s] w (BO [94] w) := by
  go_enter Tryz.func62, Tryz.ntmps62
  go_wp2_with fail
  go_ret
  exact ⟨_, rfl, rfl, op_7⟩
theorem bo_8 (s : ByteArray) (w : World) (h : s.toList = [126, 94]) : Calls Tryz.prog 62 #[.string s] w (BO [126, 94] w) := by
  go_enter Tryz.func62, Tryz.ntmps62
  go_wp2_with fail
  go_ret
  exact ⟨_, rfl, rfl, op_8⟩
theorem bo_9 (s : ByteArray) (w : World) (h : s.toList = [60, 60]) : Calls Tryz.prog 62 #[.string s] w (BO [60, 60] w) := by
  go_enter Tryz.func62, Tryz.ntmps62
  go_wp2_with fail
  go_ret
  exact ⟨_, rfl, rfl, op_9⟩
theorem bo_10 (s : ByteArray) (w : World) (h : s.toList = [60, 60, 60]) : Calls Tryz.prog 62 #[.string s] w (BO [60, 60, 60] w) := by
  go_enter Tryz.func62, Tryz.ntmps62
  go_wp2_with fail
  go_ret
  exact ⟨_, rfl, rfl, op_shl3⟩
theorem bo_11 (s : ByteArray) (w : World) (h : s.toList = [62, 62]) : Calls Tryz.prog 62 #[.string s] w (BO [62, 62] w) := by
  go_enter Tryz.func62, Tryz.ntmps62
  go_wp2_with fail
  go_ret
  exact ⟨_, rfl, rfl, op_10⟩
theorem bo_12 (s : ByteArray) (w : World) (h : s.toList = [62, 62, 62]) : Calls Tryz.prog 62 #[.string s] w (BO [62, 62, 62] w) := by
  go_enter Tryz.func62, Tryz.ntmps62
  go_wp2_with fail
  go_ret
  exact ⟨_, rfl, rfl, op_shr3⟩
theorem co_0 (s : ByteArray) (w : World) (h : s.toList = [60]) : Calls Tryz.prog 90 #[.string s] w (BO [60] w) := by
  go_enter Tryz.func90, Tryz.ntmps90
  go_wp2_with fail
  go_ret
  exact ⟨_, rfl, rfl, cmp_0⟩
theorem bc_0 (s : ByteArray) (w : World) (h : s.toList = [60]) : Calls Tryz.prog 62 #[.string s] w (BO [60] w) := by
  have hC := co_0 s w h
  replace hC := Lib.hid hC
  go_enter Tryz.func62, Tryz.ntmps62
  go_wp2_with fail
  (with_reducible refine hC.out.mono ?_)
  rintro e w' ⟨k, rfl, hw, hk⟩
  subst hw
  go_wp2_with fail
  go_ret
  exact ⟨_, rfl, rfl, hk⟩
theorem co_1 (s : ByteArray) (w : World) (h : s.toList = [60, 61]) : Calls Tryz.prog 90 #[.string s] w (BO [60, 61] w) := by
  go_enter Tryz.func90, Tryz.ntmps90
  go_wp2_with fail
  go_ret
  exact ⟨_, rfl, rfl, cmp_1⟩
theorem bc_1 (s : ByteArray) (w : World) (h : s.toList = [60, 61]) : Calls Tryz.prog 62 #[.string s] w (BO [60, 61] w) := by
  have hC := co_1 s w h
  replace hC := Lib.hid hC
  go_enter Tryz.func62, Tryz.ntmps62
  go_wp2_with fail
  (with_reducible refine hC.out.mono ?_)
  rintro e w' ⟨k, rfl, hw, hk⟩
  subst hw
  go_wp2_with fail
  go_ret
  exact ⟨_, rfl, rfl, hk⟩
theorem co_2 (s : ByteArray) (w : World) (h : s.toList = [62]) : Calls Tryz.prog 90 #[.string s] w (BO [62] w) := by
  go_enter Tryz.func90, Tryz.ntmps90
  go_wp2_with fail
  go_ret
  exact ⟨_, rfl, rfl, cmp_2⟩
theorem bc_2 (s : ByteArray) (w : World) (h : s.toList = [62]) : Calls Tryz.prog 62 #[.string s] w (BO [62] w) := by
  have hC := co_2 s w h
  replace hC := Lib.hid hC
  go_enter Tryz.func62, Tryz.ntmps62
  go_wp2_with fail
  (with_reducible refine hC.out.mono ?_)
  rintro e w' ⟨k, rfl, hw, hk⟩
  subst hw
  go_wp2_with fail
  go_ret
  exact ⟨_, rfl, rfl, hk⟩
theorem co_3 (s : ByteArray) (w : World) (h : s.toList = [62, 61]) : Calls Tryz.prog 90 #[.string s] w (BO [62, 61] w) := by
  go_enter Tryz.func90, Tryz.ntmps90
  go_wp2_with fail
  go_ret
  exact ⟨_, rfl, rfl, cmp_3⟩
theorem bc_3 (s : ByteArray) (w : World) (h : s.toList = [62, 61]) : Calls Tryz.prog 62 #[.string s] w (BO [62, 61] w) := by
  have hC := co_3 s w h
  replace hC := Lib.hid hC
  go_enter Tryz.func62, Tryz.ntmps62
  go_wp2_with fail
  (with_reducible refine hC.out.mono ?_)
  rintro e w' ⟨k, rfl, hw, hk⟩
  subst hw
  go_wp2_with fail
  go_ret
  exact ⟨_, rfl, rfl, hk⟩
theorem co_4 (s : ByteArray) (w : World) (h : s.toList = [61, 61]) : Calls Tryz.prog 90 #[.string s] w (BO [61, 61] w) := by
  go_enter Tryz.func90, Tryz.ntmps90
  go_wp2_with fail
  go_ret
  exact ⟨_, rfl, rfl, cmp_4⟩
theorem bc_4 (s : ByteArray) (w : World) (h : s.toList = [61, 61]) : Calls Tryz.prog 62 #[.string s] w (BO [61, 61] w) := by
  have hC := co_4 s w h
  replace hC := Lib.hid hC
  go_enter Tryz.func62, Tryz.ntmps62
  go_wp2_with fail
  (with_reducible refine hC.out.mono ?_)
  rintro e w' ⟨k, rfl, hw, hk⟩
  subst hw
  go_wp2_with fail
  go_ret
  exact ⟨_, rfl, rfl, hk⟩
theorem co_5 (s : ByteArray) (w : World) (h : s.toList = [33, 61]) : Calls Tryz.prog 90 #[.string s] w (BO [33, 61] w) := by
  go_enter Tryz.func90, Tryz.ntmps90
  go_wp2_with fail
  go_ret
  exact ⟨_, rfl, rfl, cmp_5⟩
theorem bc_5 (s : ByteArray) (w : World) (h : s.toList = [33, 61]) : Calls Tryz.prog 62 #[.string s] w (BO [33, 61] w) := by
  have hC := co_5 s w h
  replace hC := Lib.hid hC
  go_enter Tryz.func62, Tryz.ntmps62
  go_wp2_with fail
  (with_reducible refine hC.out.mono ?_)
  rintro e w' ⟨k, rfl, hw, hk⟩
  subst hw
  go_wp2_with fail
  go_ret
  exact ⟨_, rfl, rfl, hk⟩
theorem binaryOf_t (s : ByteArray) (op : List UInt8) (w : World) (h : s.toList = op) (ho : op ∈ bin19) : Calls Tryz.prog 62 #[.string s] w (BO op w) := by
  simp only [bin19, List.mem_cons, List.not_mem_nil, or_false] at ho
  rcases ho with rfl | rfl | rfl | rfl | rfl | rfl | rfl | rfl | rfl | rfl | rfl | rfl | rfl | rfl | rfl | rfl | rfl | rfl | rfl
  · exact bo_0 s w h
  · exact bo_1 s w h
  · exact bo_2 s w h
  · exact bo_3 s w h
  · exact bo_4 s w h
  · exact bo_5 s w h
  · exact bo_6 s w h
  · exact bo_7 s w h
  · exact bo_8 s w h
  · exact bo_9 s w h
  · exact bo_11 s w h
  · exact bo_10 s w h
  · exact bo_12 s w h
  · exact bc_0 s w h
  · exact bc_1 s w h
  · exact bc_2 s w h
  · exact bc_3 s w h
  · exact bc_4 s w h
  · exact bc_5 s w h
/-- What permits leaves. -/
def PO (op : List UInt8) (b : Int) (w : World) (e : Ending) (w' : World) : Prop := e = .returned (.bool (pmt op b)) ∧ w' = w
theorem po_0 (s : ByteArray) (b : Int) (w : World) (h : s.toList = [43]) : Calls Tryz.prog 63 #[.string s, .int .i64 b] w (PO [43] b w) := by
  go_enter Tryz.func63, Tryz.ntmps63
  go_wp2_with fail
  all_goals go_ret
  all_goals exact ⟨by first | rfl | (simp [pmt, *]; done) | (simp [pmt, *]; omega) | (by_cases h0 : b = 0 <;> simp [pmt, h0]), rfl⟩
theorem po_1 (s : ByteArray) (b : Int) (w : World) (h : s.toList = [45]) : Calls Tryz.prog 63 #[.string s, .int .i64 b] w (PO [45] b w) := by
  go_enter Tryz.func63, Tryz.ntmps63
  go_wp2_with fail
  all_goals go_ret
  all_goals exact ⟨by first | rfl | (simp [pmt, *]; done) | (simp [pmt, *]; omega) | (by_cases h0 : b = 0 <;> simp [pmt, h0]), rfl⟩
theorem po_2 (s : ByteArray) (b : Int) (w : World) (h : s.toList = [42]) : Calls Tryz.prog 63 #[.string s, .int .i64 b] w (PO [42] b w) := by
  go_enter Tryz.func63, Tryz.ntmps63
  go_wp2_with fail
  all_goals go_ret
  all_goals exact ⟨by first | rfl | (simp [pmt, *]; done) | (simp [pmt, *]; omega) | (by_cases h0 : b = 0 <;> simp [pmt, h0]), rfl⟩
theorem po_3 (s : ByteArray) (b : Int) (w : World) (h : s.toList = [47]) : Calls Tryz.prog 63 #[.string s, .int .i64 b] w (PO [47] b w) := by
  go_enter Tryz.func63, Tryz.ntmps63
  go_wp2_with fail
  all_goals go_ret
  all_goals exact ⟨by first | rfl | (simp [pmt, *]; done) | (simp [pmt, *]; omega) | (by_cases h0 : b = 0 <;> simp [pmt, h0]), rfl⟩
theorem po_4 (s : ByteArray) (b : Int) (w : World) (h : s.toList = [37]) : Calls Tryz.prog 63 #[.string s, .int .i64 b] w (PO [37] b w) := by
  go_enter Tryz.func63, Tryz.ntmps63
  go_wp2_with fail
  all_goals go_ret
  all_goals exact ⟨by first | rfl | (simp [pmt, *]; done) | (simp [pmt, *]; omega) | (by_cases h0 : b = 0 <;> simp [pmt, h0]), rfl⟩
theorem po_5 (s : ByteArray) (b : Int) (w : World) (h : s.toList = [38]) : Calls Tryz.prog 63 #[.string s, .int .i64 b] w (PO [38] b w) := by
  go_enter Tryz.func63, Tryz.ntmps63
  go_wp2_with fail
  all_goals go_ret
  all_goals exact ⟨by first | rfl | (simp [pmt, *]; done) | (simp [pmt, *]; omega) | (by_cases h0 : b = 0 <;> simp [pmt, h0]), rfl⟩
theorem po_6 (s : ByteArray) (b : Int) (w : World) (h : s.toList = [124]) : Calls Tryz.prog 63 #[.string s, .int .i64 b] w (PO [124] b w) := by
  go_enter Tryz.func63, Tryz.ntmps63
  go_wp2_with fail
  all_goals go_ret
  all_goals exact ⟨by first | rfl | (simp [pmt, *]; done) | (simp [pmt, *]; omega) | (by_cases h0 : b = 0 <;> simp [pmt, h0]), rfl⟩
theorem po_7 (s : ByteArray) (b : Int) (w : World) (h : s.toList = [94]) : Calls Tryz.prog 63 #[.string s, .int .i64 b] w (PO [94] b w) := by
  go_enter Tryz.func63, Tryz.ntmps63
  go_wp2_with fail
  all_goals go_ret
  all_goals exact ⟨by first | rfl | (simp [pmt, *]; done) | (simp [pmt, *]; omega) | (by_cases h0 : b = 0 <;> simp [pmt, h0]), rfl⟩
theorem po_8 (s : ByteArray) (b : Int) (w : World) (h : s.toList = [126, 94]) : Calls Tryz.prog 63 #[.string s, .int .i64 b] w (PO [126, 94] b w) := by
  go_enter Tryz.func63, Tryz.ntmps63
  go_wp2_with fail
  all_goals go_ret
  all_goals exact ⟨by first | rfl | (simp [pmt, *]; done) | (simp [pmt, *]; omega) | (by_cases h0 : b = 0 <;> simp [pmt, h0]), rfl⟩
theorem po_9 (s : ByteArray) (b : Int) (w : World) (h : s.toList = [60, 60]) : Calls Tryz.prog 63 #[.string s, .int .i64 b] w (PO [60, 60] b w) := by
  go_enter Tryz.func63, Tryz.ntmps63
  go_wp2_with fail
  all_goals go_ret
  all_goals exact ⟨by first | rfl | (simp [pmt, *]; done) | (simp [pmt, *]; omega) | (by_cases h0 : b = 0 <;> simp [pmt, h0]), rfl⟩
theorem po_10 (s : ByteArray) (b : Int) (w : World) (h : s.toList = [62, 62]) : Calls Tryz.prog 63 #[.string s, .int .i64 b] w (PO [62, 62] b w) := by
  go_enter Tryz.func63, Tryz.ntmps63
  go_wp2_with fail
  all_goals go_ret
  all_goals exact ⟨by first | rfl | (simp [pmt, *]; done) | (simp [pmt, *]; omega) | (by_cases h0 : b = 0 <;> simp [pmt, h0]), rfl⟩
theorem po_11 (s : ByteArray) (b : Int) (w : World) (h : s.toList = [60, 60, 60]) : Calls Tryz.prog 63 #[.string s, .int .i64 b] w (PO [60, 60, 60] b w) := by
  go_enter Tryz.func63, Tryz.ntmps63
  go_wp2_with fail
  all_goals go_ret
  all_goals exact ⟨by first | rfl | (simp [pmt, *]; done) | (simp [pmt, *]; omega) | (by_cases h0 : b = 0 <;> simp [pmt, h0]), rfl⟩
theorem po_12 (s : ByteArray) (b : Int) (w : World) (h : s.toList = [62, 62, 62]) : Calls Tryz.prog 63 #[.string s, .int .i64 b] w (PO [62, 62, 62] b w) := by
  go_enter Tryz.func63, Tryz.ntmps63
  go_wp2_with fail
  all_goals go_ret
  all_goals exact ⟨by first | rfl | (simp [pmt, *]; done) | (simp [pmt, *]; omega) | (by_cases h0 : b = 0 <;> simp [pmt, h0]), rfl⟩
theorem po_13 (s : ByteArray) (b : Int) (w : World) (h : s.toList = [60]) : Calls Tryz.prog 63 #[.string s, .int .i64 b] w (PO [60] b w) := by
  go_enter Tryz.func63, Tryz.ntmps63
  go_wp2_with fail
  all_goals go_ret
  all_goals exact ⟨by first | rfl | (simp [pmt, *]; done) | (simp [pmt, *]; omega) | (by_cases h0 : b = 0 <;> simp [pmt, h0]), rfl⟩
theorem po_14 (s : ByteArray) (b : Int) (w : World) (h : s.toList = [60, 61]) : Calls Tryz.prog 63 #[.string s, .int .i64 b] w (PO [60, 61] b w) := by
  go_enter Tryz.func63, Tryz.ntmps63
  go_wp2_with fail
  all_goals go_ret
  all_goals exact ⟨by first | rfl | (simp [pmt, *]; done) | (simp [pmt, *]; omega) | (by_cases h0 : b = 0 <;> simp [pmt, h0]), rfl⟩
theorem po_15 (s : ByteArray) (b : Int) (w : World) (h : s.toList = [62]) : Calls Tryz.prog 63 #[.string s, .int .i64 b] w (PO [62] b w) := by
  go_enter Tryz.func63, Tryz.ntmps63
  go_wp2_with fail
  all_goals go_ret
  all_goals exact ⟨by first | rfl | (simp [pmt, *]; done) | (simp [pmt, *]; omega) | (by_cases h0 : b = 0 <;> simp [pmt, h0]), rfl⟩
theorem po_16 (s : ByteArray) (b : Int) (w : World) (h : s.toList = [62, 61]) : Calls Tryz.prog 63 #[.string s, .int .i64 b] w (PO [62, 61] b w) := by
  go_enter Tryz.func63, Tryz.ntmps63
  go_wp2_with fail
  all_goals go_ret
  all_goals exact ⟨by first | rfl | (simp [pmt, *]; done) | (simp [pmt, *]; omega) | (by_cases h0 : b = 0 <;> simp [pmt, h0]), rfl⟩
theorem po_17 (s : ByteArray) (b : Int) (w : World) (h : s.toList = [61, 61]) : Calls Tryz.prog 63 #[.string s, .int .i64 b] w (PO [61, 61] b w) := by
  go_enter Tryz.func63, Tryz.ntmps63
  go_wp2_with fail
  all_goals go_ret
  all_goals exact ⟨by first | rfl | (simp [pmt, *]; done) | (simp [pmt, *]; omega) | (by_cases h0 : b = 0 <;> simp [pmt, h0]), rfl⟩
theorem po_18 (s : ByteArray) (b : Int) (w : World) (h : s.toList = [33, 61]) : Calls Tryz.prog 63 #[.string s, .int .i64 b] w (PO [33, 61] b w) := by
  go_enter Tryz.func63, Tryz.ntmps63
  go_wp2_with fail
  all_goals go_ret
  all_goals exact ⟨by first | rfl | (simp [pmt, *]; done) | (simp [pmt, *]; omega) | (by_cases h0 : b = 0 <;> simp [pmt, h0]), rfl⟩
theorem permits_t (s : ByteArray) (op : List UInt8) (b : Int) (w : World) (h : s.toList = op) (ho : op ∈ bin19) : Calls Tryz.prog 63 #[.string s, .int .i64 b] w (PO op b w) := by
  simp only [bin19, List.mem_cons, List.not_mem_nil, or_false] at ho
  rcases ho with rfl | rfl | rfl | rfl | rfl | rfl | rfl | rfl | rfl | rfl | rfl | rfl | rfl | rfl | rfl | rfl | rfl | rfl | rfl
  · exact po_0 s b w h
  · exact po_1 s b w h
  · exact po_2 s b w h
  · exact po_3 s b w h
  · exact po_4 s b w h
  · exact po_5 s b w h
  · exact po_6 s b w h
  · exact po_7 s b w h
  · exact po_8 s b w h
  · exact po_9 s b w h
  · exact po_10 s b w h
  · exact po_11 s b w h
  · exact po_12 s b w h
  · exact po_13 s b w h
  · exact po_14 s b w h
  · exact po_15 s b w h
  · exact po_16 s b w h
  · exact po_17 s b w h
  · exact po_18 s b w h
/-- Function k is the operator op of one. -/
def UnFn (k : Nat) (op : List UInt8) : Prop := (∀ (args : Array Value) (w : World), (callFunc k args).run Tryz.prog w = .ok (.enter k args) w) ∧ ∀ (a : Int) (w : World), InR a → Calls Tryz.prog k #[.int .i64 a] w fun e w' => e = .returned (.int .i64 (unV op a)) ∧ w' = w
/-- What unaryOf leaves. -/
def UO (op : List UInt8) (w : World) (e : Ending) (w' : World) : Prop := w' = w ∧ if isUn op then ∃ k, e = .returned (fnv k) ∧ UnFn k op else e = .returned .nilFunc
theorem un_0 : UnFn 76 [45] := by
  refine ⟨fun _ _ => by kernel_rfl, fun a w ha => ?_⟩
  obtain ⟨a1, a2⟩ := ha
  go_enter Tryz.func76, Tryz.ntmps76
  go_wp2
  go_ret
  exact ⟨ret64 rfl, rfl⟩
theorem un_1 : UnFn 77 [126] := by
  refine ⟨fun _ _ => by kernel_rfl, fun a w ha => ?_⟩
  obtain ⟨a1, a2⟩ := ha
  go_enter Tryz.func77, Tryz.ntmps77
  go_wp2
  go_ret
  exact ⟨ret64 rfl, rfl⟩
theorem un_2 : UnFn 78 [33] := by
  refine ⟨fun _ _ => by kernel_rfl, fun a w ha => ?_⟩
  go_enter Tryz.func78, Tryz.ntmps78
  go_wp2_with fail
  (with_reducible refine (truth_t _ _).mono ?_)
  rintro e w' ⟨rfl, rfl⟩
  go_wp2_with fail
  go_ret
  exact ⟨by simp [unV, ofB], rfl⟩
theorem uo_0 (s : ByteArray) (w : World) (h : s.toList = [45]) : Calls Tryz.prog 59 #[.string s] w (UO [45] w) := by
  go_enter Tryz.func59, Tryz.ntmps59
  go_wp2_with fail
  go_ret
  exact ⟨rfl, _, rfl, un_0⟩
theorem uo_1 (s : ByteArray) (w : World) (h : s.toList = [126]) : Calls Tryz.prog 59 #[.string s] w (UO [126] w) := by
  go_enter Tryz.func59, Tryz.ntmps59
  go_wp2_with fail
  go_ret
  exact ⟨rfl, _, rfl, un_1⟩
theorem uo_2 (s : ByteArray) (w : World) (h : s.toList = [33]) : Calls Tryz.prog 59 #[.string s] w (UO [33] w) := by
  go_enter Tryz.func59, Tryz.ntmps59
  go_wp2_with fail
  go_ret
  exact ⟨rfl, _, rfl, un_2⟩
theorem uo_3 (s : ByteArray) (w : World) (h : s.toList = [38]) : Calls Tryz.prog 59 #[.string s] w (UO [38] w) := by
  go_enter Tryz.func59, Tryz.ntmps59
  go_wp2_with fail
  go_ret
  exact ⟨rfl, rfl⟩
theorem uo_4 (s : ByteArray) (w : World) (h : s.toList = [124]) : Calls Tryz.prog 59 #[.string s] w (UO [124] w) := by
  go_enter Tryz.func59, Tryz.ntmps59
  go_wp2_with fail
  go_ret
  exact ⟨rfl, rfl⟩
theorem uo_5 (s : ByteArray) (w : World) (h : s.toList = [94]) : Calls Tryz.prog 59 #[.string s] w (UO [94] w) := by
  go_enter Tryz.func59, Tryz.ntmps59
  go_wp2_with fail
  go_ret
  exact ⟨rfl, rfl⟩
theorem uo_6 (s : ByteArray) (w : World) (h : s.toList = [126, 38]) : Calls Tryz.prog 59 #[.string s] w (UO [126, 38] w) := by
  go_enter Tryz.func59, Tryz.ntmps59
  go_wp2_with fail
  go_ret
  exact ⟨rfl, rfl⟩
theorem uo_7 (s : ByteArray) (w : World) (h : s.toList = [126, 124]) : Calls Tryz.prog 59 #[.string s] w (UO [126, 124] w) := by
  go_enter Tryz.func59, Tryz.ntmps59
  go_wp2_with fail
  go_ret
  exact ⟨rfl, rfl⟩
theorem uo_8 (s : ByteArray) (w : World) (h : s.toList = [126, 94]) : Calls Tryz.prog 59 #[.string s] w (UO [126, 94] w) := by
  go_enter Tryz.func59, Tryz.ntmps59
  go_wp2_with fail
  go_ret
  exact ⟨rfl, rfl⟩
theorem unaryOf_t (s : ByteArray) (op : List UInt8) (w : World) (h : s.toList = op) (ho : op ∈ un9) : Calls Tryz.prog 59 #[.string s] w (UO op w) := by
  simp only [un9, List.mem_cons, List.not_mem_nil, or_false] at ho
  rcases ho with rfl | rfl | rfl | rfl | rfl | rfl | rfl | rfl | rfl
  · exact uo_0 s w h
  · exact uo_1 s w h
  · exact uo_2 s w h
  · exact uo_3 s w h
  · exact uo_4 s w h
  · exact uo_5 s w h
  · exact uo_6 s w h
  · exact uo_7 s w h
  · exact uo_8 s w h
end Go.Proofs.YtdjaikglkgabdaaGreatDoor
