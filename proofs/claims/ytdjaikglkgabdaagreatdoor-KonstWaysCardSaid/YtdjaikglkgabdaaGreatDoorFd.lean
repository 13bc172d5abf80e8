/-
  The walks of lit's withDigit and Of, and scan's contract in one.
  The walk of lit's Of.
  The walk of lit's number: the value of digits in a base.
-/
import Derived.Test.YtdjaikglkgabdaaGreatDoorFc
import Derived.Test.YtdjaikglkgabdaaGreatDoorAw
import Derived.Test.YtdjaikglkgabdaaGreatDoorWx
import Derived.Test.YtdjaikglkgabdaaGreatDoorYb
namespace Go.Proofs.YtdjaikglkgabdaaGreatDoor
open Go.RowKit
set_option maxRecDepth 100000 in
set_option maxHeartbeats 3200000 in
theorem withDigit_a (n v b d b2 d2 m r : Nat) (w : World) (hb : b ≤ 16) (hd : d ≤ 16)
    (hF : ∀ (w : World) (g : Nat), g = w.heap.size → Calls Tryz.prog 98 #[.int .i64 (n : Int), .slice (some ⟨g, 0, none⟩) 1 1] (w.alloc (.cells #[.int .u64 (b : Int)] 93)) (RV (w.alloc (.cells #[.int .u64 (b : Int)] 93)) (.tuple #[vv n b2, .int .i64 0])))
    (hL : ∀ (w : World) (g : Nat), g = w.heap.size → Calls Tryz.prog 98 #[.int .i64 (n : Int), .slice (some ⟨g, 0, none⟩) 1 1] (w.alloc (.cells #[.int .u64 (d : Int)] 93)) (RV (w.alloc (.cells #[.int .u64 (d : Int)] 93)) (.tuple #[vv n d2, .int .i64 0])))
    (hM : ∀ w, Calls Tryz.prog 112 #[.int .i64 2, vv n v, vv n b2] w (RV w (.tuple #[vv n m, .int .i64 0])))
    (hA : ∀ w, Calls Tryz.prog 112 #[.int .i64 0, vv n m, vv n d2] w (RV w (.tuple #[vv n r, .int .i64 0]))) :
    Calls Tryz.prog 100 #[vv n v, .int .i64 (b : Int), .int .i64 (d : Int)] w (RV w (vv n r)) := by
  have hW := Lib.hid (fun w => Width_v n v w)
  replace hF := Lib.hid hF
  replace hL := Lib.hid hL
  replace hM := Lib.hid hM
  replace hA := Lib.hid hA
  have eb : IntKind.u64.wrap (b : Int) = b := IntWalk.u64_in _ (by omega)
  have ed : IntKind.u64.wrap (d : Int) = d := IntWalk.u64_in _ (by omega)
  have R0 : HV 106 ((w.alloc (.cells (vcs n v) 106)).alloc (.cells (vcs 0 0) 106)) (w.heap.size + 1) 0 0 := by have h := HV.zero (w.alloc (.cells (vcs n v) 106)) 106; rw [show (w.alloc (.cells (vcs n v) 106)).heap.size = w.heap.size + 1 from by simp] at h; exact h
  go_enter Tryz.func100, Tryz.ntmps100
  go_wp2_with fail
  (with_reducible refine (hW.out _).mono ?_)
  rintro e w1 ⟨rfl, hb1⟩
  have hbw1 : Below w.heap.size w w1 := below_call hb1 (by go_grown)
  have z1 := hbw1.size
  have Vh' : HV 106 w1 (w.heap.size) n v := ((HV.new w 106 n v).alloc _).over hb1
  have Rh' : HV 106 w1 (w.heap.size + 1) 0 0 := R0.over hb1
  have Vh := Vh'
  clear Vh'
  have Va := Vh.all
  have Vl := Vh.lt
  have Rh := Rh'
  clear Rh'
  have Ra := Rh.all
  have Rl := Rh.lt
  clear hb1
  go_wp2_with fail
  (with_reducible refine (hF.out _ _ (by simp)).mono ?_)
  rintro e w2 ⟨rfl, hb2⟩
  have hbw2 : Below w.heap.size w w2 := below_call hb2 (by go_grown)
  have z2 := hbw2.size
  have Vh' : HV 106 w2 (w.heap.size) n v := (Vh.alloc _).over hb2
  have Rh' : HV 106 w2 (w.heap.size + 1) 0 0 := (Rh.alloc _).over hb2
  clear Va Vl Vh
  clear Ra Rl Rh
  have Vh := Vh'
  clear Vh'
  have Va := Vh.all
  have Vl := Vh.lt
  have Rh := Rh'
  clear Rh'
  have Ra := Rh.all
  have Rl := Rh.lt
  clear hb2
  have lt2 := Vl
  have lt2r := Rl
  go_wp2_with fail
  (with_reducible refine (hW.out _).mono ?_)
  rintro e w3 ⟨rfl, hb3⟩
  have hbw3 : Below w.heap.size w w3 := below_call hb3 (by go_grown)
  have z3 := hbw3.size
  have Vh' : HV 106 w3 (w.heap.size) n v := (Vh.alloc _).over hb3
  have Rh' : HV 106 w3 (w.heap.size + 1) 0 0 := (Rh.alloc _).over hb3
  have Fh' : HV 106 w3 (w2.heap.size) n b2 := (HV.new w2 106 n b2).over hb3
  clear Va Vl Vh
  clear Ra Rl Rh
  have Vh := Vh'
  clear Vh'
  have Va := Vh.all
  have Vl := Vh.lt
  have Rh := Rh'
  clear Rh'
  have Ra := Rh.all
  have Rl := Rh.lt
  have Fh := Fh'
  clear Fh'
  have Fa := Fh.all
  have Fl := Fh.lt
  clear hb3
  go_wp2_with fail
  (with_reducible refine (hL.out _ _ (by simp)).mono ?_)
  rintro e w4 ⟨rfl, hb4⟩
  have hbw4 : Below w.heap.size w w4 := below_call hb4 (by go_grown)
  have z4 := hbw4.size
  have Vh' : HV 106 w4 (w.heap.size) n v := (Vh.alloc _).over hb4
  have Rh' : HV 106 w4 (w.heap.size + 1) 0 0 := (Rh.alloc _).over hb4
  have Fh' : HV 106 w4 (w2.heap.size) n b2 := (Fh.alloc _).over hb4
  clear Va Vl Vh
  clear Ra Rl Rh
  clear Fa Fl Fh
  have Vh := Vh'
  clear Vh'
  have Va := Vh.all
  have Vl := Vh.lt
  have Rh := Rh'
  clear Rh'
  have Ra := Rh.all
  have Rl := Rh.lt
  have Fh := Fh'
  clear Fh'
  have Fa := Fh.all
  have Fl := Fh.lt
  clear hb4
  have lt4 := Vl
  have lt4r := Rl
  go_wp2_with fail
  (with_reducible refine (hM.out _).mono ?_)
  rintro e w5 ⟨rfl, hb5⟩
  have hbw5 : Below w.heap.size w w5 := below_call hb5 (by go_grown)
  have z5 := hbw5.size
  have Vh' : HV 106 w5 (w.heap.size) n v := (Vh.alloc _).over hb5
  have Rh' : HV 106 w5 (w.heap.size + 1) 0 0 := (Rh.alloc _).over hb5
  have Fh' : HV 106 w5 (w2.heap.size) n b2 := (Fh.alloc _).over hb5
  have Lh' : HV 106 w5 (w4.heap.size) n d2 := (HV.new w4 106 n d2).over hb5
  clear Va Vl Vh
  clear Ra Rl Rh
  clear Fa Fl Fh
  have Vh := Vh'
  clear Vh'
  have Va := Vh.all
  have Vl := Vh.lt
  have Rh := Rh'
  clear Rh'
  have Ra := Rh.all
  have Rl := Rh.lt
  have Fh := Fh'
  clear Fh'
  have Fa := Fh.all
  have Fl := Fh.lt
  have Lh := Lh'
  clear Lh'
  have La := Lh.all
  have Ll := Lh.lt
  clear hb5
  go_wp2_with fail
  (with_reducible refine (hA.out _).mono ?_)
  rintro e w6 ⟨rfl, hb6⟩
  have hbw6 : Below w.heap.size w w6 := below_call hb6 (by go_grown)
  have z6 := hbw6.size
  have Vh' : HV 106 w6 (w.heap.size) n m := (Vh.set3 n m).over hb6
  have Rh' : HV 106 w6 (w.heap.size + 1) 0 0 := (Rh.far3 (by omega)).over hb6
  have Fh' : HV 106 w6 (w2.heap.size) n b2 := (Fh.far3 (by omega)).over hb6
  have Lh' : HV 106 w6 (w4.heap.size) n d2 := (Lh.far3 (by omega)).over hb6
  clear Va Vl Vh
  clear Ra Rl Rh
  clear Fa Fl Fh
  clear La Ll Lh
  have Vh := Vh'
  clear Vh'
  have Va := Vh.all
  have Vl := Vh.lt
  have Rh := Rh'
  clear Rh'
  have Ra := Rh.all
  have Rl := Rh.lt
  have Fh := Fh'
  clear Fh'
  have Fa := Fh.all
  have Fl := Fh.lt
  have Lh := Lh'
  clear Lh'
  have La := Lh.all
  have Ll := Lh.lt
  clear hb6
  go_wp2_with fail
  refine bodyPost_ret (v := vv n r) (by simp [results, Tryz.results100, go_sem, Ra, vv]) rfl ⟨rfl, ?_⟩
  go_grown
theorem withDigit_t (n v b d : Nat) (w : World) (h0 : 1 ≤ n) (hn : n ≤ 128) (hb : b ≤ 16) (hd : d ≤ 16) :
    Calls Tryz.prog 100 #[vv n v, .int .i64 (b : Int), .int .i64 (d : Int)] w (RV w (vv n ((v * b + d) % 2 ^ n))) := by
  have h := withDigit_a n v b d (b % 2 ^ n) (d % 2 ^ n) (v * (b % 2 ^ n) % 2 ^ n) ((v * (b % 2 ^ n) % 2 ^ n + d % 2 ^ n) % 2 ^ n) w hb hd
    (fun w g hg => New_one n b w g hg h0 hn (by omega)) (fun w g hg => New_one n d w g hg h0 hn (by omega))
    (fun w => Bin_2 n v (b % 2 ^ n) w h0 hn) (fun w => Bin_0 n _ _ w h0 hn)
  have e : (v * (b % 2 ^ n) % 2 ^ n + d % 2 ^ n) % 2 ^ n = (v * b + d) % 2 ^ n := by
    rw [← Nat.add_mod, Nat.add_mod, Nat.mul_mod, Nat.mod_mod, ← Nat.mul_mod, ← Nat.add_mod]
  rw [e] at h
  exact h
end Go.Proofs.YtdjaikglkgabdaaGreatDoor
namespace Go.Proofs.YtdjaikglkgabdaaGreatDoor
open Go.RowKit
/-- The cells of a variable of five. -/
def f5 (a b c d e : Value) : Nat → Value
  | 0 => a
  | 1 => b
  | 2 => c
  | 3 => d
  | _ => e
/-- Block k of memory is a variable of five cells. -/
def H5 (t : TypeId) (w : World) (k : Nat) (a b c d e : Value) : Prop := w.rowIs k t 5 (f5 a b c d e)
section
variable {t : TypeId} {w w' : World} {k : Nat} {a b c d e : Value}
theorem H5.all (h : H5 t w k a b c d e) : w.cell? ⟨k, 0, none⟩ = some a ∧ w.cell? ⟨k, 1, none⟩ = some b ∧ w.cell? ⟨k, 2, none⟩ = some c ∧ w.cell? ⟨k, 3, none⟩ = some d ∧ w.cell? ⟨k, 4, none⟩ = some e ∧ ∀ i, w.frozen? ⟨k, i, none⟩ = false :=
  ⟨World.rowIs.cell h (i := 0) (by decide), World.rowIs.cell h (i := 1) (by decide), World.rowIs.cell h (i := 2) (by decide), World.rowIs.cell h (i := 3) (by decide), World.rowIs.cell h (i := 4) (by decide), World.rowIs.frozen h⟩
theorem H5.lt (h : H5 t w k a b c d e) : k < w.heap.size := World.rowIs.lt h
theorem H5.over (h : H5 t w k a b c d e) (hb : Below w.heap.size w w') : H5 t w' k a b c d e := World.rowIs.of_block h (hb.block k h.lt)
theorem H5.alloc (h : H5 t w k a b c d e) (o : Obj) : H5 t (w.alloc o) k a b c d e := World.rowIs.alloc h o
theorem H5.new (w : World) (t : TypeId) (a b c d e : Value) : H5 t (w.alloc (.cells #[a, b, c, d, e] t)) w.heap.size a b c d e := by
  refine ⟨_, heap_alloc_new w _, rfl, fun i hi => ?_⟩
  match i, hi with
  | 0, _ => rfl
  | 1, _ => rfl
  | 2, _ => rfl
  | 3, _ => rfl
  | 4, _ => rfl
end
/-- A number of lit: width, value, signed?, sized? -/
def lv (n x : Nat) (sg sz : Bool) : Value := .agg #[.int .i64 (n : Int), .int .u64 ((lo x : Nat) : Int), .int .u64 ((hi x : Nat) : Int), .bool sg, .bool sz]
set_option maxRecDepth 100000 in
set_option maxHeartbeats 3200000 in
theorem Of_bad1 (n : Int) (w : World) (h : n < 0) :
    Calls Tryz.prog 69 #[.int .i64 n] w (RV w (.tuple #[lv 0 0 false false, .int .i64 3])) := by
  go_enter Tryz.func69, Tryz.ntmps69
  go_wp2_with fail
  refine bodyPost_ret (v := .tuple #[lv 0 0 false false, .int .i64 3]) (by simp [results, Tryz.results69, go_sem, lv, lo, hi]) rfl ⟨rfl, ?_⟩
  go_grown
set_option maxRecDepth 100000 in
set_option maxHeartbeats 3200000 in
theorem Of_bad2 (n : Int) (w : World) (h : 2147483648 ≤ n) :
    Calls Tryz.prog 69 #[.int .i64 n] w (RV w (.tuple #[lv 0 0 false false, .int .i64 3])) := by
  have h0 : ¬ n < 0 := by omega
  go_enter Tryz.func69, Tryz.ntmps69
  go_wp2_with fail
  refine bodyPost_ret (v := .tuple #[lv 0 0 false false, .int .i64 3]) (by simp [results, Tryz.results69, go_sem, lv, lo, hi]) rfl ⟨rfl, ?_⟩
  go_grown
set_option maxRecDepth 100000 in
set_option maxHeartbeats 3200000 in
theorem Of_good (n : Nat) (w : World) (h : n < 2147483648) :
    Calls Tryz.prog 69 #[.int .i64 (n : Int)] w (RV w (.tuple #[lv 32 n true false, .int .i64 0])) := by
  have h0 : ¬ (n : Int) < 0 := by omega
  have h1 : ¬ (2147483648 : Int) ≤ (n : Int) := by omega
  have hN : ∀ (w : World) (g : Nat), g = w.heap.size → Calls Tryz.prog 98 #[.int .i64 32, .slice (some ⟨g, 0, none⟩) 1 1] (w.alloc (.cells #[.int .u64 (n : Int)] 93)) (RV (w.alloc (.cells #[.int .u64 (n : Int)] 93)) (.tuple #[vv 32 n, .int .i64 0])) := fun w g hg => by
    have h := New_one 32 n w g hg (by decide) (by decide) (by omega)
    rw [Nat.mod_eq_of_lt (by omega)] at h
    exact h
  replace hN := Lib.hid hN
  have en : IntKind.u64.wrap (n : Int) = n := IntWalk.u64_in _ (by omega)
  go_enter Tryz.func69, Tryz.ntmps69
  go_wp2_with fail
  (with_reducible refine (hN.out _ _ (by simp)).mono ?_)
  rintro e w1 ⟨rfl, hb1⟩
  have hbw1 : Below w.heap.size w w1 := below_call hb1 (by go_grown)
  have z1 := hbw1.size
  have Rh := ((H5.new w 108 (.int .i64 0) (.int .u64 0) (.int .u64 0) (.bool false) (.bool false)).alloc (.cells #[.int .u64 (n : Int)] 93)).over hb1
  have Ra := Rh.all
  have Rl := Rh.lt
  clear hb1 Rh
  go_wp2_with fail
  refine bodyPost_ret (v := .tuple #[lv 32 n true false, .int .i64 0]) (by simp [results, Tryz.results69, go_sem, lv, Ra, Rl]) rfl ⟨rfl, ?_⟩
  go_grown
end Go.Proofs.YtdjaikglkgabdaaGreatDoor
namespace Go.Proofs.YtdjaikglkgabdaaGreatDoor
open Go.RowKit
/-- The number in the first k bytes of digits in the base b, modulo 2 to the n. -/
def numF (s : ByteArray) (b n : Nat) : Nat → Nat
  | 0 => 0
  | k + 1 => if bt s k = 95 then numF s b n k else (numF s b n k * b + digV (bt s k)) % 2 ^ n
set_option maxRecDepth 100000 in
set_option maxHeartbeats 1600000 in
theorem number_bad (s : ByteArray) (b n : Int) (w : World) (h : n < 1 ∨ 128 < n) :
    Calls Tryz.prog 71 #[.string s, .int .i64 b, .int .i64 n] w (RV w (.tuple #[vv 0 0, .int .i64 2])) := by
  have hN := Lib.hid (fun w => New_bad n 0 0 none w h)
  clear h
  go_enter Tryz.func71, Tryz.ntmps71
  go_wp2_with (go_at_call 98; (with_reducible refine (hN.out _).mono ?_); rintro e w1 ⟨rfl, hb1⟩; have Rh := (HV.zero w 106).over hb1; have Ra := Rh.all; have Rl := Rh.lt; have hbw1 : Below w.heap.size w w1 := below_call hb1 (by go_grown); clear hb1 Rh)
  refine bodyPost_ret (v := .tuple #[vv 0 0, .int .i64 2]) (by simp [results, Tryz.results71, go_sem, Ra, Rl, vv, lo, hi]) rfl ⟨rfl, ?_⟩
  go_grown
set_option maxRecDepth 100000 in
set_option maxHeartbeats 3200000 in
theorem number_good (s : ByteArray) (b n : Nat) (w : World) (hs : s.size ≤ maxLen) (hb16 : b ≤ 16) (h1 : 1 ≤ n) (hn : n ≤ 128) :
    Calls Tryz.prog 71 #[.string s, .int .i64 (b : Int), .int .i64 (n : Int)] w (RV w (.tuple #[vv n (numF s b n s.size), .int .i64 0])) := by
  unfold maxLen at hs
  have hN := Lib.hid (fun w => New_none n w h1 hn)
  go_enter Tryz.func71, Tryz.ntmps71
  go_wp2_with (go_at_call 98; (with_reducible refine (hN.out _).mono ?_); rintro e w1 ⟨rfl, hb1⟩; have Z1 := ((HV.zero w 106).over hb1); have z1l := Z1.lt; have hbw1 : Below w.heap.size w w1 := below_call hb1 (by go_grown); clear hb1)
  go_loopw [22] (fun i wr => ∃ k : Nat, k ≤ s.size ∧ i = .int .i64 (k : Int) ∧ HV 106 wr w.heap.size 0 0 ∧ HV 106 wr w1.heap.size n (numF s b n k) ∧ Below w.heap.size w wr) (fun i _ => s.size - (intOf i).toNat)
  case atStart => exact ⟨0, Nat.zero_le _, rfl, Z1.alloc _, HV.new w1 106 n 0, by go_grown⟩
  case round =>
    obtain ⟨k, hk, rfl, Z2, V2, hbw2⟩ := hrel
    have va := V2.all
    have vl := V2.lt
    have zl := Z2.lt
    by_cases hlt : k < s.size
    · have hbt := bt_at s k hlt
      have hd := digV_le (bt s k)
      have hl := bt_lt s k
      have hn1 : numF s b n (k + 1) = if bt s k = 95 then numF s b n k else (numF s b n k * b + digV (bt s k)) % 2 ^ n := rfl
      by_cases h3 : bt s k = 95
      · rw [if_pos h3] at hn1
        have u1 : (((bt s k : Nat) : Int) != 95) = false := by simp [h3]
        have u2 : ((bt s k) != 95) = false := by simp [h3]
        have E := Lib.hid hn1
        clear hn1 h3 hd
        generalize bt s k = c at *
        go_wp2_with fail
        go_round
        case rel => exact ⟨k + 1, by omega, by go_num, Z2, by rw [E.out]; exact V2, hbw2⟩
        case measure => simp [intOf]; omega
      · rw [if_neg h3] at hn1
        have u1 : (((bt s k : Nat) : Int) != 95) = true := by simp; omega
        have u2 : ((bt s k) != 95) = true := by simp; omega
        have cD := Lib.hid (fun w => digitOf_t (bt s k) w hl)
        have cW := fun w => withDigit_t n (numF s b n k) b (digV (bt s k)) w h1 hn hb16 hd
        rw [← hn1] at cW
        obtain ⟨y, hy⟩ : ∃ y, numF s b n (k + 1) = y := ⟨_, rfl⟩
        rw [hy] at cW
        clear hn1 h3 hd
        replace cW := Lib.hid cW
        generalize digV (bt s k) = dv at *
        replace hy := Lib.hid hy
        generalize numF s b n k = x at *
        generalize bt s k = c at *
        go_wp2_with fail
        refine region_anyT (n := 7) (S := fun w' => w'.cell? ⟨w1.heap.size, 0, none⟩ = some (.int .i64 (n : Int)) ∧ w'.cell? ⟨w1.heap.size, 1, none⟩ = some (.int .u64 ((lo x : Nat) : Int)) ∧ w'.cell? ⟨w1.heap.size, 2, none⟩ = some (.int .u64 ((hi x : Nat) : Int))) (by kernel_rfl) ?_
        refine anyT_take (i := 0) (v := vv n x) rfl (by kernel_rfl) (by kernel_rfl) (fun _ _ _ h => h) (Or.inl ⟨by rfl, ?_⟩) V2.drew.keep3 ?_
        · intro wq hS
          obtain ⟨s0, s1, s2⟩ := hS
          go_simp
          try with_reducible rfl
        try simp only [Act.put, List.getElem_toArray, List.getElem_cons_zero, List.setIfInBounds_toArray, List.set_cons_zero, List.set_cons_succ]
        refine anyT_take (i := 1) (v := .int .i64 (b : Int)) rfl (by kernel_rfl) (by kernel_rfl) (fun _ _ _ h => h) (Or.inl ⟨by rfl, ?_⟩) V2.drew.keep3 ?_
        · intro wq hS
          obtain ⟨s0, s1, s2⟩ := hS
          go_simp
          try with_reducible rfl
        try simp only [Act.put, List.getElem_toArray, List.getElem_cons_zero, List.getElem_cons_succ, List.setIfInBounds_toArray, List.set_cons_zero, List.set_cons_succ]
        refine anyT_take (i := 2) (v := .string s) rfl (by kernel_rfl) (by kernel_rfl) (fun _ _ _ h => h) (Or.inl ⟨by rfl, ?_⟩) V2.drew.keep3 ?_
        · intro wq hS
          obtain ⟨s0, s1, s2⟩ := hS
          go_simp
          try with_reducible rfl
        try simp only [Act.put, List.getElem_toArray, List.getElem_cons_zero, List.getElem_cons_succ, List.setIfInBounds_toArray, List.set_cons_zero, List.set_cons_succ]
        refine anyT_take (i := 3) (v := .int .i64 (k : Int)) rfl (by kernel_rfl) (by kernel_rfl) (fun _ _ _ h => h) (Or.inl ⟨by rfl, ?_⟩) V2.drew.keep3 ?_
        · intro wq hS
          obtain ⟨s0, s1, s2⟩ := hS
          go_simp
          try with_reducible rfl
        try simp only [Act.put, List.getElem_toArray, List.getElem_cons_zero, List.getElem_cons_succ, List.setIfInBounds_toArray, List.set_cons_zero, List.set_cons_succ]
        refine anyT_take (i := 4) (v := .int .u8 (c : Int)) rfl (by kernel_rfl) (by kernel_rfl) (fun _ _ _ h => h) (Or.inl ⟨by rfl, ?_⟩) V2.drew.keep3 ?_
        · intro wq hS
          obtain ⟨s0, s1, s2⟩ := hS
          go_simp
          try with_reducible rfl
        try simp only [Act.put, List.getElem_toArray, List.getElem_cons_zero, List.getElem_cons_succ, List.setIfInBounds_toArray, List.set_cons_zero, List.set_cons_succ]
        refine anyT_one (i := 5) (by kernel_rfl) ?_
        refine wpOp_step rfl (fun K hK => ?_)
        replace hK := Lib.hid hK
        go_simp
        (with_reducible refine (cD.out _).mono ?_)
        rintro e w3 ⟨rfl, hw3⟩
        subst hw3
        refine hK.out _ _ ⟨fun _ => V2.drew.keep3, ?_⟩
        clear hK K
        try simp only [Act.put, List.getElem_toArray, List.getElem_cons_zero, List.getElem_cons_succ, List.setIfInBounds_toArray, List.set_cons_zero, List.set_cons_succ]
        refine anyT_one (i := 6) (by kernel_rfl) ?_
        refine wpOp_step rfl (fun K hK => ?_)
        replace hK := Lib.hid hK
        go_simp
        (with_reducible refine (cW.out _).mono ?_)
        rintro e w3 ⟨rfl, hb3⟩
        have V3 := V2.drew.over hb3
        have Z3 := Z2.drew.over hb3
        have hbw3 : Below w.heap.size w w3 := below_call hb3 hbw2.drew
        have v3a := V3.all
        have v3l := V3.lt
        have z3l := Z3.lt
        refine hK.out _ _ ⟨fun _ => V3.keep3, ?_⟩
        clear hK K hb3 va vl
        try simp only [Act.put, List.getElem_toArray, List.getElem_cons_zero, List.getElem_cons_succ, List.setIfInBounds_toArray, List.set_cons_zero, List.set_cons_succ]
        refine anyT_one (i := 7) (by kernel_rfl) ?_
        refine wpOp_step rfl (fun K hK => ?_)
        replace hK := Lib.hid hK
        go_simp
        refine hK.out _ _ ⟨fun h => absurd h (by omega), ?_⟩
        clear hK K
        try simp only [Act.put, List.getElem_toArray, List.getElem_cons_zero, List.getElem_cons_succ, List.setIfInBounds_toArray, List.set_cons_zero, List.set_cons_succ]
        refine anyT_done (by kernel_rfl) ?_ _
        go_wp2_with fail
        go_round
        case rel => exact ⟨k + 1, by omega, by go_num, Z3.far3 (by omega), by rw [hy.out]; exact V3.set3 n y, by go_grown⟩
        case measure => simp [intOf]; omega
    · obtain rfl : k = s.size := by omega
      have za := Z2.all
      go_wp2_with fail
      refine bodyPost_ret (v := .tuple #[vv n (numF s b n s.size), .int .i64 0]) (by simp [results, Tryz.results71, go_sem, za, vv]) rfl ⟨rfl, ?_⟩
      go_grown
end Go.Proofs.YtdjaikglkgabdaaGreatDoor
