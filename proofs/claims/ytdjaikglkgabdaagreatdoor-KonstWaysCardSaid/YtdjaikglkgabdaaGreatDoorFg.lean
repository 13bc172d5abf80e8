/-
  The walk of lit's Parse.
  lit's Parse: what it returns, for any text.
  Arithmetic of a literal's parts: the digits' run of a part of a text, the number of decimal digits, the first apostrophe. Nothing here is walked.
  The walks of lit's negative and Int.
-/
import Derived.Test.YtdjaikglkgabdaaGreatDoorFd
import Derived.Test.YtdjaikglkgabdaaGreatDoorWp
import Derived.Test.YtdjaikglkgabdaaGreatDoorWv
namespace Go.Proofs.YtdjaikglkgabdaaGreatDoor
open Go.RowKit
set_option maxRecDepth 100000 in
set_option maxHeartbeats 3200000 in
theorem Parse_err (s : ByteArray) (e : Int) (w : World) (he : e ≠ 0)
    (hS : ∀ w, Calls Tryz.prog 68 #[.string s] w (RV w (pv ⟨#[]⟩ ⟨#[]⟩ 0 false false e))) :
    Calls Tryz.prog 57 #[.string s] w (RV w (.tuple #[lv 0 0 false false, .int .i64 e])) := by
  have e1 : (e != 0) = true := by simp [he]
  clear he
  unfold pv at hS
  replace hS := Lib.hid hS
  go_enter Tryz.func57, Tryz.ntmps57
  go_wp2_with fail
  (with_reducible refine (hS.out _).mono ?_)
  rintro e w1 ⟨rfl, hb1⟩
  have Rh := (H5.new w 108 (.int .i64 0) (.int .u64 0) (.int .u64 0) (.bool false) (.bool false)).over hb1
  have Ra := Rh.all
  have Rl := Rh.lt
  have hbw1 : Below w.heap.size w w1 := below_call hb1 (by go_grown)
  have z1 := hbw1.size
  clear hb1
  go_wp2_with fail
  refine bodyPost_ret (v := .tuple #[lv 0 0 false false, .int .i64 e]) (by simp [results, Tryz.results57, go_sem, Ra, Rl, lv, lo, hi]) rfl ⟨rfl, ?_⟩
  go_grown
set_option maxRecDepth 100000 in
set_option maxHeartbeats 3200000 in
theorem Parse_plain (s : ByteArray) (c : Nat) (n x : Nat) (a : Bool) (e : Int) (w : World)
    (hS : ∀ w, Calls Tryz.prog 68 #[.string s] w (RV w (pv ⟨#[]⟩ s 0 false false 0)))
    (hC : ∀ w, Calls Tryz.prog 70 #[.string s, .int .i64 2147483648] w fun e w' => e = .returned (.int .i64 (c : Int)) ∧ w' = w)
    (hO : ∀ w, Calls Tryz.prog 69 #[.int .i64 (c : Int)] w (RV w (.tuple #[lv n x a false, .int .i64 e]))) :
    Calls Tryz.prog 57 #[.string s] w (RV w (.tuple #[lv n x a false, .int .i64 e])) := by
  unfold pv at hS
  replace hS := Lib.hid hS
  replace hC := Lib.hid hC
  unfold lv at hO
  replace hO := Lib.hid hO
  go_enter Tryz.func57, Tryz.ntmps57
  go_wp2_with fail
  (with_reducible refine (hS.out _).mono ?_)
  rintro e w1 ⟨rfl, hb1⟩
  have Rh := (H5.new w 108 (.int .i64 0) (.int .u64 0) (.int .u64 0) (.bool false) (.bool false)).over hb1
  have Ra := Rh.all
  have Rl := Rh.lt
  have hbw1 : Below w.heap.size w w1 := below_call hb1 (by go_grown)
  have z1 := hbw1.size
  clear hb1
  have P1 := H5.new w1 124 (.string ⟨#[]⟩) (.string s) (.int .i64 ((0 : Nat) : Int)) (.bool false) (.bool false)
  go_wp2_with fail
  (with_reducible refine (hC.out _).mono ?_)
  rintro e w' ⟨rfl, hw'⟩
  subst hw'
  go_wp2_with fail
  (with_reducible refine (hO.out _).mono ?_)
  rintro e w2 ⟨rfl, hb2⟩
  have R2 := (Rh.alloc _).over hb2
  have hbw2 : Below w.heap.size w w2 := below_call hb2 (by go_grown)
  have r2 := R2.all
  clear Rh Ra Rl P1 hb2
  go_wp2_with fail
  refine bodyPost_ret (v := .tuple #[lv n x a false, .int .i64 e]) (by simp [results, Tryz.results57, go_sem, r2, lv]) rfl ⟨rfl, ?_⟩
  go_grown
set_option maxRecDepth 100000 in
set_option maxHeartbeats 3200000 in
theorem Parse_none_bad (s dg : ByteArray) (b : Nat) (sg : Bool) (w : World)
    (hS : ∀ w, Calls Tryz.prog 68 #[.string s] w (RV w (pv ⟨#[]⟩ dg b true sg 0)))
    (hN : ∀ w, Calls Tryz.prog 71 #[.string dg, .int .i64 (b : Int), .int .i64 32] w (RV w (.tuple #[vv 0 0, .int .i64 2]))) :
    Calls Tryz.prog 57 #[.string s] w (RV w (.tuple #[lv 0 0 false false, .int .i64 2])) := by
  unfold pv at hS
  replace hS := Lib.hid hS
  replace hN := Lib.hid hN
  go_enter Tryz.func57, Tryz.ntmps57
  go_wp2_with fail
  (with_reducible refine (hS.out _).mono ?_)
  rintro e w1 ⟨rfl, hb1⟩
  have Rh := (H5.new w 108 (.int .i64 0) (.int .u64 0) (.int .u64 0) (.bool false) (.bool false)).over hb1
  have Ra := Rh.all
  have Rl := Rh.lt
  have hbw1 : Below w.heap.size w w1 := below_call hb1 (by go_grown)
  have z1 := hbw1.size
  clear hb1
  have P1 := H5.new w1 124 (.string ⟨#[]⟩) (.string dg) (.int .i64 (b : Int)) (.bool true) (.bool sg)
  go_wp2_with fail
  (with_reducible refine (hN.out _).mono ?_)
  rintro e w2 ⟨rfl, hb2⟩
  have R2 := (Rh.alloc _).over hb2
  have P2 := P1.over hb2
  have hbw2 : Below w.heap.size w w2 := below_call hb2 (by go_grown)
  have r2 := R2.all
  have r2l := R2.lt
  have p2 := P2.all
  have p2l := P2.lt
  clear Rh Ra Rl P1 hb2
  go_wp2_with fail
  refine bodyPost_ret (v := .tuple #[lv 0 0 false false, .int .i64 2]) (by simp [results, Tryz.results57, go_sem, r2, r2l, lv, lo, hi]) rfl ⟨rfl, ?_⟩
  go_grown
set_option maxRecDepth 100000 in
set_option maxHeartbeats 3200000 in
theorem Parse_none_ok (s dg : ByteArray) (b : Nat) (sg : Bool) (x : Nat) (w : World)
    (hS : ∀ w, Calls Tryz.prog 68 #[.string s] w (RV w (pv ⟨#[]⟩ dg b true sg 0)))
    (hN : ∀ w, Calls Tryz.prog 71 #[.string dg, .int .i64 (b : Int), .int .i64 32] w (RV w (.tuple #[vv 32 x, .int .i64 0]))) :
    Calls Tryz.prog 57 #[.string s] w (RV w (.tuple #[lv 32 x sg false, .int .i64 0])) := by
  unfold pv at hS
  replace hS := Lib.hid hS
  replace hN := Lib.hid hN
  go_enter Tryz.func57, Tryz.ntmps57
  go_wp2_with fail
  (with_reducible refine (hS.out _).mono ?_)
  rintro e w1 ⟨rfl, hb1⟩
  have Rh := (H5.new w 108 (.int .i64 0) (.int .u64 0) (.int .u64 0) (.bool false) (.bool false)).over hb1
  have Ra := Rh.all
  have Rl := Rh.lt
  have hbw1 : Below w.heap.size w w1 := below_call hb1 (by go_grown)
  have z1 := hbw1.size
  clear hb1
  have P1 := H5.new w1 124 (.string ⟨#[]⟩) (.string dg) (.int .i64 (b : Int)) (.bool true) (.bool sg)
  go_wp2_with fail
  (with_reducible refine (hN.out _).mono ?_)
  rintro e w2 ⟨rfl, hb2⟩
  have R2 := (Rh.alloc _).over hb2
  have P2 := P1.over hb2
  have hbw2 : Below w.heap.size w w2 := below_call hb2 (by go_grown)
  have r2 := R2.all
  have r2l := R2.lt
  have p2 := P2.all
  have p2l := P2.lt
  clear Rh Ra Rl P1 hb2
  go_wp2_with fail
  refine bodyPost_ret (v := .tuple #[lv 32 x sg false, .int .i64 0]) (by simp [results, Tryz.results57, go_sem, r2, r2l, lv]) rfl ⟨rfl, ?_⟩
  go_grown
set_option maxRecDepth 100000 in
set_option maxHeartbeats 3200000 in
theorem Parse_some_bad (s dg wd : ByteArray) (b : Nat) (sg : Bool) (n : Nat) (w : World) (hw : 0 < wd.size)
    (hS : ∀ w, Calls Tryz.prog 68 #[.string s] w (RV w (pv wd dg b true sg 0)))
    (hC : ∀ w, Calls Tryz.prog 70 #[.string wd, .int .i64 129] w fun e w' => e = .returned (.int .i64 (n : Int)) ∧ w' = w)
    (hN : ∀ w, Calls Tryz.prog 71 #[.string dg, .int .i64 (b : Int), .int .i64 (n : Int)] w (RV w (.tuple #[vv 0 0, .int .i64 2]))) :
    Calls Tryz.prog 57 #[.string s] w (RV w (.tuple #[lv 0 0 false false, .int .i64 2])) := by
  obtain ⟨q1, q2⟩ := nemp wd hw
  clear hw
  replace hC := Lib.hid hC
  unfold pv at hS
  replace hS := Lib.hid hS
  replace hN := Lib.hid hN
  go_enter Tryz.func57, Tryz.ntmps57
  go_wp2_with fail
  (with_reducible refine (hS.out _).mono ?_)
  rintro e w1 ⟨rfl, hb1⟩
  have Rh := (H5.new w 108 (.int .i64 0) (.int .u64 0) (.int .u64 0) (.bool false) (.bool false)).over hb1
  have Ra := Rh.all
  have Rl := Rh.lt
  have hbw1 : Below w.heap.size w w1 := below_call hb1 (by go_grown)
  have z1 := hbw1.size
  clear hb1
  have P1 := H5.new w1 124 (.string wd) (.string dg) (.int .i64 (b : Int)) (.bool true) (.bool sg)
  go_wp2_with fail
  (with_reducible refine (hC.out _).mono ?_)
  rintro e w' ⟨rfl, hw'⟩
  subst hw'
  go_wp2_with fail
  (with_reducible refine (hN.out _).mono ?_)
  rintro e w2 ⟨rfl, hb2⟩
  have R2 := (Rh.alloc _).over hb2
  have P2 := P1.over hb2
  have hbw2 : Below w.heap.size w w2 := below_call hb2 (by go_grown)
  have r2 := R2.all
  have r2l := R2.lt
  have p2 := P2.all
  have p2l := P2.lt
  clear Rh Ra Rl P1 hb2
  go_wp2_with fail
  refine bodyPost_ret (v := .tuple #[lv 0 0 false false, .int .i64 2]) (by simp [results, Tryz.results57, go_sem, r2, r2l, lv, lo, hi]) rfl ⟨rfl, ?_⟩
  go_grown
set_option maxRecDepth 100000 in
set_option maxHeartbeats 3200000 in
theorem Parse_some_ok (s dg wd : ByteArray) (b : Nat) (sg : Bool) (n : Nat) (x : Nat) (w : World) (hw : 0 < wd.size)
    (hS : ∀ w, Calls Tryz.prog 68 #[.string s] w (RV w (pv wd dg b true sg 0)))
    (hC : ∀ w, Calls Tryz.prog 70 #[.string wd, .int .i64 129] w fun e w' => e = .returned (.int .i64 (n : Int)) ∧ w' = w)
    (hN : ∀ w, Calls Tryz.prog 71 #[.string dg, .int .i64 (b : Int), .int .i64 (n : Int)] w (RV w (.tuple #[vv n x, .int .i64 0]))) :
    Calls Tryz.prog 57 #[.string s] w (RV w (.tuple #[lv n x sg true, .int .i64 0])) := by
  obtain ⟨q1, q2⟩ := nemp wd hw
  clear hw
  replace hC := Lib.hid hC
  unfold pv at hS
  replace hS := Lib.hid hS
  replace hN := Lib.hid hN
  go_enter Tryz.func57, Tryz.ntmps57
  go_wp2_with fail
  (with_reducible refine (hS.out _).mono ?_)
  rintro e w1 ⟨rfl, hb1⟩
  have Rh := (H5.new w 108 (.int .i64 0) (.int .u64 0) (.int .u64 0) (.bool false) (.bool false)).over hb1
  have Ra := Rh.all
  have Rl := Rh.lt
  have hbw1 : Below w.heap.size w w1 := below_call hb1 (by go_grown)
  have z1 := hbw1.size
  clear hb1
  have P1 := H5.new w1 124 (.string wd) (.string dg) (.int .i64 (b : Int)) (.bool true) (.bool sg)
  go_wp2_with fail
  (with_reducible refine (hC.out _).mono ?_)
  rintro e w' ⟨rfl, hw'⟩
  subst hw'
  go_wp2_with fail
  (with_reducible refine (hN.out _).mono ?_)
  rintro e w2 ⟨rfl, hb2⟩
  have R2 := (Rh.alloc _).over hb2
  have P2 := P1.over hb2
  have hbw2 : Below w.heap.size w w2 := below_call hb2 (by go_grown)
  have r2 := R2.all
  have r2l := R2.lt
  have p2 := P2.all
  have p2l := P2.lt
  clear Rh Ra Rl P1 hb2
  go_wp2_with fail
  refine bodyPost_ret (v := .tuple #[lv n x sg true, .int .i64 0]) (by simp [results, Tryz.results57, go_sem, r2, r2l, lv]) rfl ⟨rfl, ?_⟩
  go_grown
end Go.Proofs.YtdjaikglkgabdaaGreatDoor
namespace Go.Proofs.YtdjaikglkgabdaaGreatDoor
open Go.RowKit
/-- What Parse returns: width, value, signed?, sized?, the error. -/
structure PR where
  n : Nat
  x : Nat
  sg : Bool
  sz : Bool
  e : Int
def badP (e : Int) : PR := ⟨0, 0, false, false, e⟩
def PR.val (p : PR) : Value := .tuple #[lv p.n p.x p.sg p.sz, .int .i64 p.e]
/-- Behind the base's letter's place: the text t begins with the letter. -/
def tlV (s : ByteArray) (h : Nat) (sg : Bool) (t : ByteArray) : PR :=
  if t.size = 0 then badP 6
  else if baseV (bt t 0) = 0 then badP 5
  else if (t.extract 1 t.size).size = 0 then badP 6
  else if dA (t.extract 1 t.size) (baseV (bt t 0)) < (t.extract 1 t.size).size then badP 5
  else if h = 0 then ⟨32, numF (t.extract 1 t.size) (baseV (bt t 0)) 32 (t.extract 1 t.size).size, sg, false, 0⟩
  else if 1 ≤ capF (s.extract 0 h) 129 (s.extract 0 h).size ∧ capF (s.extract 0 h) 129 (s.extract 0 h).size ≤ 128 then
    ⟨capF (s.extract 0 h) 129 (s.extract 0 h).size, numF (t.extract 1 t.size) (baseV (bt t 0)) (capF (s.extract 0 h) 129 (s.extract 0 h).size) (t.extract 1 t.size).size, sg, true, 0⟩
  else badP 2
/-- Behind the apostrophe. -/
def bhV (s : ByteArray) (h : Nat) (r : ByteArray) : PR :=
  if r.size = 0 then badP 6
  else if bt r 0 = 115 ∨ bt r 0 = 83 then tlV s h true (r.extract 1 r.size) else tlV s h false r
/-- Of a text. -/
def paV (s : ByteArray) : PR :=
  if dA s 10 = s.size then
    if s.size = 0 then badP 6
    else if capF s 2147483648 s.size < 2147483648 then ⟨32, capF s 2147483648 s.size, true, false, 0⟩ else badP 3
  else if bt s (dA s 10) = 39 then bhV s (dA s 10) (s.extract (dA s 10 + 1) s.size) else badP 5
theorem baseV_le (c : Nat) : baseV c ≤ 16 := by unfold baseV; (repeat' split) <;> omega
theorem Parse_tail (s : ByteArray) (w : World) (h : Nat) (sg : Bool) (t : ByteArray) (hs : s.size ≤ maxLen) (hl : h < s.size) (ht : t.size ≤ maxLen)
    (e1 : t.size = 0 → ∀ w, Calls Tryz.prog 68 #[.string s] w (RV w (pv ⟨#[]⟩ ⟨#[]⟩ 0 false false 6)))
    (e2 : 0 < t.size → baseV (bt t 0) = 0 → ∀ w, Calls Tryz.prog 68 #[.string s] w (RV w (pv ⟨#[]⟩ ⟨#[]⟩ 0 false false 5)))
    (e3 : 0 < t.size → ∀ b, baseV (bt t 0) = b → 0 < b → b ≤ 16 → ∀ d, t.extract 1 t.size = d → d.size = 0 → ∀ w, Calls Tryz.prog 68 #[.string s] w (RV w (pv ⟨#[]⟩ ⟨#[]⟩ 0 false false 6)))
    (e4 : 0 < t.size → ∀ b, baseV (bt t 0) = b → 0 < b → b ≤ 16 → ∀ d, t.extract 1 t.size = d → 0 < d.size → dA d b < d.size → ∀ w, Calls Tryz.prog 68 #[.string s] w (RV w (pv ⟨#[]⟩ ⟨#[]⟩ 0 false false 5)))
    (e5 : 0 < t.size → ∀ b, baseV (bt t 0) = b → 0 < b → b ≤ 16 → ∀ d, t.extract 1 t.size = d → 0 < d.size → dA d b = d.size → ∀ w, Calls Tryz.prog 68 #[.string s] w (RV w (pv (s.extract 0 h) d b true sg 0))) :
    Calls Tryz.prog 57 #[.string s] w (RV w (tlV s h sg t).val) := by
  unfold tlV
  by_cases c1 : t.size = 0
  · rw [if_pos c1]; exact Parse_err s 6 w (by decide) (e1 c1)
  rw [if_neg c1]
  have p1 : 0 < t.size := by omega
  have hb16 := baseV_le (bt t 0)
  obtain ⟨b, hb⟩ : ∃ b, baseV (bt t 0) = b := ⟨_, rfl⟩
  rw [hb] at hb16 ⊢
  by_cases c2 : b = 0
  · rw [if_pos c2]; exact Parse_err s 5 w (by decide) (e2 p1 (hb.trans c2))
  rw [if_neg c2]
  obtain ⟨d, hd⟩ : ∃ d, t.extract 1 t.size = d := ⟨_, rfl⟩
  have hds : d.size ≤ maxLen := by rw [← hd]; unfold maxLen at *; simp; omega
  rw [hd]
  by_cases c3 : d.size = 0
  · rw [if_pos c3]; exact Parse_err s 6 w (by decide) (e3 p1 b hb (by omega) hb16 d hd c3)
  rw [if_neg c3]
  by_cases c4 : dA d b < d.size
  · rw [if_pos c4]; exact Parse_err s 5 w (by decide) (e4 p1 b hb (by omega) hb16 d hd (by omega) c4)
  rw [if_neg c4]
  have hS := e5 p1 b hb (by omega) hb16 d hd (by omega) (by have := dA_le d b; omega)
  clear e1 e2 e3 e4 e5
  by_cases c5 : h = 0
  · rw [if_pos c5]
    subst c5
    have ew : s.extract 0 0 = ⟨#[]⟩ := by simp; rfl
    rw [ew] at hS
    exact Parse_none_ok s d b sg _ w hS (fun w => number_good d b 32 w hds hb16 (by decide) (by decide))
  rw [if_neg c5]
  have hws : (s.extract 0 h).size = h := by simp; omega
  obtain ⟨wd, hwd⟩ : ∃ wd, s.extract 0 h = wd := ⟨_, rfl⟩
  rw [hwd] at hS hws ⊢
  have hC := fun w => capped_t wd 129 w (by unfold maxLen at *; omega) (by decide)
  generalize capF wd 129 wd.size = n at *
  by_cases c6 : 1 ≤ n ∧ n ≤ 128
  · rw [if_pos c6]
    exact Parse_some_ok s d wd b sg n _ w (by omega) hS hC (fun w => number_good d b n w hds hb16 c6.1 c6.2)
  · rw [if_neg c6]
    exact Parse_some_bad s d wd b sg n w (by omega) hS hC (fun w => number_bad d b n w (by omega))
theorem Parse_t (s : ByteArray) (w : World) (hs : s.size ≤ maxLen) : Calls Tryz.prog 57 #[.string s] w (RV w (paV s).val) := by
  unfold paV
  have hle := dA_le s 10
  obtain ⟨h, hh⟩ : ∃ h, dA s 10 = h := ⟨_, rfl⟩
  rw [hh] at hle ⊢
  by_cases c1 : h = s.size
  · rw [if_pos c1]
    by_cases c2 : s.size = 0
    · rw [if_pos c2]; exact Parse_err s 6 w (by decide) (fun w => scan_end s w hs c2)
    · rw [if_neg c2]
      have hS := fun w => scan_plain s w hs (by omega) (hh.trans c1)
      have hC := fun w => capped_t s 2147483648 w hs (by decide)
      have hcl := capF_le s 2147483648 s.size
      generalize capF s 2147483648 s.size = c at *
      by_cases c3 : c < 2147483648
      · rw [if_pos c3]; exact Parse_plain s c 32 c true 0 w hS hC (fun w => Of_good c w c3)
      · rw [if_neg c3]; exact Parse_plain s c 0 0 false 3 w hS hC (fun w => Of_bad2 c w (by omega))
  rw [if_neg c1]
  have hl : h < s.size := by omega
  by_cases c2 : bt s h = 39
  · rw [if_pos c2]
    obtain ⟨r, hr⟩ : ∃ r, s.extract (h + 1) s.size = r := ⟨_, rfl⟩
    have hrs : r.size ≤ maxLen := by rw [← hr]; unfold maxLen at *; simp; omega
    rw [hr]
    unfold bhV
    by_cases c3 : r.size = 0
    · rw [if_pos c3]; exact Parse_err s 6 w (by decide) (fun w => scan_none_end s w hs h hh hl c2 r hr c3)
    rw [if_neg c3]
    have p3 : 0 < r.size := by omega
    by_cases c4 : bt r 0 = 115
    · rw [if_pos (Or.inl c4)]
      have hts : (r.extract 1 r.size).size ≤ maxLen := by unfold maxLen at *; simp; omega
      refine Parse_tail s w h true _ hs hl hts ?_ ?_ ?_ ?_ ?_
      · exact fun k0 w => scan_s_end s w hs h hh hl c2 r hr p3 c4 _ rfl k0
      · exact fun k0 hb w => scan_s_base s w hs h hh hl c2 r hr p3 c4 _ rfl k0 hb
      · exact fun k0 b hb hbp hb16 d hd d0 w => scan_s_dend s w hs h hh hl c2 r hr p3 c4 _ rfl k0 b hb hbp hb16 d hd d0
      · exact fun k0 b hb hbp hb16 d hd d0 hf w => scan_s_dform s w hs h hh hl c2 r hr p3 c4 _ rfl k0 b hb hbp hb16 d hd d0 hf
      · exact fun k0 b hb hbp hb16 d hd d0 hf w => scan_s_ok s w hs h hh hl c2 r hr p3 c4 _ rfl k0 b hb hbp hb16 d hd d0 hf
    by_cases c5 : bt r 0 = 83
    · rw [if_pos (Or.inr c5)]
      have hts : (r.extract 1 r.size).size ≤ maxLen := by unfold maxLen at *; simp; omega
      refine Parse_tail s w h true _ hs hl hts ?_ ?_ ?_ ?_ ?_
      · exact fun k0 w => scan_S_end s w hs h hh hl c2 r hr p3 c5 _ rfl k0
      · exact fun k0 hb w => scan_S_base s w hs h hh hl c2 r hr p3 c5 _ rfl k0 hb
      · exact fun k0 b hb hbp hb16 d hd d0 w => scan_S_dend s w hs h hh hl c2 r hr p3 c5 _ rfl k0 b hb hbp hb16 d hd d0
      · exact fun k0 b hb hbp hb16 d hd d0 hf w => scan_S_dform s w hs h hh hl c2 r hr p3 c5 _ rfl k0 b hb hbp hb16 d hd d0 hf
      · exact fun k0 b hb hbp hb16 d hd d0 hf w => scan_S_ok s w hs h hh hl c2 r hr p3 c5 _ rfl k0 b hb hbp hb16 d hd d0 hf
    rw [if_neg (fun h => h.elim c4 c5)]
    refine Parse_tail s w h false r hs hl hrs (fun k0 => absurd k0 c3) ?_ ?_ ?_ ?_
    · exact fun k0 hb w => scan_other_base s w hs h hh hl c2 r hr p3 c4 c5 hb
    · exact fun k0 b hb hbp hb16 d hd d0 w => scan_other_dend s w hs h hh hl c2 r hr p3 c4 c5 b hb hbp hb16 d hd d0
    · exact fun k0 b hb hbp hb16 d hd d0 hf w => scan_other_dform s w hs h hh hl c2 r hr p3 c4 c5 b hb hbp hb16 d hd d0 hf
    · exact fun k0 b hb hbp hb16 d hd d0 hf w => scan_other_ok s w hs h hh hl c2 r hr p3 c4 c5 b hb hbp hb16 d hd d0 hf
  · rw [if_neg c2]; exact Parse_err s 5 w (by decide) (fun w => scan_form s w hs h hh hl c2)
end Go.Proofs.YtdjaikglkgabdaaGreatDoor
namespace Go.Proofs.YtdjaikglkgabdaaGreatDoor
open Go.RowKit
theorem bt_ext (s : ByteArray) (q k : Nat) (hq : q ≤ s.size) (hk : k < q) : bt (s.extract 0 q) k = bt s k := by
  have h1 : k < (s.extract 0 q).size := by simp; omega
  have h2 : k < s.size := by omega
  rw [← bt_at _ k h1, ← bt_at s k h2]
  congr 1
  simp [ByteArray.getElem_extract]
/-- The number of the first k bytes, decimal, without a limit. -/
def decF (s : ByteArray) : Nat → Nat
  | 0 => 0
  | k + 1 => if bt s k = 95 then decF s k else decF s k * 10 + digV (bt s k)
theorem capF_min (s : ByteArray) (M : Nat) : ∀ k, capF s M k = min (decF s k) M
  | 0 => by unfold capF decF; omega
  | k + 1 => by
    have h := capF_min s M k
    unfold capF decF
    split
    · exact h
    · rw [h]; omega
theorem cap_same (s : ByteArray) (k : Nat) : (1 ≤ capF s 129 k ∧ capF s 129 k ≤ 128 → capF s 1000 k = capF s 129 k) ∧ (¬ (1 ≤ capF s 129 k ∧ capF s 129 k ≤ 128) → capF s 1000 k < 1 ∨ 128 < capF s 1000 k) := by
  rw [capF_min, capF_min]; omega
/-- Below the digits' run's end each byte is a digit or an underscore. -/
theorem dAF_good (s : ByteArray) (b : Nat) : ∀ f i k, i ≤ k → k < dAF s b f i → badB s b k = false
  | 0, i, k, h1, h2 => by unfold dAF at h2; omega
  | f + 1, i, k, h1, h2 => by
    unfold dAF at h2
    split at h2
    · omega
    · rename_i hb
      by_cases e : k = i
      · rw [e]; simpa using hb
      · exact dAF_good s b f (i + 1) k (by omega) h2
theorem dAF_bad (s : ByteArray) (b : Nat) : ∀ f i, dAF s b f i < i + f → badB s b (dAF s b f i) = true
  | 0, i, h => by unfold dAF at h; omega
  | f + 1, i, h => by
    unfold dAF at h ⊢
    split
    · assumption
    · rename_i hb
      rw [if_neg hb] at h
      exact dAF_bad s b f (i + 1) (by omega)
theorem dA_good (s : ByteArray) (b k : Nat) (h : k < dA s b) : badB s b k = false := dAF_good s b s.size 0 k (Nat.zero_le _) h
theorem dA_bad (s : ByteArray) (b : Nat) (h : dA s b < s.size) : badB s b (dA s b) = true := dAF_bad s b s.size 0 (by unfold dA at h; omega)
/-- The run's end is known by its two sides. -/
theorem dA_eq (s : ByteArray) (b h : Nat) (hl : h ≤ s.size) (hg : ∀ k, k < h → badB s b k = false) (hb : h < s.size → badB s b h = true) : dA s b = h := by
  rcases Nat.lt_trichotomy (dA s b) h with h1 | h1 | h1
  · have := dA_bad s b (by omega)
    rw [hg _ h1] at this
    cases this
  · exact h1
  · have h2 := dA_le s b
    have := dA_good s b h h1
    rw [hb (by omega)] at this
    cases this
theorem bad_ext (s : ByteArray) (b q k : Nat) (hq : q ≤ s.size) (hk : k < q) : badB (s.extract 0 q) b k = badB s b k := by unfold badB; rw [bt_ext s q k hq hk]
theorem ext_size (s : ByteArray) (q : Nat) (hq : q ≤ s.size) : (s.extract 0 q).size = q := by simp; omega
/-- The digits' run of what stands ahead of q. -/
theorem dA_ext (s : ByteArray) (b q : Nat) (hq : q ≤ s.size) : dA (s.extract 0 q) b = min (dA s b) q := by
  have hs := ext_size s q hq
  have hle := dA_le s b
  refine dA_eq _ b _ (by omega) (fun k hk => ?_) (fun h => ?_)
  · rw [bad_ext s b q k hq (by omega)]; exact dA_good s b k (by omega)
  · rw [bad_ext s b q _ hq (by omega), show min (dA s b) q = dA s b by omega]; exact dA_bad s b (by omega)
theorem bad_39 (s : ByteArray) (b k : Nat) (hb : b ≤ 16) (h : bt s k = 39) : badB s b k = true := by
  unfold badB
  rw [h, show digV 39 = 16 by decide]
  simp; omega
/-- q is the first apostrophe: the run ends there, or ahead of it. -/
theorem dA_first (s : ByteArray) (q : Nat) (h : bt s q = 39) : dA s 10 ≤ q := by
  rcases Nat.lt_or_ge q (dA s 10) with h1 | h1
  · have := dA_good s 10 q h1
    rw [bad_39 s 10 q (by decide) h] at this
    cases this
  · exact h1
/-- What Parse returns, told from the first apostrophe q. -/
theorem paV_at (s : ByteArray) (q : Nat) (hq : q < s.size) (h : bt s q = 39) (hf : ∀ k, k < q → bt s k ≠ 39) :
    paV s = if dA s 10 < q then badP 5 else bhV s q (s.extract (q + 1) s.size) := by
  have h1 := dA_first s q h
  unfold paV
  rw [if_neg (by omega)]
  by_cases h2 : dA s 10 < q
  · rw [if_pos h2, if_neg (hf _ h2)]
  · rw [if_neg h2, show dA s 10 = q by omega, if_pos h]
/-- .. and where there is none. -/
theorem paV_no (s : ByteArray) (hf : ∀ k, k < s.size → bt s k ≠ 39) :
    paV s = if s.size = 0 then badP 6 else if dA s 10 < s.size then badP 5 else if capF s 2147483648 s.size < 2147483648 then ⟨32, capF s 2147483648 s.size, true, false, 0⟩ else badP 3 := by
  have h1 := dA_le s 10
  unfold paV
  by_cases h0 : s.size = 0
  · rw [if_pos (by omega), if_pos h0, if_pos h0]
  simp only [if_neg h0]
  by_cases h2 : dA s 10 < s.size
  · rw [if_neg (by omega), if_neg (hf _ h2), if_pos h2]
  · rw [if_pos (by omega), if_neg h2]
end Go.Proofs.YtdjaikglkgabdaaGreatDoor
namespace Go.Proofs.YtdjaikglkgabdaaGreatDoor
open Go.RowKit
set_option maxRecDepth 100000 in
set_option maxHeartbeats 3200000 in
theorem negative_big (n x y : Nat) (w : World) (hU : ∀ w, Calls Tryz.prog 101 #[.int .i64 0, vv n x] w (RV w (.tuple #[vv n y, .int .i64 0]))) (hb : 2147483648 ≤ y) :
    Calls Tryz.prog 74 #[vv n x] w (RV w (.tuple #[.int .i64 0, .int .i64 3])) := by
  replace hU := Lib.hid hU
  have hM := fun w => Num_v n y 2147483648 w (by decide)
  have em : min y 2147483648 = 2147483648 := by omega
  rw [em] at hM
  clear em
  change ∀ w, Calls Tryz.prog 75 #[vv n y, .int .i64 2147483648] w _ at hM
  replace hM := Lib.hid hM
  go_enter Tryz.func74, Tryz.ntmps74
  go_wp2_with fail
  (with_reducible refine (hU.out _).mono ?_)
  rintro e w1 ⟨rfl, hb1⟩
  have hbw1 : Below w.heap.size w w1 := below_call hb1 (by go_grown)
  have z1 := hbw1.size
  clear hb1
  go_wp2_with fail
  (with_reducible refine (hM.out _).mono ?_)
  rintro e w2 ⟨rfl, hb2⟩
  have hbw2 : Below w.heap.size w w2 := below_call hb2 (by go_grown)
  have z2 := hbw2.size
  clear hb2
  go_wp2_with fail
  refine bodyPost_ret (v := .tuple #[.int .i64 0, .int .i64 3]) (by simp [results, Tryz.results74, go_sem]) rfl ⟨rfl, ?_⟩
  go_grown
set_option maxRecDepth 100000 in
set_option maxHeartbeats 3200000 in
theorem negative_ok (n x y : Nat) (w : World) (hU : ∀ w, Calls Tryz.prog 101 #[.int .i64 0, vv n x] w (RV w (.tuple #[vv n y, .int .i64 0]))) (hb : y < 2147483648) :
    Calls Tryz.prog 74 #[vv n x] w (RV w (.tuple #[.int .i64 (-1 - (y : Int)), .int .i64 0])) := by
  replace hU := Lib.hid hU
  have hM := fun w => Num_v n y 2147483648 w (by decide)
  have em : min y 2147483648 = y := by omega
  have ne : ((y : Int) == 2147483648) = false := by simp; omega
  have ne2 : (y == 2147483648) = false := by simp; omega
  have es : IntKind.i64.wrap (-1 - (y : Int)) = -1 - (y : Int) := IntWalk.i64_in _ (by omega)
  rw [em] at hM
  clear em
  change ∀ w, Calls Tryz.prog 75 #[vv n y, .int .i64 2147483648] w _ at hM
  replace hM := Lib.hid hM
  go_enter Tryz.func74, Tryz.ntmps74
  go_wp2_with fail
  (with_reducible refine (hU.out _).mono ?_)
  rintro e w1 ⟨rfl, hb1⟩
  have hbw1 : Below w.heap.size w w1 := below_call hb1 (by go_grown)
  have z1 := hbw1.size
  clear hb1
  go_wp2_with fail
  (with_reducible refine (hM.out _).mono ?_)
  rintro e w2 ⟨rfl, hb2⟩
  have hbw2 : Below w.heap.size w w2 := below_call hb2 (by go_grown)
  have z2 := hbw2.size
  clear hb2
  go_wp2_with fail
  refine bodyPost_ret (v := .tuple #[.int .i64 (-1 - (y : Int)), .int .i64 0]) (by simp [results, Tryz.results74, go_sem]) rfl ⟨rfl, ?_⟩
  go_grown
set_option maxRecDepth 100000 in
set_option maxHeartbeats 3200000 in
theorem Int_none (x : Nat) (sg sz : Bool) (w : World) : Calls Tryz.prog 58 #[lv 0 x sg sz] w (RV w (.tuple #[.int .i64 0, .int .i64 2])) := by
  have hW : ∀ w, Calls Tryz.prog 72 #[.agg #[.int .i64 0, .int .u64 ((lo x : Nat) : Int), .int .u64 ((hi x : Nat) : Int)]] w (RV w (.int .i64 0)) := fun w => Width_v 0 x w
  replace hW := Lib.hid hW
  unfold lv
  go_enter Tryz.func58, Tryz.ntmps58
  go_wp2_with fail
  (with_reducible refine (hW.out _).mono ?_)
  rintro e w1 ⟨rfl, hb1⟩
  have X1 := (H5.new w 108 (.int .i64 0) (.int .u64 ((lo x : Nat) : Int)) (.int .u64 ((hi x : Nat) : Int)) (.bool sg) (.bool sz)).over hb1
  have x1 := X1.all
  have x1l := X1.lt
  have hbw1 : Below w.heap.size w w1 := below_call hb1 (by go_grown)
  have z1 := hbw1.size
  clear hb1
  go_wp2_with fail
  refine bodyPost_ret (v := .tuple #[.int .i64 0, .int .i64 2]) (by simp [results, Tryz.results58, go_sem]) rfl ⟨rfl, ?_⟩
  go_grown
set_option maxRecDepth 100000 in
set_option maxHeartbeats 3200000 in
theorem Int_neg (n x : Nat) (sz : Bool) (v e : Int) (w : World) (h0 : 1 ≤ n) (hn : n ≤ 128)
    (hB : ∀ w, Calls Tryz.prog 73 #[vv n x, .int .i64 ((n : Int) - 1)] w (RV w (.bool true)))
    (hG : ∀ w, Calls Tryz.prog 74 #[vv n x] w (RV w (.tuple #[.int .i64 v, .int .i64 e]))) :
    Calls Tryz.prog 58 #[lv n x true sz] w (RV w (.tuple #[.int .i64 v, .int .i64 e])) := by
  replace hB := Lib.hid hB
  replace hG := Lib.hid hG
  have hW := Lib.hid (fun w => Width_v n x w)
  have nz : ((n : Int) == 0) = false := by simp; omega
  have en : IntKind.i64.wrap ((n : Int) - 1) = (n : Int) - 1 := IntWalk.i64_in _ (by omega)
  unfold lv
  go_enter Tryz.func58, Tryz.ntmps58
  go_wp2_with fail
  (with_reducible refine (hW.out _).mono ?_)
  rintro e w1 ⟨rfl, hb1⟩
  have X1 := (H5.new w 108 (.int .i64 (n : Int)) (.int .u64 ((lo x : Nat) : Int)) (.int .u64 ((hi x : Nat) : Int)) (.bool true) (.bool sz)).over hb1
  have x1 := X1.all
  have x1l := X1.lt
  have hbw1 : Below w.heap.size w w1 := below_call hb1 (by go_grown)
  have z1 := hbw1.size
  clear hb1
  go_wp2_with fail
  (with_reducible refine (hB.out _).mono ?_)
  rintro e w2 ⟨rfl, hb2⟩
  have X2 := X1.over hb2
  have x2 := X2.all
  have x2l := X2.lt
  have hbw2 : Below w.heap.size w w2 := below_call hb2 (by go_grown)
  have z2 := hbw2.size
  clear hb2
  go_wp2_with fail
  (with_reducible refine (hG.out _).mono ?_)
  rintro e w3 ⟨rfl, hb3⟩
  have hbw3 : Below w.heap.size w w3 := below_call hb3 (by go_grown)
  have z3 := hbw3.size
  clear hb3
  go_wp2_with fail
  refine bodyPost_ret (v := .tuple #[.int .i64 v, .int .i64 e]) (by simp [results, Tryz.results58, go_sem]) rfl ⟨rfl, ?_⟩
  go_grown
set_option maxRecDepth 100000 in
set_option maxHeartbeats 3200000 in
theorem Int_u_big (n x : Nat) (sz : Bool) (w : World) (h0 : 1 ≤ n) (hn : n ≤ 128) (hb : 2147483648 ≤ x)
    : Calls Tryz.prog 58 #[lv n x false sz] w (RV w (.tuple #[.int .i64 0, .int .i64 3])) := by
  have hM := fun w => Num_v n x 2147483648 w (by decide)
  have em : min x 2147483648 = 2147483648 := by omega
  rw [em] at hM
  clear em
  change ∀ w, Calls Tryz.prog 75 #[vv n x, .int .i64 2147483648] w _ at hM
  replace hM := Lib.hid hM
  have hW := Lib.hid (fun w => Width_v n x w)
  have nz : ((n : Int) == 0) = false := by simp; omega
  have en : IntKind.i64.wrap ((n : Int) - 1) = (n : Int) - 1 := IntWalk.i64_in _ (by omega)
  unfold lv
  go_enter Tryz.func58, Tryz.ntmps58
  go_wp2_with fail
  (with_reducible refine (hW.out _).mono ?_)
  rintro e w1 ⟨rfl, hb1⟩
  have X1 := (H5.new w 108 (.int .i64 (n : Int)) (.int .u64 ((lo x : Nat) : Int)) (.int .u64 ((hi x : Nat) : Int)) (.bool false) (.bool sz)).over hb1
  have x1 := X1.all
  have x1l := X1.lt
  have hbw1 : Below w.heap.size w w1 := below_call hb1 (by go_grown)
  have z1 := hbw1.size
  clear hb1
  go_wp2_with fail
  (with_reducible refine (hM.out _).mono ?_)
  rintro e w3 ⟨rfl, hb3⟩
  have hbw3 : Below w.heap.size w w3 := below_call hb3 (by go_grown)
  have z3 := hbw3.size
  clear hb3
  go_wp2_with fail
  refine bodyPost_ret (v := .tuple #[.int .i64 0, .int .i64 3]) (by simp [results, Tryz.results58, go_sem]) rfl ⟨rfl, ?_⟩
  go_grown
set_option maxRecDepth 100000 in
set_option maxHeartbeats 3200000 in
theorem Int_u_ok (n x : Nat) (sz : Bool) (w : World) (h0 : 1 ≤ n) (hn : n ≤ 128) (hb : x < 2147483648)
    : Calls Tryz.prog 58 #[lv n x false sz] w (RV w (.tuple #[.int .i64 (x : Int), .int .i64 0])) := by
  have hM := fun w => Num_v n x 2147483648 w (by decide)
  have em : min x 2147483648 = x := by omega
  have ne : ((x : Int) == 2147483648) = false := by simp; omega
  have ne2 : (x == 2147483648) = false := by simp; omega
  rw [em] at hM
  clear em
  change ∀ w, Calls Tryz.prog 75 #[vv n x, .int .i64 2147483648] w _ at hM
  replace hM := Lib.hid hM
  have hW := Lib.hid (fun w => Width_v n x w)
  have nz : ((n : Int) == 0) = false := by simp; omega
  have en : IntKind.i64.wrap ((n : Int) - 1) = (n : Int) - 1 := IntWalk.i64_in _ (by omega)
  unfold lv
  go_enter Tryz.func58, Tryz.ntmps58
  go_wp2_with fail
  (with_reducible refine (hW.out _).mono ?_)
  rintro e w1 ⟨rfl, hb1⟩
  have X1 := (H5.new w 108 (.int .i64 (n : Int)) (.int .u64 ((lo x : Nat) : Int)) (.int .u64 ((hi x : Nat) : Int)) (.bool false) (.bool sz)).over hb1
  have x1 := X1.all
  have x1l := X1.lt
  have hbw1 : Below w.heap.size w w1 := below_call hb1 (by go_grown)
  have z1 := hbw1.size
  clear hb1
  go_wp2_with fail
  (with_reducible refine (hM.out _).mono ?_)
  rintro e w3 ⟨rfl, hb3⟩
  have hbw3 : Below w.heap.size w w3 := below_call hb3 (by go_grown)
  have z3 := hbw3.size
  clear hb3
  go_wp2_with fail
  refine bodyPost_ret (v := .tuple #[.int .i64 (x : Int), .int .i64 0]) (by simp [results, Tryz.results58, go_sem]) rfl ⟨rfl, ?_⟩
  go_grown
set_option maxRecDepth 100000 in
set_option maxHeartbeats 3200000 in
theorem Int_s_big (n x : Nat) (sz : Bool) (w : World) (h0 : 1 ≤ n) (hn : n ≤ 128) (hb : 2147483648 ≤ x)
    (hB : ∀ w, Calls Tryz.prog 73 #[vv n x, .int .i64 ((n : Int) - 1)] w (RV w (.bool false)))
    : Calls Tryz.prog 58 #[lv n x true sz] w (RV w (.tuple #[.int .i64 0, .int .i64 3])) := by
  replace hB := Lib.hid hB
  have hM := fun w => Num_v n x 2147483648 w (by decide)
  have em : min x 2147483648 = 2147483648 := by omega
  rw [em] at hM
  clear em
  change ∀ w, Calls Tryz.prog 75 #[vv n x, .int .i64 2147483648] w _ at hM
  replace hM := Lib.hid hM
  have hW := Lib.hid (fun w => Width_v n x w)
  have nz : ((n : Int) == 0) = false := by simp; omega
  have en : IntKind.i64.wrap ((n : Int) - 1) = (n : Int) - 1 := IntWalk.i64_in _ (by omega)
  unfold lv
  go_enter Tryz.func58, Tryz.ntmps58
  go_wp2_with fail
  (with_reducible refine (hW.out _).mono ?_)
  rintro e w1 ⟨rfl, hb1⟩
  have X1 := (H5.new w 108 (.int .i64 (n : Int)) (.int .u64 ((lo x : Nat) : Int)) (.int .u64 ((hi x : Nat) : Int)) (.bool true) (.bool sz)).over hb1
  have x1 := X1.all
  have x1l := X1.lt
  have hbw1 : Below w.heap.size w w1 := below_call hb1 (by go_grown)
  have z1 := hbw1.size
  clear hb1
  go_wp2_with fail
  (with_reducible refine (hB.out _).mono ?_)
  rintro e w2 ⟨rfl, hb2⟩
  have X2 := X1.over hb2
  have x2 := X2.all
  have x2l := X2.lt
  have hbw2 : Below w.heap.size w w2 := below_call hb2 (by go_grown)
  have z2 := hbw2.size
  clear hb2
  go_wp2_with fail
  (with_reducible refine (hM.out _).mono ?_)
  rintro e w3 ⟨rfl, hb3⟩
  have hbw3 : Below w.heap.size w w3 := below_call hb3 (by go_grown)
  have z3 := hbw3.size
  clear hb3
  go_wp2_with fail
  refine bodyPost_ret (v := .tuple #[.int .i64 0, .int .i64 3]) (by simp [results, Tryz.results58, go_sem]) rfl ⟨rfl, ?_⟩
  go_grown
set_option maxRecDepth 100000 in
set_option maxHeartbeats 3200000 in
theorem Int_s_ok (n x : Nat) (sz : Bool) (w : World) (h0 : 1 ≤ n) (hn : n ≤ 128) (hb : x < 2147483648)
    (hB : ∀ w, Calls Tryz.prog 73 #[vv n x, .int .i64 ((n : Int) - 1)] w (RV w (.bool false)))
    : Calls Tryz.prog 58 #[lv n x true sz] w (RV w (.tuple #[.int .i64 (x : Int), .int .i64 0])) := by
  replace hB := Lib.hid hB
  have hM := fun w => Num_v n x 2147483648 w (by decide)
  have em : min x 2147483648 = x := by omega
  have ne : ((x : Int) == 2147483648) = false := by simp; omega
  have ne2 : (x == 2147483648) = false := by simp; omega
  rw [em] at hM
  clear em
  change ∀ w, Calls Tryz.prog 75 #[vv n x, .int .i64 2147483648] w _ at hM
  replace hM := Lib.hid hM
  have hW := Lib.hid (fun w => Width_v n x w)
  have nz : ((n : Int) == 0) = false := by simp; omega
  have en : IntKind.i64.wrap ((n : Int) - 1) = (n : Int) - 1 := IntWalk.i64_in _ (by omega)
  unfold lv
  go_enter Tryz.func58, Tryz.ntmps58
  go_wp2_with fail
  (with_reducible refine (hW.out _).mono ?_)
  rintro e w1 ⟨rfl, hb1⟩
  have X1 := (H5.new w 108 (.int .i64 (n : Int)) (.int .u64 ((lo x : Nat) : Int)) (.int .u64 ((hi x : Nat) : Int)) (.bool true) (.bool sz)).over hb1
  have x1 := X1.all
  have x1l := X1.lt
  have hbw1 : Below w.heap.size w w1 := below_call hb1 (by go_grown)
  have z1 := hbw1.size
  clear hb1
  go_wp2_with fail
  (with_reducible refine (hB.out _).mono ?_)
  rintro e w2 ⟨rfl, hb2⟩
  have X2 := X1.over hb2
  have x2 := X2.all
  have x2l := X2.lt
  have hbw2 : Below w.heap.size w w2 := below_call hb2 (by go_grown)
  have z2 := hbw2.size
  clear hb2
  go_wp2_with fail
  (with_reducible refine (hM.out _).mono ?_)
  rintro e w3 ⟨rfl, hb3⟩
  have hbw3 : Below w.heap.size w w3 := below_call hb3 (by go_grown)
  have z3 := hbw3.size
  clear hb3
  go_wp2_with fail
  refine bodyPost_ret (v := .tuple #[.int .i64 (x : Int), .int .i64 0]) (by simp [results, Tryz.results58, go_sem]) rfl ⟨rfl, ?_⟩
  go_grown
/-- What Int returns: the number, the error. -/
def inV (n x : Nat) (sg : Bool) : Int × Int :=
  if n = 0 then (0, 2)
  else if sg && x.testBit (n - 1) then (if 2147483648 ≤ 2 ^ n - 1 - x then (0, 3) else (-1 - ((2 ^ n - 1 - x : Nat) : Int), 0))
  else if 2147483648 ≤ x then (0, 3) else ((x : Int), 0)
theorem Int_t (n x : Nat) (sg sz : Bool) (w : World) (hn : n ≤ 128) (hx : x < 2 ^ n) :
    Calls Tryz.prog 58 #[lv n x sg sz] w (RV w (.tuple #[.int .i64 (inV n x sg).1, .int .i64 (inV n x sg).2])) := by
  unfold inV
  by_cases c1 : n = 0
  · subst c1; rw [if_pos rfl]; exact Int_none x sg sz w
  rw [if_neg c1]
  have h0 : 1 ≤ n := by omega
  have hB := fun w => Bit_v n x ((n : Int) - 1) w hn hx
  have eb : bitI n x ((n : Int) - 1) = x.testBit (n - 1) := by
    unfold bitI
    rw [show ((n : Int) - 1).toNat = n - 1 by omega, show decide (0 ≤ (n : Int) - 1 ∧ (n : Int) - 1 < n) = true by simp; omega, Bool.true_and]
  rw [eb] at hB
  clear eb
  cases sg
  · rw [Bool.false_and, if_neg (by decide)]
    by_cases c2 : 2147483648 ≤ x
    · rw [if_pos c2]; exact Int_u_big n x sz w h0 hn c2
    · rw [if_neg c2]; exact Int_u_ok n x sz w h0 hn (by omega)
  · rw [Bool.true_and]
    cases hb : x.testBit (n - 1)
    · rw [hb] at hB
      rw [if_neg (by decide)]
      by_cases c2 : 2147483648 ≤ x
      · rw [if_pos c2]; exact Int_s_big n x sz w h0 hn c2 hB
      · rw [if_neg c2]; exact Int_s_ok n x sz w h0 hn (by omega) hB
    · rw [hb] at hB
      rw [if_pos rfl]
      have hU := fun w => Un_0 n x w h0 hn hx
      generalize 2 ^ n - 1 - x = y at *
      by_cases c2 : 2147483648 ≤ y
      · rw [if_pos c2]; exact Int_neg n x sz 0 3 w h0 hn hB (fun w => negative_big n x y w hU c2)
      · rw [if_neg c2]; exact Int_neg n x sz _ 0 w h0 hn hB (fun w => negative_ok n x y w hU (by omega))
end Go.Proofs.YtdjaikglkgabdaaGreatDoor
