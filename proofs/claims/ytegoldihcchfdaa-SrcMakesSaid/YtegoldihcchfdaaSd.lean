/-
  The walks of slices.ContainsFunc over files, of the two tests of src's firstError and of firstError itself.
-/
import Derived.Test.YtegoldihcchfdaaSc
import Derived.Test.YtegoldihcchfdaaSb
import Derived.Shelf.Abstract
namespace Go.Proofs.Ytegoldihcchfdaa
open Go.RowKit Go.Shelf
/-- A slice of files that came in: n files, nm j the name and tx j the text of number j. -/
def RF (w : World) (A : Option Addr) (n : Nat) (nm tx : Nat → ByteArray) : Prop := 0 < n → ∃ b off : Nat, A = some ⟨b, off, none⟩ ∧ b < w.heap.size ∧ ∀ j, j < n → w.cell? ⟨b, off + j * 2, none⟩ = some (.string (nm j)) ∧ w.cell? ⟨b, off + j * 2 + 1, none⟩ = some (.string (tx j))
theorem RF.keep {w w' : World} {A : Option Addr} {n : Nat} {nm tx : Nat → ByteArray} (h : RF w A n nm tx) (hb : Below w.heap.size w w') : RF w' A n nm tx := fun hn => by
  obtain ⟨b, off, e, hl, hc⟩ := h hn
  exact ⟨b, off, e, Nat.lt_of_lt_of_le hl hb.size, fun j hj => ⟨(hb.cell (p := ⟨b, _, none⟩) hl).trans (hc j hj).1, (hb.cell (p := ⟨b, _, none⟩) hl).trans (hc j hj).2⟩⟩
theorem RF.less {w : World} {A : Option Addr} {n m : Nat} {nm tx : Nat → ByteArray} (h : RF w A n nm tx) (hm : m ≤ n) : RF w A m nm tx := fun h0 => by
  obtain ⟨b, off, e, hl, hc⟩ := h (by omega)
  exact ⟨b, off, e, hl, fun j hj => hc j (by omega)⟩
def anyB (p : Nat → Bool) : Nat → Bool
  | 0 => false
  | k + 1 => anyB p k || p k
/-- Where the first is of which p holds, or -1. -/
def fstI (p : Nat → Bool) : Nat → Nat → Int
  | 0, _ => -1
  | f + 1, k => if p k then (k : Int) else fstI p f (k + 1)
theorem fstI_any (p : Nat → Bool) : ∀ f k, (decide (0 ≤ fstI p f k) || anyB p k) = anyB p (k + f)
  | 0, k => by simp [fstI]
  | f + 1, k => by
    unfold fstI
    rw [show k + (f + 1) = (k + 1) + f by omega, ← fstI_any p f (k + 1)]
    by_cases h : p k = true
    · rw [if_pos h]; simp [anyB, h]
    · rw [if_neg h]; simp [anyB, h]
theorem fst_any (p : Nat → Bool) (n : Nat) : decide (0 ≤ fstI p n 0) = anyB p n := by
  have h := fstI_any p n 0
  simpa [anyB] using h
abbrev fv (a b : ByteArray) : Value := .agg #[.string a, .string b]
set_option maxHeartbeats 800000 in
set_option maxRecDepth 100000 in
theorem idxFile_t (g : Nat) (lb : Array Value) (eg : ∀ args w, (callFunc g args).run Try.prog w = .ok (.enter g args) w) (p : Nat → Bool) (n c : Nat) (A : Option Addr) (nm tx : Nat → ByteArray) (w : World) (hn : n ≤ 1000000)
    (hA : RF w A n nm tx) (hp : ∀ j, j < n → ∀ W : World, Below w.heap.size w W → Calls Try.prog g (#[fv (nm j) (tx j)] ++ lb) W (RV W (.bool (p j)))) :
    Calls Try.prog 42 #[.slice A n c, .func (.func g) #[] lb] w fun e w' => e = .returned (.int .i64 (fstI p n 0)) ∧ Below w.heap.size w w' := by
  replace hA := Lib.hid hA
  replace hp := Lib.hid hp
  go_enter Try.func42, Try.ntmps42
  go_wp2
  go_loopw [8] (fun i wr => ∃ k : Nat, k ≤ n ∧ i = .int .i64 (k : Int) ∧ fstI p (n - k) k = fstI p n 0 ∧ Below w.heap.size w wr) (fun i _ => n - (intOf i).toNat)
  case atStart => exact ⟨0, Nat.zero_le _, rfl, rfl, Below.refl _ _⟩
  case round =>
    obtain ⟨k, hk, rfl, hleft, hbw⟩ := hrel
    by_cases hlt : k < n
    · obtain ⟨b, off, rfl, hb, hc⟩ := (hA.out.keep hbw) (by omega)
      obtain ⟨c0, c1⟩ := hc k hlt
      have cS := hp.out k hlt wr hbw
      clear hc
      obtain ⟨d, hd⟩ : ∃ d, n - k = d + 1 := ⟨n - k - 1, by omega⟩
      rw [hd] at hleft
      have hd2 : n - (k + 1) = d := by omega
      rw [show fstI p (d + 1) k = if p k then (k : Int) else fstI p d (k + 1) from rfl] at hleft
      cases hpk : p k with
      | true =>
        rw [hpk] at cS
        rw [if_pos hpk] at hleft
        replace hleft := Lib.hid hleft
        replace cS := Lib.hid cS
        clear hpk hd hd2
        go_wp2_with (go_at_fn g; refine cS.out.mono ?_; rintro e w1 ⟨rfl, hb1⟩)
        go_ret
        exact ⟨by rw [← hleft.out]; rfl, below_call hb1 hbw⟩
      | false =>
        rw [hpk] at cS
        rw [if_neg (by rw [hpk]; decide), ← hd2] at hleft
        replace hleft := Lib.hid hleft
        replace cS := Lib.hid cS
        clear hpk hd hd2
        go_wp2_with (go_at_fn g; refine cS.out.mono ?_; rintro e w1 ⟨rfl, hb1⟩)
        go_roundw
        case rel => exact ⟨k + 1, by omega, by go_num, hleft.out, below_call hb1 hbw⟩
        case measure => simp [intOf]; omega
    · obtain rfl : k = n := by omega
      rw [Nat.sub_self] at hleft
      replace hleft := Lib.hid hleft
      go_wp2
      go_ret
      exact ⟨by rw [← hleft.out]; rfl, hbw⟩
set_option maxHeartbeats 400000 in
theorem contFile_t (g : Nat) (lb : Array Value) (eg : ∀ args w, (callFunc g args).run Try.prog w = .ok (.enter g args) w) (p : Nat → Bool) (n c : Nat) (A : Option Addr) (nm tx : Nat → ByteArray) (w : World) (hn : n ≤ 1000000)
    (hA : RF w A n nm tx) (hp : ∀ j, j < n → ∀ W : World, Below w.heap.size w W → Calls Try.prog g (#[fv (nm j) (tx j)] ++ lb) W (RV W (.bool (p j)))) :
    Calls Try.prog 35 #[.slice A n c, .func (.func g) #[] lb] w (RV w (.bool (anyB p n))) := by
  have hI := idxFile_t g lb eg p n c A nm tx w hn hA hp
  have e := fst_any p n
  clear hp hA
  obtain ⟨I, hI2⟩ : ∃ I, fstI p n 0 = I := ⟨_, rfl⟩
  rw [hI2] at hI e
  clear hI2
  replace e := Lib.hid e
  replace hI := Lib.hid hI
  go_enter Try.func35, Try.ntmps35
  go_wp2_with (go_at_call 42; (with_reducible refine hI.out.mono ?_); rintro e w' ⟨rfl, hb⟩)
  go_ret
  exact ⟨by rw [← e.out]; rfl, hb⟩
set_option maxHeartbeats 400000 in
theorem misnamed_t (a b : ByteArray) (w : World) : Calls Try.prog 33 #[fv a b] w (RV w (.bool (!nameB a))) := by
  have hC := Lib.hid (fun w => isName_t a w)
  go_enter Try.func33, Try.ntmps33
  go_wp2_with (go_at_call 34; (with_reducible refine (hC.out _).mono ?_); rintro e w1 ⟨rfl, hb1⟩)
  have hbw : Below w.heap.size w w1 := below_call hb1 (by go_grown)
  go_ret
  exact ⟨rfl, hbw⟩
set_option maxHeartbeats 400000 in
theorem same_t (a b x : ByteArray) (g : Nat) (w : World) (h : w.cell? ⟨g, 0, none⟩ = some (.string x)) (hg : g < w.heap.size) : Calls Try.prog 36 #[fv a b, .pointer (some ⟨g, 0, none⟩)] w (RV w (.bool (a.toList == x.toList))) := by
  go_enter Try.func36, Try.ntmps36
  go_wp2
  go_ret
  exact ⟨rfl, by go_grown⟩
/-- Are two of the first n names alike? -/
def dupB (nm : Nat → ByteArray) (n : Nat) : Bool := anyB (fun i => anyB (fun k => (nm k).toList == (nm i).toList) i) n
def totB (tx : Nat → ByteArray) : Nat → Nat
  | 0 => 0
  | k + 1 => totB tx k + (tx k).size
def ferr (n : Nat) (nm tx : Nat → ByteArray) : Int := if 16 < n then 19 else if anyB (fun j => !nameB (nm j)) n then 9 else if dupB nm n then 10 else if 32768 < totB tx n then 4 else 0
theorem totB_le (tx : Nat → ByteArray) : ∀ n, (∀ j, j < n → (tx j).size ≤ 140737488355328) → totB tx n ≤ n * 140737488355328
  | 0, _ => by simp [totB]
  | n + 1, h => by
    have h1 := totB_le tx n (fun j hj => h j (by omega))
    have h2 := h n (by omega)
    unfold totB; omega
theorem anyB_mono (p : Nat → Bool) (n : Nat) : ∀ d, anyB p n = true → anyB p (n + d) = true
  | 0, h => h
  | d + 1, h => by show (anyB p (n + d) || p (n + d)) = true; rw [anyB_mono p n d h]; rfl
theorem dup_t (g k c : Nat) (A : Option Addr) (nm tx : Nat → ByteArray) (x : ByteArray) (W : World) (hk : k ≤ 1000000) (hR : RF W A k nm tx) (hc : W.cell? ⟨g, 0, none⟩ = some (.string x)) (hg : g < W.heap.size) :
    Calls Try.prog 35 #[.slice A k c, .func (.func 36) #[] #[.pointer (some ⟨g, 0, none⟩)]] W (RV W (.bool (anyB (fun j => (nm j).toList == x.toList) k))) :=
  contFile_t 36 #[.pointer (some ⟨g, 0, none⟩)] (enters_of Try.func36 (by kernel_rfl) rfl) (fun j => (nm j).toList == x.toList) k c A nm tx W hk hR
    (fun j _ W' hW' => same_t (nm j) (tx j) x g W' ((hW'.cell (p := ⟨g, 0, none⟩) hg).trans hc) (Nat.lt_of_lt_of_le hg hW'.size))
set_option maxRecDepth 100000 in
set_option maxHeartbeats 1000000 in
theorem firstError_t (n c : Nat) (A : Option Addr) (nm tx : Nat → ByteArray) (w : World) (hA : RF w A n nm tx) (hn : n ≤ 1000000) (hc : n ≤ c) (hs : ∀ j, j < n → (tx j).size ≤ 140737488355328) :
    Calls Try.prog 24 #[.slice A n c] w (RV w (.int .i64 (ferr n nm tx))) := by
  have eg1 : ∀ args w, (callFunc 33 args).run Try.prog w = .ok (.enter 33 args) w := enters_of Try.func33 (by kernel_rfl) rfl
  by_cases h16 : n ≤ 16
  case neg =>
    have e := Lib.hid (show ferr n nm tx = 19 from if_pos (by omega))
    have d16 : 16 < n := by omega
    go_enter Try.func24, Try.ntmps24
    go_wp2_with fail
    go_ret
    exact ⟨by rw [e.out]; rfl, Below.refl _ _⟩
  have hM := fun (W : World) (h : RF W A n nm tx) => contFile_t 33 #[] eg1 (fun j => !nameB (nm j)) n c A nm tx W hn h (fun j _ W' _ => misnamed_t (nm j) (tx j) W')
  cases hmis : anyB (fun j => !nameB (nm j)) n with
  | true =>
    rw [hmis] at hM
    have e := Lib.hid (show ferr n nm tx = 9 by unfold ferr; rw [if_neg (by omega), if_pos hmis])
    have d16 : ¬ 16 < n := by omega
    replace hM := Lib.hid hM
    replace hA := Lib.hid hA
    clear hmis eg1 hs
    go_enter Try.func24, Try.ntmps24
    go_wp2_with (go_at_call 35; refine (hM.out _ hA.out).mono ?_; rintro e w1 ⟨rfl, hb1⟩)
    go_ret
    exact ⟨by rw [e.out]; rfl, hb1⟩
  | false =>
    rw [hmis] at hM
    have d16 : ¬ 16 < n := by omega
    have e := Lib.hid (show ferr n nm tx = if dupB nm n then 10 else if 32768 < totB tx n then 4 else 0 by unfold ferr; rw [if_neg (by omega), if_neg (by rw [hmis]; decide)])
    replace hM := Lib.hid hM
    replace hA := Lib.hid hA
    have hL := fun k (hk : k ≤ n) => totB_le tx k (fun j hj => hs j (by omega))
    replace hL := Lib.hid hL
    replace hs := Lib.hid hs
    clear hmis eg1
    go_enter Try.func24, Try.ntmps24
    go_wp2_with (go_at_call 35; refine (hM.out _ hA.out).mono ?_; rintro e w1 ⟨rfl, hb1⟩)
    go_loopw [4, 16] (fun s i wr => ∃ k : Nat, k ≤ n ∧ i = .int .i64 (k : Int) ∧ s = .int .i64 ((totB tx k : Nat) : Int) ∧ dupB nm k = false ∧ Below w.heap.size w wr) (fun _ i _ => n - (intOf i).toNat)
    case atStart => exact ⟨0, Nat.zero_le _, rfl, rfl, rfl, hb1⟩
    case round =>
      obtain ⟨k, hk, rfl, rfl, hdup, hbw⟩ := hrel
      clear hM hb1
      have hl := hL.out k hk
      by_cases hlt : k < n
      · obtain ⟨b, off, rfl, hb, hcs⟩ := (hA.out.keep hbw) (by omega)
        obtain ⟨c0, c1⟩ := hcs k hlt
        have hsk := hs.out k hlt
        have hR : RF wr (some ⟨b, off, none⟩) k nm tx := RF.less (hA.out.keep hbw) hk
        have hcl : k ≤ c := by omega
        have hC := fun (W : World) (h1 : RF W (some ⟨b, off, none⟩) k nm tx) (h2 : W.cell? ⟨wr.heap.size, 0, none⟩ = some (.string (nm k))) (h3 : wr.heap.size < W.heap.size) => dup_t wr.heap.size k c (some ⟨b, off, none⟩) nm tx (nm k) W (by omega) h1 h2 h3
        have hd2 : dupB nm (k + 1) = anyB (fun j => (nm j).toList == (nm k).toList) k := by
          show (dupB nm k || anyB (fun j => (nm j).toList == (nm k).toList) k) = _
          rw [hdup]; rfl
        have ht2 : totB tx (k + 1) = totB tx k + (tx k).size := rfl
        have hl2 : totB tx k + (tx k).size ≤ 9223372036854775807 := by omega
        clear hcs hdup hl
        have hz := hbw.size
        have hwz : wr.heap.size + 1 ≤ wr.heap.size + 1 := Nat.le_refl _
        cases hx : anyB (fun j => (nm j).toList == (nm k).toList) k with
        | true =>
          rw [hx] at hC hd2
          have e2 : dupB nm n = true := by
            have := anyB_mono (fun i => anyB (fun k => (nm k).toList == (nm i).toList) i) (k + 1) (n - (k + 1)) hd2
            rwa [show k + 1 + (n - (k + 1)) = n by omega] at this
          have e3 := Lib.hid (e.out.trans (if_pos e2))
          replace hC := Lib.hid hC
          replace hR := Lib.hid hR
          clear e e2 hd2 ht2 hx
          go_wp2_with (go_at_call 35; refine (hC.out _ (hR.out.keep ((Below.refl _ wr).alloc (Nat.le_refl _) _)) (cell_newest _ _ _ _ 0 rfl) (by simp)).mono ?_; rintro e w2 ⟨rfl, hb2⟩; have hbw2 : Below w.heap.size w w2 := below_call hb2 (by go_grown))
          go_ret
          exact ⟨by rw [e3.out]; rfl, hbw2⟩
        | false =>
          rw [hx] at hC hd2
          replace hC := Lib.hid hC
          replace hR := Lib.hid hR
          replace hd2 := Lib.hid hd2
          replace ht2 := Lib.hid ht2
          clear hx
          go_wp2_with (go_at_call 35; refine (hC.out _ (hR.out.keep ((Below.refl _ wr).alloc (Nat.le_refl _) _)) (cell_newest _ _ _ _ 0 rfl) (by simp)).mono ?_; rintro e w2 ⟨rfl, hb2⟩; have hbw2 : Below w.heap.size w w2 := below_call hb2 (by go_grown); have hz2 := hb2.size; simp only [World.size_alloc] at hz2; have hc2 : w2.cell? ⟨wr.heap.size, 1, none⟩ = some (.string (tx k)) := (hb2.cell (p := ⟨wr.heap.size, 1, none⟩) (by simp)).trans (cell_newest _ _ _ _ 1 rfl); clear hb2)
          go_roundw
          case rel => exact ⟨k + 1, by omega, by go_num, by rw [ht2.out]; go_num, hd2.out, hbw2⟩
          case measure => simp [intOf]; omega
      · obtain rfl : k = n := by omega
        have e2 := e.out.trans (if_neg (by rw [hdup]; decide))
        replace e2 := Lib.hid e2
        clear e hdup
        by_cases ht : 32768 < totB tx k
        · have e3 := Lib.hid (e2.out.trans (if_pos ht))
          clear e2
          go_wp2
          go_ret
          exact ⟨by rw [e3.out]; rfl, hbw⟩
        · have e3 := Lib.hid (e2.out.trans (if_neg ht))
          clear e2
          go_wp2
          go_ret
          exact ⟨by rw [e3.out]; rfl, hbw⟩
end Go.Proofs.Ytegoldihcchfdaa
