/-
  Whether neighbours are opposites; slices.ContainsFunc over numbers.
-/
import Derived.Test.YtembgefbmecdbaaKf
namespace Go.Proofs.Ytembgefbmecdbaa
open Go.RowKit Go.Lib
theorem opp_at : ∀ (l : List Int) (k : Nat), (∀ j, 1 ≤ j → j < k → l.getD j 0 ≠ -(l.getD (j - 1) 0)) → (h : k < l.length) → 1 ≤ k → l.getD k 0 = -(l.getD (k - 1) 0) → opp l = true
  | [], _, _, h, _, _ => by simp at h
  | [x], k, _, h, h1, _ => by simp at h; omega
  | x :: y :: l, k, hb, h, h1, e => by
    unfold opp
    rw [Bool.or_eq_true]
    by_cases hk : k = 1
    · subst hk
      exact Or.inl (by simpa using e)
    · refine Or.inr (opp_at (y :: l) (k - 1) (fun j h2 h3 => ?_) (by simp at h ⊢; omega) (by omega) ?_)
      · have := hb (j + 1) (by omega) (by omega)
        rw [Nat.add_sub_cancel] at this
        obtain ⟨j, rfl⟩ : ∃ i, j = i + 1 := ⟨j - 1, by omega⟩
        simpa using this
      · obtain ⟨k, rfl⟩ : ∃ i, k = i + 2 := ⟨k - 2, by omega⟩
        simpa using e
theorem opp_none : ∀ (l : List Int), (∀ j, 1 ≤ j → j < l.length → l.getD j 0 ≠ -(l.getD (j - 1) 0)) → opp l = false
  | [], _ => rfl
  | [x], _ => rfl
  | x :: y :: l, hb => by
    unfold opp
    rw [Bool.or_eq_false_iff]
    refine ⟨?_, opp_none (y :: l) fun j h2 h3 => ?_⟩
    · have := hb 1 (by omega) (by simp)
      simpa using this
    · have := hb (j + 1) (by omega) (by simp at h3 ⊢; omega)
      rw [Nat.add_sub_cancel] at this
      obtain ⟨j, rfl⟩ : ∃ i, j = i + 1 := ⟨j - 1, by omega⟩
      simpa using this
set_option maxHeartbeats 800000 in
theorem hasOpp_t (A : Option Addr) (c : Nat) (l : List Int) (w : World) (h : RL w A l) (hl : l.length ≤ 1000000000) (hd : Dom l) :
    Calls Try.prog 22 #[.slice A l.length c] w fun e w' => e = .returned (.bool (opp l)) ∧ Below w.heap.size w w' := by
  obtain ⟨n, hn⟩ : ∃ n, l.length = n := ⟨_, rfl⟩
  have hw : ∀ j, j < n → IntKind.i64.wrap (-(l.getD j 0)) = -(l.getD j 0) := fun j hj => by
    have := hd (l.getD j 0) (by rw [List.getD_eq_getElem?_getD, List.getElem?_eq_getElem (by omega)]; exact List.getElem_mem _)
    exact IntWalk.i64_in (n := -(l.getD j 0)) (by omega)
  have ho1 := Lib.hid (fun k h1 h2 h3 h4 => opp_at l k h1 (by rw [hn]; exact h2) h3 h4)
  have ho2 := opp_none l
  rw [hn] at hl ho2 ⊢
  replace ho2 := Lib.hid ho2
  replace hw := Lib.hid hw
  obtain ⟨f, hf⟩ : ∃ f : Nat → Int, (fun j => l.getD j 0) = f := ⟨_, rfl⟩
  obtain ⟨O, hO⟩ : ∃ O, opp l = O := ⟨_, rfl⟩
  rw [hO] at ho1 ho2 ⊢
  have hf' : ∀ j, l.getD j 0 = f j := fun j => by rw [← hf]
  replace h : 0 < n → ∃ b off : Nat, A = some ⟨b, off, none⟩ ∧ ∀ j, j < n → w.cell? ⟨b, off + j, none⟩ = some (.int .i64 (f j)) := fun h0 => by
    obtain ⟨b, off, e, _, hc⟩ := h (by omega)
    exact ⟨b, off, e, fun j hj => by rw [hc j (by omega), hf']⟩
  simp only [hf'] at ho1 ho2 hw
  clear hd hf' hf hO hn
  go_enter Try.func22, Try.ntmps22
  go_wp2
  go_loopw [3] (fun i wr => ∃ k : Nat, 1 ≤ k ∧ i = .int .i64 (k : Int) ∧ (∀ j, 1 ≤ j → j < k → j < n → f j ≠ -(f (j - 1))) ∧ ∃ q, wr = w.drewN q) (fun i _ => n - (intOf i).toNat)
  case atStart => exact ⟨1, by decide, rfl, fun j h1 h2 => by omega, 0, rfl⟩
  case round =>
    obtain ⟨k, hk, rfl, hb, q, rfl⟩ := hrel
    by_cases hlt : k < n
    · obtain ⟨b, off, rfl, hc⟩ := h (by omega)
      have c0 : w.cell? ⟨b, off + k, none⟩ = some (.int .i64 (f k)) := hc k hlt
      have c1 : w.cell? ⟨b, off + (k - 1), none⟩ = some (.int .i64 (f (k - 1))) := hc (k - 1) (by omega)
      have hw' := hw.out (k - 1) (by omega)
      obtain ⟨x, hx⟩ : ∃ x, f k = x := ⟨_, rfl⟩
      obtain ⟨y, hy⟩ : ∃ y, f (k - 1) = y := ⟨_, rfl⟩
      rw [hx] at c0
      rw [hy] at c1 hw'
      have hk1 : ((k : Int) - 1) = ((k - 1 : Nat) : Int) := by omega
      clear hc
      replace hb := Lib.hid hb
      by_cases he : x = -y
      · have hO : O = true := ho1.out k (fun j h1 h2 => hb.out j h1 h2 (by omega)) hlt hk (by rw [hx, hy, he])
        have hbe : (x == -y) = true := by simpa using he
        replace hO := Lib.hid hO
        clear he
        go_wp2_with fail
        go_quiet (fail)
        go_wp2_with fail
        go_ret
        exact ⟨by rw [hO.out]; rfl, rfl, rfl, rfl, Nat.le_refl _, fun _ _ => rfl⟩
      · have hbe : (x == -y) = false := by simpa using he
        replace he := Lib.hid he
        go_wp2_with fail
        go_quiet (fail)
        go_wp2_with fail
        go_roundw
        case rel => exact ⟨k + 1, by omega, by go_num, fun j h1 h2 h3 => by
          by_cases e : j = k
          · subst e; rw [hx, hy]; exact he.out
          · exact hb.out j h1 (by omega) h3, _, rfl⟩
        case measure => simp [intOf]; omega
    · have hO : O = false := ho2.out fun j h1 h2 => hb j h1 (by omega) h2
      replace hO := Lib.hid hO
      go_wp2
      go_ret
      exact ⟨by rw [hO.out]; rfl, rfl, rfl, rfl, Nat.le_refl _, fun _ _ => rfl⟩
def anyB (p : Nat → Bool) : Nat → Bool
  | 0 => false
  | k + 1 => anyB p k || p k
/-- Where the first is of which p holds, or -1. -/
def fstI (p : Nat → Bool) : Nat → Nat → Int
  | 0, _ => -1
  | f + 1, k => if p k then (k : Int) else fstI p f (k + 1)
theorem fstI_any (p : Nat → Bool) : ∀ f k, (decide (0 ≤ fstI p f k) || anyB p k) = anyB p (k + f)
  | 0, k => by simp [fstI]
  | f + 1, k => by
    unfold fstI
    rw [show k + (f + 1) = (k + 1) + f by omega, ← fstI_any p f (k + 1)]
    by_cases h : p k = true
    · rw [if_pos h]; simp [anyB, h]
    · rw [if_neg h]; simp [anyB, h]
theorem fst_any (p : Nat → Bool) (n : Nat) : decide (0 ≤ fstI p n 0) = anyB p n := by
  have h := fstI_any p n 0
  simpa [anyB] using h
theorem anyB_succ (p : Nat → Bool) : ∀ n, anyB p (n + 1) = (p 0 || anyB (fun j => p (j + 1)) n)
  | 0 => by simp [anyB]
  | n + 1 => by
    rw [show anyB p (n + 1 + 1) = (anyB p (n + 1) || p (n + 1)) from rfl, anyB_succ p n, Bool.or_assoc]
    rfl
theorem anyB_list (p : Int → Bool) : ∀ l : List Int, anyB (fun j => p (l.getD j 0)) l.length = l.any p
  | [] => rfl
  | x :: l => by
    rw [List.length_cons, anyB_succ]
    have := anyB_list p l
    simp only [List.getD_cons_zero, List.getD_cons_succ, List.any_cons, this]
set_option maxHeartbeats 800000 in
set_option maxRecDepth 100000 in
theorem idx_t (g : Nat) (lb : Array Value) (eg : ∀ args w, (callFunc g args).run Try.prog w = .ok (.enter g args) w) (p : Nat → Bool) (f : Nat → Int) (n c : Nat) (A : Option Addr) (w : World) (hn : n ≤ 1000000000000)
    (hA : 0 < n → ∃ b off : Nat, A = some ⟨b, off, none⟩ ∧ b < w.heap.size ∧ ∀ j, j < n → w.cell? ⟨b, off + j, none⟩ = some (.int .i64 (f j)))
    (hp : ∀ j, j < n → ∀ W : World, Below w.heap.size w W → Calls Try.prog g (#[.int .i64 (f j)] ++ lb) W (RV W (.bool (p j)))) :
    Calls Try.prog 32 #[.slice A n c, .func (.func g) #[] lb] w fun e w' => e = .returned (.int .i64 (fstI p n 0)) ∧ Below w.heap.size w w' := by
  replace hA := Lib.hid hA
  replace hp := Lib.hid hp
  go_enter Try.func32, Try.ntmps32
  go_wp2
  go_loopw [8] (fun i wr => ∃ k : Nat, k ≤ n ∧ i = .int .i64 (k : Int) ∧ fstI p (n - k) k = fstI p n 0 ∧ Below w.heap.size w wr) (fun i _ => n - (intOf i).toNat)
  case atStart => exact ⟨0, Nat.zero_le _, rfl, rfl, Below.refl _ _⟩
  case round =>
    obtain ⟨k, hk, rfl, hleft, hbw⟩ := hrel
    by_cases hlt : k < n
    · obtain ⟨b, off, rfl, hb, hc⟩ := hA.out (by omega)
      have c0 := (hbw.cell (p := ⟨b, off + k, none⟩) hb).trans (hc k hlt)
      have cS := hp.out k hlt wr hbw
      clear hc
      obtain ⟨d, hd⟩ : ∃ d, n - k = d + 1 := ⟨n - k - 1, by omega⟩
      rw [hd] at hleft
      have hd2 : n - (k + 1) = d := by omega
      rw [show fstI p (d + 1) k = if p k then (k : Int) else fstI p d (k + 1) from rfl] at hleft
      obtain ⟨x, hx⟩ : ∃ x, f k = x := ⟨_, rfl⟩
      rw [hx] at c0 cS
      cases hpk : p k with
      | true =>
        rw [hpk] at cS
        rw [if_pos hpk] at hleft
        replace hleft := Lib.hid hleft
        replace cS := Lib.hid cS
        clear hpk hd hd2 hx
        go_wp2_with (go_at_fn g; refine cS.out.mono ?_; rintro e w1 ⟨rfl, hb1⟩)
        go_ret
        exact ⟨by rw [← hleft.out]; rfl, below_call hb1 hbw hbw.size⟩
      | false =>
        rw [hpk] at cS
        rw [if_neg (by rw [hpk]; decide), ← hd2] at hleft
        replace hleft := Lib.hid hleft
        replace cS := Lib.hid cS
        clear hpk hd hd2 hx
        go_wp2_with (go_at_fn g; refine cS.out.mono ?_; rintro e w1 ⟨rfl, hb1⟩)
        go_roundw
        case rel => exact ⟨k + 1, by omega, by go_num, hleft.out, below_call hb1 hbw hbw.size⟩
        case measure => simp [intOf]; omega
    · obtain rfl : k = n := by omega
      rw [Nat.sub_self] at hleft
      replace hleft := Lib.hid hleft
      go_wp2
      go_ret
      exact ⟨by rw [← hleft.out]; rfl, hbw⟩
set_option maxHeartbeats 400000 in
/-- slices.ContainsFunc. -/
theorem cont_t (g : Nat) (lb : Array Value) (eg : ∀ args w, (callFunc g args).run Try.prog w = .ok (.enter g args) w) (p : Int → Bool) (l : List Int) (c : Nat) (A : Option Addr) (w : World) (hl : l.length ≤ 1000000000000) (hA : RL w A l)
    (hp : ∀ x, x ∈ l → ∀ W : World, Below w.heap.size w W → Calls Try.prog g (#[.int .i64 x] ++ lb) W (RV W (.bool (p x)))) :
    Calls Try.prog 18 #[.slice A l.length c, .func (.func g) #[] lb] w (RV w (.bool (l.any p))) := by
  have hI := idx_t g lb eg (fun j => p (l.getD j 0)) (fun j => l.getD j 0) l.length c A w hl hA (fun j hj W hW => hp _ (by rw [List.getD_eq_getElem?_getD, List.getElem?_eq_getElem hj]; exact List.getElem_mem _) W hW)
  have e := fst_any (fun j => p (l.getD j 0)) l.length
  rw [anyB_list p l] at e
  clear hp hA
  obtain ⟨I, hI2⟩ : ∃ I, fstI (fun j => p (l.getD j 0)) l.length 0 = I := ⟨_, rfl⟩
  rw [hI2] at hI e
  clear hI2
  obtain ⟨n, hn⟩ : ∃ n, l.length = n := ⟨_, rfl⟩
  rw [hn] at hI hl ⊢
  obtain ⟨B, hB⟩ : ∃ B, l.any p = B := ⟨_, rfl⟩
  rw [hB] at e ⊢
  clear hB hn
  replace e := Lib.hid e
  replace hI := Lib.hid hI
  go_enter Try.func18, Try.ntmps18
  go_wp2_with (go_at_call 32; (with_reducible refine hI.out.mono ?_); rintro e w' ⟨rfl, hb⟩)
  go_ret
  exact ⟨by rw [← e.out]; rfl, hb⟩
/-- Add's test: is a literal of no variable there? -/
theorem contF_t (l : List Int) (c : Nat) (A : Option Addr) (V g : Nat) (w : World) (hV : V ≤ 60000) (hl : l.length ≤ 1000000000000) (hA : RL w A l) (hc : w.cell? ⟨g, 0, none⟩ = some (.int .i64 (V : Int))) (hg : g < w.heap.size) :
    Calls Try.prog 18 #[.slice A l.length c, .func (.func 17) #[] #[.pointer (some ⟨g, 0, none⟩)]] w (RV w (.bool (l.any (fgn V)))) :=
  cont_t 17 #[.pointer (some ⟨g, 0, none⟩)] (enters_of Try.func17 (by kernel_rfl) rfl) (fgn V) l c A w hl hA
    (fun x _ W hW => (foreign_t V x g hV W ((hW.cell (p := ⟨g, 0, none⟩) hg).trans hc)).mono fun e w' ⟨he, q, hq⟩ => ⟨he, by rw [hq]; exact bdn W q⟩)
end Go.Proofs.Ytembgefbmecdbaa
