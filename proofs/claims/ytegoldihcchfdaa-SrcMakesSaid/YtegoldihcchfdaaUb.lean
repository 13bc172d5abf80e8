/-
  The walks of the statements' few and Files, of src's Get and Find.
-/
import Derived.Test.YtegoldihcchfdaaUa
namespace Go.Proofs.Ytegoldihcchfdaa
open Go.RowKit
set_option maxHeartbeats 400000 in
theorem few_le (n c : Nat) (A : Option Addr) (w : World) (hn : n ≤ 20) :
    Calls Try.prog 9 #[.slice A n c] w fun e w' => e = .returned (.slice A n c) ∧ w = w' := by
  have d : ¬ 20 < n := by omega
  go_enter Try.func9, Try.ntmps9
  go_wp2
  go_ret
  exact ⟨rfl, rfl⟩
set_option maxHeartbeats 400000 in
theorem few_gt (n c : Nat) (b off : Nat) (w : World) (hn : 20 < n) (hc : n ≤ c) :
    Calls Try.prog 9 #[.slice (some ⟨b, off, none⟩) n c] w fun e w' => e = .returned (.slice (some ⟨b, off, none⟩) 20 c) ∧ w = w' := by
  go_enter Try.func9, Try.ntmps9
  go_wp2
  go_ret
  exact ⟨rfl, rfl⟩
theorem info_file : (Try.prog.info? 34).map (fun i => (i.zero, i.size, i.bytes)) = some (some (.agg #[.string ⟨#[]⟩, .string ⟨#[]⟩]), 2, 32) := by kernel_rfl
def fcell (nm tx : Nat → ByteArray) : Nat → List Value
  | 0 => []
  | k + 1 => fcell nm tx k ++ [.string (nm k), .string (tx k)]
theorem fcell_len (nm tx : Nat → ByteArray) : ∀ k, (fcell nm tx k).length = k * 2
  | 0 => rfl
  | k + 1 => by unfold fcell; rw [List.length_append, fcell_len nm tx k]; simp; omega
theorem fcell_get (nm tx : Nat → ByteArray) : ∀ k i, i < k → (fcell nm tx k)[i * 2]? = some (.string (nm i)) ∧ (fcell nm tx k)[i * 2 + 1]? = some (.string (tx i))
  | 0, _, h => absurd h (by omega)
  | k + 1, i, h => by
    show (fcell nm tx k ++ _)[i * 2]? = _ ∧ (fcell nm tx k ++ _)[i * 2 + 1]? = _
    have hl := fcell_len nm tx k
    by_cases hi : i < k
    · have ih := fcell_get nm tx k i hi
      rw [List.getElem?_append_left (by omega), List.getElem?_append_left (by omega)]
      exact ih
    · obtain rfl : i = k := by omega
      rw [List.getElem?_append_right (by omega), List.getElem?_append_right (by omega), hl, Nat.sub_self, show i * 2 + 1 - i * 2 = 1 by omega]
      exact ⟨rfl, rfl⟩
theorem own_RF {w : World} {base n : Nat} {v : Value} {nm tx : Nat → ByteArray} (h : w.ownsRow base 34 2 v n (fcell nm tx n)) : ∃ A cap, v = .slice A n cap ∧ n ≤ cap ∧ RF w A n nm tx := by
  rcases Nat.eq_zero_or_pos n with rfl | hn
  · rcases h.2 with ⟨h0, _⟩ | ⟨g, cap, cur, h0, _, _, h3, _⟩
    · exact ⟨none, 0, h0, Nat.le_refl _, fun h => absurd h (by omega)⟩
    · exact ⟨_, cap, h0, h3, fun h => absurd h (by omega)⟩
  · obtain ⟨g, cap, rfl, hc⟩ := own_form h hn
    refine ⟨_, cap, rfl, hc, fun _ => ⟨g, 0, rfl, (h.lt g rfl).2, fun j hj => ?_⟩⟩
    obtain ⟨c0, c1⟩ := fcell_get nm tx n j hj
    rw [Nat.zero_add]
    exact ⟨by rw [World.ownsRow.cellAt h (j * 2) (by omega), c0], by rw [World.ownsRow.cellAt h (j * 2 + 1) (by omega), c1]⟩
/-- What Files returns. -/
def FS (w : World) (n : Nat) (nm tx : Nat → ByteArray) (e : Ending) (w' : World) : Prop := ∃ A cap, e = .returned (.slice A n cap) ∧ n ≤ cap ∧ RF w' A n nm tx ∧ Below w.heap.size w w'
set_option maxRecDepth 100000 in
set_option maxHeartbeats 1000000 in
theorem files_t (n c : Nat) (A : Option Addr) (nm tx : Nat → ByteArray) (w : World) (hA : RF w A n nm tx) (hn : n ≤ 20) :
    Calls Try.prog 11 #[.slice A n c] w (FS w n nm tx) := by
  obtain ⟨i0, hi, hz0, hz1, hz2⟩ := info_parts info_file
  replace hA := Lib.hid hA
  go_enter Try.func11, Try.ntmps11
  go_wp2
  go_loopw [3, 8] (fun o i wr => ∃ (k : Nat) (v : Value), k ≤ n ∧ i = .int .i64 (k : Int) ∧ o = v ∧ wr.ownsRow w.heap.size 34 2 v k (fcell nm tx k) ∧ Below w.heap.size w wr) (fun _ i _ => n - (intOf i).toNat)
  case atStart => exact ⟨0, _, Nat.zero_le _, rfl, rfl, World.ownsRow_nil _ _ _ _, Below.refl _ _⟩
  case round =>
    obtain ⟨k, v, hk, rfl, rfl, hown, hbw⟩ := hrel
    by_cases hlt : k < n
    · obtain ⟨b, off, rfl, hb, hcs⟩ := (hA.out.keep hbw) (by omega)
      obtain ⟨c0, c1⟩ := hcs k hlt
      have sz := hbw.size
      clear hcs
      go_wp2_with (at_builtin; refine wpList_append_lies _ rfl _ _ 29 rfl w.heap.size 34 i0 (.agg #[.string ⟨#[]⟩, .string ⟨#[]⟩]) 2 32 Try.underlying29 hi hz0 hz1 hz2 rfl (by decide) _ _ _ rfl ((hown.alloc _).alloc _) ⟨wr.heap.size + 1, 0, none⟩ 1 1 [.string (nm k), .string (tx k)] rfl rfl ?c1 ?c2 (by decide) ?c3 ?c4 ?c5 (wr.heap.size + 1 + 1) (by simp) ?c6)
      case c1 => exact World.news_of_block (by have h := heap_alloc_new (wr.alloc (.cells #[.string (nm k), .string (tx k)] 33)) (.cells #[.string (nm k), .string (tx k)] 34); rw [World.size_alloc] at h; exact h)
      case c2 => intro u hu; simp only [List.mem_cons, List.not_mem_nil, or_false] at hu; rcases hu with rfl | rfl <;> rfl
      case c3 => unfold maxLen; omega
      case c4 => omega
      case c5 => simp; omega
      case c6 =>
        intro g' cap' w1 hown1 hgrow hat hlt1
        have hbw1 : Below w.heap.size w w1 := ((hbw.alloc (by omega) _).alloc (by simp; omega) _).grown hgrow (by simp; omega) (fun j e => (hown.lt j e).1)
        have hown2 : w1.ownsRow w.heap.size 34 2 (.slice (some ⟨g', 0, none⟩) (k + 1) cap') (k + 1) (fcell nm tx (k + 1)) := hown1
        clear hown1 hgrow hat hlt1 hown hbw c0 c1
        replace hown2 := Lib.hid hown2
        go_wp2_with fail
        go_roundw
        case rel => exact ⟨k + 1, _, by omega, by go_num, rfl, hown2.out, hbw1⟩
        case measure => simp [intOf]; omega
    · obtain rfl : k = n := by omega
      obtain ⟨A', cap, rfl, hcap, hR⟩ := own_RF hown
      replace hR := Lib.hid hR
      go_wp2
      go_ret
      exact ⟨A', cap, rfl, hcap, hR.out, hbw⟩
set_option maxHeartbeats 400000 in
theorem Get_ok (q n i : Nat) (nm tx : Nat → ByteArray) (w : World) (h : Tab w q n nm tx) (hn : n ≤ 1000000) (hi : i < n) :
    Calls Try.prog 13 #[.pointer (some ⟨q, 0, none⟩), .int .i64 ((i : Int) + 1)] w (RV w (.tuple #[fv (nm i) (tx i), .int .i64 0])) := by
  have hF := Lib.hid (fun w h => file_ok q n i nm tx w h hn hi)
  have h2 := Lib.hid (fun o => h.over ((Below.refl _ w).alloc (Nat.le_refl _) o))
  clear h
  go_enter Try.func13, Try.ntmps13
  go_wp2_with (go_at_call 27; (with_reducible refine (hF.out _ (h2.out _)).mono ?_); rintro e w' ⟨g, rfl, ⟨s, cap, k0, k1, k2, k3, k4⟩, rfl⟩; clear k4)
  refine bodyPost_ret (v := .tuple #[fv (nm i) (tx i), .int .i64 0]) (by simp [results, Try.results13, go_sem]) rfl ⟨rfl, by go_grown⟩
set_option maxHeartbeats 400000 in
theorem Get_no (q n : Nat) (m : Int) (nm tx : Nat → ByteArray) (w : World) (h : Tab w q n nm tx) (hm : m < 1 ∨ (n : Int) < m) :
    Calls Try.prog 13 #[.pointer (some ⟨q, 0, none⟩), .int .i64 m] w (RV w (.tuple #[fv ⟨#[]⟩ ⟨#[]⟩, .int .i64 21])) := by
  have hF := Lib.hid (fun w h => file_no q n m nm tx w h hm)
  have h2 := Lib.hid (fun o => h.over ((Below.refl _ w).alloc (Nat.le_refl _) o))
  clear h hm
  go_enter Try.func13, Try.ntmps13
  go_wp2_with (go_at_call 27; (with_reducible refine (hF.out _ (h2.out _)).mono ?_); rintro e w' ⟨rfl, rfl⟩)
  refine bodyPost_ret (v := .tuple #[fv ⟨#[]⟩ ⟨#[]⟩, .int .i64 21]) (by simp [results, Try.results13, go_sem]) rfl ⟨rfl, by go_grown⟩
theorem fst_lo (p : Nat → Bool) : ∀ f k, fstI p f k = -1 ∨ (k : Int) ≤ fstI p f k
  | 0, _ => .inl rfl
  | f + 1, k => by
    unfold fstI
    split
    · exact .inr (Int.le_refl _)
    · rcases fst_lo p f (k + 1) with h | h
      · exact .inl h
      · exact .inr (by omega)
set_option maxRecDepth 100000 in
set_option maxHeartbeats 800000 in
theorem Find_t (q n : Nat) (x : ByteArray) (nm tx : Nat → ByteArray) (w : World) (h : Tab w q n nm tx) (hn : n ≤ 1000000) :
    Calls Try.prog 14 #[.pointer (some ⟨q, 0, none⟩), .string x] w fun e w' => e = .returned (.int .i64 (fstI (fun j => (nm j).toList == x.toList) n 0 + 1)) ∧ w = w' := by
  obtain ⟨A, cap, hc, hcap, hA⟩ := h.form
  have hL := Lib.hid (fun w h => len_t q n cap A w h)
  replace hA := Lib.hid hA
  clear h
  go_enter Try.func14, Try.ntmps14
  go_wp2_with (go_at_call 17; refine (hL.out _ (by assumption)).mono ?_; rintro e w' ⟨rfl, rfl⟩)
  go_loop [8] (fun i => ∃ k : Nat, k ≤ n ∧ i = .int .i64 (k : Int) ∧ fstI (fun j => (nm j).toList == x.toList) (n - k) k = fstI (fun j => (nm j).toList == x.toList) n 0) (fun i => n - (intOf i).toNat)
  case atStart => exact ⟨0, Nat.zero_le _, rfl, rfl⟩
  case round =>
    obtain ⟨k, hk, rfl, hleft⟩ := hrel
    by_cases hlt : k < n
    · obtain ⟨g, rfl, hAt⟩ := hA.out (by omega)
      obtain ⟨s, cs, c0, -⟩ := hAt k hlt
      clear hAt
      obtain ⟨d, hd⟩ : ∃ d, n - k = d + 1 := ⟨n - k - 1, by omega⟩
      have hd2 : n - (k + 1) = d := by omega
      rw [hd, show fstI (fun j => (nm j).toList == x.toList) (d + 1) k = if (nm k).toList == x.toList then (k : Int) else fstI (fun j => (nm j).toList == x.toList) d (k + 1) from rfl] at hleft
      cases hq : (nm k).toList == x.toList with
      | true =>
        rw [if_pos hq] at hleft
        replace hleft := Lib.hid hleft
        clear hd hd2
        go_wp2
        go_ret
        exact ⟨by rw [← hleft.out]; rfl, rfl⟩
      | false =>
        rw [if_neg (by rw [hq]; decide), ← hd2] at hleft
        replace hleft := Lib.hid hleft
        clear hd hd2
        go_wp2
        go_round
        case rel => exact ⟨k + 1, by omega, by go_num, hleft.out⟩
        case measure => simp [intOf]; omega
    · obtain rfl : k = n := by omega
      rw [Nat.sub_self] at hleft
      replace hleft := Lib.hid hleft
      go_wp2
      go_ret
      exact ⟨by rw [← hleft.out]; rfl, rfl⟩
/-- Where the last is of which p holds, plus 1; or 0. -/
def atI (p : Nat → Bool) : Nat → Int
  | 0 => 0
  | k + 1 => if p k then (k : Int) + 1 else atI p k
theorem fst_none (p : Nat → Bool) (f : Nat) : ∀ k, (∀ j, k ≤ j → j < k + f → p j = false) → fstI p f k = -1 := by
  induction f with
  | zero => intro k _; rfl
  | succ f ih =>
    intro k h
    rw [show fstI p (f + 1) k = if p k then (k : Int) else fstI p f (k + 1) from rfl, h k (Nat.le_refl _) (by omega)]
    exact ih (k + 1) (fun j h1 h2 => h j (by omega) (by omega))
theorem fst_some (p : Nat → Bool) (i : Nat) (hp : p i = true) (f : Nat) : ∀ k, (∀ j, k ≤ j → j < i → p j = false) → k ≤ i → i < k + f → fstI p f k = i := by
  induction f with
  | zero => intro k _ h1 h2; omega
  | succ f ih =>
    intro k h h1 h2
    rw [show fstI p (f + 1) k = if p k then (k : Int) else fstI p f (k + 1) from rfl]
    by_cases hk : k = i
    · subst hk; rw [if_pos hp]
    · rw [h k (Nat.le_refl _) (by omega)]
      exact ih (k + 1) (fun j h3 h4 => h j (by omega) h4) (by omega) (by omega)
theorem at_none (p : Nat → Bool) : ∀ n, (∀ j, j < n → p j = false) → atI p n = 0
  | 0, _ => rfl
  | n + 1, h => by
    rw [show atI p (n + 1) = if p n then (n : Int) + 1 else atI p n from rfl, h n (by omega)]
    exact at_none p n (fun j hj => h j (by omega))
theorem at_some (p : Nat → Bool) (i : Nat) (hp : p i = true) : ∀ n, i < n → (∀ j, j < n → j ≠ i → p j = false) → atI p n = (i : Int) + 1
  | 0, h, _ => absurd h (by omega)
  | n + 1, h, hu => by
    rw [show atI p (n + 1) = if p n then (n : Int) + 1 else atI p n from rfl]
    by_cases hn : n = i
    · subst hn; rw [if_pos hp]
    · rw [hu n (by omega) hn]
      exact at_some p i hp n (by omega) (fun j h1 h2 => hu j (by omega) h2)
theorem any_none (p : Nat → Bool) : ∀ n, anyB p n = false → ∀ j, j < n → p j = false
  | 0, _, _, h => absurd h (by omega)
  | n + 1, h, j, hj => by
    rw [show anyB p (n + 1) = (anyB p n || p n) from rfl, Bool.or_eq_false_iff] at h
    by_cases e : j = n
    · subst e; exact h.2
    · exact any_none p n h.1 j (by omega)
/-- Where no two names are alike, the first of a name is the only one. -/
theorem distinct (nm : Nat → ByteArray) (n : Nat) (h : dupB nm n = false) (i j : Nat) (hi : i < n) (hj : j < n) (hij : i ≠ j) : ((nm i).toList == (nm j).toList) = false := by
  have key : ∀ a b, a < b → b < n → ((nm a).toList == (nm b).toList) = false := fun a b hab hb =>
    any_none _ b (any_none _ n h b hb) a hab
  rcases Nat.lt_or_gt_of_ne hij with h1 | h1
  · exact key i j h1 hj
  · have := key j i h1 hi
    rw [Bool.eq_false_iff] at this ⊢
    intro h2
    exact this (by rw [beq_iff_eq] at h2 ⊢; exact h2.symm)
theorem fst_own (nm : Nat → ByteArray) (n i : Nat) (h : dupB nm n = false) (hi : i < n) : fstI (fun j => (nm j).toList == (nm i).toList) n 0 = (i : Int) :=
  fst_some _ i (by simp) n 0 (fun j _ hj => distinct nm n h j i (by omega) hi (by omega)) (Nat.zero_le _) (by omega)
theorem fst_at (nm : Nat → ByteArray) (n : Nat) (x : ByteArray) (h : dupB nm n = false) : fstI (fun j => (nm j).toList == x.toList) n 0 + 1 = atI (fun j => (nm j).toList == x.toList) n := by
  by_cases hx : ∃ i, i < n ∧ ((nm i).toList == x.toList) = true
  · obtain ⟨i, hi, hp⟩ := hx
    have hu : ∀ j, j < n → j ≠ i → ((nm j).toList == x.toList) = false := fun j hj hne => by
      have := distinct nm n h j i hj hi hne
      rw [beq_iff_eq] at hp
      rw [← hp]; exact this
    rw [fst_some (fun j => (nm j).toList == x.toList) i hp n 0 (fun j _ hj => hu j (by omega) (by omega)) (Nat.zero_le _) (by omega), at_some (fun j => (nm j).toList == x.toList) i hp n hi hu]
  · have hn : ∀ j, j < n → ((nm j).toList == x.toList) = false := fun j hj => by
      cases hq : (nm j).toList == x.toList with
      | false => rfl
      | true => exact absurd ⟨j, hj, hq⟩ hx
    rw [fst_none _ n 0 (fun j _ hj => hn j (by omega)), at_none _ n hn]
    rfl
end Go.Proofs.Ytegoldihcchfdaa
