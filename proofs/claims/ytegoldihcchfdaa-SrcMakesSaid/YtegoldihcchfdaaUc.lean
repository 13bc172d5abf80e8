/-
  The walk of the statement SrcMakes, at every slice of files, name and number.
-/
import Derived.Test.YtegoldihcchfdaaUb
import Derived.Deep.RegionHeld3
import Derived.Deep.DrawnRows
namespace Go.Proofs.Ytegoldihcchfdaa
open Go.RowKit
attribute [local go_sem ↓] Go.wp_at_zero Go.wp_at_succ
theorem keep4 {w : World} {b c : Nat} {t u : TypeId} {x y x' y' : Value} (A : R2 t w b x y) (B : R2 u w c x' y') : (w.cell? ⟨b, 0, none⟩ = some x ∧ w.cell? ⟨b, 1, none⟩ = some y) ∧ w.cell? ⟨c, 0, none⟩ = some x' ∧ w.cell? ⟨c, 1, none⟩ = some y' := ⟨⟨A.all.1, A.all.2.1⟩, B.all.1, B.all.2.1⟩
set_option maxRecDepth 100000 in
set_option maxHeartbeats 1000000 in
theorem Makes_bad (n n0 c : Nat) (A : Option Addr) (nm tx : Nat → ByteArray) (x : ByteArray) (m : Int) (w : World) (hA : RF w A n nm tx) (hn : n ≤ 20) (hc : n ≤ c) (hs : ∀ j, j < n → (tx j).size ≤ 140737488355328) (hm : ∀ j, j < n → (nm j).size ≤ 140737488355328)
    (hW : ∀ w, Calls Try.prog 9 #[.slice A n0 c] w fun e w' => e = .returned (.slice A n c) ∧ w = w') (he : ferr n nm tx ≠ 0) :
    Calls Try.prog 3 #[.slice A n0 c, .string x, .int .i64 m] w (RV w (.bool true)) := by
  have hF := Lib.hid (fun w (h : RF w A n nm tx) => files_t n c A nm tx w h hn)
  have hN := fun w A' c' (h : RF w A' n nm tx) (h2 : n ≤ c') => New_bad n c' A' nm tx w h (by omega) h2 hs he
  have hR := fun w (h : RF w A n nm tx) => refNew_t n c A nm tx w h (by omega) hc hs hm
  obtain ⟨E, hE⟩ : ∃ E, ferr n nm tx = E := ⟨_, rfl⟩
  rw [hE] at hN hR he
  have e1 : (E == 0) = false := by simp [he]
  have e2 : (E != 0) = true := by simp [he]
  replace hN := Lib.hid hN
  replace hR := Lib.hid hR
  replace hW := Lib.hid hW
  replace hA := Lib.hid hA
  clear hE
  go_enter Try.func3, Try.ntmps3
  go_wp2_with fail
  (with_reducible refine (awake_t _).mono ?_)
  rintro e w1 ⟨rfl, hbw1⟩
  go_wp2_with fail
  (with_reducible refine (hW.out _).mono ?_)
  rintro e w2 ⟨rfl, rfl⟩
  go_wp2_with fail
  (with_reducible refine (hF.out _ (hA.out.keep hbw1)).mono ?_)
  rintro e w3 ⟨A', cap, rfl, hcap, hA', hb3⟩
  have hbw3 : Below w.heap.size w w3 := below_call hb3 hbw1
  replace hA' := Lib.hid hA'
  clear hb3 hbw1
  go_wp2_with fail
  (with_reducible refine (hN.out _ _ _ hA'.out hcap).mono ?_)
  rintro e w4 ⟨rfl, hb4⟩
  have hbw4 : Below w.heap.size w w4 := below_call hb4 hbw3
  clear hb4 hbw3
  go_wp2_with fail
  (with_reducible refine (hR.out _ (hA.out.keep hbw4)).mono ?_)
  rintro e w5 ⟨rfl, hb5⟩
  have hbw5 : Below w.heap.size w w5 := below_call hb5 hbw4
  clear hb5 hbw4
  go_wp2_with fail
  go_ret
  exact ⟨rfl, hbw5⟩
theorem neq_empty (w : World) : (binOp .neq 34 (fv ⟨#[]⟩ ⟨#[]⟩) (fv ⟨#[]⟩ ⟨#[]⟩)).run Try.prog w = .ok (.bool false) w := by kernel_rfl
theorem guard_file (op : BinOp) (x y : Operand) (xs ys : Array Value) (w : World) : (eqGuard op 34 x y (.agg xs) (.agg ys)).run Try.prog w = .ok () w := run_eqGuard_agg w op _ x y xs ys (by kernel_rfl)
theorem tot_each (tx : Nat → ByteArray) : ∀ n j, j < n → (tx j).size ≤ totB tx n
  | 0, _, h => absurd h (by omega)
  | n + 1, j, h => by
    show (tx j).size ≤ totB tx n + (tx n).size
    by_cases e : j = n
    · subst e; omega
    · have := tot_each tx n j (by omega); omega
theorem ferr_zero {n : Nat} {nm tx : Nat → ByteArray} (h : ferr n nm tx = 0) : n ≤ 16 ∧ dupB nm n = false ∧ ∀ j, j < n → (tx j).size ≤ 32768 := by
  unfold ferr at h
  split at h
  · cases h
  split at h
  · cases h
  split at h
  · cases h
  split at h
  · cases h
  rename_i h1 h2 h3 h4
  exact ⟨by omega, by simpa using h3, fun j hj => by have := tot_each tx n j hj; omega⟩
set_option maxRecDepth 100000 in
set_option maxHeartbeats 2000000 in
theorem Makes_ok (n n0 c : Nat) (A : Option Addr) (nm tx : Nat → ByteArray) (x : ByteArray) (m : Int) (w : World) (hA : RF w A n nm tx) (hc : n ≤ c) (hm : ∀ j, j < n → (nm j).size ≤ 140737488355328)
    (hW : ∀ w, Calls Try.prog 9 #[.slice A n0 c] w fun e w' => e = .returned (.slice A n c) ∧ w = w') (he : ferr n nm tx = 0) :
    Calls Try.prog 3 #[.slice A n0 c, .string x, .int .i64 m] w (RV w (.bool true)) := by
  obtain ⟨h16, hdup, hs⟩ := ferr_zero he
  have hF := Lib.hid (fun w (h : RF w A n nm tx) => files_t n c A nm tx w h (by omega))
  have hN := Lib.hid (fun w A' c' (h : RF w A' n nm tx) (h2 : n ≤ c') => New_ok n c' A' nm tx w h h16 h2 hs he)
  have hR := fun w (h : RF w A n nm tx) => refNew_t n c A nm tx w h (by omega) hc (fun j hj => by have := hs j hj; omega) hm
  rw [he] at hR
  replace hR := Lib.hid hR
  have hG := Lib.hid (fun w q k (hk : k < n) (h : Tab w q n nm tx) => Get_ok q n k nm tx w h (by omega) hk)
  have hFi := fun w q k (hk : k < n) (h : Tab w q n nm tx) => Find_t q n (nm k) nm tx w h (by omega)
  have hFo := fun k (hk : k < n) => fst_own nm n k hdup hk
  have hFi2 : ∀ w q k (_ : k < n) (_ : Tab w q n nm tx), Calls Try.prog 14 #[.pointer (some ⟨q, 0, none⟩), .string (nm k)] w fun e w' => e = .returned (.int .i64 ((k : Int) + 1)) ∧ w = w' := fun w q k hk h => by
    have h1 := hFi w q k hk h
    rw [hFo k hk] at h1
    exact h1
  have hFx : ∀ w q (_ : Tab w q n nm tx), Calls Try.prog 14 #[.pointer (some ⟨q, 0, none⟩), .string x] w fun e w' => e = .returned (.int .i64 (atI (fun j => (nm j).toList == x.toList) n)) ∧ w = w' := fun w q h => by
    have h1 := Find_t q n x nm tx w h (by omega)
    rw [fst_at nm n x hdup] at h1
    exact h1
  have hLi := Lib.hid (fun w q k (hk : k < n) (h : Tab w q n nm tx) => Lines_ok q n k nm tx w h (by omega) hk)
  have hLn := Lib.hid (fun w q (hmm : m < 1 ∨ (n : Int) < m) (h : Tab w q n nm tx) => Lines_no q n m nm tx w h hmm)
  have hGn := Lib.hid (fun w q (hmm : m < 1 ∨ (n : Int) < m) (h : Tab w q n nm tx) => Get_no q n m nm tx w h hmm)
  have hRL := Lib.hid (fun w k (hk : k < n) => refLines_t (tx k) w (by have := hs k hk; omega))
  have hLe := Lib.hid (fun (w : World) (q : Nat) (h : Tab w q n nm tx) => (by
    obtain ⟨A2, cap2, k1, -⟩ := h.form
    exact len_t q n cap2 A2 w k1 : Calls Try.prog 17 #[.pointer (some ⟨q, 0, none⟩)] w fun e w' => e = .returned (.int .i64 (n : Int)) ∧ w = w'))
  clear hFi hFo
  replace hFi2 := Lib.hid hFi2
  replace hFx := Lib.hid hFx
  replace hW := Lib.hid hW
  replace hA := Lib.hid hA
  clear he hs hm hdup
  have hne := neq_empty
  have hgf := guard_file
  go_enter Try.func3, Try.ntmps3
  go_wp2_with fail
  (with_reducible refine (awake_t _).mono ?_)
  rintro e w1 ⟨rfl, hbw1⟩
  go_wp2_with fail
  (with_reducible refine (hW.out _).mono ?_)
  rintro e w2 ⟨rfl, rfl⟩
  go_wp2_with fail
  (with_reducible refine (hF.out _ (hA.out.keep hbw1)).mono ?_)
  rintro e w3 ⟨A', cap, rfl, hcap, hA', hb3⟩
  have hbw3 : Below w.heap.size w w3 := below_call hb3 hbw1
  replace hA' := Lib.hid hA'
  clear hb3 hbw1
  go_wp2_with fail
  (with_reducible refine (hN.out _ _ _ hA'.out hcap).mono ?_)
  rintro e w4 ⟨q, rfl, T4, hb4⟩
  have hbw4 : Below w.heap.size w w4 := below_call hb4 hbw3
  replace T4 := Lib.hid T4
  clear hb4 hbw3 hA'
  go_wp2_with fail
  (with_reducible refine (hR.out _ (hA.out.keep hbw4)).mono ?_)
  rintro e w5 ⟨rfl, hb5⟩
  have hbw5 : Below w.heap.size w w5 := below_call hb5 hbw4
  have T5 := Lib.hid (T4.out.over hb5)
  clear hb5 hbw4 T4
  go_wp2_with fail
  go_loopw [9, 35] (fun a i wr => ∃ k : Nat, k ≤ n ∧ i = .int .i64 (k : Int) ∧ a = .int .i64 (atI (fun j => (nm j).toList == x.toList) k) ∧ Tab wr q n nm tx ∧ Below w.heap.size w wr) (fun _ i _ => n - (intOf i).toNat)
  case atStart => exact ⟨0, Nat.zero_le _, rfl, rfl, T5.out, hbw5⟩
  case round =>
    obtain ⟨k, hk, rfl, rfl, T, hbw⟩ := hrel
    clear T5 hbw5 hF hN hR hW
    replace T := Lib.hid T
    by_cases hlt : k < n
    · obtain ⟨b, off, rfl, hb, hcs⟩ := (hA.out.keep hbw) (by omega)
      obtain ⟨c0, c1⟩ := hcs k hlt
      have hz := hbw.size
      clear hcs
      have e8 : IntKind.i64.wrap ((k : Int) + 1) = (k : Int) + 1 := IntWalk.i64_in _ (by omega)
      have ha : atI (fun j => (nm j).toList == x.toList) (k + 1) = if (nm k).toList == x.toList then (k : Int) + 1 else atI (fun j => (nm j).toList == x.toList) k := rfl
      replace ha := Lib.hid ha
      go_wp2_with fail
      (with_reducible refine (hG.out _ _ _ hlt (T.out.over ((Below.refl _ wr).alloc (Nat.le_refl _) _))).mono ?_)
      rintro e w6 ⟨rfl, hb6⟩
      have hbw6 : Below w.heap.size w w6 := below_call hb6 (by go_grown)
      have z6 := hb6.size
      rw [World.size_alloc] at z6
      have F6 := (R2.new wr 33 (.string (nm k)) (.string (tx k))).over hb6
      have T6 := Lib.hid ((T.out.over ((Below.refl _ wr).alloc (Nat.le_refl _) (.cells #[.string (nm k), .string (tx k)] 33))).over hb6)
      clear hb6 hbw T c0 c1
      go_wp2_with fail
      have F7 : R2 33 (w6.alloc (.cells #[.string (nm k), .string (tx k)] 34)).drew wr.heap.size (.string (nm k)) (.string (tx k)) := F6.alloc _
      have G7 : R2 34 (w6.alloc (.cells #[.string (nm k), .string (tx k)] 34)).drew w6.heap.size (.string (nm k)) (.string (tx k)) := R2.new w6 34 _ _
      have T7 : Hid (Tab (w6.alloc (.cells #[.string (nm k), .string (tx k)] 34)).drew q n nm tx) := Lib.hid (T6.out.over ((Below.refl _ w6).alloc (Nat.le_refl _) _).drew)
      have hbw7 : Below w.heap.size w (w6.alloc (.cells #[.string (nm k), .string (tx k)] 34)).drew := (hbw6.alloc hbw6.size _).drew
      clear F6 T6 hbw6
      go_region_held3 (fun w' => (w'.cell? ⟨wr.heap.size, 0, none⟩ = some (.string (nm k)) ∧ w'.cell? ⟨wr.heap.size, 1, none⟩ = some (.string (tx k))) ∧ w'.cell? ⟨w6.heap.size, 0, none⟩ = some (.string (nm k)) ∧ w'.cell? ⟨w6.heap.size, 1, none⟩ = some (.string (tx k)))
        (first | (with_reducible exact keep4 F7 G7) | (with_reducible exact keep4 F8 G8))
        (first
          | (go_at_call 14; (with_reducible refine (hFi2.out _ _ _ hlt T7.out).mono ?_); rintro e w' ⟨rfl, rfl⟩)
          | (go_at_call 15; (with_reducible refine (hLi.out _ _ _ hlt T7.out).mono ?_); rintro e w' ⟨rfl, rfl⟩)
          | (go_at_call 16; (with_reducible refine (hRL.out _ _ hlt).mono ?_); rintro e w8 ⟨g8, cap8, rfl, hcc, hb8⟩; have F8 := F7.over hb8; have G8 := G7.over hb8; have T8 := Lib.hid (T7.out.over hb8); have hbw8 : Below w.heap.size w w8 := below_call hb8 hbw7; have f8 := F8.all; clear hcc hb8))
      cases hq : (nm k).toList == x.toList with
      | true =>
        have ha2 := Lib.hid (ha.out.trans (if_pos hq))
        go_wp2_with fail
        go_roundw
        case rel => exact ⟨k + 1, by omega, by go_num, by rw [ha2.out], T8.out, hbw8⟩
        case measure => simp [intOf]; omega
      | false =>
        have ha2 := Lib.hid (ha.out.trans (if_neg (by rw [hq]; decide)))
        go_wp2_with fail
        go_roundw
        case rel => exact ⟨k + 1, by omega, by go_num, by rw [ha2.out], T8.out, hbw8⟩
        case measure => simp [intOf]; omega
    · obtain rfl : k = n := by omega
      have hz := hbw.size
      by_cases hmm : 1 ≤ m ∧ m ≤ (k : Int)
      · obtain ⟨i, rfl⟩ : ∃ i : Nat, m = (i : Int) + 1 := ⟨(m - 1).toNat, by omega⟩
        have hi : i < k := by omega
        have d1 : decide ((k : Int) < (i : Int) + 1) = false := by simp; omega
        clear hmm hLn hGn
        go_wp2_with fail
        (with_reducible refine (hG.out _ _ _ hi T.out).mono ?_)
        rintro e w6 ⟨rfl, hb6⟩
        have hbw6 : Below w.heap.size w w6 := below_call hb6 hbw
        have T6 := Lib.hid ((T.out.over hb6).over ((Below.refl _ w6).alloc (Nat.le_refl _) (.cells #[.string (nm i), .string (tx i)] 34)))
        clear hb6 hbw T
        go_wp2_with fail
        (with_reducible refine (hLe.out _ _ T6.out).mono ?_)
        rintro e w7 ⟨rfl, rfl⟩
        go_wp2_with fail
        (with_reducible refine (hFx.out _ _ T6.out).mono ?_)
        rintro e w8 ⟨rfl, rfl⟩
        go_wp2_with fail
        go_ret
        exact ⟨ret_bool (by simp), hbw6.alloc hbw6.size _⟩
      · have hmm2 : m < 1 ∨ (k : Int) < m := by omega
        have cL := hLn.out
        have cG := hGn.out
        replace cL := Lib.hid (fun w q h => cL w q hmm2 h)
        replace cG := Lib.hid (fun w q h => cG w q hmm2 h)
        clear hmm hLn hGn
        rcases hmm2 with hm1 | hm1
        all_goals
          try (have hm0 : ¬ m < 1 := by omega)
          go_wp2_with fail
          (with_reducible refine (cG.out _ _ T.out).mono ?_)
          rintro e w6 ⟨rfl, hb6⟩
          have hbw6 : Below w.heap.size w w6 := below_call hb6 hbw
          have T6 := Lib.hid ((T.out.over hb6).over ((Below.refl _ w6).alloc (Nat.le_refl _) (.cells #[.string ⟨#[]⟩, .string ⟨#[]⟩] 34)))
          clear hb6 hbw T
          go_wp2_with fail
          (with_reducible refine (cL.out _ _ T6.out).mono ?_)
          rintro e w7 ⟨rfl, rfl⟩
          go_wp2_with fail
          (with_reducible refine (hLe.out _ _ T6.out).mono ?_)
          rintro e w7 ⟨rfl, rfl⟩
          go_wp2_with fail
          (with_reducible refine (hFx.out _ _ T6.out).mono ?_)
          rintro e w8 ⟨rfl, rfl⟩
          go_wp2_with fail
          go_ret
          exact ⟨ret_bool (by simp), hbw6.alloc hbw6.size _⟩
theorem SrcMakes_all (n c : Nat) (A : Option Addr) (nm tx : Nat → ByteArray) (x : ByteArray) (m : Int) (w : World) (hA : RF w A n nm tx) (hc : n ≤ c) (hs : ∀ j, j < n → (tx j).size ≤ 140737488355328) (hm : ∀ j, j < n → (nm j).size ≤ 140737488355328) :
    Calls Try.prog 3 #[.slice A n c, .string x, .int .i64 m] w (RV w (.bool true)) := by
  by_cases h20 : n ≤ 20
  · by_cases he : ferr n nm tx = 0
    · exact Makes_ok n n c A nm tx x m w hA hc hm (fun w => few_le n c A w h20) he
    · exact Makes_bad n n c A nm tx x m w hA h20 hc hs hm (fun w => few_le n c A w h20) he
  · obtain ⟨b, off, rfl, _⟩ := hA (by omega)
    have hW := fun w => few_gt n c b off w (by omega) hc
    have hA2 := hA.less (show 20 ≤ n by omega)
    exact Makes_bad 20 n c _ nm tx x m w hA2 (by omega) (by omega) (fun j hj => hs j (by omega)) (fun j hj => hm j (by omega)) hW (by unfold ferr; rw [if_pos (by omega)]; decide)
end Go.Proofs.Ytegoldihcchfdaa
