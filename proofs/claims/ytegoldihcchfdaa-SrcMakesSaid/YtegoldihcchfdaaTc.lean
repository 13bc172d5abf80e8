/-
  The walk of the statement SrcJoins, at every text.
-/
import Derived.Test.YtegoldihcchfdaaTb
namespace Go.Proofs.Ytegoldihcchfdaa
open Go.RowKit
theorem Pos_ok1 (b : ByteArray) (q k : Nat) (x l c : Int) (w : World) (h : Tab w q 1 (fun _ => ⟨#[120]⟩) (fun _ => b)) (hx : x = (k : Int)) (hk : k ≤ b.size) (hb : b.size ≤ 17592186000000) (hl : ((plL b k : Nat) : Int) = l) (hc : ((plC b k : Nat) : Int) = c) :
    Calls Try.prog 18 #[.pointer (some ⟨q, 0, none⟩), .int .i64 1, .int .i64 x] w (RV w (.tuple #[pv 1 l c, .int .i64 0])) := by
  subst hx hl hc
  have h := Pos_ok q 1 0 k (fun _ => ⟨#[120]⟩) (fun _ => b) w h (by omega) (by omega) hk hb
  rw [show ((0 : Nat) : Int) + 1 = 1 from rfl] at h
  exact h
theorem nl_before (s : ByteArray) : ∀ k, ∀ x ∈ sts s k, x = 0 ∨ nl s (x - 1) = true
  | 0 => by intro x hx; simp [sts] at hx; exact .inl hx
  | k + 1 => by
    intro x hx
    cases hn : nl s k with
    | true =>
      rw [(sts_yes s k hn).1] at hx
      rcases List.mem_append.1 hx with h | h
      · exact nl_before s k x h
      · simp at h; subst h; exact .inr hn
    | false =>
      rw [(sts_no s k hn).1] at hx
      exact nl_before s k x hx
/-- The first k lines, put together. -/
def jn (s : ByteArray) (k : Nat) : ByteArray := if k = 0 then ⟨#[]⟩ else s.extract 0 (eOf s (k - 1))
theorem sOf_zero (s : ByteArray) : sOf s 0 = 0 := by
  have h := (sts_more s 0 s.size)
  obtain ⟨r, hr, _⟩ := h
  rw [Nat.zero_add] at hr
  unfold sOf; rw [hr]; rfl
theorem bytes_ext {a b : ByteArray} (h : a.data.toList = b.data.toList) : a = b := by
  cases a with | mk a => cases b with | mk b => simp at h; rw [h]
theorem ext_list (s : ByteArray) (i j : Nat) : (s.extract i j).data.toList = (s.data.toList.take j).drop i := by
  rw [ByteArray.data_extract, Array.toList_extract, List.extract_eq_take_drop, List.take_drop]
  rcases Nat.le_total i j with h | h
  · rw [show i + (j - i) = j by omega]
  · rw [Nat.sub_eq_zero_of_le h, Nat.add_zero, List.drop_take_self, List.drop_eq_nil_of_le (by simp; omega)]
theorem app_list (a b : ByteArray) : (a ++ b).data.toList = a.data.toList ++ b.data.toList := by
  rw [ByteArray.data_append, Array.toList_append]
theorem jn_size (s : ByteArray) (m : Nat) : (jn s (m + 1)).size = eOf s m := by
  have := eOf_le s m
  unfold jn
  rw [if_neg (by omega), Nat.add_sub_cancel, ByteArray.size_extract]; omega
theorem jn_zero (s : ByteArray) : ⟨#[]⟩ ++ lineB s 0 = jn s 1 := by
  apply bytes_ext
  unfold jn lineB
  rw [if_neg (by omega), app_list, sOf_zero]
  rfl
theorem take_nl (s : ByteArray) (a : Nat) (h : a < s.size) (hn : nl s a = true) : s.extract 0 a ++ ⟨#[10]⟩ = s.extract 0 (a + 1) := by
  apply bytes_ext
  rw [app_list, ext_list, ext_list, List.drop_zero, List.drop_zero]
  have hl : a < s.data.toList.length := by simpa using h
  rw [List.take_succ_eq_append_getElem hl]
  unfold nl at hn
  rw [List.getD_eq_getElem?_getD, List.getElem?_eq_getElem hl] at hn
  simp only [Option.getD_some, beq_iff_eq] at hn
  rw [hn]
theorem jn_step (s : ByteArray) (m : Nat) (h : m + 1 < nOf s) : jn s (m + 1) ++ ⟨#[10]⟩ = s.extract 0 (sOf s (m + 1)) ∧ jn s (m + 1) ++ ⟨#[10]⟩ ++ lineB s (m + 1) = jn s (m + 1 + 1) ∧ (plL s (sOf s (m + 1)) = m + 1 + 1 ∧ plC s (sOf s (m + 1)) = 1) ∧ eOf s m + 1 = sOf s (m + 1) := by
  have h1 := sOf_lt s m h
  have h2 := sOf_le s (m + 1)
  have h3 := eOf_ge s (m + 1) h
  have e1 : eOf s m + 1 = sOf s (m + 1) := by unfold eOf; rw [if_neg (by omega)]; omega
  have hm : sOf s (m + 1) ∈ sts s s.size := by
    have hl : m + 1 < (sts s s.size).length := by rw [sts_len]; exact h
    unfold sOf
    rw [List.getD_eq_getElem?_getD, List.getElem?_eq_getElem hl]
    exact List.getElem_mem hl
  have hn : nl s (eOf s m) = true := by
    rcases nl_before s s.size _ hm with h4 | h4
    · omega
    · rwa [show sOf s (m + 1) - 1 = eOf s m by omega] at h4
  have e2 : jn s (m + 1) ++ ⟨#[10]⟩ = s.extract 0 (sOf s (m + 1)) := by
    unfold jn
    rw [if_neg (by omega), Nat.add_sub_cancel, take_nl s _ (by omega) hn, e1]
  refine ⟨e2, ?_, ?_, e1⟩
  · rw [e2]
    apply bytes_ext
    unfold jn lineB
    rw [if_neg (by omega), Nat.add_sub_cancel, app_list, ext_list, ext_list, ext_list, List.drop_zero, List.drop_zero]
    have e3 : s.data.toList.take (sOf s (m + 1)) = (s.data.toList.take (eOf s (m + 1))).take (sOf s (m + 1)) := by rw [List.take_take, Nat.min_eq_left h3]
    rw [e3, List.take_append_drop]
  · obtain ⟨a, b⟩ := line_of s (m + 1) (sOf s (m + 1)) h (Nat.le_refl _) h3
    exact ⟨a, by omega⟩
theorem jn_step' (s : ByteArray) (k : Nat) (h0 : 0 < k) (h : k < nOf s) : jn s k ++ ⟨#[10]⟩ = s.extract 0 (sOf s k) ∧ jn s k ++ ⟨#[10]⟩ ++ lineB s k = jn s (k + 1) ∧ (plL s (sOf s k) = k + 1 ∧ plC s (sOf s k) = 1) ∧ eOf s (k - 1) + 1 = sOf s k ∧ (jn s k).size = eOf s (k - 1) := by
  obtain ⟨m, rfl⟩ : ∃ m, k = m + 1 := ⟨k - 1, by omega⟩
  obtain ⟨a, b, c, d⟩ := jn_step s m h
  exact ⟨a, b, c, d, jn_size s m⟩
/-- A store into a variable of another type leaves a table as it is. -/
theorem Rows3.far {w : World} {v : Value} {n g i : Nat} {nm tx : Nat → ByteArray} {t : TypeId} {m : Nat} {f : Nat → Value} (h : Rows3 w v n nm tx) (hg : w.rowIs g t m f) (h1 : t ≠ 64) (h2 : t ≠ 3) (u : Value) : Rows3 (w.setCell ⟨g, i, none⟩ u) v n nm tx := by
  obtain ⟨vs, k1, k2⟩ := h
  refine ⟨vs, k1.kept (grownBy_set w ⟨g, i, none⟩ u) ?_, fun j hj => ?_⟩
  · rcases k1.2 with ⟨e, _⟩ | ⟨g', cap, cur, e, _⟩
    · subst e; exact .inl rfl
    · subst e
      exact .inr (fun e => row_apart hg k1 h1 (Option.some.inj e).symm)
  · obtain ⟨g', cap, e, k3⟩ := k2 j hj
    refine ⟨g', cap, e, ?_⟩
    rw [e] at k3 ⊢
    exact own_far k3 (fun e => row_apart hg k3 h2 e.symm) u
theorem Tab.set3 {w : World} {q n g : Nat} {nm tx : Nat → ByteArray} {a b c : Value} (h : Tab w q n nm tx) (hg : R3 44 w g a b c) (x y z : Value) : Tab (((w.setCell ⟨g, 0, none⟩ x).setCell ⟨g, 1, none⟩ y).setCell ⟨g, 2, none⟩ z) q n nm tx := by
  have step : ∀ {w : World} {f : Nat → Value} (i : Nat) (u : Value), w.rowIs g 44 3 f → Tab w q n nm tx → Tab (w.setCell ⟨g, i, none⟩ u) q n nm tx := fun i u hf ht => by
    obtain ⟨v, h1, h2⟩ := ht
    refine ⟨v, h1.far (fun e => ?_) u, h2.far hf (by decide) (by decide) u⟩
    obtain ⟨c1, e1, _⟩ := h1
    obtain ⟨c2, e2, _⟩ := hf
    have e3 : q = g := e
    rw [e3, e2] at e1
    injection e1 with e1
    injection e1 with _ e4
    revert e4; decide
  have g1 := World.rowIs.set hg 0 x
  have g2 := World.rowIs.set g1 1 y
  exact step 2 z g2 (step 1 y g1 (step 0 x hg h))
theorem line_size (s : ByteArray) (k : Nat) : (lineB s k).size ≤ s.size := by
  unfold lineB; rw [ByteArray.size_extract]; have := eOf_le s k; omega
theorem jn_all (s : ByteArray) : jn s (nOf s) = s := by
  have hp : 1 ≤ nOf s := plL_pos s _
  apply bytes_ext
  unfold jn eOf
  rw [if_neg (by omega), if_pos (by omega), ext_list, List.drop_zero, List.take_of_length_le (by simp)]
set_option maxHeartbeats 1000000 in
set_option maxRecDepth 100000 in
theorem Joins_short (b : ByteArray) (w : World) (hb : b.size ≤ 2000) : Calls Try.prog 7 #[.string b] w (RV w (.bool true)) := by
  have hN := Lib.hid (fun (w : World) (g : Nat) (hg : g = w.heap.size) => New_one ⟨#[120]⟩ b g w hg x_name (by omega))
  have hLk := Lib.hid (fun (w : World) (q k : Nat) (h : Tab w q 1 (fun _ => ⟨#[120]⟩) (fun _ => b)) (hk : k < nOf b) => Line_ok1 b q k w h hk (by omega))
  have hLs := Lib.hid (fun (w : World) (q : Nat) (h : Tab w q 1 (fun _ => ⟨#[120]⟩) (fun _ => b)) => Lines_ok1 b q w h)
  have hP := Lib.hid (fun (w : World) (q kk : Nat) (x l c : Int) (h : Tab w q 1 (fun _ => ⟨#[120]⟩) (fun _ => b)) (hx : x = (kk : Int)) (hk : kk ≤ b.size) (h1 : ((plL b kk : Nat) : Int) = l) (h2 : ((plC b kk : Nat) : Int) = c) => Pos_ok1 b q kk x l c w h hx hk (by omega) h1 h2)
  have hnb : nOf b ≤ b.size + 1 := plL_le b _
  have hn1 : 1 ≤ nOf b := plL_pos b _
  have d0 : ¬ 2000 < b.size := by omega
  go_enter Try.func7, Try.ntmps7
  go_wp2_with fail
  (with_reducible refine (awake_t _).mono ?_)
  rintro e w1 ⟨rfl, hbw1⟩
  have z1 := hbw1.size
  go_wp2_with fail
  (with_reducible refine (hN.out _ _ rfl).mono ?_)
  rintro e w2 ⟨q, rfl, T2, hb2⟩
  have hbw2 : Below w.heap.size w w2 := below_call hb2 (by go_grown)
  replace T2 := Lib.hid T2
  clear hb2 hbw1 z1
  go_wp2_with fail
  (with_reducible refine (hLs.out _ _ T2.out).mono ?_)
  rintro e w3 ⟨rfl, rfl⟩
  go_wp2_with fail
  go_loopw [5, 29] (fun s i wr => ∃ (k : Nat) (J : ByteArray), k ≤ nOf b ∧ i = .int .i64 (k : Int) ∧ s = .string J ∧ J = jn b k ∧ Tab wr q 1 (fun _ => ⟨#[120]⟩) (fun _ => b) ∧ Below w.heap.size w wr) (fun _ i _ => nOf b - (intOf i).toNat)
  case atStart => exact ⟨0, ⟨#[]⟩, Nat.zero_le _, rfl, rfl, rfl, T2.out, hbw2⟩
  case round =>
    obtain ⟨k, J, hk, rfl, rfl, hJ, T, hbw⟩ := hrel
    clear T2 hbw2
    replace T := Lib.hid T
    by_cases hlt : k < nOf b
    · have hq := neq_pos 1 ((k : Int) + 1) 1 1 ((k : Int) + 1) 1
      have hg := guard_pos
      have l1 : (lineB b k).size ≤ 2000 := Nat.le_trans (line_size b k) hb
      by_cases hk0 : k = 0
      · have hJ2 : J = ⟨#[]⟩ := by rw [hJ, hk0]; rfl
        clear hJ
        subst hJ2
        have hng : ¬ (0 : Int) < (k : Int) := by omega
        have q1 := Lib.hid (show ((plL b 0 : Nat) : Int) = (k : Int) + 1 by rw [hk0]; rfl)
        have q2 := Lib.hid (show (⟨#[]⟩ : ByteArray) ++ lineB b k = jn b (k + 1) by rw [hk0]; exact jn_zero b)
        clear hk0
        go_wp2_with fail
        (with_reducible refine (hLk.out _ _ _ T.out hlt).mono ?_)
        rintro e w4 ⟨rfl, hb4⟩
        have hbw4 : Below w.heap.size w w4 := below_call hb4 hbw
        have T4 := Lib.hid (T.out.over hb4)
        clear hb4 hbw T
        go_wp2_with fail
        refine (hP.out _ _ 0 _ _ 1 T4.out (by simp) (Nat.zero_le _) q1.out rfl).mono ?_
        rintro e w5 ⟨rfl, hb5⟩
        have hbw5 : Below w.heap.size w w5 := below_call hb5 hbw4
        have z5 := hbw5.size
        have T5 := Lib.hid (fun o => (T4.out.over hb5).over ((Below.refl _ w5).alloc (Nat.le_refl _) o))
        clear hb5 hbw4 T4
        go_wp2_with fail
        go_roundw
        case rel => exact ⟨k + 1, _, by omega, by go_num, rfl, q2.out, T5.out _, by go_grown⟩
        case measure => simp [intOf]; omega
      · obtain ⟨j1, j2, ⟨j3, j5⟩, j4, j6⟩ := jn_step' b k (by omega) hlt
        have hJs : J.size = eOf b (k - 1) := by rw [hJ]; exact j6
        rw [← hJ] at j1 j2
        have s1 := eOf_le b (k - 1)
        have s2 := sOf_le b k
        have hng : (0 : Int) < (k : Int) := by omega
        have q1 := Lib.hid (show ((plL b (sOf b k) : Nat) : Int) = (k : Int) + 1 by rw [j3]; rfl)
        have q2 := Lib.hid (show ((plC b (sOf b k) : Nat) : Int) = 1 by rw [j5]; rfl)
        have l2 : J.size ≤ 2000 := by omega
        replace hJs := Lib.hid hJs
        replace j2 := Lib.hid j2
        replace j4 := Lib.hid j4
        clear hJ hk0 j1 j3 j5 j6
        go_wp2_with fail
        (with_reducible refine (hLk.out _ _ _ T.out hlt).mono ?_)
        rintro e w4 ⟨rfl, hb4⟩
        have hbw4 : Below w.heap.size w w4 := below_call hb4 hbw
        have T4 := Lib.hid (T.out.over hb4)
        clear hb4 hbw T
        go_wp2_with fail
        refine (hP.out _ _ (eOf b (k - 1)) _ _ _ T4.out (by have := hJs.out; omega) s1 rfl rfl).mono ?_
        rintro e w5 ⟨rfl, hb5⟩
        have hbw5 : Below w.heap.size w w5 := below_call hb5 hbw4
        have z5 := hbw5.size
        have T5 := Lib.hid (fun o => (T4.out.over hb5).over ((Below.refl _ w5).alloc (Nat.le_refl _) o))
        have V5 := Lib.hid (R3.new w5 44 (.int .i64 1) (.int .i64 ((plL b (eOf b (k - 1)) : Nat) : Int)) (.int .i64 ((plC b (eOf b (k - 1)) : Nat) : Int)))
        clear hb5 hbw4 T4
        go_wp2_with fail
        refine (hP.out _ _ (sOf b k) _ _ 1 (T5.out _) (by have := hJs.out; have := j4.out; first | omega | (simp; omega)) s2 q1.out q2.out).mono ?_
        rintro e w6 ⟨rfl, hb6⟩
        have hbw6 : Below w.heap.size w w6 := below_call hb6 (by go_grown)
        have z6 := hb6.size
        rw [World.size_alloc] at z6
        have V6 := V5.out.over hb6
        have T6 := Lib.hid (Tab.over (T5.out _) hb6)
        have v6 := V6.all
        clear hb6 hbw5 T5 V5
        go_wp2_with fail
        go_roundw
        case rel => exact ⟨k + 1, _, by omega, by go_num, rfl, j2.out, Tab.set3 T6.out V6 _ _ _, by go_grown⟩
        case measure => simp [intOf]; omega
    · obtain rfl : k = nOf b := by omega
      have hJb : J = b := by rw [hJ]; exact jn_all b
      replace hJb := Lib.hid hJb
      clear hJ
      go_wp2_with fail
      go_ret
      exact ⟨ret_bool (by rw [hJb.out]; simp), hbw⟩
set_option maxHeartbeats 1000000 in
set_option maxRecDepth 100000 in
theorem Joins_long (s b : ByteArray) (hl : 2000 < s.size) (hbe : s.extract 0 2000 = b) (w : World) (hb : b.size ≤ 2000) : Calls Try.prog 7 #[.string s] w (RV w (.bool true)) := by
  have hN := Lib.hid (fun (w : World) (g : Nat) (hg : g = w.heap.size) => New_one ⟨#[120]⟩ b g w hg x_name (by omega))
  have hLk := Lib.hid (fun (w : World) (q k : Nat) (h : Tab w q 1 (fun _ => ⟨#[120]⟩) (fun _ => b)) (hk : k < nOf b) => Line_ok1 b q k w h hk (by omega))
  have hLs := Lib.hid (fun (w : World) (q : Nat) (h : Tab w q 1 (fun _ => ⟨#[120]⟩) (fun _ => b)) => Lines_ok1 b q w h)
  have hP := Lib.hid (fun (w : World) (q kk : Nat) (x l c : Int) (h : Tab w q 1 (fun _ => ⟨#[120]⟩) (fun _ => b)) (hx : x = (kk : Int)) (hk : kk ≤ b.size) (h1 : ((plL b kk : Nat) : Int) = l) (h2 : ((plC b kk : Nat) : Int) = c) => Pos_ok1 b q kk x l c w h hx hk (by omega) h1 h2)
  have hnb : nOf b ≤ b.size + 1 := plL_le b _
  have hn1 : 1 ≤ nOf b := plL_pos b _
  replace hbe := Lib.hid hbe
  go_enter Try.func7, Try.ntmps7
  go_wp2_with fail
  (with_reducible refine (awake_t _).mono ?_)
  rintro e w1 ⟨rfl, hbw1⟩
  have z1 := hbw1.size
  go_wp2_with fail
  simp only [hbe.out]
  (with_reducible refine (hN.out _ _ rfl).mono ?_)
  rintro e w2 ⟨q, rfl, T2, hb2⟩
  have hbw2 : Below w.heap.size w w2 := below_call hb2 (by go_grown)
  replace T2 := Lib.hid T2
  clear hb2 hbw1 z1
  go_wp2_with fail
  (with_reducible refine (hLs.out _ _ T2.out).mono ?_)
  rintro e w3 ⟨rfl, rfl⟩
  go_wp2_with fail
  go_loopw [5, 29] (fun s i wr => ∃ (k : Nat) (J : ByteArray), k ≤ nOf b ∧ i = .int .i64 (k : Int) ∧ s = .string J ∧ J = jn b k ∧ Tab wr q 1 (fun _ => ⟨#[120]⟩) (fun _ => b) ∧ Below w.heap.size w wr) (fun _ i _ => nOf b - (intOf i).toNat)
  case atStart => exact ⟨0, ⟨#[]⟩, Nat.zero_le _, rfl, rfl, rfl, T2.out, hbw2⟩
  case round =>
    obtain ⟨k, J, hk, rfl, rfl, hJ, T, hbw⟩ := hrel
    clear T2 hbw2
    replace T := Lib.hid T
    by_cases hlt : k < nOf b
    · have hq := neq_pos 1 ((k : Int) + 1) 1 1 ((k : Int) + 1) 1
      have hg := guard_pos
      have l1 : (lineB b k).size ≤ 2000 := Nat.le_trans (line_size b k) hb
      by_cases hk0 : k = 0
      · have hJ2 : J = ⟨#[]⟩ := by rw [hJ, hk0]; rfl
        clear hJ
        subst hJ2
        have hng : ¬ (0 : Int) < (k : Int) := by omega
        have q1 := Lib.hid (show ((plL b 0 : Nat) : Int) = (k : Int) + 1 by rw [hk0]; rfl)
        have q2 := Lib.hid (show (⟨#[]⟩ : ByteArray) ++ lineB b k = jn b (k + 1) by rw [hk0]; exact jn_zero b)
        clear hk0
        go_wp2_with fail
        (with_reducible refine (hLk.out _ _ _ T.out hlt).mono ?_)
        rintro e w4 ⟨rfl, hb4⟩
        have hbw4 : Below w.heap.size w w4 := below_call hb4 hbw
        have T4 := Lib.hid (T.out.over hb4)
        clear hb4 hbw T
        go_wp2_with fail
        refine (hP.out _ _ 0 _ _ 1 T4.out (by simp) (Nat.zero_le _) q1.out rfl).mono ?_
        rintro e w5 ⟨rfl, hb5⟩
        have hbw5 : Below w.heap.size w w5 := below_call hb5 hbw4
        have z5 := hbw5.size
        have T5 := Lib.hid (fun o => (T4.out.over hb5).over ((Below.refl _ w5).alloc (Nat.le_refl _) o))
        clear hb5 hbw4 T4
        go_wp2_with fail
        go_roundw
        case rel => exact ⟨k + 1, _, by omega, by go_num, rfl, q2.out, T5.out _, by go_grown⟩
        case measure => simp [intOf]; omega
      · obtain ⟨j1, j2, ⟨j3, j5⟩, j4, j6⟩ := jn_step' b k (by omega) hlt
        have hJs : J.size = eOf b (k - 1) := by rw [hJ]; exact j6
        rw [← hJ] at j1 j2
        have s1 := eOf_le b (k - 1)
        have s2 := sOf_le b k
        have hng : (0 : Int) < (k : Int) := by omega
        have q1 := Lib.hid (show ((plL b (sOf b k) : Nat) : Int) = (k : Int) + 1 by rw [j3]; rfl)
        have q2 := Lib.hid (show ((plC b (sOf b k) : Nat) : Int) = 1 by rw [j5]; rfl)
        have l2 : J.size ≤ 2000 := by omega
        replace hJs := Lib.hid hJs
        replace j2 := Lib.hid j2
        replace j4 := Lib.hid j4
        clear hJ hk0 j1 j3 j5 j6
        go_wp2_with fail
        (with_reducible refine (hLk.out _ _ _ T.out hlt).mono ?_)
        rintro e w4 ⟨rfl, hb4⟩
        have hbw4 : Below w.heap.size w w4 := below_call hb4 hbw
        have T4 := Lib.hid (T.out.over hb4)
        clear hb4 hbw T
        go_wp2_with fail
        refine (hP.out _ _ (eOf b (k - 1)) _ _ _ T4.out (by have := hJs.out; omega) s1 rfl rfl).mono ?_
        rintro e w5 ⟨rfl, hb5⟩
        have hbw5 : Below w.heap.size w w5 := below_call hb5 hbw4
        have z5 := hbw5.size
        have T5 := Lib.hid (fun o => (T4.out.over hb5).over ((Below.refl _ w5).alloc (Nat.le_refl _) o))
        have V5 := Lib.hid (R3.new w5 44 (.int .i64 1) (.int .i64 ((plL b (eOf b (k - 1)) : Nat) : Int)) (.int .i64 ((plC b (eOf b (k - 1)) : Nat) : Int)))
        clear hb5 hbw4 T4
        go_wp2_with fail
        refine (hP.out _ _ (sOf b k) _ _ 1 (T5.out _) (by have := hJs.out; have := j4.out; first | omega | (simp; omega)) s2 q1.out q2.out).mono ?_
        rintro e w6 ⟨rfl, hb6⟩
        have hbw6 : Below w.heap.size w w6 := below_call hb6 (by go_grown)
        have z6 := hb6.size
        rw [World.size_alloc] at z6
        have V6 := V5.out.over hb6
        have T6 := Lib.hid (Tab.over (T5.out _) hb6)
        have v6 := V6.all
        clear hb6 hbw5 T5 V5
        go_wp2_with fail
        go_roundw
        case rel => exact ⟨k + 1, _, by omega, by go_num, rfl, j2.out, Tab.set3 T6.out V6 _ _ _, by go_grown⟩
        case measure => simp [intOf]; omega
    · obtain rfl : k = nOf b := by omega
      have hJb : J = b := by rw [hJ]; exact jn_all b
      replace hJb := Lib.hid hJb
      clear hJ
      go_wp2_with fail
      go_ret
      exact ⟨ret_bool (by rw [hJb.out]; simp), hbw⟩
theorem SrcJoins_all (s : ByteArray) (w : World) : Calls Try.prog 7 #[.string s] w (RV w (.bool true)) := by
  by_cases h : 2000 < s.size
  · exact Joins_long s _ h rfl w (cut_size s h)
  · exact Joins_short s w (by omega)
end Go.Proofs.Ytegoldihcchfdaa
