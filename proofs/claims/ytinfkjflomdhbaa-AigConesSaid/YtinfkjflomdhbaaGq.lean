/-
  The reference's Eval: what each act made is.
-/
import Derived.Test.YtinfkjflomdhbaaGn
import Derived.Test.YtinfkjflomdhbaaGs
namespace Go.Proofs.Ytinfkjflomdhbaa
open Go.RowKit Go.Lib Go.Maps
def bcl (l : List Bool) : List Value := l.map Value.bool
theorem bcl_app (a b : List Bool) : bcl (a ++ b) = bcl a ++ bcl b := List.map_append ..
theorem BL.of_own {w : World} {B n : Nat} {v : Value} {L : List Bool} (h : w.ownsRow B 4 1 v n (bcl L)) (hn : n = L.length) : ∃ A c, v = .slice A L.length c ∧ (0 < L.length → ∃ g, A = some ⟨g, 0, none⟩ ∧ g < w.heap.size ∧ ∀ j, j < L.length → w.cell? ⟨g, j, none⟩ = some (.bool (L.getD j false))) := by
  subst hn
  by_cases h0 : 0 < L.length
  · obtain ⟨g, c, rfl, hB, cur, hg, _⟩ := own_some h h0
    refine ⟨_, c, rfl, fun _ => ⟨g, rfl, lt_of_get hg, fun j hj => ?_⟩⟩
    have hc := h.cells (g := g) rfl j (.bool (L.getD j false)) (by unfold bcl; rw [List.getElem?_map, List.getElem?_eq_getElem hj, List.getD_eq_getElem?_getD, List.getElem?_eq_getElem hj]; rfl)
    rw [addr_add] at hc
    exact hc
  · obtain ⟨A, c, rfl⟩ := own_shape h
    exact ⟨A, c, rfl, fun h1 => absurd h1 h0⟩
theorem refR_n (l : List AC) (ins : List Bool) : (refR l ins).2 ≤ l.length := by
  have : ∀ (l : List AC) (s : List Bool × Nat), (l.foldl (stR ins) s).2 ≤ s.2 + l.length := by
    intro l
    induction l with
    | nil => intro s; simp
    | cons x l ih =>
      intro s
      rw [List.foldl_cons, List.length_cons]
      have h1 := ih (stR ins s x)
      have h2 : (stR ins s x).2 ≤ s.2 + 1 := by
        show (if x.k = 0 then s.2 + 1 else s.2) ≤ _
        split <;> omega
      omega
  have h := this l ([], 0)
  rw [Nat.zero_add] at h
  exact h
theorem info_bool : (Try.prog.info? 4).map (fun i => (i.zero, i.size, i.bytes)) = some (some (.bool false), 1, 1) := by kernel_rfl
set_option maxRecDepth 100000 in
set_option maxHeartbeats 6400000 in
theorem refEval_t (A Ai : Option Addr) (c0 ci : Nat) (l : List AC) (ins : List Bool) (w : World) (hA : AL w A l) (hB : BL w Ai ins) (hK : ∀ x ∈ l, 0 ≤ x.k ∧ x.k < 6) (hn : l.length ≤ 120) :
    Calls Try.prog 10 #[.slice A l.length c0, .slice Ai ins.length ci] w fun e w' => ∃ v, e = .returned v ∧ w'.ownsRow w.heap.size 4 1 v l.length (bcl (refR l ins).1) ∧ Below w.heap.size w w' := by
  obtain ⟨i0, hi, hz0, hz1, hz2⟩ := info_parts info_bool
  obtain ⟨n, hnn⟩ : ∃ n, l.length = n := ⟨_, rfl⟩
  obtain ⟨ni, hni⟩ : ∃ n, ins.length = n := ⟨_, rfl⟩
  rw [hnn] at hn ⊢
  rw [hni]
  replace hA := Lib.hid hA
  replace hB := Lib.hid hB
  replace hK := Lib.hid hK
  replace hnn := Lib.hid hnn
  replace hni := Lib.hid hni
  go_enter Try.func10, Try.ntmps10
  go_wp2_with fail
  go_loopw [5, 6, 7] (fun ov nv iw wr => ∃ (k : Nat) (Ao : Option Addr) (co : Nat), k ≤ n ∧ iw = .int .i64 (k : Int) ∧ nv = .int .i64 (((refR (l.take k) ins).2 : Nat) : Int) ∧ ov = .slice Ao k co ∧ wr.ownsRow w.heap.size 4 1 (.slice Ao k co) k (bcl (refR (l.take k) ins).1) ∧ Below w.heap.size w wr) (fun _ _ iw _ => n - (intOf iw).toNat)
  case atStart => exact ⟨0, none, 0, Nat.zero_le _, rfl, by rw [List.take_zero]; rfl, rfl, by rw [List.take_zero]; exact World.ownsRow_nil _ _ _ _, Below.refl _ _⟩
  case round =>
    obtain ⟨k, Ao, co, hk, rfl, rfl, rfl, hown, hbw⟩ := hrel
    by_cases hlt : k < n
    · have hkl : k < l.length := by rw [hnn.out]; exact hlt
      obtain ⟨b, off, rfl, hb, hcell⟩ := hA.out.over hbw (by omega)
      obtain ⟨x0, x1, x2, x3⟩ := hcell k hkl
      have htk := take_snocA l k hkl
      have hxk := hK.out _ (List.getElem_mem hkl)
      have hlk : (l.take k).length = k := by rw [List.length_take]; omega
      have hol := refR_len (l.take k) ins
      have hnx := refR_n (l.take k) ins
      rw [hlk] at hol hnx
      have hst : refR (l.take (k + 1)) ins = stR ins (refR (l.take k) ins) l[k] := by rw [htk, refR_snoc]
      obtain ⟨x, hx⟩ : ∃ x, l[k] = x := ⟨_, rfl⟩
      rw [hx] at x0 x1 x2 x3 hst hxk
      obtain ⟨s, hs⟩ : ∃ s, refR (l.take k) ins = s := ⟨_, rfl⟩
      rw [hs] at hown hst hol hnx ⊢
      obtain ⟨o, nx⟩ := s
      obtain ⟨xk, xa, xb, xc⟩ := x
      simp only at x0 x1 x2 x3 hown hxk hol hnx
      have hoc := BL.of_own hown hol.symm
      obtain ⟨A9, c9, e9, hoc⟩ := hoc
      rw [hol] at e9
      cases e9
      have hlow := own_ltT hown
      have hbs := hbw.size
      have hba := (Below.refl wr.heap.size wr).alloc (Nat.le_refl _) (.cells #[.int .i64 xk, .int .i64 xa, .int .i64 xb, .int .i64 xc] 52)
      have hC1 := heap_alloc_new wr (.cells #[.int .i64 xk, .int .i64 xa, .int .i64 xb, .int .i64 xc] 52)
      have hbu : Below w.heap.size w (wr.alloc (.cells #[.int .i64 xk, .int .i64 xa, .int .i64 xb, .int .i64 xc] 52)) := hbw.alloc hbs _
      have hou := hown.alloc (.cells #[.int .i64 xk, .int .i64 xa, .int .i64 xb, .int .i64 xc] 52)
      have hiu : 0 < ins.length → ∃ b o : Nat, Ai = some ⟨b, o, none⟩ ∧ b < (wr.alloc (.cells #[.int .i64 xk, .int .i64 xa, .int .i64 xb, .int .i64 xc] 52)).heap.size ∧ ∀ j, j < ins.length → (wr.alloc (.cells #[.int .i64 xk, .int .i64 xa, .int .i64 xb, .int .i64 xc] 52)).cell? ⟨b, o + j, none⟩ = some (.bool (ins.getD j false)) := hB.out.over hbu
      obtain ⟨u, hu⟩ : ∃ u, wr.alloc (.cells #[.int .i64 xk, .int .i64 xa, .int .i64 xb, .int .i64 xc] 52) = u := ⟨_, rfl⟩
      obtain ⟨ga, hga1⟩ : ∃ g, wr.heap.size = g := ⟨_, rfl⟩
      have hsu : u.heap.size = wr.heap.size + 1 := by rw [← hu]; simp
      rw [hu, hga1] at hC1
      rw [hu] at hbu hou hiu hba
      have y0 : u.cell? ⟨ga, 0, none⟩ = some (.int .i64 xk) := by rw [Lib.cell_of_heap hC1]; rfl
      have y1 : u.cell? ⟨ga, 1, none⟩ = some (.int .i64 xa) := by rw [Lib.cell_of_heap hC1]; rfl
      have y2 : u.cell? ⟨ga, 2, none⟩ = some (.int .i64 xb) := by rw [Lib.cell_of_heap hC1]; rfl
      have y3 : u.cell? ⟨ga, 3, none⟩ = some (.int .i64 xc) := by rw [Lib.cell_of_heap hC1]; rfl
      have yl := lt_of_get hC1
      have hocu : 0 < o.length → ∃ g, Ao = some ⟨g, 0, none⟩ ∧ g < u.heap.size ∧ ∀ j, j < k → u.cell? ⟨g, j, none⟩ = some (.bool (o.getD j false)) := fun h0 => by
        obtain ⟨g, e, hg, hc⟩ := hoc h0
        exact ⟨g, e, by rw [hsu]; omega, fun j hj => (hba.cell (p := ⟨g, j, none⟩) hg).trans (hc j (by omega))⟩
      have s4 : ∀ v, (u.alloc (.cells #[v] 4)).heap.size = u.heap.size + 1 := fun v => by simp
      have hbu4 := fun v => hbu.alloc hbu.size (.cells #[v] 4)
      have hx1 : k + 1 ≤ maxLen := by unfold maxLen; omega
      have hou4 := fun v => hou.alloc (.cells #[v] 4)
      have hus := hbu.size
      clear hcell htk hlk hs hba hbw hC1 hx hkl hown hoc hsu
      replace hou4 := Lib.hid hou4
      replace hbu4 := Lib.hid hbu4
      replace s4 := Lib.hid s4
      replace hx1 := Lib.hid hx1
      replace hlow := Lib.hid hlow
      replace hbu := Lib.hid hbu
      replace hou := Lib.hid hou
      replace hst := Lib.hid hst
      replace hol := Lib.hid hol
      replace hus := Lib.hid hus
      go_upto_region 7 with fail
      clear hu x0 x1 x2 x3 hga1
      have hk6 : xk = 0 ∨ xk = 1 ∨ xk = 2 ∨ xk = 3 ∨ xk = 4 ∨ xk = 5 := by omega
      clear hxk
      have hopv : ∀ i, opv o i = if k = 0 then false else o.getD (atI k i).toNat false := fun i => by unfold opv; rw [hol.out]
      unfold stR at hst
      simp only [hopv] at hst
      by_cases hk0 : k = 0
      · simp only [if_pos hk0] at hst
        replace hst := Lib.hid hst
        have hd0 : ¬ 0 < k := by omega
        replace hocu := Lib.hid hocu
        replace hk0 := Lib.hid hk0
        rcases hk6 with rfl | rfl | rfl | rfl | rfl | rfl
        · by_cases hin : nx < ni
          · obtain ⟨bi, oi, rfl, hbi, hci⟩ := hiu (by rw [hni.out]; omega)
            have ci0 := hci nx (by rw [hni.out]; exact hin)
            clear hci
            have hd1 : decide ((nx : Int) < (ni : Int)) = true := by simp; omega
            obtain ⟨bv, hbv⟩ : ∃ bv, ins.getD nx false = bv := ⟨_, rfl⟩
            rw [hbv] at ci0
            have hst2 : refR (l.take (k + 1)) ins = (o ++ [bv], nx + 1) := by rw [hst.out]; simp only [actv, if_true, hbv]
            replace hst2 := Lib.hid hst2
            replace hbv := Lib.hid hbv
            go_wp2_with (first
              | (at_builtin; refine wpList_append_lies _ rfl _ _ 23 rfl w.heap.size 4 i0 (.bool false) 1 1 Try.underlying23 hi hz0 hz1 hz2 rfl (by decide) _ k (bcl o) rfl (hou4.out _) ⟨u.heap.size, 0, none⟩ 1 1 [.bool (bv)] (by simp [Act.eval]) rfl (World.news_of_block (heap_alloc_new u _)) (by simp [Value.oneCell']) (by decide) hx1.out (by omega) (by rw [s4.out]; have := hus.out; omega) _ rfl ?_; intro g6 cap6 w6 ho6 hg6 hgb6 hlt6; replace ho6 := Lib.hid ho6; replace hg6 := Lib.hid hg6; clear hgb6)
              | fail)
            have hb6 : Below w.heap.size w w6 := (hbu4.out _).grown hg6.out (by rw [s4.out]; have := hus.out; omega) (fun q hq => (hlow.out q hq).1)
            replace hb6 := Lib.hid hb6
            go_roundw
            case rel =>
              refine ⟨k + 1, _, cap6, by omega, by go_num, ?_, rfl, ?_, hb6.out⟩
              · rw [hst2.out]; simp
              · rw [hst2.out]
                show World.ownsRow _ _ _ _ _ _ (bcl (o ++ _))
                rw [bcl_app]
                exact ho6.out
            case measure => simp [intOf]; omega
          · have hd1 : decide ((nx : Int) < (ni : Int)) = false := by simp; omega
            have hbv : ins.getD nx false = false := by rw [List.getD_eq_getElem?_getD, List.getElem?_eq_none (by rw [hni.out]; omega)]; rfl
            have hst2 : refR (l.take (k + 1)) ins = (o ++ [false], nx + 1) := by rw [hst.out]; simp only [actv, if_true, hbv]
            replace hst2 := Lib.hid hst2
            replace hbv := Lib.hid hbv
            clear hiu
            go_wp2_with (first
              | (at_builtin; refine wpList_append_lies _ rfl _ _ 23 rfl w.heap.size 4 i0 (.bool false) 1 1 Try.underlying23 hi hz0 hz1 hz2 rfl (by decide) _ k (bcl o) rfl (hou4.out _) ⟨u.heap.size, 0, none⟩ 1 1 [.bool (false)] (by simp [Act.eval]) rfl (World.news_of_block (heap_alloc_new u _)) (by simp [Value.oneCell']) (by decide) hx1.out (by omega) (by rw [s4.out]; have := hus.out; omega) _ rfl ?_; intro g6 cap6 w6 ho6 hg6 hgb6 hlt6; replace ho6 := Lib.hid ho6; replace hg6 := Lib.hid hg6; clear hgb6)
              | fail)
            have hb6 : Below w.heap.size w w6 := (hbu4.out _).grown hg6.out (by rw [s4.out]; have := hus.out; omega) (fun q hq => (hlow.out q hq).1)
            replace hb6 := Lib.hid hb6
            go_roundw
            case rel =>
              refine ⟨k + 1, _, cap6, by omega, by go_num, ?_, rfl, ?_, hb6.out⟩
              · rw [hst2.out]; simp
              · rw [hst2.out]
                show World.ownsRow _ _ _ _ _ _ (bcl (o ++ _))
                rw [bcl_app]
                exact ho6.out
            case measure => simp [intOf]; omega
        · have hst2 : refR (l.take (k + 1)) ins = (o ++ [false], nx) := by rw [hst.out]; simp [actv]
          replace hst2 := Lib.hid hst2
          go_wp2_with (first
            | (at_builtin; refine wpList_append_lies _ rfl _ _ 23 rfl w.heap.size 4 i0 (.bool false) 1 1 Try.underlying23 hi hz0 hz1 hz2 rfl (by decide) _ k (bcl o) rfl (hou4.out _) ⟨u.heap.size, 0, none⟩ 1 1 [.bool (false)] (by simp [Act.eval]) rfl (World.news_of_block (heap_alloc_new u _)) (by simp [Value.oneCell']) (by decide) hx1.out (by omega) (by rw [s4.out]; have := hus.out; omega) _ rfl ?_; intro g6 cap6 w6 ho6 hg6 hgb6 hlt6; replace ho6 := Lib.hid ho6; replace hg6 := Lib.hid hg6; clear hgb6)
            | fail)
          have hb6 : Below w.heap.size w w6 := (hbu4.out _).grown hg6.out (by rw [s4.out]; have := hus.out; omega) (fun q hq => (hlow.out q hq).1)
          replace hb6 := Lib.hid hb6
          go_roundw
          case rel =>
            refine ⟨k + 1, _, cap6, by omega, by go_num, ?_, rfl, ?_, hb6.out⟩
            · rw [hst2.out]
            · rw [hst2.out]
              show World.ownsRow _ _ _ _ _ _ (bcl (o ++ _))
              rw [bcl_app]
              exact ho6.out
          case measure => simp [intOf]; omega
        · have hst2 : refR (l.take (k + 1)) ins = (o ++ [false], nx) := by rw [hst.out]; simp [actv]
          replace hst2 := Lib.hid hst2
          go_wp2_with (first
            | (at_builtin; refine wpList_append_lies _ rfl _ _ 23 rfl w.heap.size 4 i0 (.bool false) 1 1 Try.underlying23 hi hz0 hz1 hz2 rfl (by decide) _ k (bcl o) rfl (hou4.out _) ⟨u.heap.size, 0, none⟩ 1 1 [.bool (false)] (by simp [Act.eval]) rfl (World.news_of_block (heap_alloc_new u _)) (by simp [Value.oneCell']) (by decide) hx1.out (by omega) (by rw [s4.out]; have := hus.out; omega) _ rfl ?_; intro g6 cap6 w6 ho6 hg6 hgb6 hlt6; replace ho6 := Lib.hid ho6; replace hg6 := Lib.hid hg6; clear hgb6)
            | fail)
          have hb6 : Below w.heap.size w w6 := (hbu4.out _).grown hg6.out (by rw [s4.out]; have := hus.out; omega) (fun q hq => (hlow.out q hq).1)
          replace hb6 := Lib.hid hb6
          go_roundw
          case rel =>
            refine ⟨k + 1, _, cap6, by omega, by go_num, ?_, rfl, ?_, hb6.out⟩
            · rw [hst2.out]
            · rw [hst2.out]
              show World.ownsRow _ _ _ _ _ _ (bcl (o ++ _))
              rw [bcl_app]
              exact ho6.out
          case measure => simp [intOf]; omega
        · have hst2 : refR (l.take (k + 1)) ins = (o ++ [false], nx) := by rw [hst.out]; simp [actv]
          replace hst2 := Lib.hid hst2
          go_wp2_with (first
            | (at_builtin; refine wpList_append_lies _ rfl _ _ 23 rfl w.heap.size 4 i0 (.bool false) 1 1 Try.underlying23 hi hz0 hz1 hz2 rfl (by decide) _ k (bcl o) rfl (hou4.out _) ⟨u.heap.size, 0, none⟩ 1 1 [.bool (false)] (by simp [Act.eval]) rfl (World.news_of_block (heap_alloc_new u _)) (by simp [Value.oneCell']) (by decide) hx1.out (by omega) (by rw [s4.out]; have := hus.out; omega) _ rfl ?_; intro g6 cap6 w6 ho6 hg6 hgb6 hlt6; replace ho6 := Lib.hid ho6; replace hg6 := Lib.hid hg6; clear hgb6)
            | fail)
          have hb6 : Below w.heap.size w w6 := (hbu4.out _).grown hg6.out (by rw [s4.out]; have := hus.out; omega) (fun q hq => (hlow.out q hq).1)
          replace hb6 := Lib.hid hb6
          go_roundw
          case rel =>
            refine ⟨k + 1, _, cap6, by omega, by go_num, ?_, rfl, ?_, hb6.out⟩
            · rw [hst2.out]
            · rw [hst2.out]
              show World.ownsRow _ _ _ _ _ _ (bcl (o ++ _))
              rw [bcl_app]
              exact ho6.out
          case measure => simp [intOf]; omega
        · have hst2 : refR (l.take (k + 1)) ins = (o ++ [false], nx) := by rw [hst.out]; simp [actv]
          replace hst2 := Lib.hid hst2
          go_wp2_with (first
            | (at_builtin; refine wpList_append_lies _ rfl _ _ 23 rfl w.heap.size 4 i0 (.bool false) 1 1 Try.underlying23 hi hz0 hz1 hz2 rfl (by decide) _ k (bcl o) rfl (hou4.out _) ⟨u.heap.size, 0, none⟩ 1 1 [.bool (false)] (by simp [Act.eval]) rfl (World.news_of_block (heap_alloc_new u _)) (by simp [Value.oneCell']) (by decide) hx1.out (by omega) (by rw [s4.out]; have := hus.out; omega) _ rfl ?_; intro g6 cap6 w6 ho6 hg6 hgb6 hlt6; replace ho6 := Lib.hid ho6; replace hg6 := Lib.hid hg6; clear hgb6)
            | fail)
          have hb6 : Below w.heap.size w w6 := (hbu4.out _).grown hg6.out (by rw [s4.out]; have := hus.out; omega) (fun q hq => (hlow.out q hq).1)
          replace hb6 := Lib.hid hb6
          go_roundw
          case rel =>
            refine ⟨k + 1, _, cap6, by omega, by go_num, ?_, rfl, ?_, hb6.out⟩
            · rw [hst2.out]
            · rw [hst2.out]
              show World.ownsRow _ _ _ _ _ _ (bcl (o ++ _))
              rw [bcl_app]
              exact ho6.out
          case measure => simp [intOf]; omega
        · have hst2 : refR (l.take (k + 1)) ins = (o ++ [true], nx) := by rw [hst.out]; simp [actv]
          replace hst2 := Lib.hid hst2
          go_wp2_with (first
            | (at_builtin; refine wpList_append_lies _ rfl _ _ 23 rfl w.heap.size 4 i0 (.bool false) 1 1 Try.underlying23 hi hz0 hz1 hz2 rfl (by decide) _ k (bcl o) rfl (hou4.out _) ⟨u.heap.size, 0, none⟩ 1 1 [.bool (true)] (by simp [Act.eval]) rfl (World.news_of_block (heap_alloc_new u _)) (by simp [Value.oneCell']) (by decide) hx1.out (by omega) (by rw [s4.out]; have := hus.out; omega) _ rfl ?_; intro g6 cap6 w6 ho6 hg6 hgb6 hlt6; replace ho6 := Lib.hid ho6; replace hg6 := Lib.hid hg6; clear hgb6)
            | fail)
          have hb6 : Below w.heap.size w w6 := (hbu4.out _).grown hg6.out (by rw [s4.out]; have := hus.out; omega) (fun q hq => (hlow.out q hq).1)
          replace hb6 := Lib.hid hb6
          go_roundw
          case rel =>
            refine ⟨k + 1, _, cap6, by omega, by go_num, ?_, rfl, ?_, hb6.out⟩
            · rw [hst2.out]
            · rw [hst2.out]
              show World.ownsRow _ _ _ _ _ _ (bcl (o ++ _))
              rw [bcl_app]
              exact ho6.out
          case measure => simp [intOf]; omega
      · simp only [if_neg hk0] at hst
        have hd0 : 0 < k := by omega
        obtain ⟨go, rfl, hgo, hco⟩ := hocu (by have := hol.out; omega)
        have la := atI_lt (n := k) (by omega) xa
        have lb := atI_lt (n := k) (by omega) xb
        have lc := atI_lt (n := k) (by omega) xc
        have ta := fun W => at_t k xa W (by omega) (by omega)
        have tb := fun W => at_t k xb W (by omega) (by omega)
        have tc := fun W => at_t k xc W (by omega) (by omega)
        unfold RW at ta tb tc
        obtain ⟨ja, hja⟩ : ∃ j : Nat, atI k xa = (j : Int) := ⟨(atI k xa).toNat, by omega⟩
        obtain ⟨jb, hjb⟩ : ∃ j : Nat, atI k xb = (j : Int) := ⟨(atI k xb).toNat, by omega⟩
        obtain ⟨jc, hjc⟩ : ∃ j : Nat, atI k xc = (j : Int) := ⟨(atI k xc).toNat, by omega⟩
        rw [hja] at hst ta la
        rw [hjb] at hst tb lb
        rw [hjc] at hst tc lc
        have ja2 : ja < k := by omega
        have jb2 : jb < k := by omega
        have jc2 : jc < k := by omega
        have ca := hco ja ja2
        have cb := hco jb jb2
        have cc := hco jc jc2
        simp only [Int.toNat_natCast] at hst
        obtain ⟨a, ha⟩ : ∃ a, o.getD ja false = a := ⟨_, rfl⟩
        obtain ⟨bb, hbb⟩ : ∃ a, o.getD jb false = a := ⟨_, rfl⟩
        obtain ⟨c, hc⟩ : ∃ a, o.getD jc false = a := ⟨_, rfl⟩
        rw [ha] at ca hst
        rw [hbb] at cb hst
        rw [hc] at cc hst
        replace hst := Lib.hid hst
        replace hk0 := Lib.hid hk0
        replace ta := Lib.hid ta
        replace tb := Lib.hid tb
        replace tc := Lib.hid tc
        clear hco la lb lc hja hjb hjc ha hbb hc hocu
        go_wp2_with fail
        (with_reducible refine (ta.out _).mono ?_)
        rintro e w9 ⟨rfl, hw9⟩
        subst hw9
        go_wp2_with fail
        (with_reducible refine (tb.out _).mono ?_)
        rintro e w9 ⟨rfl, hw9⟩
        subst hw9
        go_wp2_with fail
        (with_reducible refine (tc.out _).mono ?_)
        rintro e w9 ⟨rfl, hw9⟩
        subst hw9
        go_upto_region 15 with (fail)
        rcases hk6 with rfl | rfl | rfl | rfl | rfl | rfl
        · by_cases hin : nx < ni
          · obtain ⟨bi, oi, rfl, hbi, hci⟩ := hiu (by rw [hni.out]; omega)
            have ci0 := hci nx (by rw [hni.out]; exact hin)
            clear hci
            have hd1 : decide ((nx : Int) < (ni : Int)) = true := by simp; omega
            obtain ⟨bv, hbv⟩ : ∃ bv, ins.getD nx false = bv := ⟨_, rfl⟩
            rw [hbv] at ci0
            have hst2 : refR (l.take (k + 1)) ins = (o ++ [bv], nx + 1) := by rw [hst.out]; simp only [actv, if_true, hbv]
            replace hst2 := Lib.hid hst2
            replace hbv := Lib.hid hbv
            go_wp2_with (first
              | (at_builtin; refine wpList_append_lies _ rfl _ _ 23 rfl w.heap.size 4 i0 (.bool false) 1 1 Try.underlying23 hi hz0 hz1 hz2 rfl (by decide) _ k (bcl o) rfl (hou4.out _) ⟨u.heap.size, 0, none⟩ 1 1 [.bool (bv)] (by simp [Act.eval]) rfl (World.news_of_block (heap_alloc_new u _)) (by simp [Value.oneCell']) (by decide) hx1.out (by omega) (by rw [s4.out]; have := hus.out; omega) _ rfl ?_; intro g6 cap6 w6 ho6 hg6 hgb6 hlt6; replace ho6 := Lib.hid ho6; replace hg6 := Lib.hid hg6; clear hgb6)
              | fail)
            have hb6 : Below w.heap.size w w6 := (hbu4.out _).grown hg6.out (by rw [s4.out]; have := hus.out; omega) (fun q hq => (hlow.out q hq).1)
            replace hb6 := Lib.hid hb6
            go_roundw
            case rel =>
              refine ⟨k + 1, _, cap6, by omega, by go_num, ?_, rfl, ?_, hb6.out⟩
              · rw [hst2.out]; simp
              · rw [hst2.out]
                show World.ownsRow _ _ _ _ _ _ (bcl (o ++ _))
                rw [bcl_app]
                exact ho6.out
            case measure => simp [intOf]; omega
          · have hd1 : decide ((nx : Int) < (ni : Int)) = false := by simp; omega
            have hbv : ins.getD nx false = false := by rw [List.getD_eq_getElem?_getD, List.getElem?_eq_none (by rw [hni.out]; omega)]; rfl
            have hst2 : refR (l.take (k + 1)) ins = (o ++ [false], nx + 1) := by rw [hst.out]; simp only [actv, if_true, hbv]
            replace hst2 := Lib.hid hst2
            replace hbv := Lib.hid hbv
            clear hiu
            go_wp2_with (first
              | (at_builtin; refine wpList_append_lies _ rfl _ _ 23 rfl w.heap.size 4 i0 (.bool false) 1 1 Try.underlying23 hi hz0 hz1 hz2 rfl (by decide) _ k (bcl o) rfl (hou4.out _) ⟨u.heap.size, 0, none⟩ 1 1 [.bool (false)] (by simp [Act.eval]) rfl (World.news_of_block (heap_alloc_new u _)) (by simp [Value.oneCell']) (by decide) hx1.out (by omega) (by rw [s4.out]; have := hus.out; omega) _ rfl ?_; intro g6 cap6 w6 ho6 hg6 hgb6 hlt6; replace ho6 := Lib.hid ho6; replace hg6 := Lib.hid hg6; clear hgb6)
              | fail)
            have hb6 : Below w.heap.size w w6 := (hbu4.out _).grown hg6.out (by rw [s4.out]; have := hus.out; omega) (fun q hq => (hlow.out q hq).1)
            replace hb6 := Lib.hid hb6
            go_roundw
            case rel =>
              refine ⟨k + 1, _, cap6, by omega, by go_num, ?_, rfl, ?_, hb6.out⟩
              · rw [hst2.out]; simp
              · rw [hst2.out]
                show World.ownsRow _ _ _ _ _ _ (bcl (o ++ _))
                rw [bcl_app]
                exact ho6.out
            case measure => simp [intOf]; omega
        · cases a with
          | true =>
            have hst2 : refR (l.take (k + 1)) ins = (o ++ [bb], nx) := by rw [hst.out]; simp [actv]
            replace hst2 := Lib.hid hst2
            go_wp2_with (first
              | (at_builtin; refine wpList_append_lies _ rfl _ _ 23 rfl w.heap.size 4 i0 (.bool false) 1 1 Try.underlying23 hi hz0 hz1 hz2 rfl (by decide) _ k (bcl o) rfl (hou4.out _) ⟨u.heap.size, 0, none⟩ 1 1 [.bool (bb)] (by simp [Act.eval]) rfl (World.news_of_block (heap_alloc_new u _)) (by simp [Value.oneCell']) (by decide) hx1.out (by omega) (by rw [s4.out]; have := hus.out; omega) _ rfl ?_; intro g6 cap6 w6 ho6 hg6 hgb6 hlt6; replace ho6 := Lib.hid ho6; replace hg6 := Lib.hid hg6; clear hgb6)
              | fail)
            have hb6 : Below w.heap.size w w6 := (hbu4.out _).grown hg6.out (by rw [s4.out]; have := hus.out; omega) (fun q hq => (hlow.out q hq).1)
            replace hb6 := Lib.hid hb6
            go_roundw
            case rel =>
              refine ⟨k + 1, _, cap6, by omega, by go_num, ?_, rfl, ?_, hb6.out⟩
              · rw [hst2.out]
              · rw [hst2.out]
                show World.ownsRow _ _ _ _ _ _ (bcl (o ++ _))
                rw [bcl_app]
                exact ho6.out
            case measure => simp [intOf]; omega
          | false =>
            have hst2 : refR (l.take (k + 1)) ins = (o ++ [false], nx) := by rw [hst.out]; simp [actv]
            replace hst2 := Lib.hid hst2
            go_wp2_with (first
              | (at_builtin; refine wpList_append_lies _ rfl _ _ 23 rfl w.heap.size 4 i0 (.bool false) 1 1 Try.underlying23 hi hz0 hz1 hz2 rfl (by decide) _ k (bcl o) rfl (hou4.out _) ⟨u.heap.size, 0, none⟩ 1 1 [.bool (false)] (by simp [Act.eval]) rfl (World.news_of_block (heap_alloc_new u _)) (by simp [Value.oneCell']) (by decide) hx1.out (by omega) (by rw [s4.out]; have := hus.out; omega) _ rfl ?_; intro g6 cap6 w6 ho6 hg6 hgb6 hlt6; replace ho6 := Lib.hid ho6; replace hg6 := Lib.hid hg6; clear hgb6)
              | fail)
            have hb6 : Below w.heap.size w w6 := (hbu4.out _).grown hg6.out (by rw [s4.out]; have := hus.out; omega) (fun q hq => (hlow.out q hq).1)
            replace hb6 := Lib.hid hb6
            go_roundw
            case rel =>
              refine ⟨k + 1, _, cap6, by omega, by go_num, ?_, rfl, ?_, hb6.out⟩
              · rw [hst2.out]
              · rw [hst2.out]
                show World.ownsRow _ _ _ _ _ _ (bcl (o ++ _))
                rw [bcl_app]
                exact ho6.out
            case measure => simp [intOf]; omega
        · cases a with
          | true =>
            have hst2 : refR (l.take (k + 1)) ins = (o ++ [true], nx) := by rw [hst.out]; simp [actv]
            replace hst2 := Lib.hid hst2
            go_wp2_with (first
              | (at_builtin; refine wpList_append_lies _ rfl _ _ 23 rfl w.heap.size 4 i0 (.bool false) 1 1 Try.underlying23 hi hz0 hz1 hz2 rfl (by decide) _ k (bcl o) rfl (hou4.out _) ⟨u.heap.size, 0, none⟩ 1 1 [.bool (true)] (by simp [Act.eval]) rfl (World.news_of_block (heap_alloc_new u _)) (by simp [Value.oneCell']) (by decide) hx1.out (by omega) (by rw [s4.out]; have := hus.out; omega) _ rfl ?_; intro g6 cap6 w6 ho6 hg6 hgb6 hlt6; replace ho6 := Lib.hid ho6; replace hg6 := Lib.hid hg6; clear hgb6)
              | fail)
            have hb6 : Below w.heap.size w w6 := (hbu4.out _).grown hg6.out (by rw [s4.out]; have := hus.out; omega) (fun q hq => (hlow.out q hq).1)
            replace hb6 := Lib.hid hb6
            go_roundw
            case rel =>
              refine ⟨k + 1, _, cap6, by omega, by go_num, ?_, rfl, ?_, hb6.out⟩
              · rw [hst2.out]
              · rw [hst2.out]
                show World.ownsRow _ _ _ _ _ _ (bcl (o ++ _))
                rw [bcl_app]
                exact ho6.out
            case measure => simp [intOf]; omega
          | false =>
            have hst2 : refR (l.take (k + 1)) ins = (o ++ [bb], nx) := by rw [hst.out]; simp [actv]
            replace hst2 := Lib.hid hst2
            go_wp2_with (first
              | (at_builtin; refine wpList_append_lies _ rfl _ _ 23 rfl w.heap.size 4 i0 (.bool false) 1 1 Try.underlying23 hi hz0 hz1 hz2 rfl (by decide) _ k (bcl o) rfl (hou4.out _) ⟨u.heap.size, 0, none⟩ 1 1 [.bool (bb)] (by simp [Act.eval]) rfl (World.news_of_block (heap_alloc_new u _)) (by simp [Value.oneCell']) (by decide) hx1.out (by omega) (by rw [s4.out]; have := hus.out; omega) _ rfl ?_; intro g6 cap6 w6 ho6 hg6 hgb6 hlt6; replace ho6 := Lib.hid ho6; replace hg6 := Lib.hid hg6; clear hgb6)
              | fail)
            have hb6 : Below w.heap.size w w6 := (hbu4.out _).grown hg6.out (by rw [s4.out]; have := hus.out; omega) (fun q hq => (hlow.out q hq).1)
            replace hb6 := Lib.hid hb6
            go_roundw
            case rel =>
              refine ⟨k + 1, _, cap6, by omega, by go_num, ?_, rfl, ?_, hb6.out⟩
              · rw [hst2.out]
              · rw [hst2.out]
                show World.ownsRow _ _ _ _ _ _ (bcl (o ++ _))
                rw [bcl_app]
                exact ho6.out
            case measure => simp [intOf]; omega
        · have hst2 : refR (l.take (k + 1)) ins = (o ++ [a != bb], nx) := by rw [hst.out]; simp [actv]
          replace hst2 := Lib.hid hst2
          go_wp2_with (first
            | (at_builtin; refine wpList_append_lies _ rfl _ _ 23 rfl w.heap.size 4 i0 (.bool false) 1 1 Try.underlying23 hi hz0 hz1 hz2 rfl (by decide) _ k (bcl o) rfl (hou4.out _) ⟨u.heap.size, 0, none⟩ 1 1 [.bool (a != bb)] (by simp [Act.eval]) rfl (World.news_of_block (heap_alloc_new u _)) (by simp [Value.oneCell']) (by decide) hx1.out (by omega) (by rw [s4.out]; have := hus.out; omega) _ rfl ?_; intro g6 cap6 w6 ho6 hg6 hgb6 hlt6; replace ho6 := Lib.hid ho6; replace hg6 := Lib.hid hg6; clear hgb6)
            | fail)
          have hb6 : Below w.heap.size w w6 := (hbu4.out _).grown hg6.out (by rw [s4.out]; have := hus.out; omega) (fun q hq => (hlow.out q hq).1)
          replace hb6 := Lib.hid hb6
          go_roundw
          case rel =>
            refine ⟨k + 1, _, cap6, by omega, by go_num, ?_, rfl, ?_, hb6.out⟩
            · rw [hst2.out]
            · rw [hst2.out]
              show World.ownsRow _ _ _ _ _ _ (bcl (o ++ _))
              rw [bcl_app]
              exact ho6.out
          case measure => simp [intOf]; omega
        · cases c with
          | true =>
            have hst2 : refR (l.take (k + 1)) ins = (o ++ [a], nx) := by rw [hst.out]; simp [actv]
            replace hst2 := Lib.hid hst2
            go_wp2_with (first
              | (at_builtin; refine wpList_append_lies _ rfl _ _ 23 rfl w.heap.size 4 i0 (.bool false) 1 1 Try.underlying23 hi hz0 hz1 hz2 rfl (by decide) _ k (bcl o) rfl (hou4.out _) ⟨u.heap.size, 0, none⟩ 1 1 [.bool (a)] (by simp [Act.eval]) rfl (World.news_of_block (heap_alloc_new u _)) (by simp [Value.oneCell']) (by decide) hx1.out (by omega) (by rw [s4.out]; have := hus.out; omega) _ rfl ?_; intro g6 cap6 w6 ho6 hg6 hgb6 hlt6; replace ho6 := Lib.hid ho6; replace hg6 := Lib.hid hg6; clear hgb6)
              | fail)
            have hb6 : Below w.heap.size w w6 := (hbu4.out _).grown hg6.out (by rw [s4.out]; have := hus.out; omega) (fun q hq => (hlow.out q hq).1)
            replace hb6 := Lib.hid hb6
            go_roundw
            case rel =>
              refine ⟨k + 1, _, cap6, by omega, by go_num, ?_, rfl, ?_, hb6.out⟩
              · rw [hst2.out]
              · rw [hst2.out]
                show World.ownsRow _ _ _ _ _ _ (bcl (o ++ _))
                rw [bcl_app]
                exact ho6.out
            case measure => simp [intOf]; omega
          | false =>
            have hst2 : refR (l.take (k + 1)) ins = (o ++ [bb], nx) := by rw [hst.out]; simp [actv]
            replace hst2 := Lib.hid hst2
            go_wp2_with (first
              | (at_builtin; refine wpList_append_lies _ rfl _ _ 23 rfl w.heap.size 4 i0 (.bool false) 1 1 Try.underlying23 hi hz0 hz1 hz2 rfl (by decide) _ k (bcl o) rfl (hou4.out _) ⟨u.heap.size, 0, none⟩ 1 1 [.bool (bb)] (by simp [Act.eval]) rfl (World.news_of_block (heap_alloc_new u _)) (by simp [Value.oneCell']) (by decide) hx1.out (by omega) (by rw [s4.out]; have := hus.out; omega) _ rfl ?_; intro g6 cap6 w6 ho6 hg6 hgb6 hlt6; replace ho6 := Lib.hid ho6; replace hg6 := Lib.hid hg6; clear hgb6)
              | fail)
            have hb6 : Below w.heap.size w w6 := (hbu4.out _).grown hg6.out (by rw [s4.out]; have := hus.out; omega) (fun q hq => (hlow.out q hq).1)
            replace hb6 := Lib.hid hb6
            go_roundw
            case rel =>
              refine ⟨k + 1, _, cap6, by omega, by go_num, ?_, rfl, ?_, hb6.out⟩
              · rw [hst2.out]
              · rw [hst2.out]
                show World.ownsRow _ _ _ _ _ _ (bcl (o ++ _))
                rw [bcl_app]
                exact ho6.out
            case measure => simp [intOf]; omega
        · have hst2 : refR (l.take (k + 1)) ins = (o ++ [!a], nx) := by rw [hst.out]; simp [actv]
          replace hst2 := Lib.hid hst2
          go_wp2_with (first
            | (at_builtin; refine wpList_append_lies _ rfl _ _ 23 rfl w.heap.size 4 i0 (.bool false) 1 1 Try.underlying23 hi hz0 hz1 hz2 rfl (by decide) _ k (bcl o) rfl (hou4.out _) ⟨u.heap.size, 0, none⟩ 1 1 [.bool (!a)] (by simp [Act.eval]) rfl (World.news_of_block (heap_alloc_new u _)) (by simp [Value.oneCell']) (by decide) hx1.out (by omega) (by rw [s4.out]; have := hus.out; omega) _ rfl ?_; intro g6 cap6 w6 ho6 hg6 hgb6 hlt6; replace ho6 := Lib.hid ho6; replace hg6 := Lib.hid hg6; clear hgb6)
            | fail)
          have hb6 : Below w.heap.size w w6 := (hbu4.out _).grown hg6.out (by rw [s4.out]; have := hus.out; omega) (fun q hq => (hlow.out q hq).1)
          replace hb6 := Lib.hid hb6
          go_roundw
          case rel =>
            refine ⟨k + 1, _, cap6, by omega, by go_num, ?_, rfl, ?_, hb6.out⟩
            · rw [hst2.out]
            · rw [hst2.out]
              show World.ownsRow _ _ _ _ _ _ (bcl (o ++ _))
              rw [bcl_app]
              exact ho6.out
          case measure => simp [intOf]; omega
    · obtain rfl : k = n := by omega
      have htk : l.take k = l := by rw [← hnn.out, List.take_length]
      rw [htk] at hown
      replace hown := Lib.hid hown
      replace hbw := Lib.hid hbw
      clear htk
      obtain ⟨nx, hnx⟩ : ∃ nx : Int, (((refR (l.take k) ins).2 : Nat) : Int) = nx := ⟨_, rfl⟩
      rw [hnx]
      clear hnx
      go_wp2_with fail
      go_ret
      exact ⟨_, rfl, hown.out, hbw.out⟩
end Go.Proofs.Ytinfkjflomdhbaa
