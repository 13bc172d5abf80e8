/-
  The walk of LexTexts.
-/
import Derived.Test.YtomjokpgcijccaaDoorHs
namespace Go.Proofs.YtomjokpgcijccaaDoor
open Go.RowKit Go.Lib
theorem own_TL2 {w : World} {B n c : Nat} {A : Option Addr} {l : List TK} (h : w.ownsRow B 37 5 (.slice A n c) n (tcs l)) (e : l.length = n) : TLr w A l := by
  subst e
  exact (own_TLr h).1
set_option maxRecDepth 100000 in
set_option maxHeartbeats 6400000 in
theorem LexTexts_err (A : Option Addr) (c : Nat) (qs : List PC) (w : World) (hA : PL w A qs) (hN : qs.length ≤ 9223372036854775807) (hq : ∀ q, q ∈ qs → q.p.ok) (hL : LS w)
    (x : PS × Int) (hR : lexL nbP (fewL qs) [] = .error x) : Calls Tryd.prog 3 #[.slice A qs.length c] w (RV w (.bool true)) := by
  have hAw := awake_t w hL
  have hFw := fun W (hb : Below w.heap.size w W) => few_t A c qs W (hA.over hb) hN
  obtain ⟨L, hLe⟩ : ∃ L, fewL qs = L := ⟨_, rfl⟩
  have hok := few_ok hq
  have h6 := few_len qs
  rw [hLe] at hFw hok hR h6
  obtain ⟨N, hNe⟩ : ∃ N, L.length = N := ⟨_, rfl⟩
  have hLx := fun W A c (hb : Below w.heap.size w W) (hP : PL W A L) => (hNe ▸ hR ▸ Lex_t A c L W hP (by omega) (hL.over hb) (fun q h => ⟨(hok q h).1, by have := (hok q h).2; omega⟩) : Calls Tryd.prog 10 #[.slice A N c] W (LR W (.error x)))
  unfold FW at hFw
  rw [hNe] at hFw h6
  unfold LR at hLx
  simp only at hLx
  replace hAw := Lib.hid hAw
  replace hFw := Lib.hid hFw
  replace hLx := Lib.hid hLx
  replace hok := Lib.hid hok
  replace hL := Lib.hid hL
  replace hNe := Lib.hid hNe
  replace hR := Lib.hid hR
  replace hLe := Lib.hid hLe
  go_enter Tryd.func3, Tryd.ntmps3
  go_wp2_with fail
  (with_reducible refine hAw.out.mono ?_)
  rintro e w1 ⟨rfl, hb1⟩
  replace hb1 := Lib.hid hb1
  go_wp2_with fail
  (with_reducible refine (hFw.out _ hb1.out).mono ?_)
  rintro e w2 ⟨v1, v2, rfl, _, ho2, hb2⟩
  obtain ⟨A2, c2, rfl⟩ := own_form ho2
  rw [← hNe.out] at ho2
  obtain ⟨hPL, _⟩ := own_PL ho2
  have hbw2 := below_call hb2 hb1.out
  replace hPL := Lib.hid hPL
  replace hbw2 := Lib.hid hbw2
  clear ho2 hb2
  go_wp2_with fail
  (with_reducible refine (hLx.out _ _ _ hbw2.out hPL.out).mono ?_)
  rintro e w4 ⟨hb4, rfl⟩
  have hx0 : x.2 ≠ 0 := lexL_err nbP _ _ x hR.out
  have hbw4 := below_call hb4 hbw2.out
  have q1 : (x.2 != 0) = true := by simpa using hx0
  have z4 := hbw4.size
  replace hx0 := Lib.hid hx0
  clear hb4
  go_wp2_with fail
  go_ret
  exact ⟨rfl, by go_grown⟩
set_option maxRecDepth 100000 in
set_option maxHeartbeats 6400000 in
theorem LexTexts_ok (A : Option Addr) (c : Nat) (qs : List PC) (w : World) (hA : PL w A qs) (hN : qs.length ≤ 9223372036854775807) (hq : ∀ q, q ∈ qs → q.p.ok) (hL : LS w)
    (a : List TK) (hR : lexL nbP (fewL qs) [] = .ok a) : Calls Tryd.prog 3 #[.slice A qs.length c] w (RV w (.bool true)) := by
  have hAw := awake_t w hL
  have hFw := fun W (hb : Below w.heap.size w W) => few_t A c qs W (hA.over hb) hN
  obtain ⟨L, hLe⟩ : ∃ L, fewL qs = L := ⟨_, rfl⟩
  have hok := few_ok hq
  have h6 := few_len qs
  rw [hLe] at hFw hok hR h6
  obtain ⟨N, hNe⟩ : ∃ N, L.length = N := ⟨_, rfl⟩
  have hLx := fun W A c (hb : Below w.heap.size w W) (hP : PL W A L) => (hNe ▸ hR ▸ Lex_t A c L W hP (by omega) (hL.over hb) (fun q h => ⟨(hok q h).1, by have := (hok q h).2; omega⟩) : Calls Tryd.prog 10 #[.slice A N c] W (LR W (.ok a)))
  unfold FW at hFw
  rw [hNe] at hFw h6
  unfold LR at hLx
  simp only at hLx
  replace hAw := Lib.hid hAw
  replace hFw := Lib.hid hFw
  replace hLx := Lib.hid hLx
  replace hok := Lib.hid hok
  replace hL := Lib.hid hL
  replace hNe := Lib.hid hNe
  replace hR := Lib.hid hR
  replace hLe := Lib.hid hLe
  go_enter Tryd.func3, Tryd.ntmps3
  go_wp2_with fail
  (with_reducible refine hAw.out.mono ?_)
  rintro e w1 ⟨rfl, hb1⟩
  replace hb1 := Lib.hid hb1
  go_wp2_with fail
  (with_reducible refine (hFw.out _ hb1.out).mono ?_)
  rintro e w2 ⟨v1, v2, rfl, _, ho2, hb2⟩
  obtain ⟨A2, c2, rfl⟩ := own_form ho2
  rw [← hNe.out] at ho2
  obtain ⟨hPL, _⟩ := own_PL ho2
  have hbw2 := below_call hb2 hb1.out
  replace hPL := Lib.hid hPL
  replace hbw2 := Lib.hid hbw2
  clear ho2 hb2
  go_wp2_with fail
  (with_reducible refine (hLx.out _ _ _ hbw2.out hPL.out).mono ?_)
  rintro e w4 ⟨hb4, v, rfl, ho4⟩
  obtain ⟨Av, cv, rfl⟩ := own_form ho4
  have hbw4 := below_call hb4 hbw2.out
  have ho3 : (w4.alloc (.cells #[.int .i64 0, .int .i64 0, .int .i64 0] 29)).ownsRow _ 37 5 (.slice Av a.length cv) a.length (tcs a) := own_blk ho4 fun g hg => Go.Deep.blk_alloc_lt _ _ _ (own_lt ho4 g hg).2
  obtain ⟨hTa, _, _, _⟩ := own_TLr ho3
  have hbw3 := hbw4.alloc hbw4.size (.cells #[.int .i64 0, .int .i64 0, .int .i64 0] 29)
  have hLS := hL.out.over hbw3
  have hfl := few_len qs
  have hwok := (lexL_ok nbP L [] a hR.out (fun x hx => by simp at hx) (by simp)).1
  have htl : tl a ≤ 1800 := by
    have h1 := lexL_tl nbP L [] a hR.out
    have h2 := sumQ_few L 300 fun q hq => (hok.out q hq).2
    rw [← hLe.out] at h2 h1
    have h3 : (fewL qs).length * 300 ≤ 1800 := by omega
    simp only [tl] at h1
    omega
  have hal : a.length ≤ 1800 := by have := len_tl a fun x hx => (hwok x hx).1; omega
  have hjl := join_len a
  have hag := lex_again nbP a hwok (by omega) (by omega)
  have hlen := plT_len 1 a
  have htx := plT_texts 1 a
  obtain ⟨jl, hjle⟩ : ∃ jl, Lib.join (a.map TK.t) [32] = jl := ⟨_, rfl⟩
  have hTx := fun W (h : TLr W Av a) => Text_t Av cv a W h (by omega) (by omega)
  have hTy := fun W Ab cb (h : TLr W Ab (plT 1 a)) => Text_t Ab cb (plT 1 a) W h (by omega) (by rw [htx]; omega)
  rw [htx] at hTy
  rw [hjle] at hag hjl hTx hTy
  obtain ⟨na, hna⟩ : ∃ na, a.length = na := ⟨_, rfl⟩
  rw [hlen, hna] at hTy
  rw [hna] at hTx hal
  obtain ⟨J, hJ⟩ : ∃ J, tx jl = J := ⟨_, rfl⟩
  rw [hJ] at hTx hTy
  have hLy := fun W b (h : C5 W b 35 (.string J) (.int .i64 1) (.int .i64 1) (.int .i64 1) (.bool false)) (hL : LS W) =>
    (show Calls Tryd.prog 10 #[.slice (some ⟨b, 0, none⟩) 1 1] W (LR W (.ok (plT 1 a))) from hag ▸ Lex_t (some ⟨b, 0, none⟩) 1 [⟨jl, ⟨1, 1, 1⟩, false⟩] W (C5.PL (q := ⟨jl, ⟨1, 1, 1⟩, false⟩) (by rw [hJ]; exact h)) (by show 1 ≤ 1000000000; omega) hL (fun q hq => by rw [List.mem_singleton.1 hq]; exact ⟨pos1_ok, by show jl.length < _; omega⟩))
  unfold LR at hLy
  simp only [hlen, hna] at hLy
  have hjz : jl.length ≤ 4000 := by omega
  rw [hna]
  replace hna := Lib.hid hna
  replace hTx := Lib.hid hTx
  replace hTy := Lib.hid hTy
  replace hLy := Lib.hid hLy
  replace hTa := Lib.hid hTa
  replace hbw3 := Lib.hid hbw3
  replace hLS := Lib.hid hLS
  replace htl := Lib.hid htl
  replace hlen := Lib.hid hlen
  clear hPL hbw2 hb4 hbw4 ho4 ho3 hwok hjl hag htx hjle hJ hfl
  go_wp2_with fail
  (with_reducible refine (hTx.out _ hTa.out).mono ?_)
  rintro e w5 ⟨rfl, hb5⟩
  have hbw5 := below_call hb5 hbw3.out
  have hT5 := hTa.out.over hb5
  have hL5 := hLS.out.over hb5
  have hN5 := C5.new w5 35 (.string J) (.int .i64 1) (.int .i64 1) (.int .i64 1) (.bool false)
  have hL5' := hL5.over ((Below.refl _ w5).alloc (Nat.le_refl _) (.cells #[.string J, .int .i64 1, .int .i64 1, .int .i64 1, .bool false] 35))
  have hT5' := hT5.over ((Below.refl _ w5).alloc (Nat.le_refl _) (.cells #[.string J, .int .i64 1, .int .i64 1, .int .i64 1, .bool false] 35))
  have hbw5' := hbw5.alloc hbw5.size (.cells #[.string J, .int .i64 1, .int .i64 1, .int .i64 1, .bool false] 35)
  have hC5 := hLy.out _ _ hN5 hL5'
  replace hC5 := Lib.hid hC5
  replace hT5' := Lib.hid hT5'
  replace hbw5' := Lib.hid hbw5'
  clear hT5 hL5 hN5 hL5' hbw5 hb5 hTa hbw3 hLS
  go_wp2_with fail
  (with_reducible refine hC5.out.mono ?_)
  rintro e w6 ⟨hb6, v, rfl, ho6⟩
  obtain ⟨Ab, cb, rfl⟩ := own_form ho6
  have hbw6 := below_call hb6 hbw5'.out
  have hT6 := hT5'.out.over hb6
  have hTb := own_TL2 ho6 (hlen.out.trans hna.out)
  have hT7 := hT6.over ((Below.refl _ w6).alloc (Nat.le_refl _) (.cells #[.int .i64 0, .int .i64 0, .int .i64 0] 29))
  have hTb7 := hTb.over ((Below.refl _ w6).alloc (Nat.le_refl _) (.cells #[.int .i64 0, .int .i64 0, .int .i64 0] 29))
  have hbw7 := hbw6.alloc hbw6.size (.cells #[.int .i64 0, .int .i64 0, .int .i64 0] 29)
  replace hT7 := Lib.hid hT7
  replace hTb7 := Lib.hid hTb7
  replace hbw7 := Lib.hid hbw7
  clear hT6 hTb hbw6 hb6 ho6 hT5' hbw5'
  go_wp2_with fail
  (with_reducible refine (hTy.out _ _ _ hTb7.out).mono ?_)
  rintro e w8 ⟨rfl, hb8⟩
  have hbw8 := below_call hb8 hbw7.out
  have hT8 := hT7.out.over hb8
  have hTb8 := hTb7.out.over hb8
  replace hT8 := Lib.hid hT8
  replace hTb8 := Lib.hid hTb8
  replace hbw8 := Lib.hid hbw8
  clear hb8 hT7 hTb7 hbw7
  go_wp2_with fail
  go_loopw [11, 59] (fun cv iv wq => ∃ j : Nat, j ≤ na ∧ iv = .int .i64 (j : Int) ∧ cv = .int .i64 (cAt 1 a j) ∧ Below w8.heap.size w8 wq) (fun _ iv _ => na - (RowKit.intOf iv).toNat)
  case atStart => exact ⟨0, Nat.zero_le _, rfl, by rw [cAt_zero], Below.refl _ _⟩
  case round =>
    obtain ⟨j, hj, rfl, rfl, hbq⟩ := hrel
    by_cases hjn : j < na
    · have hja : j < a.length := by rw [hna.out]; exact hjn
      have hjp : j < (plT 1 a).length := by rw [hlen.out]; exact hja
      obtain ⟨bU, oU, rfl, hbU, hcU⟩ := (hT8.out.over hbq) (by omega)
      obtain ⟨bV, oV, rfl, hbV, hcV⟩ := (hTb8.out.over hbq) (by omega)
      obtain ⟨m0, m1, m2, m3, m4⟩ := hcU j hja
      obtain ⟨n0, n1, n2, n3, n4⟩ := hcV j hjp
      rw [plT_get a 1 j hja hjp] at n0 n1 n2 n3 n4
      simp only at n0 n1 n2 n3 n4
      have hcn := cAt_next a 1 j hja
      have hcl := cAt_le a 1 j (by omega)
      have hcl2 := cAt_le a 1 (j + 1) (by omega)
      have htl9 := htl.out
      have hna9 := hna.out
      generalize a[j] = x at *
      obtain ⟨T, hT⟩ : ∃ T, tx x.t = T := ⟨_, rfl⟩
      have hTz : T.size = x.t.length := by rw [← hT]; rfl
      rw [hT] at m1 n1
      obtain ⟨cc, hcc⟩ : ∃ cc, cAt 1 a j = cc := ⟨_, rfl⟩
      rw [hcc] at n4 hcn hcl ⊢
      have hw1 : IntKind.i64.wrap ((T.size : Int) + 1) = (T.size : Int) + 1 := IntWalk.i64_in _ (by omega)
      have hw2 : IntKind.i64.wrap (cc + ((T.size : Int) + 1)) = cAt 1 a (j + 1) := by rw [IntWalk.i64_in _ (by omega), hcn, hTz]; omega
      obtain ⟨cd, hcd⟩ : ∃ cd, cAt 1 a (j + 1) = cd := ⟨_, rfl⟩
      rw [hcd] at hw2
      replace hcd := Lib.hid hcd
      replace hbq := Lib.hid hbq
      clear hcU hcV hT hcn hcl hcl2 htl9 hna9 hTz hcc hja hjp
      go_wp2_with fail
      go_region
      go_wp2_with fail
      go_roundw
      case rel => exact ⟨j + 1, by omega, by go_num, by rw [hcd.out], hbq.out.drew⟩
      case measure => simp [RowKit.intOf]; omega
    · obtain rfl : j = na := by omega
      have hbf := hbw8.out.trans (hbq.mono hbw8.out.size)
      go_wp2_with fail
      go_ret
      exact ⟨rfl, hbf⟩
theorem LexTexts_t (A : Option Addr) (c : Nat) (qs : List PC) (w : World) (hA : PL w A qs) (hN : qs.length ≤ 9223372036854775807) (hq : ∀ q, q ∈ qs → q.p.ok) (hL : LS w) : Calls Tryd.prog 3 #[.slice A qs.length c] w (RV w (.bool true)) := by
  cases hR : lexL nbP (fewL qs) [] with
  | error x => exact LexTexts_err A c qs w hA hN hq hL x hR
  | ok a => exact LexTexts_ok A c qs w hA hN hq hL a hR
end Go.Proofs.YtomjokpgcijccaaDoor
