/-
  The walk of LexBlanks.
-/
import Derived.Test.YtomjokpgcijccaaDoorHt
namespace Go.Proofs.YtomjokpgcijccaaDoor
open Go.RowKit Go.Lib
theorem and7 (x : Int) : ∃ g : Nat, g ≤ 7 ∧ bits .and .i64 x 7 = (g : Int) := by
  refine ⟨(BitVec.ofInt 64 x).toNat &&& 7, Nat.and_le_right, ?_⟩
  show IntKind.i64.wrap ((BitVec.ofInt 64 x &&& BitVec.ofInt 64 7).toNat : Int) = _
  have h7 : (BitVec.ofInt 64 7).toNat = 7 := by decide
  have hle : (BitVec.ofInt 64 x).toNat &&& 7 ≤ 7 := Nat.and_le_right
  rw [BitVec.toNat_and, h7, IntKind.wrap_i64]
  omega
def gpL : List (List UInt8) := [[32], [10], [9, 32], [32, 32, 13, 10], [32], [10, 10], [32, 32, 32], [9]]
/-- The blanks that a number stands for. -/
def gp (g : Nat) : List UInt8 := gpL.getD g [32]
theorem gp_ok (g : Nat) : gp g ≠ [] ∧ (gp g).length ≤ 4 ∧ ∀ c, c ∈ gp g → blkB c.toNat = true := by
  by_cases h : g < 8
  · have : ∀ g, g < 8 → gp g ≠ [] ∧ (gp g).length ≤ 4 ∧ ∀ c, c ∈ gp g → blkB c.toNat = true := by decide
    exact this g h
  · have e : gp g = [32] := by
      unfold gp
      rw [List.getD_eq_getElem?_getD, List.getElem?_eq_none (by show 8 ≤ g; omega)]; rfl
    rw [e]; decide
/-- The words, each with its blanks. -/
def itF (f : Nat → Nat) : Nat → List TK → List (List UInt8 × TK)
  | _, [] => []
  | i, x :: r => (gp (f i), x) :: itF f (i + 1) r
theorem itF_len (f : Nat → Nat) (i : Nat) (l : List TK) : (itF f i l).length = l.length := by
  induction l generalizing i with
  | nil => rfl
  | cons x r ih => simp [itF, ih]
theorem itF_mem (f : Nat → Nat) : ∀ (i : Nat) (l : List TK) (y : List UInt8 × TK), y ∈ itF f i l → y.2 ∈ l ∧ ∃ g, y.1 = gp g
  | _, [], y, h => by simp [itF] at h
  | i, x :: r, y, h => by
    simp only [itF, List.mem_cons] at h
    rcases h with rfl | h
    · exact ⟨List.mem_cons_self .., _, rfl⟩
    · have := itF_mem f (i + 1) r y h
      exact ⟨List.mem_cons_of_mem _ this.1, this.2⟩
theorem itF_get (f : Nat → Nat) : ∀ (i : Nat) (l : List TK) (j : Nat) (h : j < l.length) (h' : j < (itF f i l).length), (itF f i l)[j] = (gp (f (i + j)), l[j])
  | _, [], j, h, _ => by simp at h
  | i, x :: r, 0, _, _ => rfl
  | i, x :: r, j + 1, h, h' => by
    simp only [itF, List.getElem_cons_succ]
    rw [itF_get f (i + 1) r j (by simpa using h), show i + 1 + j = i + (j + 1) by omega]
theorem catG_app (a b : List (List UInt8 × TK)) : catG (a ++ b) = catG a ++ catG b := by
  induction a with
  | nil => rfl
  | cons x a ih => simp only [List.cons_append, catG, ih, List.append_assoc]
theorem catG_take (l : List (List UInt8 × TK)) (j : Nat) (h : j < l.length) : catG (l.take (j + 1)) = catG (l.take j) ++ (l[j].1 ++ l[j].2.t) := by
  rw [List.take_succ_eq_append_getElem h, catG_app]
  simp [catG]
theorem itF_tl (f : Nat → Nat) : ∀ (i : Nat) (l : List TK), (catG (itF f i l)).length ≤ tl l + 4 * l.length
  | _, [] => by simp [itF, catG]
  | i, x :: r => by
    have ih := itF_tl f (i + 1) r
    have h4 := (gp_ok (f i)).2.1
    simp only [itF, catG, tl, List.length_append, List.length_cons]
    omega
theorem catG_take_le (l : List (List UInt8 × TK)) (j : Nat) : (catG (l.take j)).length ≤ (catG l).length := by
  have h : catG l = catG (l.take j) ++ catG (l.drop j) := by rw [← catG_app, List.take_append_drop]
  rw [h, List.length_append]; omega
theorem plc_texts (l : List (List UInt8 × TK)) : ∀ p, (plc p l).map TK.t = l.map fun i => i.2.t := by
  induction l with
  | nil => intro p; rfl
  | cons x r ih => intro p; simp only [plc, List.map_cons, ih]
theorem plc_len (l : List (List UInt8 × TK)) : ∀ p, (plc p l).length = l.length := by
  induction l with
  | nil => intro p; rfl
  | cons x r ih => intro p; simp only [plc, List.length_cons, ih]
theorem itF_texts (f : Nat → Nat) (i : Nat) (l : List TK) : ((itF f i l).map fun y => y.2.t) = l.map TK.t := by
  induction l generalizing i with
  | nil => rfl
  | cons x r ih => simp only [itF, List.map_cons, ih]
/-- Words with blanks ahead of each are read as the same words. -/
theorem lex_blanks (nb : List UInt8 → Bool) (f : Nat → Nat) (a : List TK) (h : ∀ x, x ∈ a → wOK nb x) (hn : a.length ≤ 12000) :
    ∃ b, lexL nb [⟨catG (itF f 0 a), ⟨1, 1, 1⟩, false⟩] [] = .ok b ∧ b.length = a.length ∧ b.map TK.t = a.map TK.t := by
  refine ⟨plc ⟨1, 1, 1⟩ (itF f 0 a), ?_, by rw [plc_len, itF_len], by rw [plc_texts, itF_texts]⟩
  rw [lexL_one]
  exact lexP_gaps nb (itF f 0 a) ⟨1, 1, 1⟩ (fun i hi => by
    obtain ⟨h1, g, h2⟩ := itF_mem f 0 a i hi
    refine ⟨h i.2 h1, fun c hc => ?_⟩
    rw [h2] at hc
    exact (gp_ok g).2.2 c hc) (fun i hi => by
    obtain ⟨_, g, h2⟩ := itF_mem f 0 a i (List.mem_of_mem_tail hi)
    rw [h2]
    exact (gp_ok g).1) (by rw [itF_len]; exact hn)
theorem tx_app (a b : List UInt8) : tx a ++ tx b = tx (a ++ b) := by
  apply ByteArray.ext
  simp
/-- Numbers lie in a slice. -/
def RI (w : World) (A : Option Addr) (l : List Int) : Prop := 0 < l.length → ∃ b off : Nat, A = some ⟨b, off, none⟩ ∧ b < w.heap.size ∧ ∀ j (hj : j < l.length), w.cell? ⟨b, off + j, none⟩ = some (.int .i64 l[j])
theorem RI.over {w w' : World} {A : Option Addr} {l : List Int} (h : RI w A l) (k : Below w.heap.size w w') : RI w' A l := fun h0 => by
  obtain ⟨b, off, e, hb, hc⟩ := h h0
  exact ⟨b, off, e, Nat.lt_of_lt_of_le hb k.size, fun j hj => (k.cell (p := ⟨b, _, none⟩) hb).trans (hc j hj)⟩
/-- Which blanks stand ahead of a word. -/
noncomputable def gix (gl : List Int) (i : Nat) : Nat := if gl.length = 0 then 0 else Classical.choose (and7 (gl.getD (i % gl.length) 0))
theorem gix_le (gl : List Int) (i : Nat) : gix gl i ≤ 7 := by
  unfold gix
  split
  · omega
  · exact (Classical.choose_spec (and7 (gl.getD (i % gl.length) 0))).1
set_option maxRecDepth 100000 in
set_option maxHeartbeats 6400000 in
theorem LexBlanks_err (A : Option Addr) (c : Nat) (qs : List PC) (w : World) (hA : PL w A qs) (hN : qs.length ≤ 9223372036854775807) (hq : ∀ q, q ∈ qs → q.p.ok) (hL : LS w) (Ag : Option Addr) (cg : Nat) (gl : List Int) (hG : RI w Ag gl) (hGn : gl.length ≤ 9223372036854775807)
    (x : PS × Int) (hR : lexL nbP (fewL qs) [] = .error x) : Calls Tryd.prog 6 #[.slice A qs.length c, .slice Ag gl.length cg] w (RV w (.bool true)) := by
  have hAw := awake_t w hL
  have hFw := fun W (hb : Below w.heap.size w W) => few_t A c qs W (hA.over hb) hN
  obtain ⟨L, hLe⟩ : ∃ L, fewL qs = L := ⟨_, rfl⟩
  have hok := few_ok hq
  have h6 := few_len qs
  rw [hLe] at hFw hok hR h6
  obtain ⟨N, hNe⟩ : ∃ N, L.length = N := ⟨_, rfl⟩
  have hLx := fun W A c (hb : Below w.heap.size w W) (hP : PL W A L) => (hNe ▸ hR ▸ Lex_t A c L W hP (by omega) (hL.over hb) (fun q h => ⟨(hok q h).1, by have := (hok q h).2; omega⟩) : Calls Tryd.prog 10 #[.slice A N c] W (LR W (.error x)))
  unfold FW at hFw
  rw [hNe] at hFw h6
  unfold LR at hLx
  simp only at hLx
  replace hAw := Lib.hid hAw
  replace hFw := Lib.hid hFw
  replace hLx := Lib.hid hLx
  replace hok := Lib.hid hok
  replace hL := Lib.hid hL
  replace hNe := Lib.hid hNe
  replace hR := Lib.hid hR
  replace hLe := Lib.hid hLe
  go_enter Tryd.func6, Tryd.ntmps6
  go_wp2_with fail
  (with_reducible refine hAw.out.mono ?_)
  rintro e w1 ⟨rfl, hb1⟩
  replace hb1 := Lib.hid hb1
  go_wp2_with fail
  (with_reducible refine (hFw.out _ hb1.out).mono ?_)
  rintro e w2 ⟨v1, v2, rfl, _, ho2, hb2⟩
  obtain ⟨A2, c2, rfl⟩ := own_form ho2
  rw [← hNe.out] at ho2
  obtain ⟨hPL, _⟩ := own_PL ho2
  have hbw2 := below_call hb2 hb1.out
  replace hPL := Lib.hid hPL
  replace hbw2 := Lib.hid hbw2
  clear ho2 hb2
  go_wp2_with fail
  (with_reducible refine (hLx.out _ _ _ hbw2.out hPL.out).mono ?_)
  rintro e w4 ⟨hb4, rfl⟩
  have hx0 : x.2 ≠ 0 := lexL_err nbP _ _ x hR.out
  have hbw4 := below_call hb4 hbw2.out
  have q1 : (x.2 != 0) = true := by simpa using hx0
  have z4 := hbw4.size
  replace hx0 := Lib.hid hx0
  clear hb4
  go_wp2_with fail
  go_ret
  exact ⟨rfl, by go_grown⟩
set_option maxRecDepth 100000 in
set_option maxHeartbeats 6400000 in
theorem LexBlanks_ok (A : Option Addr) (c : Nat) (qs : List PC) (w : World) (hA : PL w A qs) (hN : qs.length ≤ 9223372036854775807) (hq : ∀ q, q ∈ qs → q.p.ok) (hL : LS w) (Ag : Option Addr) (cg : Nat) (gl : List Int) (hG : RI w Ag gl) (hGn : gl.length ≤ 9223372036854775807)
    (a : List TK) (hR : lexL nbP (fewL qs) [] = .ok a) : Calls Tryd.prog 6 #[.slice A qs.length c, .slice Ag gl.length cg] w (RV w (.bool true)) := by
  have hAw := awake_t w hL
  have hFw := fun W (hb : Below w.heap.size w W) => few_t A c qs W (hA.over hb) hN
  obtain ⟨L, hLe⟩ : ∃ L, fewL qs = L := ⟨_, rfl⟩
  have hok := few_ok hq
  have h6 := few_len qs
  rw [hLe] at hFw hok hR h6
  obtain ⟨N, hNe⟩ : ∃ N, L.length = N := ⟨_, rfl⟩
  have hLx := fun W A c (hb : Below w.heap.size w W) (hP : PL W A L) => (hNe ▸ hR ▸ Lex_t A c L W hP (by omega) (hL.over hb) (fun q h => ⟨(hok q h).1, by have := (hok q h).2; omega⟩) : Calls Tryd.prog 10 #[.slice A N c] W (LR W (.ok a)))
  unfold FW at hFw
  rw [hNe] at hFw h6
  unfold LR at hLx
  simp only at hLx
  replace hAw := Lib.hid hAw
  replace hFw := Lib.hid hFw
  replace hLx := Lib.hid hLx
  replace hok := Lib.hid hok
  replace hL := Lib.hid hL
  replace hNe := Lib.hid hNe
  replace hR := Lib.hid hR
  replace hLe := Lib.hid hLe
  go_enter Tryd.func6, Tryd.ntmps6
  go_wp2_with fail
  (with_reducible refine hAw.out.mono ?_)
  rintro e w1 ⟨rfl, hb1⟩
  replace hb1 := Lib.hid hb1
  go_wp2_with fail
  (with_reducible refine (hFw.out _ hb1.out).mono ?_)
  rintro e w2 ⟨v1, v2, rfl, _, ho2, hb2⟩
  obtain ⟨A2, c2, rfl⟩ := own_form ho2
  rw [← hNe.out] at ho2
  obtain ⟨hPL, _⟩ := own_PL ho2
  have hbw2 := below_call hb2 hb1.out
  replace hPL := Lib.hid hPL
  replace hbw2 := Lib.hid hbw2
  clear ho2 hb2
  go_wp2_with fail
  (with_reducible refine (hLx.out _ _ _ hbw2.out hPL.out).mono ?_)
  rintro e w4 ⟨hb4, v, rfl, ho4⟩
  obtain ⟨Av, cv, rfl⟩ := own_form ho4
  have hbw4 := below_call hb4 hbw2.out
  have ho3 : (w4.alloc (.cells #[.int .i64 0, .int .i64 0, .int .i64 0] 29)).ownsRow _ 37 5 (.slice Av a.length cv) a.length (tcs a) := own_blk ho4 fun g hg => Go.Deep.blk_alloc_lt _ _ _ (own_lt ho4 g hg).2
  obtain ⟨hTa, _, _, _⟩ := own_TLr ho3
  have hbw3 := hbw4.alloc hbw4.size (.cells #[.int .i64 0, .int .i64 0, .int .i64 0] 29)
  have hLS := hL.out.over hbw3
  have hGr := hG.over hbw3
  have hfl := few_len qs
  have hwok := (lexL_ok nbP L [] a hR.out (fun x hx => by simp at hx) (by simp)).1
  have htl : tl a ≤ 1800 := by
    have h1 := lexL_tl nbP L [] a hR.out
    have h2 := sumQ_few L 300 fun q hq => (hok.out q hq).2
    rw [← hLe.out] at h2 h1
    have h3 : (fewL qs).length * 300 ≤ 1800 := by omega
    simp only [tl] at h1
    omega
  have hal : a.length ≤ 1800 := by have := len_tl a fun x hx => (hwok x hx).1; omega
  have hjl := join_len a
  obtain ⟨b, hag, hbl, hbt⟩ := lex_blanks nbP (gix gl) a hwok (by omega)
  have hcl := itF_tl (gix gl) 0 a
  have hcz := fun j => Nat.le_trans (catG_take_le (itF (gix gl) 0 a) j) hcl
  have hil := itF_len (gix gl) 0 a
  have hfull : catG ((itF (gix gl) 0 a).take a.length) = catG (itF (gix gl) 0 a) := by rw [← hil, List.take_length]
  obtain ⟨jl, hjle⟩ : ∃ jl, Lib.join (a.map TK.t) [32] = jl := ⟨_, rfl⟩
  have hTx := fun W (h : TLr W Av a) => Text_t Av cv a W h (by omega) (by omega)
  have hTy := fun W Ab cb (h : TLr W Ab b) => Text_t Ab cb b W h (by omega) (by rw [hbt]; omega)
  rw [hbt] at hTy
  rw [hjle] at hjl hTx hTy
  obtain ⟨na, hna⟩ : ∃ na, a.length = na := ⟨_, rfl⟩
  rw [hbl, hna] at hTy
  rw [hna] at hTx hal hfull hcl hcz
  obtain ⟨J, hJ⟩ : ∃ J, tx jl = J := ⟨_, rfl⟩
  rw [hJ] at hTx hTy
  have hLy := fun W bk (h : C5 W bk 35 (.string (tx (catG (itF (gix gl) 0 a)))) (.int .i64 1) (.int .i64 1) (.int .i64 1) (.bool false)) (hL : LS W) =>
    (show Calls Tryd.prog 10 #[.slice (some ⟨bk, 0, none⟩) 1 1] W (LR W (.ok b)) from hag ▸ Lex_t (some ⟨bk, 0, none⟩) 1 [⟨catG (itF (gix gl) 0 a), ⟨1, 1, 1⟩, false⟩] W (C5.PL (q := ⟨catG (itF (gix gl) 0 a), ⟨1, 1, 1⟩, false⟩) h) (by show 1 ≤ 1000000000; omega) hL (fun q hq => by rw [List.mem_singleton.1 hq]; exact ⟨pos1_ok, by show (catG (itF (gix gl) 0 a)).length < _; omega⟩))
  unfold LR at hLy
  simp only [hbl, hna] at hLy
  rw [hna]
  obtain ⟨ng, hng⟩ : ∃ ng, gl.length = ng := ⟨_, rfl⟩
  have hGn9 := hGn
  rw [hng] at hGn9
  have hgp := fun j (h : j < a.length) => (show (itF (gix gl) 0 a)[j]'(by rw [hil]; exact h) = (gp (gix gl j), a[j]) by rw [itF_get (gix gl) 0 a j h, Nat.zero_add])
  have htk := fun j (h : j < a.length) => (show catG ((itF (gix gl) 0 a).take (j + 1)) = catG ((itF (gix gl) 0 a).take j) ++ (gp (gix gl j) ++ a[j].t) by rw [catG_take _ j (by rw [hil]; exact h), hgp j h])
  replace hna := Lib.hid hna
  replace hTx := Lib.hid hTx
  replace hTy := Lib.hid hTy
  replace hLy := Lib.hid hLy
  replace hTa := Lib.hid hTa
  replace hbw3 := Lib.hid hbw3
  replace hLS := Lib.hid hLS
  replace hGr := Lib.hid hGr
  replace hbl := Lib.hid hbl
  replace htk := Lib.hid htk
  replace hcz := Lib.hid hcz
  replace hfull := Lib.hid hfull
  replace htl := Lib.hid htl
  replace hng := Lib.hid hng
  clear hPL hbw2 hb4 hbw4 ho4 ho3 hwok hjl hag hbt hjle hJ hfl hcl hgp hil hG hGn
  generalize hw3 : w4.alloc (.cells #[.int .i64 0, .int .i64 0, .int .i64 0] 29) = w3 at *
  replace hw3 := Lib.hid hw3
  go_wp2_with fail
  rw [hw3.out]
  rw [show gl.length = ng from hng.out]
  go_loopw [10, 33] (fun sv iv wr => ∃ j : Nat, j ≤ na ∧ iv = .int .i64 (j : Int) ∧ sv = .string (tx (catG ((itF (gix gl) 0 a).take j))) ∧ Below w3.heap.size w3 wr) (fun _ iv _ => na - (RowKit.intOf iv).toNat)
  case atStart => exact ⟨0, Nat.zero_le _, rfl, rfl, Below.refl _ _⟩
  case round =>
    obtain ⟨j, hj, rfl, rfl, hbk⟩ := hrel
    by_cases hjn : j < na
    · have hja : j < a.length := by rw [hna.out]; exact hjn
      obtain ⟨bU, oU, rfl, hbU, hcU⟩ := (hTa.out.over hbk) (by omega)
      obtain ⟨m0, m1, m2, m3, m4⟩ := hcU j hja
      have hnx := htk.out j hja
      have htl9 := htl.out
      have hcz9 := hcz.out j
      have hxl : (a[j]).t.length ≤ 9000 := by
        have h1 := catG_take_le (itF (gix gl) 0 a) (j + 1)
        have h2 := hcz.out (j + 1)
        rw [hnx] at h2
        simp only [List.length_append] at h2
        omega
      generalize a[j] = x at *
      obtain ⟨T, hT⟩ : ∃ T, tx x.t = T := ⟨_, rfl⟩
      obtain ⟨S9, hS9⟩ : ∃ S, tx (catG ((itF (gix gl) 0 a).take j)) = S := ⟨_, rfl⟩
      have hTz : T.size ≤ 9000 := by rw [← hT]; exact hxl
      have hSz : S9.size ≤ 10000 := by rw [← hS9]; show (catG ((itF (gix gl) 0 a).take j)).length ≤ 10000; omega
      have hnew : tx (catG ((itF (gix gl) 0 a).take (j + 1))) = S9 ++ (tx (gp (gix gl j)) ++ T) := by rw [hnx, ← tx_app, ← tx_app, hS9, hT]
      rw [hT] at m1
      rw [hS9]
      have zk := hbk.size
      have K0 := (C5.new wr 37 (.int .i64 (x.k : Int)) (.string T) (.int .i64 x.p.f) (.int .i64 x.p.l) (.int .i64 x.p.c)).all
      have hGk := hGr.out.over hbk
      have hlow := hbk.alloc zk (.cells #[.int .i64 (x.k : Int), .string T, .int .i64 x.p.f, .int .i64 x.p.l, .int .i64 x.p.c] 37)
      clear hcU hnx hT hS9 htl9 hcz9 hxl
      replace hbk := Lib.hid hbk
      replace hlow := Lib.hid hlow
      replace hGk := Lib.hid hGk
      by_cases hg0 : ng = 0
      · have hgi : gix gl j = 0 := by unfold gix; rw [if_pos (by rw [hng.out]; exact hg0)]
        rw [hgi, show tx (gp 0) = ⟨#[32]⟩ from rfl] at hnew
        have ng1 : ¬ (0 : Int) < (ng : Int) := by omega
        have s1 : 1 + T.size ≤ 9223372036854775807 := by omega
        have s2 : ¬ 9223372036854775807 < 1 + T.size := by omega
        have s3 : S9.size + (1 + T.size) ≤ 9223372036854775807 := by omega
        have s4 : ¬ 9223372036854775807 < S9.size + (1 + T.size) := by omega
        replace hnew := Lib.hid hnew
        replace hg0 := Lib.hid hg0
        clear hgi hTz hSz
        go_wp2_with fail
        go_region
        go_wp2_with fail
        go_roundw
        case rel => exact ⟨j + 1, by omega, by go_num, by rw [hnew.out], by have hbk9 := hbk.out; go_grown⟩
        case measure => simp [RowKit.intOf]; omega
      · have hjm : j % ng < ng := Nat.mod_lt _ (by omega)
        have hjm2 : j % ng < gl.length := by rw [hng.out]; exact hjm
        obtain ⟨bG, oG, rfl, hbG, hcG⟩ := hGk.out (by have := hng.out; omega)
        have c9 := hcG _ hjm2
        have hgi : gix gl j = Classical.choose (and7 (gl.getD (j % gl.length) 0)) := by unfold gix; rw [if_neg (by rw [hng.out]; exact hg0)]
        have hsp := (Classical.choose_spec (and7 (gl.getD (j % gl.length) 0))).2
        rw [← hgi, hng.out] at hsp
        have hge : gl.getD (j % ng) 0 = gl[j % ng] := by rw [List.getD_eq_getElem?_getD, List.getElem?_eq_getElem hjm2]; rfl
        rw [hge] at hsp
        generalize gl[j % ng] = gv at *
        have hg8 := gix_le gl j
        generalize gix gl j = g at *
        have hrm : Int.tmod (j : Int) (ng : Int) = ((j % ng : Nat) : Int) := Int.ofNat_tmod j ng
        have hrm2 : (j : Int) % (ng : Int) = ((j % ng : Nat) : Int) := rfl
        generalize j % ng = m at *
        have hwm : IntKind.i64.wrap (m : Int) = (m : Int) := IntWalk.i64_in _ (by omega)
        have ng1 : (0 : Int) < (ng : Int) := by omega
        have ng2 : ((ng : Int) == 0) = false := by simp; omega
        have ng3 : ¬ (ng : Int) = 0 := by omega
        clear hcG hjm2 hgi hge
        replace hg0 := Lib.hid hg0
        have hgs : g = 0 ∨ g = 1 ∨ g = 2 ∨ g = 3 ∨ g = 4 ∨ g = 5 ∨ g = 6 ∨ g = 7 := by omega
        clear hg8
        rcases hgs with rfl | rfl | rfl | rfl | rfl | rfl | rfl | rfl
        · rw [show tx (gp 0) = ⟨#[32]⟩ from rfl] at hnew
          have s1 : 1 + T.size ≤ 9223372036854775807 := by omega
          have s2 : ¬ 9223372036854775807 < 1 + T.size := by omega
          have s3 : S9.size + (1 + T.size) ≤ 9223372036854775807 := by omega
          have s4 : ¬ 9223372036854775807 < S9.size + (1 + T.size) := by omega
          have hsp' : bits .and .i64 gv 7 = 0 := hsp
          replace hnew := Lib.hid hnew
          clear hTz hSz hsp
          go_wp2_with fail
          go_region
          go_wp2_with fail
          go_roundw
          case rel => exact ⟨j + 1, by omega, by go_num, by rw [hnew.out], by have hbk9 := hbk.out; go_grown⟩
          case measure => simp [RowKit.intOf]; omega
        · rw [show tx (gp 1) = ⟨#[10]⟩ from rfl] at hnew
          have s1 : 1 + T.size ≤ 9223372036854775807 := by omega
          have s2 : ¬ 9223372036854775807 < 1 + T.size := by omega
          have s3 : S9.size + (1 + T.size) ≤ 9223372036854775807 := by omega
          have s4 : ¬ 9223372036854775807 < S9.size + (1 + T.size) := by omega
          have hsp' : bits .and .i64 gv 7 = 1 := hsp
          replace hnew := Lib.hid hnew
          clear hTz hSz hsp
          go_wp2_with fail
          go_region
          go_wp2_with fail
          go_roundw
          case rel => exact ⟨j + 1, by omega, by go_num, by rw [hnew.out], by have hbk9 := hbk.out; go_grown⟩
          case measure => simp [RowKit.intOf]; omega
        · rw [show tx (gp 2) = ⟨#[9, 32]⟩ from rfl] at hnew
          have s1 : 2 + T.size ≤ 9223372036854775807 := by omega
          have s2 : ¬ 9223372036854775807 < 2 + T.size := by omega
          have s3 : S9.size + (2 + T.size) ≤ 9223372036854775807 := by omega
          have s4 : ¬ 9223372036854775807 < S9.size + (2 + T.size) := by omega
          have hsp' : bits .and .i64 gv 7 = 2 := hsp
          replace hnew := Lib.hid hnew
          clear hTz hSz hsp
          go_wp2_with fail
          go_region
          go_wp2_with fail
          go_roundw
          case rel => exact ⟨j + 1, by omega, by go_num, by rw [hnew.out], by have hbk9 := hbk.out; go_grown⟩
          case measure => simp [RowKit.intOf]; omega
        · rw [show tx (gp 3) = ⟨#[32, 32, 13, 10]⟩ from rfl] at hnew
          have s1 : 4 + T.size ≤ 9223372036854775807 := by omega
          have s2 : ¬ 9223372036854775807 < 4 + T.size := by omega
          have s3 : S9.size + (4 + T.size) ≤ 9223372036854775807 := by omega
          have s4 : ¬ 9223372036854775807 < S9.size + (4 + T.size) := by omega
          have hsp' : bits .and .i64 gv 7 = 3 := hsp
          replace hnew := Lib.hid hnew
          clear hTz hSz hsp
          go_wp2_with fail
          go_region
          go_wp2_with fail
          go_roundw
          case rel => exact ⟨j + 1, by omega, by go_num, by rw [hnew.out], by have hbk9 := hbk.out; go_grown⟩
          case measure => simp [RowKit.intOf]; omega
        · rw [show tx (gp 4) = ⟨#[32]⟩ from rfl] at hnew
          have s1 : 1 + T.size ≤ 9223372036854775807 := by omega
          have s2 : ¬ 9223372036854775807 < 1 + T.size := by omega
          have s3 : S9.size + (1 + T.size) ≤ 9223372036854775807 := by omega
          have s4 : ¬ 9223372036854775807 < S9.size + (1 + T.size) := by omega
          have hsp' : bits .and .i64 gv 7 = 4 := hsp
          replace hnew := Lib.hid hnew
          clear hTz hSz hsp
          go_wp2_with fail
          go_region
          go_wp2_with fail
          go_roundw
          case rel => exact ⟨j + 1, by omega, by go_num, by rw [hnew.out], by have hbk9 := hbk.out; go_grown⟩
          case measure => simp [RowKit.intOf]; omega
        · rw [show tx (gp 5) = ⟨#[10, 10]⟩ from rfl] at hnew
          have s1 : 2 + T.size ≤ 9223372036854775807 := by omega
          have s2 : ¬ 9223372036854775807 < 2 + T.size := by omega
          have s3 : S9.size + (2 + T.size) ≤ 9223372036854775807 := by omega
          have s4 : ¬ 9223372036854775807 < S9.size + (2 + T.size) := by omega
          have hsp' : bits .and .i64 gv 7 = 5 := hsp
          replace hnew := Lib.hid hnew
          clear hTz hSz hsp
          go_wp2_with fail
          go_region
          go_wp2_with fail
          go_roundw
          case rel => exact ⟨j + 1, by omega, by go_num, by rw [hnew.out], by have hbk9 := hbk.out; go_grown⟩
          case measure => simp [RowKit.intOf]; omega
        · rw [show tx (gp 6) = ⟨#[32, 32, 32]⟩ from rfl] at hnew
          have s1 : 3 + T.size ≤ 9223372036854775807 := by omega
          have s2 : ¬ 9223372036854775807 < 3 + T.size := by omega
          have s3 : S9.size + (3 + T.size) ≤ 9223372036854775807 := by omega
          have s4 : ¬ 9223372036854775807 < S9.size + (3 + T.size) := by omega
          have hsp' : bits .and .i64 gv 7 = 6 := hsp
          replace hnew := Lib.hid hnew
          clear hTz hSz hsp
          go_wp2_with fail
          go_region
          go_wp2_with fail
          go_roundw
          case rel => exact ⟨j + 1, by omega, by go_num, by rw [hnew.out], by have hbk9 := hbk.out; go_grown⟩
          case measure => simp [RowKit.intOf]; omega
        · rw [show tx (gp 7) = ⟨#[9]⟩ from rfl] at hnew
          have s1 : 1 + T.size ≤ 9223372036854775807 := by omega
          have s2 : ¬ 9223372036854775807 < 1 + T.size := by omega
          have s3 : S9.size + (1 + T.size) ≤ 9223372036854775807 := by omega
          have s4 : ¬ 9223372036854775807 < S9.size + (1 + T.size) := by omega
          have hsp' : bits .and .i64 gv 7 = 7 := hsp
          replace hnew := Lib.hid hnew
          clear hTz hSz hsp
          go_wp2_with fail
          go_region
          go_wp2_with fail
          go_roundw
          case rel => exact ⟨j + 1, by omega, by go_num, by rw [hnew.out], by have hbk9 := hbk.out; go_grown⟩
          case measure => simp [RowKit.intOf]; omega
    · obtain rfl : j = na := by omega
      rw [hfull.out]
      have hLk := hLS.out.over hbk
      have hTk := hTa.out.over hbk
      have hbw9 := hbw3.out.trans (hbk.mono hbw3.out.size)
      have hN5 := C5.new wr 35 (.string (tx (catG (itF (gix gl) 0 a)))) (.int .i64 1) (.int .i64 1) (.int .i64 1) (.bool false)
      obtain ⟨S9, hS9⟩ : ∃ S, tx (catG (itF (gix gl) 0 a)) = S := ⟨_, rfl⟩
      rw [hS9] at hN5 hLy ⊢
      have hL5' := hLk.over ((Below.refl _ wr).alloc (Nat.le_refl _) (.cells #[.string S9, .int .i64 1, .int .i64 1, .int .i64 1, .bool false] 35))
      have hT5' := hTk.over ((Below.refl _ wr).alloc (Nat.le_refl _) (.cells #[.string S9, .int .i64 1, .int .i64 1, .int .i64 1, .bool false] 35))
      have hbw5' := hbw9.alloc hbw9.size (.cells #[.string S9, .int .i64 1, .int .i64 1, .int .i64 1, .bool false] 35)
      have hC5 := hLy.out _ _ hN5 hL5'
      replace hC5 := Lib.hid hC5
      replace hT5' := Lib.hid hT5'
      replace hbw5' := Lib.hid hbw5'
      clear hLk hTk hbw9 hN5 hL5' hbk hS9
      go_wp2_with fail
      (with_reducible refine hC5.out.mono ?_)
      rintro e w6 ⟨hb6, v, rfl, ho6⟩
      obtain ⟨Ab, cb, rfl⟩ := own_form ho6
      have hbw6 := below_call hb6 hbw5'.out
      have hT6 := hT5'.out.over hb6
      have hTb := own_TL2 ho6 (hbl.out.trans hna.out)
      have hT7 := hT6.over ((Below.refl _ w6).alloc (Nat.le_refl _) (.cells #[.int .i64 0, .int .i64 0, .int .i64 0] 29))
      have hTb7 := hTb.over ((Below.refl _ w6).alloc (Nat.le_refl _) (.cells #[.int .i64 0, .int .i64 0, .int .i64 0] 29))
      have hbw7 := hbw6.alloc hbw6.size (.cells #[.int .i64 0, .int .i64 0, .int .i64 0] 29)
      replace hT7 := Lib.hid hT7
      replace hTb7 := Lib.hid hTb7
      replace hbw7 := Lib.hid hbw7
      clear hT6 hTb hbw6 hb6 ho6 hT5' hbw5'
      go_wp2_with fail
      (with_reducible refine (hTy.out _ _ _ hTb7.out).mono ?_)
      rintro e w8 ⟨rfl, hb8⟩
      have hbw8 := below_call hb8 hbw7.out
      have hT8 := hT7.out.over hb8
      replace hT8 := Lib.hid hT8
      replace hbw8 := Lib.hid hbw8
      clear hb8 hT7 hTb7 hbw7
      go_wp2_with fail
      (with_reducible refine (hTx.out _ hT8.out).mono ?_)
      rintro e w9 ⟨rfl, hb9⟩
      have hbw9 := below_call hb9 hbw8.out
      clear hb9
      go_wp2_with fail
      go_ret
      exact ⟨rfl, hbw9⟩
theorem LexBlanks_t (A : Option Addr) (c : Nat) (qs : List PC) (w : World) (hA : PL w A qs) (hN : qs.length ≤ 9223372036854775807) (hq : ∀ q, q ∈ qs → q.p.ok) (hL : LS w) (Ag : Option Addr) (cg : Nat) (gl : List Int) (hG : RI w Ag gl) (hGn : gl.length ≤ 9223372036854775807) : Calls Tryd.prog 6 #[.slice A qs.length c, .slice Ag gl.length cg] w (RV w (.bool true)) := by
  cases hR : lexL nbP (fewL qs) [] with
  | error x => exact LexBlanks_err A c qs w hA hN hq hL Ag cg gl hG hGn x hR
  | ok a => exact LexBlanks_ok A c qs w hA hN hq hL Ag cg gl hG hGn a hR
end Go.Proofs.YtomjokpgcijccaaDoor
