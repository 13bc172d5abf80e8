/-
  vcd's writer: write, on a trace without an error.
-/
import Derived.Test.YtbmdnmjgijblpaaDoorE31
namespace Go.Proofs.YtbmdnmjgijblpaaDoor
open Go Go.RowKit Go.Lib Go.Maps
theorem lnT_len (ws : List (List UInt8)) : (lnT ws).length ≤ (ws.map List.length).sum + ws.length + 1 := by
  have h : ∀ l : List (List UInt8), (l.flatMap (fun y => 32 :: y)).length = (l.map List.length).sum + l.length := by
    intro l
    induction l with
    | nil => rfl
    | cons x l ih => simp only [List.flatMap_cons, List.length_append, ih, List.map_cons, List.sum_cons, List.length_cons]; omega
  cases ws with
  | nil => simp [lnT, jnW]
  | cons x l => simp only [lnT, jnW, List.length_append, h, List.map_cons, List.sum_cons, List.length_cons, List.length_nil]; omega
theorem idR_len : ∀ n, (idR n).length ≤ n := by
  intro n
  induction n using Nat.strongRecOn with
  | _ n ih =>
    by_cases h : n = 0
    · subst h; simp [idR]
    · rw [idR_pos (by omega)]
      have := ih (n / 94) (by omega)
      simp only [List.length_cons]
      omega
theorem idL_len (n : Nat) : (idL n).length ≤ n / 94 + 1 := by
  rw [idL_eq]
  have := idR_len (n / 94)
  simp only [List.length_cons]
  omega
theorem dec_len (n : Nat) (h : n ≤ 1000000) : (itoa (n : Int)).length ≤ 30 := by
  have := itoa_length_le (n : Int) (by omega) (by omega)
  omega
theorem ne_vec (x y : Nat × Nat) : (!((x.1 : Int) == (y.1 : Int) && ((lo x.2 : Nat) : Int) == ((lo y.2 : Nat) : Int) && ((hi x.2 : Nat) : Int) == ((hi y.2 : Nat) : Int))) = decide (x ≠ y) := by
  have h : (((x.1 : Int) == (y.1 : Int) && ((lo x.2 : Nat) : Int) == ((lo y.2 : Nat) : Int) && ((hi x.2 : Nat) : Int) == ((hi y.2 : Nat) : Int)) = true) ↔ x = y := by
    simp only [Bool.and_eq_true, beq_iff_eq]
    constructor
    · rintro ⟨⟨h1, h2⟩, h3⟩
      have e1 := lo_hi x.2
      have e2 := lo_hi y.2
      refine Prod.ext (by omega) ?_
      rw [← e1, ← e2]
      have h2' : lo x.2 = lo y.2 := by omega
      have h3' : hi x.2 = hi y.2 := by omega
      rw [h2', h3']
    · rintro rfl; exact ⟨⟨rfl, rfl⟩, rfl⟩
  by_cases e : x = y
  · rw [h.2 e]; simp [e]
  · have : ((x.1 : Int) == (y.1 : Int) && ((lo x.2 : Nat) : Int) == ((lo y.2 : Nat) : Int) && ((hi x.2 : Nat) : Int) == ((hi y.2 : Nat) : Int)) = false := by
      rw [Bool.eq_false_iff]
      exact fun hc => e (h.1 hc)
    rw [this]; simp [e]
theorem lnT4 {a b c d : List UInt8} (h : a.length + b.length + c.length + d.length ≤ 900) : (lnT [a, b, c, d]).length ≤ 1000 := by
  have := lnT_len [a, b, c, d]
  simp at this
  omega
theorem lnT6 {a b c d e f : List UInt8} (h : a.length + b.length + c.length + d.length + e.length + f.length ≤ 900) : (lnT [a, b, c, d, e, f]).length ≤ 1000 := by
  have := lnT_len [a, b, c, d, e, f]
  simp at this
  omega
theorem lnT2 {a b : List UInt8} (h : a.length + b.length ≤ 900) : (lnT [a, b]).length ≤ 1000 := by
  have := lnT_len [a, b]
  simp at this
  omega
theorem lnT1 {a : List UInt8} (h : a.length ≤ 900) : (lnT [a]).length ≤ 1000 := by
  have := lnT_len [a]
  simp at this
  omega
theorem txL_len (x : Nat × Nat) : (txL x).length = x.1 := by
  have : ∀ (l : List Int) (a : ByteArray), (l.foldl (fun r n => r.push (UInt8.ofNat n.toNat)) a).data.toList.length = a.data.toList.length + l.length := by
    intro l
    induction l with
    | nil => intro a; simp
    | cons b l ih => intro a; rw [List.foldl_cons, ih]; simp [ByteArray.push]; omega
  unfold txL txt
  rw [this]
  simp
/-- The variable k at the line that speaks of it. -/
structure VLN (vs : List NV) (k : Nat) (nm : List UInt8) (u : Nat) : Prop where
  at_ : vs[k]? = some (nm, u)
  l : (lnT [sVar, sWire, itoa (u : Int), idL k, nm, sEnd]).length ≤ 1000
  e : vln vs k = [sVar, sWire, itoa (u : Int), idL k, nm, sEnd]
theorem TOK.vln {top : List UInt8} {vs : List NV} {rows : RW} (ok : TOK top vs rows) {k : Nat} (hk : k < vs.length) : ∃ nm u, VLN vs k nm u ∧ u ≤ 128 := by
  obtain ⟨x, hx⟩ : ∃ x, vs[k]? = some x := ⟨_, List.getElem?_eq_getElem hk⟩
  have hm := List.mem_of_getElem? hx
  have h1 := ok.vn x hm
  have h2 := ok.vw x hm
  have h3 := ok.vl
  have h4 := dec_len x.2 (by omega)
  have h5 := idL_len k
  refine ⟨x.1, x.2, ⟨hx, lnT6 (by simp; omega), ?_⟩, h2.2⟩
  unfold Go.Proofs.YtbmdnmjgijblpaaDoor.vln
  rw [hx]
theorem rvv_at {rows : RW} {a i : Nat} {r : List (Nat × Nat)} (h : rows[a]? = some r) (hi : i < r.length) : r[i]? = some (rvv rows a i) := by
  unfold rvv
  simp only [List.getD_eq_getElem?_getD]
  rw [h, Option.getD_some, List.getElem?_eq_getElem hi]
  rfl
theorem strs_1 (a : List UInt8) : (#[.string (bt a)] : Array Value) = strs [a] := rfl
theorem strs_2 (a b : List UInt8) : (#[.string (bt a), .string (bt b)] : Array Value) = strs [a, b] := rfl
theorem bt_cons (c : UInt8) (l : List UInt8) : (⟨#[c]⟩ : ByteArray) ++ bt l = bt (c :: l) := by
  apply ByteArray.ext
  rw [ByteArray.data_append]
  simp
theorem lns_bound {top : List UInt8} {vs : List NV} {rows : RW} (ok : TOK top vs rows) {nv nr a j : Nat} (hv : vs.length = nv) (hr : rows.length = nr) (ha : a < nr) (hj : j ≤ nv) : (lnsH top ++ lnsV vs nv ++ lnsM ++ lnsT rows nv a).length + 2 + j < 70000 := by
  have h1 := lnsT_len rows nv a
  have h2 := ok.vl
  have h3 := ok.rl
  have h4 : a * (nv + 1) ≤ 200 * 301 := Nat.mul_le_mul (by omega) (by omega)
  simp only [List.length_append, lnsV_len]
  simp only [lnsH, lnsM, List.length_cons, List.length_nil]
  omega
theorem strs_var (a b nm : List UInt8) : (#[.string ⟨#[36, 118, 97, 114]⟩, .string ⟨#[119, 105, 114, 101]⟩, .string (bt a), .string (bt b), .string (bt nm), .string ⟨#[36, 101, 110, 100]⟩] : Array Value) = strs [sVar, sWire, a, b, nm, sEnd] := rfl
set_option maxRecDepth 100000 in
set_option maxHeartbeats 12800000 in
theorem writes_t (top : List UInt8) (vs : List NV) (rows : RW) (A A2 : Option Addr) (c c2 : Nat) (w0 : World) (B b : Nat) (wi : World) (hT : LT w0) (hB0 : w0.heap.size = B) (hb : BU B b [] wi) (hlow : Below B w0 wi) (hV : RVs w0 A vs) (hR : RM w0 A2 rows) (ok : TOK top vs rows) :
    Calls Tryd.prog 13 #[.agg #[.string (bt top), .slice A vs.length c, .slice A2 rows.length c2], .func (.func 14) #[] #[pp b]] wi fun e w' => e = .returned (.tuple #[]) ∧ BU B b (dumpT top vs rows) w' ∧ Below B w0 w' := by
  have hsz : B ≤ wi.heap.size := by have := hlow.size; omega
  have hW0 : WL w0 B b wi.heap.size #[.string (bt top), .slice A vs.length c, .slice A2 rows.length c2] [] (wi.alloc (.cells #[.string (bt top), .slice A vs.length c, .slice A2 rows.length c2] 26)) := by
    have hb1 := vnew wi (.cells #[.string (bt top), .slice A vs.length c, .slice A2 rows.length c2] 26)
    refine ⟨⟨bu_over hb hb1, by unfold CV; exact Array.getElem?_push_size .., hlow.trans (hb1.mono hsz), by have := hb1.size; omega⟩, by simp, fun ws h => by simp at h⟩
  obtain ⟨w1, hw1⟩ : ∃ W, wi.alloc (.cells #[.string (bt top), .slice A vs.length c, .slice A2 rows.length c2] 26) = W := ⟨_, rfl⟩
  obtain ⟨b2, hb2⟩ : ∃ g, wi.heap.size = g := ⟨_, rfl⟩
  obtain ⟨nv, hnv⟩ : ∃ n, vs.length = n := ⟨_, rfl⟩
  obtain ⟨nr, hnr⟩ : ∃ n, rows.length = n := ⟨_, rfl⟩
  have htr : ∀ W lns, WL w0 B b b2 #[.string (bt top), .slice A nv c, .slice A2 nr c2] lns W → W.cell? ⟨b2, 0, none⟩ = some (.string (bt top)) ∧ W.cell? ⟨b2, 1, none⟩ = some (.slice A nv c) ∧ W.cell? ⟨b2, 2, none⟩ = some (.slice A2 nr c2) ∧ b2 < W.heap.size := fun W lns h => ⟨h.wr.box.c 0, h.wr.box.c 1, h.wr.box.c 2, h.wr.box.lt⟩
  rw [hw1, hb2, hnv, hnr] at hW0
  rw [hnv, hnr] at hw1
  have hL1 := hW0.line [sTime, [49], [110, 115], sEnd] (by simp) #[.string ⟨#[36, 116, 105, 109, 101, 115, 99, 97, 108, 101]⟩, .string ⟨#[49]⟩, .string ⟨#[110, 115]⟩, .string ⟨#[36, 101, 110, 100]⟩] rfl 4 rfl (by decide) (by decide) (by simp)
  rw [hnv, hnr]
  obtain ⟨TR, hTR⟩ : ∃ t : Array Value, #[.string (bt top), .slice A nv c, .slice A2 nr c2] = t := ⟨_, rfl⟩
  rw [hTR] at hL1 htr hW0
  replace hL1 := Lib.hid hL1
  replace htr := Lib.hid htr
  replace hw1 := Lib.hid hw1
  replace hb2 := Lib.hid hb2
  replace hnv := Lib.hid hnv
  replace hnr := Lib.hid hnr
  replace hT := Lib.hid hT
  replace hV := Lib.hid hV
  replace hR := Lib.hid hR
  replace ok := Lib.hid ok
  replace hB0 := Lib.hid hB0
  clear hb hlow hsz hTR hW0
  go_enter Tryd.func13, Tryd.ntmps13
  go_wp2_with fail
  rw [hw1.out, hb2.out]
  have hs1 : w1.heap.size = b2 + 1 := by rw [← hw1.out, ← hb2.out]; simp
  have hL1' := hL1.out
  rw [hs1] at hL1'
  replace hL1 := Lib.hid hL1'
  clear hL1' hs1 hw1 hb2
  (with_reducible refine hL1.out.mono ?_)
  rintro e w2 ⟨rfl, hW2, _⟩
  obtain ⟨c0, c1, c2', cl⟩ := htr.out w2 _ hW2
  have hL2 := Lib.hid (hW2.line [sScope, sModule, top, sEnd] (by simp) #[.string ⟨#[36, 115, 99, 111, 112, 101]⟩, .string ⟨#[109, 111, 100, 117, 108, 101]⟩, .string (bt top), .string ⟨#[36, 101, 110, 100]⟩] rfl 4 rfl (by decide) (lnT4 (by have := ok.out.top; simp; omega)) (by simp))
  clear hL1 hW2
  go_wp2_with fail
  (with_reducible refine hL2.out.mono ?_)
  rintro e w3 ⟨rfl, hW3, _⟩
  have hW3 : WL w0 B b b2 TR (lnsH top ++ lnsV vs 0) w3 := hW3
  clear hL2 c0 c1 c2' cl
  obtain ⟨c0, c1, c2', cl⟩ := htr.out w3 _ hW3
  replace hW3 := Lib.hid hW3
  go_wp2_with fail
  clear c0 c1 c2' cl
  go_loopw [21] (fun i wr => ∃ k : Nat, k ≤ nv ∧ i = .int .i64 (k : Int) ∧ Hid (WL w0 B b b2 TR (lnsH top ++ lnsV vs k) wr)) (fun i _ => nv - (RowKit.intOf i).toNat)
  case atStart => exact ⟨0, Nat.zero_le _, rfl, hW3⟩
  case round =>
    obtain ⟨k, hk, rfl, hW⟩ := hrel
    clear hW3
    by_cases hlt : k < nv
    · obtain ⟨nm, u, hv, hu⟩ := ok.out.vln (k := k) (by have := hnv.out; omega)
      have hVr := hV.out.over (by rw [hB0.out]; exact hW.out.wr.low : Below w0.heap.size w0 wr)
      obtain ⟨bA, rfl, hbA, hcA⟩ := hVr (by have := hnv.out; omega)
      obtain ⟨x0, x1⟩ := hcA k _ hv.at_
      have hb5 := vnew wr (.cells #[.string (bt nm), iz (u : Int)] 30)
      have hg5 : CV (wr.alloc (.cells #[.string (bt nm), iz (u : Int)] 30)) wr.heap.size #[.string (bt nm), iz (u : Int)] 30 := by unfold CV; exact Array.getElem?_push_size ..
      have hW5 := hW.out.over hb5
      have hvl := hv.l
      have hve := hv.e
      have hkb : k ≤ 300 := by have := ok.out.vl; have := hnv.out; omega
      have hlen : (lnsH top ++ lnsV vs k).length < 70000 := by rw [List.length_append, lnsV_len]; simp [lnsH]; omega
      obtain ⟨Sn, hSn⟩ : ∃ S, bt nm = S := ⟨_, rfl⟩
      obtain ⟨u', hu'⟩ : ∃ u' : Int, (u : Int) = u' := ⟨_, rfl⟩
      have hI : ∀ W, Below w0.heap.size w0 W → Calls Tryd.prog 30 #[.int .i64 u'] W fun e w' => e = .returned (.string (bt (itoa u'))) ∧ Below W.heap.size W w' := fun W hb => Itoa_t u' (by omega) (by omega) W (hT.out.on hb)
      have hId := fun W => id_t k (by omega) W
      obtain ⟨w5, hw5⟩ : ∃ W, wr.alloc (.cells #[.string Sn, iz u'] 30) = W := ⟨_, rfl⟩
      obtain ⟨b5, hb5e⟩ : ∃ g, wr.heap.size = g := ⟨_, rfl⟩
      rw [hSn] at x0
      rw [hu'] at x1
      have hnmS : [sVar, sWire, itoa u', idL k, nm, sEnd] = vln vs k := by rw [hve, hu']
      rw [hSn, hu', hw5] at hW5 hg5
      rw [hb5e] at hg5
      rw [hu'] at hvl
      have hS : ∀ W, Below w5.heap.size w5 W → (W.cell? ⟨b5, 0, none⟩ = some (.string Sn) ∧ W.cell? ⟨b5, 1, none⟩ = some (iz u') ∧ b5 < W.heap.size) := fun W hb => by
        have h := hg5.over hb
        exact ⟨h.c 0, h.c 1, h.lt⟩
      have hSa : ∀ (W : World) (o : Obj), Below w5.heap.size w5 W → ((W.alloc o).cell? ⟨b5, 0, none⟩ = some (.string Sn) ∧ (W.alloc o).cell? ⟨b5, 1, none⟩ = some (iz u') ∧ b5 < (W.alloc o).heap.size) := fun W o hb => hS _ (below_step hb (vnew W o))
      have hB5 : ∀ W, Below w5.heap.size w5 W → Below w0.heap.size w0 W := fun W hb => by
        have := hW5.wr.low
        rw [← hB0.out] at this
        have h6 := hW5.wr.sz
        exact this.trans (hb.mono (by rw [hB0.out]; exact h6))
      have hLn : ∀ W cells, Below w5.heap.size w5 W → cells = strs [sVar, sWire, itoa u', idL k, nm, sEnd] → Calls Tryd.prog 14 #[.slice (some ⟨W.heap.size, 0, none⟩) 6 6, pp b] (W.alloc (.cells cells 9)) fun e w' => e = .returned (.tuple #[]) ∧ (w'.cell? ⟨b5, 0, none⟩ = some (.string Sn) ∧ w'.cell? ⟨b5, 1, none⟩ = some (iz u') ∧ b5 < w'.heap.size) ∧ Hid (WL w0 B b b2 TR (lnsH top ++ lnsV vs (k + 1)) w') := fun W cells hb hc => by
        refine ((hW5.over hb).line _ (by simp) cells hc 6 rfl (by decide) hvl hlen).mono ?_
        rintro e w' ⟨rfl, h1, h2⟩
        have h := h2.cv (hg5.over hb) (by decide) (by decide)
        refine ⟨rfl, ⟨h.c 0, h.c 1, h.lt⟩, Lib.hid ?_⟩
        rw [lnsV_succ, ← List.append_assoc, ← hnmS]
        exact h1
      have hSn' : Hid (bt nm = Sn) := Lib.hid hSn
      replace hI := Lib.hid hI
      replace hId := Lib.hid hId
      replace hw5 := Lib.hid hw5
      replace hb5e := Lib.hid hb5e
      replace hS := Lib.hid hS
      replace hSa := Lib.hid hSa
      replace hB5 := Lib.hid hB5
      replace hLn := Lib.hid hLn
      replace hlen := Lib.hid hlen
      replace hv := Lib.hid hv
      clear hVr hcA hb5 hg5 hW5 hvl hve hSn hu' hnmS hlen
      go_upto_region 6 with fail
      rw [hw5.out, hb5e.out]
      obtain ⟨kk0, kk1, kkl⟩ := hS.out w5 (Below.refl _ _)
      have hbd : Below w5.heap.size w5 w5.drew := (Below.refl _ w5).drew
      replace hbd := Lib.hid hbd
      go_region_held3 (fun w' => w'.cell? ⟨b5, 0, none⟩ = some (.string Sn) ∧ w'.cell? ⟨b5, 1, none⟩ = some (iz u') ∧ b5 < w'.heap.size) (first | exact kk | exact hSa.out _ _ hbq.out | exact ⟨kk0, kk1, kkl⟩)
        (first
          | (go_at_call 30; (with_reducible refine (hI.out _ (hB5.out _ hbd.out)).mono ?_); rintro e w7 ⟨rfl, hb7⟩; have hbp := below_step hbd.out hb7; have kk := hS.out w7 hbp; replace hbp := Lib.hid hbp; clear hb7)
          | (go_at_call 31; (with_reducible refine (hId.out _).mono ?_); rintro e w8 ⟨rfl, hb8⟩; have hbq := below_step hbp.out hb8; clear kk; have kk := hS.out w8 hbq; replace hbq := Lib.hid hbq; clear hb8)
          | (go_at_call 14; (with_reducible refine (hLn.out _ _ hbq.out (by rw [← hSn'.out]; exact strs_var _ _ _)).mono ?_); rintro e w9 ⟨rfl, kk9, hW9⟩; clear kk; have kk := kk9; clear kk9))
      clear kk kk0 kk1 kkl hbd hbp hbq hI hId hS hSa hB5 hLn hw5 hb5e hSn' hv htr
      go_wp2_with fail
      go_roundw
      case rel => exact ⟨k + 1, by omega, by go_num, hW9⟩
      case measure => simp [RowKit.intOf]; omega
    · obtain rfl : k = nv := by omega
      have hL4 := Lib.hid (hW.out.line [sUp, sEnd] (by simp) #[.string ⟨#[36, 117, 112, 115, 99, 111, 112, 101]⟩, .string ⟨#[36, 101, 110, 100]⟩] rfl 2 rfl (by decide) (by decide) (by have := ok.out.vl; have := hnv.out; rw [List.length_append, lnsV_len]; simp [lnsH]; omega))
      clear hW
      go_wp2_with fail
      (with_reducible refine hL4.out.mono ?_)
      rintro e w4 ⟨rfl, hW4, _⟩
      have hL5 := Lib.hid (hW4.line [sEndDef, sEnd] (by simp) #[.string ⟨#[36, 101, 110, 100, 100, 101, 102, 105, 110, 105, 116, 105, 111, 110, 115]⟩, .string ⟨#[36, 101, 110, 100]⟩] rfl 2 rfl (by decide) (by decide) (by have := ok.out.vl; have := hnv.out; rw [List.length_append, List.length_append, lnsV_len]; simp [lnsH]; omega))
      clear hL4 hW4
      go_wp2_with fail
      (with_reducible refine hL5.out.mono ?_)
      rintro e w5 ⟨rfl, hW5, _⟩
      have hW5 : WL w0 B b b2 TR (lnsH top ++ lnsV vs k ++ lnsM ++ lnsT rows k 0) w5 := by
        rw [List.append_assoc, List.append_assoc] at hW5
        rw [show lnsT rows k 0 = [] from rfl, List.append_nil, List.append_assoc]
        exact hW5
      obtain ⟨c0, c1, c2', cl⟩ := htr.out w5 _ hW5
      replace hW5 := Lib.hid hW5
      clear hL5
      go_wp2_with fail
      clear c0 c1 c2' cl
      go_loopw [46] (fun i wr => ∃ a : Nat, a ≤ nr ∧ i = .int .i64 (a : Int) ∧ Hid (WL w0 B b b2 TR (lnsH top ++ lnsV vs k ++ lnsM ++ lnsT rows k a) wr)) (fun i _ => nr - (RowKit.intOf i).toNat)
      case atStart => exact ⟨0, Nat.zero_le _, rfl, hW5⟩
      case round =>
        obtain ⟨a, ha, rfl, hW⟩ := hrel
        clear hW5
        by_cases hlt2 : a < nr
        · obtain ⟨r, hr⟩ : ∃ r, rows[a]? = some r := ⟨_, List.getElem?_eq_getElem (by have := hnr.out; omega)⟩
          have hrn : r.length = k := by rw [ok.out.rn r (List.mem_of_getElem? hr)]; exact hnv.out
          have hlow : Below w0.heap.size w0 wr := by rw [hB0.out]; exact hW.out.wr.low
          obtain ⟨bR, rfl, hbR0, hcR⟩ := hR.out (by have := hnr.out; omega)
          obtain ⟨A', c', cR0, hRD⟩ := hcR a r hr
          have cR : wr.cell? ⟨bR, a, none⟩ = some (.slice A' k c') := by rw [← hrn]; exact (hlow.cell (p := ⟨bR, a, none⟩) hbR0).trans cR0
          have hbR : bR < wr.heap.size := Nat.lt_of_lt_of_le hbR0 hlow.size
          have hI := Itoa_t (a : Int) (by omega) (by have := ok.out.rl; have := hnr.out; omega)
          have hal : a ≤ 200 := by have := ok.out.rl; have := hnr.out; omega
          have hbnd : ∀ j, j ≤ k → (lnsH top ++ lnsV vs k ++ lnsM ++ lnsT rows k a).length + 2 + j < 70000 := fun j hj => lns_bound ok.out hnv.out hnr.out hlt2 hj
          have hcat := bt_cons 35 (itoa (a : Int))
          have hdl := dec_len a (by omega)
          have hSz : (bt (itoa (a : Int))).size ≤ 30 := hdl
          have hLn : ∀ W, Below wr.heap.size wr W → Calls Tryd.prog 14 #[.slice (some ⟨W.heap.size, 0, none⟩) 1 1, pp b] (W.alloc (.cells #[.string (bt (35 :: itoa (a : Int)))] 9)) fun e w' => e = .returned (.tuple #[]) ∧ WL w0 B b b2 TR ((lnsH top ++ lnsV vs k ++ lnsM ++ lnsT rows k a) ++ ([35 :: itoa (a : Int)] :: lnsC rows a 0)) w' := fun W hb => by
            refine ((hW.out.over hb).line [35 :: itoa (a : Int)] (by simp) _ (strs_1 _) 1 rfl (by decide) (lnT1 (by simp; omega)) (by have := hbnd 0 (Nat.zero_le _); omega)).mono ?_
            rintro e w' ⟨rfl, h1, _⟩
            exact ⟨rfl, h1⟩
          have hTw : LT wr := hT.out.on hlow
          obtain ⟨Sa, hSa⟩ : ∃ S, bt (itoa (a : Int)) = S := ⟨_, rfl⟩
          obtain ⟨Sa2, hSa2⟩ : ∃ S, bt (35 :: itoa (a : Int)) = S := ⟨_, rfl⟩
          rw [hSa] at hSz
          rw [hSa, hSa2] at hcat
          simp only [hSa] at hI
          simp only [hSa2] at hLn
          have t1 : ¬ 9223372036854775807 < 1 + Sa.size := by omega
          have hI' := Lib.hid (hI wr hTw)
          replace hLn := Lib.hid hLn
          replace hcR := Lib.hid hcR
          replace hRD := Lib.hid hRD
          replace hr := Lib.hid hr
          replace hrn := Lib.hid hrn
          replace hbnd := Lib.hid hbnd
          replace hbR0 := Lib.hid hbR0
          clear hI hW hlow hTw hSa hSa2 hdl cR0
          go_wp2_with fail
          (with_reducible refine hI'.out.mono ?_)
          rintro e w6 ⟨rfl, hb6⟩
          have hC := Lib.hid (hLn.out w6 hb6)
          clear hI' hLn hb6 cR
          go_wp2_with fail
          (with_reducible refine hC.out.mono ?_)
          rintro e w7 ⟨rfl, hW7⟩
          replace hW7 := Lib.hid hW7
          clear hC hcat t1 hSz
          go_wp2_with fail
          go_loopw [59] (fun i wr2 => ∃ j : Nat, j ≤ k ∧ i = .int .i64 (j : Int) ∧ Hid (WL w0 B b b2 TR ((lnsH top ++ lnsV vs k ++ lnsM ++ lnsT rows k a) ++ ([35 :: itoa (a : Int)] :: lnsC rows a j)) wr2)) (fun i _ => k - (RowKit.intOf i).toNat)
          case atStart => exact ⟨0, Nat.zero_le _, rfl, hW7⟩
          case round =>
            obtain ⟨j, hj, rfl, hW⟩ := hrel
            clear hW7
            by_cases hlt3 : j < k
            · have hjr : j < r.length := by have := hrn.out; omega
              have hx := rvv_at hr.out hjr
              obtain ⟨x, hxe⟩ : ∃ x, rvv rows a j = x := ⟨_, rfl⟩
              rw [hxe] at hx
              have hxw := ok.out.rw r (List.mem_of_getElem? hr.out) x (List.mem_of_getElem? hx)
              have hlow : Below w0.heap.size w0 wr := by rw [hB0.out]; exact hW.out.wr.low
              obtain ⟨bB, rfl, hbB, hcB⟩ := hRD.out.low hlow (by omega)
              obtain ⟨x0, x1, x2⟩ := hcB j x hx
              have hb7 := vnew wr (.cells #[iz (x.1 : Int), .int .u64 ((lo x.2 : Nat) : Int), .int .u64 ((hi x.2 : Nat) : Int)] 34)
              have hg7 : CV (wr.alloc (.cells #[iz (x.1 : Int), .int .u64 ((lo x.2 : Nat) : Int), .int .u64 ((hi x.2 : Nat) : Int)] 34)) wr.heap.size #[iz (x.1 : Int), .int .u64 ((lo x.2 : Nat) : Int), .int .u64 ((hi x.2 : Nat) : Int)] 34 := by unfold CV; exact Array.getElem?_push_size ..
              have hW7 := hW.out.over hb7
              have hTx : ∀ W, Calls Tryd.prog 32 #[.agg #[iz (x.1 : Int), .int .u64 ((lo x.2 : Nat) : Int), .int .u64 ((hi x.2 : Nat) : Int)]] W fun e w' => e = .returned (.string (bt (txL x))) ∧ Below W.heap.size W w' := fun W => by rw [txL_bt]; exact Text_v x.1 x.2 W hxw.1 hxw.2
              have hId := fun W => id_t j (by have := ok.out.vl; have := hnv.out; omega) W
              have hcat := bt_cons 98 (txL x)
              have hSz : (bt (txL x)).size ≤ 128 := by show (txL x).length ≤ _; rw [txL_len]; exact hxw.1
              have hprev : ∀ h : 0 < a, ∃ A3 c3 b3 y, A3 = some ⟨b3, 0, none⟩ ∧ rvv rows (a - 1) j = y ∧ (∀ W, Below wr.heap.size wr W → W.cell? ⟨bR, a - 1, none⟩ = some (.slice A3 k c3) ∧ bR < W.heap.size ∧ W.cell? ⟨b3, j * 3, none⟩ = some (iz (y.1 : Int)) ∧ W.cell? ⟨b3, j * 3 + 1, none⟩ = some (.int .u64 ((lo y.2 : Nat) : Int)) ∧ W.cell? ⟨b3, j * 3 + 2, none⟩ = some (.int .u64 ((hi y.2 : Nat) : Int)) ∧ b3 < W.heap.size) := fun h => by
                obtain ⟨r', hr'⟩ : ∃ r', rows[a - 1]? = some r' := ⟨_, List.getElem?_eq_getElem (by have := hnr.out; omega)⟩
                have hrn' : r'.length = k := by rw [ok.out.rn r' (List.mem_of_getElem? hr')]; exact hnv.out
                obtain ⟨A3, c3, cR3, hRD3⟩ := hcR.out (a - 1) r' hr'
                rw [hrn'] at cR3
                have hcR3 := (hlow.cell (p := ⟨bR, a - 1, none⟩) hbR0.out).trans cR3
                obtain ⟨b3, rfl, hb3, hc3⟩ := hRD3.low hlow (by omega)
                obtain ⟨y0, y1, y2⟩ := hc3 j _ (rvv_at hr' (by omega))
                have hbRw : bR < wr.heap.size := Nat.lt_of_lt_of_le hbR0.out hlow.size
                exact ⟨_, c3, b3, _, rfl, rfl, fun W hb => ⟨(hb.cell (p := ⟨bR, a - 1, none⟩) hbRw).trans hcR3, Nat.lt_of_lt_of_le hbRw hb.size, (hb.cell (p := ⟨b3, j * 3, none⟩) hb3).trans y0, (hb.cell (p := ⟨b3, j * 3 + 1, none⟩) hb3).trans y1, (hb.cell (p := ⟨b3, j * 3 + 2, none⟩) hb3).trans y2, Nat.lt_of_lt_of_le hb3 hb.size⟩⟩
              have hlc : (a = 0 ∨ x ≠ rvv rows (a - 1) j) → lnsC rows a (j + 1) = lnsC rows a j ++ [[98 :: txL x, idL j]] := fun h => by
                rw [lnsC_succ]
                unfold cln
                rw [hxe, if_pos h]
              have hln : ¬ (a = 0 ∨ x ≠ rvv rows (a - 1) j) → lnsC rows a (j + 1) = lnsC rows a j := fun h => by
                rw [lnsC_succ]
                unfold cln
                rw [hxe, if_neg h, List.append_nil]
              have hlen := hbnd.out j (by omega)
              have hlj := lnsC_len rows a j
              have hlidl := idL_len j
              have hkv : k ≤ 300 := by have := ok.out.vl; have := hnv.out; omega
              obtain ⟨w7, hw7⟩ : ∃ W, wr.alloc (.cells #[iz (x.1 : Int), .int .u64 ((lo x.2 : Nat) : Int), .int .u64 ((hi x.2 : Nat) : Int)] 34) = W := ⟨_, rfl⟩
              obtain ⟨b7, hb7e⟩ : ∃ g, wr.heap.size = g := ⟨_, rfl⟩
              rw [hw7] at hg7 hW7 hb7
              have hLn : ∀ W, Below w7.heap.size w7 W → (a = 0 ∨ x ≠ rvv rows (a - 1) j) → Calls Tryd.prog 14 #[.slice (some ⟨W.heap.size, 0, none⟩) 2 2, pp b] (W.alloc (.cells #[.string (bt (98 :: txL x)), .string (bt (idL j))] 9)) fun e w' => e = .returned (.tuple #[]) ∧ Hid (WL w0 B b b2 TR ((lnsH top ++ lnsV vs k ++ lnsM ++ lnsT rows k a) ++ ([35 :: itoa (a : Int)] :: lnsC rows a (j + 1))) w') := fun W hb hch => by
                refine ((hW7.over hb).line [98 :: txL x, idL j] (by simp) _ (strs_2 _ _) 2 rfl (by decide) (lnT2 (by rw [List.length_cons, txL_len]; have := hxw.1; omega)) (by rw [List.length_append, List.length_cons]; omega)).mono ?_
                rintro e w' ⟨rfl, h1, _⟩
                refine ⟨rfl, Lib.hid ?_⟩
                rw [hlc hch, ← List.cons_append, ← List.append_assoc]
                exact h1
              have hWno : ∀ W, Below w7.heap.size w7 W → ¬ (a = 0 ∨ x ≠ rvv rows (a - 1) j) → Hid (WL w0 B b b2 TR ((lnsH top ++ lnsV vs k ++ lnsM ++ lnsT rows k a) ++ ([35 :: itoa (a : Int)] :: lnsC rows a (j + 1))) W) := fun W hb hch => by
                rw [hln hch]
                exact Lib.hid (hW7.over hb)
              obtain ⟨z0, z1, z2, zl⟩ := htr.out w7 _ hW7
              rw [hb7e] at hg7
              have cb0 : w7.cell? ⟨b7, 0, none⟩ = some (iz (x.1 : Int)) := hg7.c 0
              have cb1 : w7.cell? ⟨b7, 1, none⟩ = some (.int .u64 ((lo x.2 : Nat) : Int)) := hg7.c 1
              have cb2 : w7.cell? ⟨b7, 2, none⟩ = some (.int .u64 ((hi x.2 : Nat) : Int)) := hg7.c 2
              have cbl := hg7.lt
              obtain ⟨Sx, hSx⟩ : ∃ S, bt (txL x) = S := ⟨_, rfl⟩
              obtain ⟨Sy, hSy⟩ : ∃ S, bt (98 :: txL x) = S := ⟨_, rfl⟩
              rw [hSx] at hSz
              rw [hSx, hSy] at hcat
              simp only [hSx] at hTx
              simp only [hSy] at hLn
              have t1 : ¬ 9223372036854775807 < 1 + Sx.size := by omega
              replace hTx := Lib.hid hTx
              replace hId := Lib.hid hId
              replace hLn := Lib.hid hLn
              replace hWno := Lib.hid hWno
              replace hw7 := Lib.hid hw7
              replace hb7e := Lib.hid hb7e
              clear hW hW7 hg7 hlc hln hSx hSy hx hxw hcB hlow hjr hlidl hlj hlen
              rcases Nat.eq_zero_or_pos a with ha0 | ha0
              · have d0 : ((a : Int) == 0) = true := by simp; omega
                replace ha0 := Lib.hid ha0
                clear hprev hb7
                go_wp2_with fail
                rw [hw7.out, hb7e.out]
                clear hw7 hb7e
                go_quiet (fail)
                go_wp2_with fail
                (with_reducible refine (hTx.out _).mono ?_)
                rintro e w8 ⟨rfl, hb8⟩
                have hbp := Lib.hid (below_step (vbdn w7 _) hb8)
                clear hb8 cb0 cb1 cb2 cbl
                go_wp2_with fail
                (with_reducible refine (hId.out _).mono ?_)
                rintro e w9 ⟨rfl, hb9⟩
                have hC := Lib.hid (hLn.out w9 (below_step hbp.out hb9) (.inl ha0.out))
                clear hb9 hbp hTx hId hLn
                go_wp2_with fail
                (with_reducible refine hC.out.mono ?_)
                rintro e w10 ⟨rfl, hW10⟩
                clear hC
                go_wp2_with fail
                go_roundw
                case rel => exact ⟨j + 1, by omega, by go_num, hW10⟩
                case measure => simp [RowKit.intOf]; omega
              · obtain ⟨A3, c3, b3, y, rfl, hy, hc⟩ := hprev ha0
                obtain ⟨q0, q1, y0, y1, y2, yl⟩ := hc w7 hb7
                obtain ⟨m, hm⟩ : ∃ m, a - 1 = m := ⟨_, rfl⟩
                rw [hm] at q0
                have d0 : ((a : Int) == 0) = false := by simp; omega
                have hs1 : (a : Int) - 1 = (m : Int) := by omega
                have hs2 : IntKind.i64.wrap (m : Int) = (m : Int) := IntWalk.i64_in _ (by omega)
                have hs3 : IntKind.i64.wrap ((a : Int) - 1) = (m : Int) := by rw [hs1]; exact hs2
                have hs5 : (m : Int) < (nr : Int) := by omega
                have hgd := fun op x y xs ys W => guard_vec op x y xs ys W
                by_cases hxy : x = y
                · have hne : ∀ W, (binOp .neq 34 (.agg #[iz (x.1 : Int), .int .u64 ((lo x.2 : Nat) : Int), .int .u64 ((hi x.2 : Nat) : Int)]) (.agg #[iz (y.1 : Int), .int .u64 ((lo y.2 : Nat) : Int), .int .u64 ((hi y.2 : Nat) : Int)])).run Tryd.prog W = .ok (.bool false) W := fun W => by rw [neq_vec, ne_vec]; simp [hxy]
                  have hW8 := fun n => hWno.out (w7.drewN n) (vbdn w7 n) (by rw [hy]; simp [hxy]; omega)
                  replace hW8 := Lib.hid hW8
                  replace hy := Lib.hid hy
                  replace hxy := Lib.hid hxy
                  replace hm := Lib.hid hm
                  replace ha0 := Lib.hid ha0
                  clear hb7 hc hTx hId hLn hWno hprev
                  go_wp2_with fail
                  rw [hw7.out, hb7e.out]
                  clear hw7 hb7e
                  go_quiet (fail)
                  clear cb0 cb1 cb2 cbl q0 q1 y0 y1 y2 yl z0 z1 z2 zl
                  go_wp2_with fail
                  go_roundw
                  case rel => exact ⟨j + 1, by omega, by go_num, hW8.out _⟩
                  case measure => simp [RowKit.intOf]; omega
                · have hne : ∀ W, (binOp .neq 34 (.agg #[iz (x.1 : Int), .int .u64 ((lo x.2 : Nat) : Int), .int .u64 ((hi x.2 : Nat) : Int)]) (.agg #[iz (y.1 : Int), .int .u64 ((lo y.2 : Nat) : Int), .int .u64 ((hi y.2 : Nat) : Int)])).run Tryd.prog W = .ok (.bool true) W := fun W => by rw [neq_vec, ne_vec]; simp [hxy]
                  have hch : Hid (a = 0 ∨ x ≠ rvv rows (a - 1) j) := Lib.hid (.inr (by rw [hy]; exact hxy))
                  replace hy := Lib.hid hy
                  replace hxy := Lib.hid hxy
                  replace hm := Lib.hid hm
                  replace ha0 := Lib.hid ha0
                  clear hb7 hc hWno hprev
                  go_wp2_with fail
                  rw [hw7.out, hb7e.out]
                  clear hw7 hb7e
                  go_quiet (fail)
                  clear q0 q1 y0 y1 y2 yl z0 z1 z2 zl hne hgd hs1 hs2 hs3 hs5
                  go_wp2_with fail
                  (with_reducible refine (hTx.out _).mono ?_)
                  rintro e w8 ⟨rfl, hb8⟩
                  have hbp := Lib.hid (below_step (vbdn w7 _) hb8)
                  clear hb8 cb0 cb1 cb2 cbl
                  go_wp2_with fail
                  (with_reducible refine (hId.out _).mono ?_)
                  rintro e w9 ⟨rfl, hb9⟩
                  have hC := Lib.hid (hLn.out w9 (below_step hbp.out hb9) (hch.out))
                  clear hb9 hbp hTx hId hLn
                  go_wp2_with fail
                  (with_reducible refine hC.out.mono ?_)
                  rintro e w10 ⟨rfl, hW10⟩
                  clear hC
                  go_wp2_with fail
                  go_roundw
                  case rel => exact ⟨j + 1, by omega, by go_num, hW10⟩
                  case measure => simp [RowKit.intOf]; omega
            · obtain rfl : j = k := by omega
              have hW9 : WL w0 B b b2 TR (lnsH top ++ lnsV vs j ++ lnsM ++ lnsT rows j (a + 1)) wr := by
                rw [lnsT_succ, ← List.append_assoc]
                exact hW.out
              replace hW9 := Lib.hid hW9
              clear hW
              go_wp2_with fail
              go_roundw
              case rel => exact ⟨a + 1, by omega, by go_num, hW9⟩
              case measure => simp [RowKit.intOf]; omega
        · obtain rfl : a = nr := by omega
          have hfin : Hid (BU B b (dumpT top vs rows) wr ∧ Below B w0 wr) := Lib.hid ⟨by
            have h := hW.out.wr.bu
            rw [← hnv.out, ← hnr.out] at h
            exact h, hW.out.wr.low⟩
          clear hW
          go_wp2_with fail
          exact bodyPost_end (v := .tuple #[]) (by simp [results, Tryd.results13, go_sem]) rfl ⟨rfl, hfin.out⟩
end Go.Proofs.YtbmdnmjgijblpaaDoor
