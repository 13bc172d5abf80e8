/-
  The text of a trace as words, as Read takes them; the events lead back to the trace's rows. Nothing here is walked.
  A dump as Read takes it: its words, its variables, its events.
  Read on what Write has written.
-/
import Derived.Test.YtbmdnmjgijblpaaDoorE37
namespace Go.Proofs.YtbmdnmjgijblpaaDoor
open Go Go.RowKit Go.Lib Go.Maps
/-! Lines as words -/
def lw : List (List UInt8) → List (UInt8 × List UInt8)
  | [] => []
  | w :: ws => (10, w) :: ws.map fun x => (32, x)
theorem fm32 (ws : List (List UInt8)) : (ws.map fun x => ((32 : UInt8), x)).flatMap (fun x => x.1 :: x.2) = ws.flatMap (fun y => 32 :: y) := by
  induction ws with
  | nil => rfl
  | cons x l ih => simp only [List.map_cons, List.flatMap_cons, ih]
theorem lines_RT : ∀ ls : List (List (List UInt8)), (∀ l ∈ ls, l ≠ []) → 10 :: ls.flatMap lnT = RT (ls.flatMap lw)
  | [], _ => rfl
  | [] :: ls, h => absurd rfl (h [] (List.mem_cons_self ..))
  | (w :: ws) :: ls, h => by
    have ih := lines_RT ls fun l hl => h l (List.mem_cons_of_mem _ hl)
    simp only [List.flatMap_cons, lw, lnT, jnW, RT, List.flatMap_append, fm32, List.cons_append, List.append_assoc, List.nil_append]
    rw [show (10 : UInt8) :: (ls.flatMap lnT) = RT (ls.flatMap lw) from ih]
    rfl
theorem text_RT (w : List UInt8) (ws : List (List UInt8)) (ls : List (List (List UInt8))) (h : ∀ l ∈ ls, l ≠ []) : ((w :: ws) :: ls).flatMap lnT = w ++ RT ((ws.map fun x => ((32 : UInt8), x)) ++ ls.flatMap lw) := by
  have e := lines_RT ls h
  simp only [List.flatMap_cons, lnT, jnW, RT, List.flatMap_append, fm32, List.append_assoc, List.cons_append, List.nil_append]
  rw [show (10 : UInt8) :: (ls.flatMap lnT) = RT (ls.flatMap lw) from e]
  rfl
/-! Decimal digits -/
def dd3 (u : Nat) : List UInt8 := if u < 10 then [UInt8.ofNat (48 + u)] else if u < 100 then [UInt8.ofNat (48 + u / 10), UInt8.ofNat (48 + u % 10)] else [UInt8.ofNat (48 + u / 100), UInt8.ofNat (48 + u / 10 % 10), UInt8.ofNat (48 + u % 10)]
theorem itoa_dd3 (u : Nat) (h : u < 1000) : itoa (u : Int) = dd3 u := by
  unfold itoa dd3
  rw [if_neg (by omega), Int.toNat_natCast]
  by_cases h1 : u < 10
  · rw [if_pos h1, decDigits_one h1]
  · rw [if_neg h1]
    by_cases h2 : u < 100
    · rw [if_pos h2, decDigits_two h1 h2]
    · rw [if_neg h2, decDigits, dif_neg h1, decDigits_two (by omega) (by omega), Nat.div_div_eq_div_mul]
      rfl
def okN (u : Nat) (r : NumEnd Nat) : Bool := match r with
  | .ok v => v == u
  | _ => false
theorem okN_ok {u : Nat} {r : NumEnd Nat} (h : okN u r = true) : r = .ok u := by
  cases r <;> simp_all [okN]
theorem dd3_all : ∀ u, u < 300 → (okN u (parseUintB 32 (dd3 u)) && decide ((dd3 u).length ≤ 3) && (dd3 u).all (fun c => !vblk c.toNat) && !(dd3 u).isEmpty) = true := by decide +kernel
theorem dec_all (u : Nat) (h : u < 300) : parseUintB 32 (itoa (u : Int)) = .ok u ∧ (itoa (u : Int)).length ≤ 3 ∧ (∀ c ∈ itoa (u : Int), vblk c.toNat = false) ∧ itoa (u : Int) ≠ [] := by
  have := dd3_all u h
  rw [← itoa_dd3 u (by omega)] at this
  simp only [Bool.and_eq_true, decide_eq_true_eq, List.all_eq_true, Bool.not_eq_true'] at this
  obtain ⟨⟨⟨h1, h2⟩, h3⟩, h4⟩ := this
  exact ⟨okN_ok h1, h2, h3, fun e => by rw [e] at h4; cases h4⟩
/-! Ids -/
theorem idc (m : Nat) : (UInt8.ofNat (33 + m % 94)).toNat = 33 + m % 94 := by
  rw [UInt8.toNat_ofNat']
  exact Nat.mod_eq_of_lt (by omega)
theorem idR_all : ∀ n, ∀ c ∈ idR n, 33 ≤ c.toNat ∧ c.toNat ≤ 126 := by
  intro n
  induction n using Nat.strongRecOn with
  | _ n ih =>
    intro c hc
    by_cases h : n = 0
    · subst h; simp [idR] at hc
    · rw [idR_pos (by omega)] at hc
      rcases List.mem_cons.1 hc with rfl | hc
      · rw [idc]; omega
      · exact ih (n / 94) (by omega) c hc
theorem idL_all (n : Nat) : ∀ c ∈ idL n, 33 ≤ c.toNat ∧ c.toNat ≤ 126 := fun c hc => by
  rw [idL_eq] at hc
  rcases List.mem_cons.1 hc with rfl | hc
  · rw [idc]; omega
  · exact idR_all _ c hc
theorem idR_inj : ∀ n m, idR n = idR m → n = m := by
  intro n
  induction n using Nat.strongRecOn with
  | _ n ih =>
    intro m h
    by_cases h1 : n = 0
    · by_cases h2 : m = 0
      · omega
      · subst h1
        rw [idR_pos (n := m) (by omega)] at h
        simp [idR] at h
    · by_cases h2 : m = 0
      · subst h2
        rw [idR_pos (n := n) (by omega)] at h
        simp [idR] at h
      · rw [idR_pos (n := n) (by omega), idR_pos (n := m) (by omega)] at h
        have e1 := List.cons.inj h
        have e2 := congrArg UInt8.toNat e1.1
        rw [idc, idc] at e2
        have e3 := ih (n / 94) (by omega) (m / 94) e1.2
        omega
theorem idL_inj {n m : Nat} (h : idL n = idL m) : n = m := by
  rw [idL_eq, idL_eq] at h
  have e1 := List.cons.inj h
  have e2 := congrArg UInt8.toNat e1.1
  rw [idc, idc] at e2
  have e3 := idR_inj _ _ e1.2
  omega
theorem idL_ok (n : Nat) (h : n ≤ 1000) : idB (idL n) = true := by
  unfold idB
  have h1 := idL_len n
  have h2 : 0 < (idL n).length := by rw [idL_eq]; simp
  simp only [Bool.and_eq_true, decide_eq_true_eq, List.all_eq_true]
  refine ⟨⟨h2, by omega⟩, fun c hc => ?_⟩
  have := idL_all n c hc
  unfold vpr
  simp only [Bool.and_eq_true, decide_eq_true_eq]
  exact this
theorem idB_blk {l : List UInt8} (h : idB l = true) : ∀ c ∈ l, vblk c.toNat = false := fun c hc => by
  unfold idB at h
  simp only [Bool.and_eq_true, List.all_eq_true] at h
  have := h.2 c hc
  unfold vpr at this
  simp only [Bool.and_eq_true, decide_eq_true_eq] at this
  unfold vblk
  simp only [Bool.or_eq_false_iff, decide_eq_false_iff_not]
  omega
theorem idB_ne {l : List UInt8} (h : idB l = true) : l ≠ [] := fun e => by rw [e] at h; cases h
theorem wordB_id {l : List UInt8} (h : wordB l = true) : idB l = true := by
  unfold wordB at h
  simp only [Bool.and_eq_true] at h
  exact h.1
/-! Digits of vectors -/
theorem foldl_push : ∀ (l : List Int) (a : ByteArray), (l.foldl (fun r n => r.push (UInt8.ofNat n.toNat)) a).data.toList = a.data.toList ++ l.map fun n => UInt8.ofNat n.toNat := by
  intro l
  induction l with
  | nil => intro a; simp
  | cons b l ih => intro a; rw [List.foldl_cons, ih]; simp [ByteArray.push]
theorem txL_eq (x : Nat × Nat) : txL x = (List.range x.1).map fun j => if x.2.testBit (x.1 - 1 - j) then 49 else 48 := by
  unfold txL txt
  rw [foldl_push]
  simp only [List.map_map]
  show [] ++ _ = _
  rw [List.nil_append]
  apply List.map_congr_left
  intro j _
  show UInt8.ofNat (dgt x.1 x.2 j).toNat = _
  unfold dgt
  split <;> rfl
theorem txL_bin (x : Nat × Nat) : (txL x).all (fun c => vbin c.toNat) = true := by
  rw [txL_eq, List.all_map, List.all_eq_true]
  intro j _
  show vbin (if x.2.testBit (x.1 - 1 - j) then (49 : UInt8) else 48).toNat = true
  split <;> rfl
theorem txL_blk (x : Nat × Nat) : ∀ c ∈ txL x, vblk c.toNat = false := fun c hc => by
  rw [txL_eq, List.mem_map] at hc
  obtain ⟨j, _, rfl⟩ := hc
  split <;> rfl
theorem dgs_txL (x : Nat × Nat) (k : Nat) (h : k < x.1) : dgs (txL x) k = x.2.testBit k := by
  have hl := txL_len x
  have h2 := dgs_at (txL x) (x.1 - 1 - k) (by rw [hl]; omega)
  rw [show (txL x).length - 1 - (x.1 - 1 - k) = k from by rw [hl]; omega] at h2
  rw [h2]
  have h3 : (txL x)[x.1 - 1 - k]? = some (if x.2.testBit k then 49 else 48) := by
    rw [txL_eq, List.getElem?_map, List.getElem?_range (by omega)]
    simp only [Option.map_some]
    rw [show x.1 - 1 - (x.1 - 1 - k) = k by omega]
  rw [List.getElem?_eq_getElem (by rw [hl]; omega)] at h3
  rw [Option.some.inj h3]
  cases x.2.testBit k <;> rfl
theorem valB_congr {f g : Nat → Bool} : ∀ k, (∀ i, i < k → f i = g i) → valB f k = valB g k
  | 0, _ => rfl
  | k + 1, h => by rw [valB, valB, valB_congr k fun i hi => h i (by omega), h k (by omega)]
theorem valB_test (x : Nat) : ∀ k, valB x.testBit k = x % 2 ^ k
  | 0 => by simp [valB, Nat.mod_one]
  | k + 1 => by
    rw [valB, valB_test x k, Nat.pow_succ, Nat.mod_mul, Nat.testBit_eq_decide_div_mod_eq, Nat.mul_comm]
    congr 2
    rcases Nat.mod_two_eq_zero_or_one (x / 2 ^ k) with e | e <;> simp [e]
theorem valB_txL (x : Nat × Nat) (h : x.2 < 2 ^ x.1) : valB (dgs (txL x)) x.1 = x.2 := by
  rw [valB_congr x.1 fun i hi => dgs_txL x i hi, valB_test, Nat.mod_eq_of_lt h]
end Go.Proofs.YtbmdnmjgijblpaaDoor
namespace Go.Proofs.YtbmdnmjgijblpaaDoor
open Go Go.RowKit Go.Lib Go.Maps
/-! The events -/
def cev (rows : RW) (a i : Nat) : List EV := if a = 0 ∨ rvv rows a i ≠ rvv rows (a - 1) i then [.ch (txL (rvv rows a i)) (idL i)] else []
def evC (rows : RW) (a : Nat) : Nat → Nat → List EV
  | 0, _ => []
  | n + 1, k => cev rows a k ++ evC rows a n (k + 1)
def evT (rows : RW) (nv : Nat) : Nat → Nat → List EV
  | 0, _ => []
  | n + 1, a => .tm (itoa (a : Int)) :: (evC rows a nv 0 ++ evT rows nv n (a + 1))
theorem evw_app (a b : List EV) : evw (a ++ b) = evw a ++ evw b := by simp [evw]
theorem cev_lw (rows : RW) (a i : Nat) : (cln rows a i).flatMap lw = evw (cev rows a i) := by
  unfold cln cev
  split <;> rfl
theorem evC_lw (rows : RW) (a : Nat) : ∀ n k, ((List.range' k n).flatMap (cln rows a)).flatMap lw = evw (evC rows a n k)
  | 0, _ => rfl
  | n + 1, k => by rw [List.range'_succ, List.flatMap_cons, List.flatMap_append, evC_lw rows a n (k + 1), cev_lw, evC, evw_app]
theorem evT_lw (rows : RW) (nv : Nat) : ∀ n a, ((List.range' a n).flatMap (tln rows nv)).flatMap lw = evw (evT rows nv n a)
  | 0, _ => rfl
  | n + 1, a => by
    rw [List.range'_succ, List.flatMap_cons, List.flatMap_append, evT_lw rows nv n (a + 1), evT, tln, List.flatMap_cons, lnsC, List.range_eq_range', evC_lw]
    show _ = evw ([EV.tm (itoa (a : Int))] ++ (evC rows a nv 0 ++ evT rows nv n (a + 1)))
    rw [evw_app, evw_app, List.append_assoc]
    rfl
theorem lnsT_lw (rows : RW) (nv : Nat) : (lnsT rows nv rows.length).flatMap lw = evw (evT rows nv rows.length 0) := by
  rw [lnsT, List.range_eq_range', evT_lw]
/-! The variables -/
def vdOf (vs : List NV) (i : Nat) : VD := { c0 := 10, c1 := 32, c2 := 32, c3 := 32, c4 := 32, c5 := 32, dw := itoa (((vs.getD i ([], 0)).2 : Nat) : Int), id := idL i, nm := (vs.getD i ([], 0)).1, u := (vs.getD i ([], 0)).2 }
def vdL (vs : List NV) : List VD := (List.range vs.length).map (vdOf vs)
theorem vdL_get {vs : List NV} {i : Nat} (h : i < vs.length) : (vdL vs)[i]? = some (vdOf vs i) := by
  unfold vdL
  rw [List.getElem?_map, List.getElem?_range h]
  rfl
theorem getD_at {vs : List NV} {i : Nat} {x : NV} (h : vs[i]? = some x) : vs.getD i ([], 0) = x := by
  rw [List.getD_eq_getElem?_getD, h]
  rfl
theorem vnvs_vdL (vs : List NV) : vnvs (vdL vs) = vs := by
  apply List.ext_getElem?
  intro i
  unfold vnvs
  rw [List.getElem?_map]
  rcases Nat.lt_or_ge i vs.length with h | h
  · rw [vdL_get h, List.getElem?_eq_getElem h]
    simp only [Option.map_some, vdOf]
    rw [getD_at (List.getElem?_eq_getElem h)]
  · rw [List.getElem?_eq_none (by simpa [vdL] using h), List.getElem?_eq_none h]
    rfl
theorem vids_vdL (vs : List NV) : vids (vdL vs) = (List.range vs.length).map idL := by
  unfold vids vdL
  rw [List.map_map]
  rfl
theorem vids_nodup (vs : List NV) : (vids (vdL vs)).Nodup := by
  rw [vids_vdL]
  exact List.pairwise_map.2 (List.Pairwise.imp (fun h e => h (idL_inj e)) (List.nodup_range (n := vs.length)))
theorem nm_vdL (vs : List NV) : (vdL vs).map VD.nm = vs.map Prod.fst := by
  have := congrArg (List.map Prod.fst) (vnvs_vdL vs)
  rw [vnvs, List.map_map] at this
  exact this
theorem vlines_vdL {vs : List NV} : (lnsV vs vs.length).flatMap lw = vlines (vdL vs) := by
  unfold lnsV vlines vdL
  rw [List.flatMap_map, List.flatMap_map]
  have : ∀ l : List Nat, (∀ i ∈ l, i < vs.length) → l.flatMap (fun i => lw (vln vs i)) = l.flatMap (fun i => (vdOf vs i).all) := by
    intro l
    induction l with
    | nil => intro _; rfl
    | cons i l ih =>
      intro h
      rw [List.flatMap_cons, List.flatMap_cons, ih fun j hj => h j (List.mem_cons_of_mem _ hj)]
      congr 1
      have hi := h i (List.mem_cons_self ..)
      have hg := List.getElem?_eq_getElem hi
      unfold vln VD.all vdOf
      rw [hg]
      simp only [getD_at hg]
      rfl
  exact this _ fun i hi => List.mem_range.1 hi
theorem idn_range (n k : Nat) (h : k < n) : idn ((List.range n).map idL) (idL k) = some k := by
  unfold idn
  rw [List.findIdx?_eq_some_iff_getElem]
  refine ⟨by simpa using h, by simp, fun j hj => ?_⟩
  simp only [List.getElem_map, List.getElem_range, Bool.not_eq_true, beq_eq_false_iff_ne]
  exact fun e => by have := idL_inj e; omega
/-! The events lead to the rows -/
section
variable {vs : List NV} {rows F : RW} {rest : List EV}
theorem es_c (hrw : ∀ r ∈ rows, ∀ x ∈ r, x.1 ≤ 128 ∧ x.2 < 2 ^ x.1) (hty : ∀ r ∈ rows, r.map Prod.fst = vs.map Prod.snd) (hvw : ∀ x ∈ vs, 1 ≤ x.2 ∧ x.2 ≤ 128) (hvl : vs.length ≤ 300) (pre : RW) (a : Nat) (ra base : List (Nat × Nat)) (ha : rows[a]? = some ra) (hbl : base.length = vs.length)
    (hbase : ∀ i, i < vs.length → ¬ (a = 0 ∨ rvv rows a i ≠ rvv rows (a - 1) i) → base[i]? = some (rvv rows a i)) :
    ∀ n k, k + n = vs.length → ES ((List.range vs.length).map idL) vs F (pre ++ [ra]) rest → ES ((List.range vs.length).map idL) vs F (pre ++ [ra.take k ++ base.drop k]) (evC rows a n k ++ rest)
  | 0, k, hk, h => by
    have hra : ra.length = vs.length := by have := congrArg List.length (hty ra (List.mem_of_getElem? ha)); simpa using this
    rw [List.take_of_length_le (by omega), List.drop_eq_nil_of_le (by omega), List.append_nil]
    exact h
  | n + 1, k, hk, h => by
    have ih := es_c hrw hty hvw hvl pre a ra base ha hbl hbase n (k + 1) (by omega) h
    have hra : ra.length = vs.length := by have := congrArg List.length (hty ra (List.mem_of_getElem? ha)); simpa using this
    have hkl : k < vs.length := by omega
    have hrk := rvv_at ha (i := k) (by omega)
    obtain ⟨hka, hke⟩ := List.getElem?_eq_some_iff.1 hrk
    obtain ⟨x, hx⟩ : ∃ x, vs[k]? = some x := ⟨_, List.getElem?_eq_getElem hkl⟩
    have hwx := hrw ra (List.mem_of_getElem? ha) _ (List.mem_of_getElem? hrk)
    have hxw := hvw x (List.mem_of_getElem? hx)
    have hx1 : (rvv rows a k).1 = x.2 := by
      have := congrArg (fun l => l[k]?) (hty ra (List.mem_of_getElem? ha))
      simp only [List.getElem?_map, hrk, hx, Option.map_some] at this
      exact Option.some.inj this
    have hbk : k < base.length := by omega
    have hset : (ra.take k ++ base.drop k).set k (rvv rows a k) = ra.take (k + 1) ++ base.drop (k + 1) := by
      have hl : (ra.take k).length = k := by rw [List.length_take]; omega
      rw [List.set_append_right _ _ (by omega), hl, Nat.sub_self, List.drop_eq_getElem_cons hbk, List.set_cons_zero, List.take_succ_eq_append_getElem hka, hke]
      simp
    rw [evC, List.append_assoc]
    unfold cev
    by_cases hc : a = 0 ∨ rvv rows a k ≠ rvv rows (a - 1) k
    · rw [if_pos hc]
      have hpl : (pre ++ [ra.take k ++ base.drop k]).length = pre.length + 1 := by simp
      have hne : txL (rvv rows a k) ≠ [] := fun e => by
        have h2 : (txL (rvv rows a k)).length = 0 := by rw [e]; rfl
        rw [txL_len] at h2
        omega
      refine ES.change _ pre.length k (ra.take k ++ base.drop k) x _ _ _ hpl (by simp) (by rw [List.length_append, List.length_take, List.length_drop]; omega) (idn_range _ _ hkl) hx (by rw [txL_len]; omega) hxw.2 hne (txL_bin _) (by have := idL_len k; omega) ?_
      rw [List.set_append_right _ _ (Nat.le_refl _), Nat.sub_self, List.set_cons_zero]
      have e : (x.2, valB (dgs (txL (rvv rows a k))) x.2) = rvv rows a k := by
        rw [← hx1, valB_txL _ hwx.2]
      rw [e, hset]
      exact ih
    · rw [if_neg hc]
      have hb := hbase k hkl hc
      obtain ⟨_, hbe⟩ := List.getElem?_eq_some_iff.1 hb
      have e : ra.take k ++ base.drop k = ra.take (k + 1) ++ base.drop (k + 1) := by
        rw [List.drop_eq_getElem_cons hbk, List.take_succ_eq_append_getElem hka, hke, hbe]
        simp
      rw [e]
      exact ih
theorem es_t (hrw : ∀ r ∈ rows, ∀ x ∈ r, x.1 ≤ 128 ∧ x.2 < 2 ^ x.1) (hty : ∀ r ∈ rows, r.map Prod.fst = vs.map Prod.snd) (hvw : ∀ x ∈ vs, 1 ≤ x.2 ∧ x.2 ≤ 128) (hvl : vs.length ≤ 300) (hrl : rows.length ≤ 200) :
    ∀ n a, a + n = rows.length → ES ((List.range vs.length).map idL) vs rows (rows.take a) (evT rows vs.length n a)
  | 0, a, ha => by
    rw [List.take_of_length_le (by omega)]
    exact ES.done
  | n + 1, a, ha => by
    have ih := es_t hrw hty hvw hvl hrl n (a + 1) (by omega)
    have hal : a < rows.length := by omega
    obtain ⟨ra, hra⟩ : ∃ r, rows[a]? = some r := ⟨_, List.getElem?_eq_getElem hal⟩
    have htk : rows.take (a + 1) = rows.take a ++ [ra] := by
      rw [List.take_succ_eq_append_getElem hal, (List.getElem?_eq_some_iff.1 hra).2]
    rw [htk] at ih
    obtain ⟨hp, hlen, _⟩ := dec_all a (by omega)
    rw [evT]
    rcases Nat.eq_zero_or_pos a with h0 | h0
    · subst h0
      refine ES.first _ _ (by omega) hp ?_
      have := es_c hrw hty hvw hvl (rows.take 0) 0 ra (zrow vs) hra (by simp) (fun i hi hc => absurd (.inl rfl) hc) vs.length 0 (by omega) ih
      simpa using this
    · obtain ⟨b, rfl⟩ : ∃ b, a = b + 1 := ⟨a - 1, by omega⟩
      obtain ⟨rb, hrb⟩ : ∃ r, rows[b]? = some r := ⟨_, List.getElem?_eq_getElem (by omega)⟩
      have hrbl : rb.length = vs.length := by have := congrArg List.length (hty rb (List.mem_of_getElem? hrb)); simpa using this
      refine ES.time _ b rb _ _ (by rw [List.length_take]; omega) (by rw [List.getElem?_take, if_pos (by omega)]; exact hrb) (by omega) (by rw [List.length_take]; omega) (by omega) hp ?_
      have := es_c hrw hty hvw hvl (rows.take (b + 1)) (b + 1) ra rb hra hrbl (fun i hi hc => ?_) vs.length 0 (by omega) ih
      · simpa using this
      · have h1 := rvv_at hrb (i := i) (by omega)
        rw [h1]
        have h2 : rvv rows (b + 1) i = rvv rows (b + 1 - 1) i := Classical.byContradiction fun h => hc (.inr h)
        rw [h2]
        rfl
end
end Go.Proofs.YtbmdnmjgijblpaaDoor
namespace Go.Proofs.YtbmdnmjgijblpaaDoor
open Go Go.RowKit Go.Lib Go.Maps
/-- A right word. -/
def GW (w : List UInt8) : Prop := w ≠ [] ∧ ∀ c ∈ w, vblk c.toNat = false
theorem GW.id {l : List UInt8} (h : idB l = true) : GW l := ⟨idB_ne h, idB_blk h⟩
theorem wd_lw (ws : List (List UInt8)) (ls : List (List (List UInt8))) (h1 : ∀ w ∈ ws, GW w) (h2 : ∀ l ∈ ls, ∀ w ∈ l, GW w) : WD ((ws.map fun x => ((32 : UInt8), x)) ++ ls.flatMap lw) := by
  intro x hx
  rcases List.mem_append.1 hx with hx | hx
  · obtain ⟨w, hw, rfl⟩ := List.mem_map.1 hx
    exact ⟨rfl, (h1 w hw).1, (h1 w hw).2⟩
  · obtain ⟨l, hl, hx⟩ := List.mem_flatMap.1 hx
    cases l with
    | nil => cases hx
    | cons w ws =>
      rcases List.mem_cons.1 hx with rfl | hx
      · exact ⟨rfl, h2 _ hl w (List.mem_cons_self ..)⟩
      · obtain ⟨y, hy, rfl⟩ := List.mem_map.1 hx
        exact ⟨rfl, h2 _ hl y (List.mem_cons_of_mem _ hy)⟩
section
variable {top : List UInt8} {vs : List NV} {rows : RW}
theorem good_V (ok : TOK top vs rows) (hn : ∀ x ∈ vs, wordB x.1 = true) : ∀ l ∈ lnsV vs vs.length, ∀ w ∈ l, GW w := by
  intro l hl w hw
  unfold lnsV at hl
  obtain ⟨i, hi, rfl⟩ := List.mem_map.1 hl
  have hi' := List.mem_range.1 hi
  have hg := List.getElem?_eq_getElem hi'
  have hm := List.mem_of_getElem? hg
  unfold vln at hw
  rw [hg] at hw
  obtain ⟨_, _, d3, d4⟩ := dec_all (vs[i].2) (by have := ok.vw _ hm; omega)
  simp only [List.mem_cons, List.not_mem_nil, or_false] at hw
  rcases hw with rfl | rfl | rfl | rfl | rfl | rfl
  · exact ⟨by decide, by decide⟩
  · exact ⟨by decide, by decide⟩
  · exact ⟨d4, d3⟩
  · exact GW.id (idL_ok i (by have := ok.vl; omega))
  · exact GW.id (wordB_id (hn _ hm))
  · exact ⟨by decide, by decide⟩
theorem good_T (ok : TOK top vs rows) : ∀ l ∈ lnsT rows vs.length rows.length, l ≠ [] ∧ ∀ w ∈ l, GW w := by
  intro l hl
  unfold lnsT at hl
  obtain ⟨a, ha, hl⟩ := List.mem_flatMap.1 hl
  have ha' := List.mem_range.1 ha
  unfold tln at hl
  rcases List.mem_cons.1 hl with rfl | hl
  · obtain ⟨_, _, d3, d4⟩ := dec_all a (by have := ok.rl; omega)
    refine ⟨by simp, fun w hw => ?_⟩
    rw [List.mem_singleton.1 hw]
    refine ⟨by simp, fun c hc => ?_⟩
    rcases List.mem_cons.1 hc with rfl | hc
    · rfl
    · exact d3 c hc
  · unfold lnsC at hl
    obtain ⟨i, hi, hl⟩ := List.mem_flatMap.1 hl
    have hi' := List.mem_range.1 hi
    unfold cln at hl
    split at hl
    · rw [List.mem_singleton.1 hl]
      refine ⟨by simp, fun w hw => ?_⟩
      simp only [List.mem_cons, List.not_mem_nil, or_false] at hw
      rcases hw with rfl | rfl
      · refine ⟨by simp, fun c hc => ?_⟩
        rcases List.mem_cons.1 hc with rfl | hc
        · rfl
        · exact txL_blk _ c hc
      · exact GW.id (idL_ok i (by have := ok.vl; omega))
    · cases hl
theorem dump_RT (ok : TOK top vs rows) (ht : wordB top = true) (hn : ∀ x ∈ vs, wordB x.1 = true) : dumpT top vs rows = sTime ++ RT (wHead 32 32 32 10 32 32 32 [49] [110, 115] top (wVars 10 (vdL vs) (wTail 10 32 10 32 (evw (evT rows vs.length rows.length 0))))) ∧ WD (wHead 32 32 32 10 32 32 32 [49] [110, 115] top (wVars 10 (vdL vs) (wTail 10 32 10 32 (evw (evT rows vs.length rows.length 0))))) := by
  have hV := good_V ok hn
  have hT := good_T ok
  have hVne : ∀ l ∈ lnsV vs vs.length, l ≠ [] := by
    intro l hl
    unfold lnsV at hl
    obtain ⟨i, hi, rfl⟩ := List.mem_map.1 hl
    have hg := List.getElem?_eq_getElem (List.mem_range.1 hi)
    unfold vln
    rw [hg]
    simp
  have e : wHead 32 32 32 10 32 32 32 [49] [110, 115] top (wVars 10 (vdL vs) (wTail 10 32 10 32 (evw (evT rows vs.length rows.length 0)))) = (([[49], [110, 115], sEnd] : List (List UInt8)).map fun x => ((32 : UInt8), x)) ++ ([sScope, sModule, top, sEnd] :: (lnsV vs vs.length ++ lnsM ++ lnsT rows vs.length rows.length)).flatMap lw := by
    rw [List.flatMap_cons, List.flatMap_append, List.flatMap_append, vlines_vdL, lnsT_lw]
    simp [wHead, wVars, wTail, lnsM, lw]
  have ed : lnsAll top vs rows = (sTime :: [[49], [110, 115], sEnd]) :: ([sScope, sModule, top, sEnd] :: (lnsV vs vs.length ++ lnsM ++ lnsT rows vs.length rows.length)) := by
    simp [lnsAll, lnsH]
  rw [e]
  refine ⟨?_, wd_lw _ _ ?_ ?_⟩
  · unfold dumpT
    rw [ed]
    refine text_RT _ _ _ ?_
    intro l hl
    rcases List.mem_cons.1 hl with rfl | hl
    · simp
    rcases List.mem_append.1 hl with hl | hl
    · rcases List.mem_append.1 hl with hl | hl
      · exact hVne l hl
      · simp only [lnsM, List.mem_cons, List.not_mem_nil, or_false] at hl
        rcases hl with rfl | rfl <;> simp
    · exact (hT l hl).1
  · intro w hw
    simp only [List.mem_cons, List.not_mem_nil, or_false] at hw
    rcases hw with rfl | rfl | rfl <;> exact ⟨by decide, by decide⟩
  · intro l hl w hw
    rcases List.mem_cons.1 hl with rfl | hl
    · simp only [List.mem_cons, List.not_mem_nil, or_false] at hw
      rcases hw with rfl | rfl | rfl | rfl
      · exact ⟨by decide, by decide⟩
      · exact ⟨by decide, by decide⟩
      · exact GW.id (wordB_id ht)
      · exact ⟨by decide, by decide⟩
    rcases List.mem_append.1 hl with hl | hl
    · rcases List.mem_append.1 hl with hl | hl
      · exact hV l hl w hw
      · simp only [lnsM, List.mem_cons, List.not_mem_nil, or_false] at hl
        rcases hl with rfl | rfl <;> simp only [List.mem_cons, List.not_mem_nil, or_false] at hw <;> rcases hw with rfl | rfl <;> exact ⟨by decide, by decide⟩
    · exact (hT l hl).2 w hw
/-- Read leads back to the trace. -/
theorem Read_dump (h0 : chkF top vs rows = 0) (hx : ∀ r ∈ rows, ∀ x ∈ r, x.1 ≤ 128 ∧ x.2 < 2 ^ x.1) (hT : (dumpT top vs rows).length ≤ 1048576) (w : World) :
    Calls Tryd.prog 8 #[.string (bt (dumpT top vs rows))] w (RDP w top ((List.range vs.length).map idL) vs rows) := by
  obtain ⟨ok, ht, hn, hnd, hty⟩ := chkF_ok h0 hx
  obtain ⟨hTe, hw⟩ := dump_RT ok ht hn
  have hE := es_t hx hty ok.vw ok.vl ok.rl rows.length 0 (by omega)
  have hokL : ∀ x ∈ vdL vs, x.ok := by
    intro x hx
    unfold vdL at hx
    obtain ⟨i, hi, rfl⟩ := List.mem_map.1 hx
    have hg := List.getElem?_eq_getElem (List.mem_range.1 hi)
    have hm := List.mem_of_getElem? hg
    have hvw := ok.vw _ hm
    obtain ⟨d1, d2, _, _⟩ := dec_all (vs[i]'(List.mem_range.1 hi)).2 (by omega)
    have hgd := getD_at hg
    exact ⟨by simp only [vdOf, hgd]; exact d2, by simp only [vdOf, hgd]; exact d1, by simp only [vdOf, hgd]; exact hvw.1, by simp only [vdOf, hgd]; exact hvw.2, idL_ok i (by have := ok.vl; have := List.mem_range.1 hi; omega), by simp only [vdOf, hgd]; exact hn _ hm⟩
  have := Read_t (T := dumpT top vs rows) (L := vdL vs) (F := rows) (evs := evT rows vs.length rows.length 0) hT w hTe hw (by decide) (by decide) ht hokL (vids_nodup vs) (by rw [nm_vdL]; exact hnd) (by unfold vdL; rw [List.length_map, List.length_range]; exact ok.vl) (by rw [vids_vdL, vnvs_vdL]; exact hE)
  rw [vids_vdL, vnvs_vdL] at this
  exact this
end
end Go.Proofs.YtbmdnmjgijblpaaDoor
