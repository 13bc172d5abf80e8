/-
  The reference's NamesOf: the names of a tree put among others, in order.
-/
import Derived.Test.YtljiiniocnljmaaAg
import Derived.Deep.CutBlock
namespace Go.Proofs.Ytljiiniocnljmaa
open Go.RowKit Go.Lib
/-- A slice of strings that reads as l, its capacity. -/
structure SL (w : World) (O : Option Addr) (oc : Nat) (l : List NB) : Prop where
  s : SN w O l
  z : O = none → oc = 0
  c : l.length ≤ oc
  m : oc ≤ maxLen
  p : ∀ ad, O = some ad → ∃ b o, ad = ⟨b, o, none⟩
theorem SL.over {w w' : World} {O : Option Addr} {oc : Nat} {l : List NB} (h : SL w O oc l) (k : Below w.heap.size w w') : SL w' O oc l := ⟨h.s.over k, h.z, h.c, h.m, h.p⟩
theorem own_SL {w : World} {B n c : Nat} {A : Option Addr} {t : TypeId} {l : List NB} (h : w.ownsRow B t 1 (.slice A n c) l.length (l.map encStr)) : SL w A c l ∧ n = l.length := by
  obtain ⟨h1, h2, h3⟩ := own_SN h
  refine ⟨⟨h1, h3, ?_, ?_, ?_⟩, h2⟩
  · rcases h.2 with ⟨e, h0⟩ | ⟨g, cap, cur, e, hb, hgg, k1, k2, _⟩
    · omega
    · cases e; exact k1
  · rcases h.2 with ⟨e, h0⟩ | ⟨g, cap, cur, e, hb, hgg, k1, k2, _⟩
    · cases e; unfold maxLen; omega
    · cases e; exact k2
  · intro ad e
    rcases h.2 with ⟨e0, h0⟩ | ⟨g, cap, cur, e0, hb, hgg, k1, k2, _⟩
    · cases e0; cases e
    · cases e0; cases e; exact ⟨g, 0, rfl⟩
def NOo (t : XT) : Prop := ∀ (A : Option Addr) (c : Nat) (O : Option Addr) (oc : Nat) (l : List NB) (w : World), XQ w (· < w.heap.size) t A → WM t → SL w O oc l → l.length + t.nds ≤ 1000000 →
  Calls Try.prog 10 #[.slice O l.length oc, xv t.h A t.args.length c] w fun e w' => ∃ O' oc', e = .returned (.slice O' (insAll l t.nmp).length oc') ∧ SL w' O' oc' (insAll l t.nmp) ∧ Below w.heap.size w w'
theorem WM.hd : ∀ {t : XT}, WM t → NM t.h
  | .z _, h => h.1
  | .u _ _, h => h.1
  | .b _ _ _, h => h.1
  | .t _ _ _ _, h => h.1
theorem WM.arg : ∀ {t a : XT}, WM t → a ∈ t.args → WM a
  | .z _, _, _, ha => by simp [XT.args] at ha
  | .u _ _, _, h, ha => by simp [XT.args] at ha; subst ha; exact h.2.2
  | .b _ _ _, _, h, ha => by simp [XT.args] at ha; rcases ha with rfl | rfl; exact h.2.2.1; exact h.2.2.2
  | .t _ _ _ _, _, h, ha => by simp [XT.args] at ha; rcases ha with rfl | rfl | rfl; exact h.2.2.1; exact h.2.2.2.1; exact h.2.2.2.2
theorem str_eta (s : ByteArray) : s = ⟨s.data.toList.toArray⟩ := by cases s; rfl
theorem XQ.same {w w' : World} {F : Nat → Prop} {t : XT} {A : Option Addr} (h : XQ w F t A) (e : w'.heap = w.heap) : XQ w' F t A := h.over (fun b _ => by rw [e]) (fun _ h => h)
theorem grown_facts {w w' : World} {g : Nat} {row : Option Nat} (h : w.grownBy w' row) (hr : ∀ b, row = some b → g ≤ b) (hg : g ≤ w.heap.size) : Below g w w' :=
  ⟨h.os, h.tape, h.output, h.size, fun k hk => h.block k (Nat.lt_of_lt_of_le hk hg) fun e => by have := hr k e.symm; omega⟩
theorem SL.low {w w' : World} {O : Option Addr} {oc g : Nat} {l : List NB} (h : SL w O oc l) (k : Below g w w') (hl : ∀ b o, O = some ⟨b, o, none⟩ → 0 < l.length → b < g) : SL w' O oc l :=
  ⟨fun h0 => by
    obtain ⟨b, o, e, hb, hc⟩ := h.s h0
    have hbg := hl b o e h0
    exact ⟨b, o, e, Nat.lt_of_lt_of_le hb k.size, fun j hj => (k.cell (p := ⟨b, o + j, none⟩) hbg).trans (hc j hj)⟩, h.z, h.c, h.m, h.p⟩
theorem SN_none {w : World} {A : Option Addr} {l : List NB} (h : l.length = 0) : SN w A l := fun h0 => by omega
theorem own_empty (w : World) (T : TypeId) : (w.alloc (.cells #[] T)).ownsRow w.heap.size T 1 (.slice (some ⟨w.heap.size, 0, none⟩) 0 0) 0 [] :=
  ⟨rfl, .inr ⟨w.heap.size, 0, #[], rfl, Nat.le_refl _, heap_alloc_new w _, Nat.le_refl _, Nat.zero_le _, rfl, rfl⟩⟩
theorem bdn (w : World) (q : Nat) : Below w.heap.size w (w.drewN q) := ⟨rfl, rfl, rfl, Nat.le_refl _, fun _ _ => rfl⟩
theorem hasN_no (h : XH) (a : ¬ h.k = 2) (b : ¬ h.k = 8) (c : ¬ h.k = 9) (d : ¬ h.k = 10) : hasN h = false := by unfold hasN; rw [if_neg a, if_neg b, if_neg c, if_neg d]
set_option maxRecDepth 100000 in
set_option maxHeartbeats 6400000 in
theorem names_1 (t : XT) (hE : ∀ a ∈ t.args, NOo a) : NOo t := by
  intro A c O oc l w hX hWM hO hlen
  have h3 := t.args_le
  have hnd := nds_args t
  have hNM := hWM.hd
  obtain ⟨n, hn⟩ : ∃ n, t.args.length = n := ⟨_, rfl⟩
  rw [hn] at h3 ⊢
  have hb0 := (Below.refl w.heap.size w).alloc (Nat.le_refl _) (.cells #[.int .i64 t.h.k, .int .i64 t.h.f, .int .i64 t.h.l, .int .i64 t.h.c, .string t.h.s, .slice A n c] 32)
  have hM0 := BX.new w 32 t.h A n c
  obtain ⟨gb, hgb⟩ : ∃ g, w.heap.size = g := ⟨_, rfl⟩
  obtain ⟨w1, hw1⟩ : ∃ W, w.alloc (.cells #[.int .i64 t.h.k, .int .i64 t.h.f, .int .i64 t.h.l, .int .i64 t.h.c, .string t.h.s, .slice A n c] 32) = W := ⟨_, rfl⟩
  rw [hgb, hw1] at hM0
  rw [hw1] at hb0
  have hX1 := hX.over (w' := w1) (G := (· < w.heap.size)) (fun b hb => hb0.block b hb) (fun b hb => hb)
  have hO1 := hO.over hb0
  rw [ins_args]
  have hnf := nm_first t.h hNM
  have hno := hasN_no t.h
  obtain ⟨h, hh⟩ : ∃ h, t.h = h := ⟨_, rfl⟩
  rw [hh] at hM0 hnf hno hNM hw1 ⊢
  obtain ⟨m0, m1, m2, m3, m4, m5⟩ := hM0.all
  have ml := hM0.lt
  unfold NOo at hE
  replace hE := Lib.hid hE
  replace hWM := Lib.hid hWM
  replace hX1 := Lib.hid hX1
  replace hO1 := Lib.hid hO1
  replace hb0 := Lib.hid hb0
  replace hM0 := Lib.hid hM0
  replace hn := Lib.hid hn
  replace hnd := Lib.hid hnd
  replace hnf := Lib.hid hnf
  replace hno := Lib.hid hno
  replace hlen := Lib.hid hlen
  clear hX hO hh hNM
  obtain ⟨L, hL⟩ : ∃ L, l.length = L := ⟨_, rfl⟩
  rw [hL]
  replace hL := Lib.hid hL
  go_enter Try.func10, Try.ntmps10
  go_upto_region 1 with fail
  go_cut [31] from 8 (fun cv wc => cv = .bool (hasN h) ∧ wc = w1)
  case first =>
    by_cases k2 : h.k = 2
    · obtain ⟨hz, hq1, hq2⟩ := hnf.out (.inl k2)
      rw [k2] at m0
      by_cases hu : h.s[0].toNat = 36
      · have he := Lib.hid (hq1.1 hu)
        clear hq1 hq2 hw1
        go_wp2_with fail
        go_meet
        case rel => exact ⟨by rw [he.out], rfl⟩
      · have he := Lib.hid (hq2.1 hu)
        clear hq1 hq2 hw1
        go_wp2_with fail
        go_meet
        case rel => exact ⟨by rw [he.out, show ((h.s[0].toNat : Int) != 36) = true by simp; omega], rfl⟩
    by_cases k8 : h.k = 8
    · obtain ⟨hz, hq1, hq2⟩ := hnf.out (.inr (.inl k8))
      rw [k8] at m0
      by_cases hu : h.s[0].toNat = 36
      · have he := Lib.hid (hq1.1 hu)
        clear hq1 hq2 hw1
        go_wp2_with fail
        go_meet
        case rel => exact ⟨by rw [he.out], rfl⟩
      · have he := Lib.hid (hq2.1 hu)
        clear hq1 hq2 hw1
        go_wp2_with fail
        go_meet
        case rel => exact ⟨by rw [he.out, show ((h.s[0].toNat : Int) != 36) = true by simp; omega], rfl⟩
    by_cases k9 : h.k = 9
    · obtain ⟨hz, hq1, hq2⟩ := hnf.out (.inr (.inr (.inl k9)))
      rw [k9] at m0
      by_cases hu : h.s[0].toNat = 36
      · have he := Lib.hid (hq1.1 hu)
        clear hq1 hq2 hw1
        go_wp2_with fail
        go_meet
        case rel => exact ⟨by rw [he.out], rfl⟩
      · have he := Lib.hid (hq2.1 hu)
        clear hq1 hq2 hw1
        go_wp2_with fail
        go_meet
        case rel => exact ⟨by rw [he.out, show ((h.s[0].toNat : Int) != 36) = true by simp; omega], rfl⟩
    by_cases k10 : h.k = 10
    · obtain ⟨hz, hq1, hq2⟩ := hnf.out (.inr (.inr (.inr k10)))
      rw [k10] at m0
      by_cases hu : h.s[0].toNat = 36
      · have he := Lib.hid (hq1.1 hu)
        clear hq1 hq2 hw1
        go_wp2_with fail
        go_meet
        case rel => exact ⟨by rw [he.out], rfl⟩
      · have he := Lib.hid (hq2.1 hu)
        clear hq1 hq2 hw1
        go_wp2_with fail
        go_meet
        case rel => exact ⟨by rw [he.out, show ((h.s[0].toNat : Int) != 36) = true by simp; omega], rfl⟩
    have he := Lib.hid (hno.out k2 k8 k9 k10)
    clear hw1
    have d2 : ((h.k : Int) == 2) = false := by simp [k2]
    have d8 : ((h.k : Int) == 8) = false := by simp [k8]
    have d9 : ((h.k : Int) == 9) = false := by simp [k9]
    have d10 : ((h.k : Int) == 10) = false := by simp [k10]
    go_wp2_with fail
    go_meet
    case rel => exact ⟨by rw [he.out], rfl⟩
  case rest =>
    obtain ⟨rfl, hwq⟩ := hcut
    subst hwq
    clear hnf hno m0 m1 m2 m3 m4 m5 ml hw1
    have hns : nm1 h = if hasN h then [h.s.data.toList] else [] := rfl
    obtain ⟨hb, hhb⟩ : ∃ b, hasN h = b := ⟨_, rfl⟩
    rw [hhb] at hns ⊢
    clear hhb
    go_upto_if 31 with fail
    go_cut [0, 5, 6] from 8 (fun ov kv nv wz => ∃ O' oc', ov = .slice O' (insAll l (nm1 h)).length oc' ∧ SL wz O' oc' (insAll l (nm1 h)) ∧ Below w.heap.size w wz ∧ BX wz gb 32 h A n c ∧ XQ wz (· < w.heap.size) t A)
    case first =>
      cases hb with
      | false =>
        rw [if_neg (by decide)] at hns
        have hq : insAll l (nm1 h) = l := by rw [hns]; rfl
        replace hq := Lib.hid hq
        clear hns
        go_wp2_with fail
        go_meet
        case rel => exact ⟨O, oc, by rw [hq.out, hL.out], by rw [hq.out]; exact hO1.out, hb0.out, hM0.out, hX1.out⟩
      | true =>
        rw [if_pos rfl] at hns
        have hq : insAll l (nm1 h) = ins l h.s.data.toList := by rw [hns]; rfl
        have hia := ins_at l h.s.data.toList
        have hS0 : h.s.toList = h.s.data.toList := Go.Lib.toList_data _
        have hS1 := str_eta h.s
        obtain ⟨S, hS⟩ : ∃ S, h.s.data.toList = S := ⟨_, rfl⟩
        rw [hS] at hq hia hS0 hS1
        replace hS0 := Lib.hid hS0
        replace hS1 := Lib.hid hS1
        replace hq := Lib.hid hq
        replace hia := Lib.hid hia
        clear hns hS
        go_upto_block 0 with fail
        go_cut [5] from 8 (fun kv wz => ∃ (k : Nat), k ≤ L ∧ kv = .int .i64 (k : Int) ∧ (∀ j (hj : j < l.length), j < k → l[j] < S) ∧ (∀ hk : k < l.length, ¬ l[k] < S) ∧ Below w.heap.size w wz ∧ BX wz gb 32 h A n c ∧ XQ wz (· < w.heap.size) t A ∧ SL wz O oc l)
        case first =>
          go_wp2_with fail
          go_loopw [5] (fun kv wr => ∃ (k : Nat), k ≤ L ∧ kv = .int .i64 (k : Int) ∧ (∀ j (hj : j < l.length), j < k → l[j] < S) ∧ Below w.heap.size w wr ∧ BX wr gb 32 h A n c ∧ XQ wr (· < w.heap.size) t A ∧ SL wr O oc l) (fun kv _ => L - (RowKit.intOf kv).toNat)
          case atStart => exact ⟨0, Nat.zero_le _, rfl, fun j hj h0 => absurd h0 (by omega), hb0.out, hM0.out, hX1.out, hO1.out⟩
          case round =>
            obtain ⟨k, hk, rfl, hls, hbr, hMr, hXr, hOr⟩ := hrel
            obtain ⟨m0, m1, m2, m3, m4, m5⟩ := hMr.all
            have ml := hMr.lt
            by_cases hlt : k < L
            · have hkl : k < l.length := by rw [hL.out]; exact hlt
              obtain ⟨b, o, rfl, hbl, hc⟩ := hOr.s (by omega)
              have hck := hc k hkl
              obtain ⟨x, hx⟩ : ∃ x, l[k] = x := ⟨_, rfl⟩
              rw [hx] at hck
              obtain ⟨E, hEe⟩ : ∃ E : ByteArray, ⟨x.toArray⟩ = E := ⟨_, rfl⟩
              have hck' : wr.cell? ⟨b, o + k, none⟩ = some (.string E) := by rw [hck, ← hEe]
              have hEl : E.toList = x := by rw [← hEe, tab_list]
              have hbl2 : Op.bytesLess E.toList h.s.toList = decide (x < S) := by rw [Go.Proofs.bytesLess_eq, hEl, hS0.out]
              have hls2 : x < S → ∀ j (hj : j < l.length), j < k + 1 → l[j] < S := fun hxs j hj hjk => by
                rcases Nat.lt_or_ge j k with h1 | h1
                · exact hls j hj h1
                · obtain rfl : j = k := by omega
                  rw [hx]; exact hxs
              have hlx : ∀ hk : k < l.length, ¬ x < S → ¬ l[k] < S := fun _ h => by rw [hx]; exact h
              have d1 : decide ((k : Int) < (L : Int)) = true := by simp; omega
              have hw1 : IntKind.i64.wrap ((k : Int) + 1) = (k : Int) + 1 := IntWalk.i64_in _ (by have := hlen.out; have := hL.out; omega)
              clear hc hck hx hEe hEl
              replace hls := Lib.hid hls
              replace hls2 := Lib.hid hls2
              replace hlx := Lib.hid hlx
              replace hbr := Lib.hid hbr
              replace hMr := Lib.hid hMr
              replace hXr := Lib.hid hXr
              replace hOr := Lib.hid hOr
              by_cases hxs : x < S
              · rw [show decide (x < S) = true by simpa using hxs] at hbl2
                go_wp2_with fail
                go_quiet (fail)
                go_wp2_with fail
                go_roundw
                case rel => exact ⟨k + 1, by omega, by go_num, hls2.out hxs, below_call (bdn wr nq) hbr.out, hMr.out.ov (bdn wr nq), hXr.out.same rfl, hOr.out.over (bdn wr nq)⟩
                case measure => (simp [RowKit.intOf]; omega)
              · rw [show decide (x < S) = false by simpa using hxs] at hbl2
                go_wp2_with fail
                go_quiet (fail)
                go_wp2_with fail
                go_meet
                case rel => exact ⟨k, hk, rfl, hls.out, fun hh => hlx.out hh hxs, below_call (bdn wr nq) hbr.out, hMr.out.ov (bdn wr nq), hXr.out.same rfl, hOr.out.over (bdn wr nq)⟩
            · obtain rfl : k = L := by omega
              have d1 : decide ((k : Int) < (k : Int)) = false := by simp
              replace hls := Lib.hid hls
              replace hbr := Lib.hid hbr
              replace hMr := Lib.hid hMr
              replace hXr := Lib.hid hXr
              replace hOr := Lib.hid hOr
              go_wp2_with fail
              go_quiet (fail)
              go_wp2_with fail
              go_meet
              case rel => exact ⟨k, Nat.le_refl _, rfl, hls.out, fun hh => absurd hh (by have := hL.out; omega), below_call (bdn wr nq) hbr.out, hMr.out.ov (bdn wr nq), hXr.out.same rfl, hOr.out.over (bdn wr nq)⟩
        case rest =>
          obtain ⟨k, hk, rfl, hls, hnl, hbr, hMr, hXr, hOr⟩ := hcut
          clear hb0 hM0 hX1 hO1
          have hkl : k ≤ l.length := by rw [hL.out]; exact hk
          have hins := hia.out k hkl hls hnl
          clear hia hls hnl
          obtain ⟨m0, m1, m2, m3, m4, m5⟩ := hMr.all
          have ml := hMr.lt
          rename World => wk
          go_upto_region 5 with fail
          obtain ⟨bq, hbq⟩ : ∃ bq : Bool, decide (∃ hk : k < l.length, l[k] = S) = !bq := ⟨!(decide (∃ hk : k < l.length, l[k] = S)), by simp⟩
          replace hins := Lib.hid hins
          replace hbq := Lib.hid hbq
          replace hbr := Lib.hid hbr
          replace hMr := Lib.hid hMr
          replace hXr := Lib.hid hXr
          replace hOr := Lib.hid hOr
          go_cut [59] from 8 (fun cv wz => cv = .bool bq ∧ ∃ q, wz = wk.drewN q)
          case first =>
            by_cases hlt : k < L
            · have hkl2 : k < l.length := by rw [hL.out]; exact hlt
              obtain ⟨b, o, rfl, hbl, hc⟩ := hOr.out.s (by omega)
              have hck := hc k hkl2
              have hbq2 := hbq.out
              obtain ⟨x, hx⟩ : ∃ x, l[k] = x := ⟨_, rfl⟩
              rw [hx] at hck
              have hbq3 : decide (x = S) = !bq := by
                rw [← hbq2]
                exact decide_eq_decide.2 ⟨fun e => ⟨hkl2, hx.trans e⟩, fun ⟨_, e⟩ => hx.symm.trans e⟩
              obtain ⟨E, hEe⟩ : ∃ E : ByteArray, ⟨x.toArray⟩ = E := ⟨_, rfl⟩
              have hck' : wk.cell? ⟨b, o + k, none⟩ = some (.string E) := by rw [hck, ← hEe]
              have hEl : E.toList = x := by rw [← hEe, tab_list]
              have hne : ((k : Int) == (L : Int)) = false := by simp; omega
              clear hc hck hx hEe hbq2
              by_cases hxs : x = S
              · have hbt : bq = false := by
                  have : decide (x = S) = true := by simpa using hxs
                  rw [this] at hbq3
                  cases bq with
                  | false => rfl
                  | true => cases hbq3
                have hee : E.toList = h.s.toList := by rw [hEl, hS0.out, hxs]
                replace hbt := Lib.hid hbt
                clear hEl hbq3 hxs
                go_wp2_with fail
                go_quiet (fail)
                go_wp2_with fail
                go_meet
                case rel => exact ⟨by rw [hbt.out], _, rfl⟩
              · have hbt : bq = true := by
                  have : decide (x = S) = false := by simpa using hxs
                  rw [this] at hbq3
                  cases bq with
                  | false => cases hbq3
                  | true => rfl
                have hee : ¬ E.toList = h.s.toList := by rw [hEl, hS0.out]; exact hxs
                have hee2 : (E.toList == h.s.toList) = false := by simpa using hee
                replace hbt := Lib.hid hbt
                clear hEl hbq3 hxs
                go_wp2_with fail
                go_quiet (fail)
                go_wp2_with fail
                go_meet
                case rel => exact ⟨by rw [hbt.out], _, rfl⟩
            · obtain rfl : k = L := by omega
              have hbt : bq = true := by
                have h0 := hbq.out
                have : decide (∃ hk : k < l.length, l[k] = S) = false := by
                  simp only [decide_eq_false_iff_not]
                  rintro ⟨h1, _⟩
                  have := hL.out
                  omega
                rw [this] at h0
                cases bq with
                | false => cases h0
                | true => rfl
              have hne : ((k : Int) == (k : Int)) = true := by simp
              replace hbt := Lib.hid hbt
              go_wp2_with fail
              go_quiet (fail)
              go_wp2_with fail
              go_meet
              case rel => exact ⟨by rw [hbt.out], _, rfl⟩
          case rest =>
            obtain ⟨rfl, qn, hwq⟩ := hcut
            have hbr2 := below_call (bdn wk qn) hbr.out
            have hMr2 := hMr.out.ov (bdn wk qn)
            have hOr2 := hOr.out.over (bdn wk qn)
            have hXr2 : XQ (wk.drewN qn) (· < w.heap.size) t A := hXr.out.same rfl
            subst hwq
            obtain ⟨wm, hwm⟩ : ∃ W, wk.drewN qn = W := ⟨_, rfl⟩
            rw [hwm] at hbr2 hMr2 hOr2 hXr2 ⊢
            clear hwm hbr hMr hXr hOr m0 m1 m2 m3 m4 m5 ml
            obtain ⟨m0, m1, m2, m3, m4, m5⟩ := hMr2.all
            have ml := hMr2.lt
            cases bq with
            | false =>
              have hi : ins l S = l := by
                rw [hins.out, dif_pos]
                exact of_decide_eq_true hbq.out
              replace hi := Lib.hid hi
              replace hbr2 := Lib.hid hbr2
              replace hMr2 := Lib.hid hMr2
              replace hXr2 := Lib.hid hXr2
              replace hOr2 := Lib.hid hOr2
              go_wp2_with fail
              go_meet
              case rel => exact ⟨O, oc, by rw [hq.out, hi.out, hL.out], by rw [hq.out, hi.out]; exact hOr2.out, hbr2.out, hMr2.out, hXr2.out⟩
            | true =>
              have hi : ins l S = l.take k ++ S :: l.drop k := by
                rw [hins.out, dif_neg]
                exact of_decide_eq_false hbq.out
              replace hi := Lib.hid hi
              have hba := (Below.refl wm.heap.size wm).alloc (Nat.le_refl _) (.cells #[] 9)
              have hem := own_empty wm 9
              have hOa := hOr2.over hba
              have hMa := hMr2.ov hba
              have hbra := below_call hba hbr2
              have hXa : XQ (wm.alloc (.cells #[] 9)) (· < w.heap.size) t A := hXr2.over (fun b hb => hba.block b (Nat.lt_of_lt_of_le hb hbr2.size)) (fun b hb => hb)
              have hza : (wm.alloc (.cells #[] 9)).heap.size = wm.heap.size + 1 := by simp
              obtain ⟨g2, hg2⟩ : ∃ g, wm.heap.size = g := ⟨_, rfl⟩
              have hgw : w.heap.size ≤ g2 := hg2 ▸ hbr2.size
              have hgbg : gb < g2 := hg2 ▸ ml
              rw [hg2] at hem hza
              have hlk : (l.take k).length = k := by rw [List.length_take]; omega
              have hLen := hlen.out
              have hLeq := hL.out
              have hoc := hOr2.c
              have hocm := hOr2.m
              unfold maxLen at hocm
              have s1 : k ≤ L := hk
              have s2 : L ≤ oc := by omega
              have e1 : decide ((k : Int) < 0) = false := by simp
              have e2 : decide ((oc : Int) < (k : Int)) = false := by simp; omega
              have e3 : decide ((L : Int) < (k : Int)) = false := by simp; omega
              have e4 : (L : Int) - (k : Int) = ((L - k : Nat) : Int) := by omega
              have e5 : (oc : Int) - (k : Int) = ((oc - k : Nat) : Int) := by omega
              have hpp := hOr2.p
              have hOl0 : ∀ b o, O = some ⟨b, o, none⟩ → 0 < l.length → b < g2 := fun b o e h0 => by
                obtain ⟨b', o', e', hb', _⟩ := hOr2.s h0
                rw [e] at e'
                cases e'
                omega
              have hzz := hOr2.z
              have hnl : O = none → L = 0 := fun e => by have := hzz e; omega
              replace hi := Lib.hid hi
              replace hem := Lib.hid hem
              replace hOa := Lib.hid hOa
              replace hMa := Lib.hid hMa
              replace hbra := Lib.hid hbra
              replace hXa := Lib.hid hXa
              replace hza := Lib.hid hza
              replace hlk := Lib.hid hlk
              replace hpp := Lib.hid hpp
              replace hzz := Lib.hid hzz
              replace hnl := Lib.hid hnl
              clear hbr2 hMr2 hXr2 hOr2 hba hins hbq m0 m1 m2 m3 m4 m5 ml hoc hocm hLeq hLen
              have hOlow : Hid (∀ b o, O = some ⟨b, o, none⟩ → 0 < l.length → b < g2) := Lib.hid hOl0
              go_upto_region 6 with fail
              go_cut [6] from 8 (fun nv wz => wz.ownsRow g2 9 1 nv k ((l.take k).map encStr) ∧ Below w.heap.size w wz ∧ BX wz gb 32 h A n c ∧ XQ wz (· < w.heap.size) t A ∧ SL wz O oc l ∧ g2 ≤ wz.heap.size)
              case first =>
                cases O with
                | none =>
                  have hL0 := hnl.out rfl
                  have hc0 := hzz.out rfl
                  obtain rfl : k = 0 := by omega
                  subst hL0 hc0
                  go_wp2_with (at_builtin; refine wpList_append_SN rfl _ _ rfl g2 (.slice (some ⟨g2, 0, none⟩) 0 0) 0 [] rfl hem.out none 0 0 (l.take 0) ?a0 ?a1 ?a2 ?a3 ?a4 ?a5 ?a6)
                  case a3 => exact hOa.out.s.take 0
                  case a6 =>
                    intro v6 w6 ho6 hg6 hat6
                    replace ho6 : w6.ownsRow g2 9 1 v6 0 ((l.take 0).map encStr) := ho6
                    have hF := grown_facts (g := g2) hg6 (fun g e => by cases e; exact Nat.le_refl _) (by rw [hza.out]; omega)
                    have hbr6 : Below w.heap.size w w6 := hbra.out.trans (hF.mono hgw)
                    have hM6 : BX w6 gb 32 h A n c := (hF.block gb hgbg).trans hMa.out
                    have hX6 : XQ w6 (· < w.heap.size) t A := hXa.out.over (fun b hb => hF.block b (by omega)) (fun b hb => hb)
                    have hO6 : SL w6 none 0 l := hOa.out.low hF hOlow.out
                    replace ho6 := Lib.hid ho6
                    replace hbr6 := Lib.hid hbr6
                    replace hM6 := Lib.hid hM6
                    replace hX6 := Lib.hid hX6
                    replace hO6 := Lib.hid hO6
                    have hz6 := Lib.hid (Nat.le_trans (by rw [hza.out]; omega) hF.size : g2 ≤ w6.heap.size)
                    clear hem hOa hMa hbra hXa hza hF hg6 hat6
                    go_wp2_with fail
                    go_meet
                    case rel => exact ⟨ho6.out, hbr6.out, hM6.out, hX6.out, hO6.out, hz6.out⟩
                | some ad =>
                  obtain ⟨b, o, rfl⟩ := hpp.out ad rfl
                  go_wp2_with (at_builtin; refine wpList_append_SN rfl _ _ rfl g2 (.slice (some ⟨g2, 0, none⟩) 0 0) 0 [] rfl hem.out (some ⟨b, o, none⟩) k oc (l.take k) ?b0 ?b1 ?b2 ?b3 ?b4 ?b5 ?b6)
                  case b0 => exact hlk.out
                  case b1 => rfl
                  case b2 => exact hzz.out
                  case b3 => exact hOa.out.s.take k
                  case b4 => have := hlen.out; have := hL.out; omega
                  case b5 => rw [hza.out]; omega
                  case b6 =>
                    intro v6 w6 ho6 hg6 hat6
                    rw [← List.map_take] at ho6
                    have hF := grown_facts (g := g2) hg6 (fun g e => by cases e; exact Nat.le_refl _) (by rw [hza.out]; omega)
                    have hbr6 : Below w.heap.size w w6 := hbra.out.trans (hF.mono hgw)
                    have hM6 : BX w6 gb 32 h A n c := (hF.block gb hgbg).trans hMa.out
                    have hX6 : XQ w6 (· < w.heap.size) t A := hXa.out.over (fun b hb => hF.block b (by omega)) (fun b hb => hb)
                    have hO6 : SL w6 (some ⟨b, o, none⟩) oc l := hOa.out.low hF hOlow.out
                    replace ho6 := Lib.hid ho6
                    replace hbr6 := Lib.hid hbr6
                    replace hM6 := Lib.hid hM6
                    replace hX6 := Lib.hid hX6
                    replace hO6 := Lib.hid hO6
                    have hz6 := Lib.hid (Nat.le_trans (by rw [hza.out]; omega) hF.size : g2 ≤ w6.heap.size)
                    clear hem hOa hMa hbra hXa hza hF hg6 hat6
                    go_wp2_with fail
                    go_meet
                    case rel => exact ⟨ho6.out, hbr6.out, hM6.out, hX6.out, hO6.out, hz6.out⟩
              case rest =>
                obtain ⟨ho6, hbr6, hM6, hX6, hO6, hz6⟩ := hcut
                clear hem hOa hMa hbra hXa hza
                rename World => wm
                obtain ⟨A6, c6, rfl⟩ := own_shape ho6
                go_upto_region 7 with fail
                obtain ⟨wx, hwx⟩ : ∃ W, wm.drew = W := ⟨_, rfl⟩
                have hbd : Below wm.heap.size wm wm.drew := (Below.refl _ _).drew
                have hB0 := below_call hbd hbr6
                have hM0 := hM6.ov hbd
                have hX0 : XQ wm.drew (· < w.heap.size) t A := hX6.same rfl
                have hO0 := hO6.over hbd
                have hW0 : wm.drew.ownsRow g2 9 1 (.slice A6 k c6) k ((l.take k).map encStr) := own_keepT ho6 fun b hb => rfl
                have hz0 : g2 ≤ wm.drew.heap.size := hz6
                rw [hwx] at hB0 hM0 hX0 hO0 hW0 hz0
                clear hbd hbr6 hM6 hX6 hO6 ho6 hz6
                have hC0 := Lib.hid hM0
                -- the text's row
                have hba := (Below.refl wx.heap.size wx).alloc (Nat.le_refl _) (.cells #[.string h.s] 9)
                have hRw := heap_alloc_new wx (.cells #[.string h.s] 9)
                obtain ⟨g3, hg3⟩ : ∃ g, wx.heap.size = g := ⟨_, rfl⟩
                have hzy : (wx.alloc (.cells #[.string h.s] 9)).heap.size = g3 + 1 := by simp [hg3]
                rw [hg3] at hRw
                have hB1 := below_call hba hB0
                have hM1 := hM0.ov hba
                have hX1 : XQ (wx.alloc (.cells #[.string h.s] 9)) (· < w.heap.size) t A := hX0.over (fun b hb => hba.block b (by omega)) (fun b hb => hb)
                have hO1 := hO0.over hba
                have hW1 := hW0.alloc (.cells #[.string h.s] 9)
                have hT1 : SN (wx.alloc (.cells #[.string h.s] 9)) (some ⟨g3, 0, none⟩) [S] := fun _ => ⟨g3, 0, rfl, by rw [hzy]; omega, fun i hi => by
                  have : i = 0 := by simp at hi; omega
                  subst this
                  rw [Lib.cell_of_heap hRw]
                  show some (Value.string h.s) = some (.string ⟨S.toArray⟩)
                  rw [← hS1.out]⟩
                obtain ⟨wy, hwy⟩ : ∃ W, wx.alloc (.cells #[.string h.s] 9) = W := ⟨_, rfl⟩
                rw [hwy] at hzy hB1 hM1 hX1 hO1 hW1 hT1
                clear hba hRw hB0 hM0 hX0 hO0 hW0
                replace hB1 := Lib.hid hB1
                replace hM1 := Lib.hid hM1
                replace hX1 := Lib.hid hX1
                replace hO1 := Lib.hid hO1
                replace hW1 := Lib.hid hW1
                replace hT1 := Lib.hid hT1
                have hz1 : g2 ≤ wy.heap.size := by rw [hzy]; omega
                have hk1 : k + 1 ≤ 1000000000 := by have := hlen.out; have := hL.out; omega
                have hkL : k + 1 + (L - k) ≤ 1000000000 := by have := hlen.out; have := hL.out; omega
                have hldk : (l.drop k).length = L - k := by rw [List.length_drop, hL.out]
                replace hldk := Lib.hid hldk
                cases O with
                | none =>
                  have hL0 := hnl.out rfl
                  have hc0 := hzz.out rfl
                  obtain rfl : k = 0 := by omega
                  subst hL0 hc0
                  refine region_anyT (n := 9) (S := fun w' => BX w' gb 32 h A n c) (by kernel_rfl) ?_
                  rw [hwx]
                  refine anyT_take (i := 0) (v := .slice A6 0 c6) rfl (by kernel_rfl) (by kernel_rfl) (fun _ _ _ h => h) (Or.inl ⟨by rfl, ?_⟩) hC0.out ?_
                  · intro w' hw'
                    obtain ⟨q0, q1, q2, q3, q4, q5⟩ := hw'.all
                    have ql := hw'.lt
                    clear hw'
                    go_simp
                    try with_reducible rfl
                  try simp only [Act.put, List.getElem_toArray, List.getElem_cons_zero, List.setIfInBounds_toArray, List.set_cons_zero, List.set_cons_succ]
                  refine anyT_take (i := 1) (v := .pointer (some ⟨gb, 4, none⟩)) rfl (by kernel_rfl) (by kernel_rfl) (fun _ _ _ h => h) (Or.inl ⟨by rfl, ?_⟩) hC0.out ?_
                  · intro w' hw'
                    obtain ⟨q0, q1, q2, q3, q4, q5⟩ := hw'.all
                    have ql := hw'.lt
                    clear hw'
                    go_simp
                    try with_reducible rfl
                  try simp only [Act.put, List.getElem_toArray, List.getElem_cons_zero, List.getElem_cons_succ, List.setIfInBounds_toArray, List.set_cons_zero, List.set_cons_succ]
                  refine anyT_take (i := 2) (v := .string h.s) rfl (by kernel_rfl) (by kernel_rfl) (fun _ _ _ h => h) (Or.inl ⟨by rfl, ?_⟩) hC0.out ?_
                  · intro w' hw'
                    obtain ⟨q0, q1, q2, q3, q4, q5⟩ := hw'.all
                    have ql := hw'.lt
                    clear hw'
                    go_simp
                    try with_reducible rfl
                  try simp only [Act.put, List.getElem_toArray, List.getElem_cons_zero, List.getElem_cons_succ, List.setIfInBounds_toArray, List.set_cons_zero, List.set_cons_succ]
                  refine anyT_take (i := 5) (v := .slice none 0 0) rfl (by kernel_rfl) (by kernel_rfl) (fun _ _ _ h => h) (Or.inl ⟨by rfl, ?_⟩) hC0.out ?_
                  · intro w' hw'
                    obtain ⟨q0, q1, q2, q3, q4, q5⟩ := hw'.all
                    have ql := hw'.lt
                    clear hw'
                    go_simp
                    try with_reducible rfl
                  try simp only [Act.put, List.getElem_toArray, List.getElem_cons_zero, List.getElem_cons_succ, List.setIfInBounds_toArray, List.set_cons_zero, List.set_cons_succ]
                  refine anyT_take (i := 6) (v := .int .i64 ((0 : Nat) : Int)) rfl (by kernel_rfl) (by kernel_rfl) (fun _ _ _ h => h) (Or.inl ⟨by rfl, ?_⟩) hC0.out ?_
                  · intro w' hw'
                    obtain ⟨q0, q1, q2, q3, q4, q5⟩ := hw'.all
                    have ql := hw'.lt
                    clear hw'
                    go_simp
                    try with_reducible rfl
                  try simp only [Act.put, List.getElem_toArray, List.getElem_cons_zero, List.getElem_cons_succ, List.setIfInBounds_toArray, List.set_cons_zero, List.set_cons_succ]
                  refine anyT_take (i := 7) (v := .slice none 0 0) rfl (by kernel_rfl) (by kernel_rfl) (fun _ _ _ h => h) (Or.inl ⟨by rfl, ?_⟩) hC0.out ?_
                  · intro w' hw'
                    obtain ⟨q0, q1, q2, q3, q4, q5⟩ := hw'.all
                    have ql := hw'.lt
                    clear hw'
                    go_simp
                    try with_reducible rfl
                  try simp only [Act.put, List.getElem_toArray, List.getElem_cons_zero, List.getElem_cons_succ, List.setIfInBounds_toArray, List.set_cons_zero, List.set_cons_succ]
                  refine anyT_one (i := 3) (by kernel_rfl) ?_
                  refine wpOp_step rfl (fun K hK => ?_)
                  replace hK := Lib.hid hK
                  go_simp
                  refine hK.out _ _ ⟨fun _ => hM1.out, ?_⟩
                  clear hK K hC0
                  try simp only [Act.put, List.getElem_toArray, List.getElem_cons_zero, List.getElem_cons_succ, List.setIfInBounds_toArray, List.set_cons_zero, List.set_cons_succ]
                  refine anyT_one (i := 4) (by kernel_rfl) ?_
                  refine wpOp_step rfl (fun K hK => ?_)
                  replace hK := Lib.hid hK
                  refine step_append_SN rfl (.tmp 65) (.tmp 68) rfl g2 (.slice A6 0 c6) 0 ((l.take 0).map encStr) (by simp [Act.eval]) hW1.out (some ⟨g3, 0, none⟩) 1 1 [S] rfl (by simp [Act.eval]) (fun e => by cases e) hT1.out hk1 hz1 ?_
                  intro v7 w7 ho7 hg7 hat7
                  have hF := grown_facts (g := g2) hg7 (fun g e => (own_ltT hW1.out g e).1) hz1
                  have hB7 : Below w.heap.size w w7 := hB1.out.trans (hF.mono hgw)
                  have hM7 : BX w7 gb 32 h A n c := (hF.block gb hgbg).trans hM1.out
                  have hX7 : XQ w7 (· < w.heap.size) t A := hX1.out.over (fun b hb => hF.block b (by omega)) (fun b hb => hb)
                  have hO7 := hO1.out.low hF hOlow.out
                  have hz7 : g2 ≤ w7.heap.size := Nat.le_trans hz1 hF.size
                  obtain ⟨A7, c7, rfl⟩ := own_shape ho7
                  refine hK.out _ _ ⟨fun _ => hM7, ?_⟩
                  clear hK K hF hg7 hat7 hB1 hM1 hX1 hO1 hW1 hT1
                  replace hB7 := Lib.hid hB7
                  replace hM7 := Lib.hid hM7
                  replace hX7 := Lib.hid hX7
                  replace ho7 := Lib.hid ho7
                  have hsn : SN w7 none (l.drop 0) := hO7.s
                  clear hO7
                  try simp only [Act.put, List.getElem_toArray, List.getElem_cons_zero, List.getElem_cons_succ, List.setIfInBounds_toArray, List.set_cons_zero, List.set_cons_succ]
                  refine anyT_one (i := 8) (by kernel_rfl) ?_
                  refine wpOp_step rfl (fun K hK => ?_)
                  replace hK := Lib.hid hK
                  refine step_append_SN rfl (.tmp 69) (.tmp 72) rfl g2 (.slice A7 (0 + 1) c7) (0 + 1) ((l.take 0).map encStr ++ [S].map encStr) (by simp [Act.eval]) ho7.out none (0 - 0) 0 (l.drop 0) hldk.out (by simp [Act.eval]) (fun _ => rfl) hsn hkL hz7 ?_
                  intro v8 w8 ho8 hg8 hat8
                  have hF := grown_facts (g := g2) hg8 (fun g e => (own_ltT ho7.out g e).1) hz7
                  have hB8 : Below w.heap.size w w8 := hB7.out.trans (hF.mono hgw)
                  have hM8 : BX w8 gb 32 h A n c := (hF.block gb hgbg).trans hM7.out
                  have hX8 : XQ w8 (· < w.heap.size) t A := hX7.out.over (fun b hb => hF.block b (by omega)) (fun b hb => hb)
                  obtain ⟨A8, c8, rfl⟩ := own_shape ho8
                  have hlq : (l.take 0 ++ S :: l.drop 0).length = 0 + 1 + (0 - 0) := by
                    have h1 := hlk.out; have h2 := hldk.out; simp only [List.length_append, List.length_cons]; omega
                  have ho9 : w8.ownsRow g2 9 1 (.slice A8 (0 + 1 + (0 - 0)) c8) (l.take 0 ++ S :: l.drop 0).length ((l.take 0 ++ S :: l.drop 0).map encStr) := by
                    rw [hlq]
                    have e : (l.take 0 ++ S :: l.drop 0).map encStr = (l.take 0).map encStr ++ [S].map encStr ++ (l.drop 0).map encStr := by simp
                    rw [e]; exact ho8
                  have hSL := (own_SL ho9).1
                  refine hK.out _ _ ⟨fun _ => hM8, ?_⟩
                  clear hK K hF hg8 hat8 hB7 hX7 ho7 hsn ho8 ho9
                  replace hB8 := Lib.hid hB8
                  replace hM8 := Lib.hid hM8
                  replace hX8 := Lib.hid hX8
                  replace hSL := Lib.hid hSL
                  replace hlq := Lib.hid hlq
                  try simp only [Act.put, List.getElem_toArray, List.getElem_cons_zero, List.getElem_cons_succ, List.setIfInBounds_toArray, List.set_cons_zero, List.set_cons_succ]
                  refine anyT_one (i := 9) (by kernel_rfl) ?_
                  refine wpOp_step rfl (fun K hK => ?_)
                  replace hK := Lib.hid hK
                  go_simp
                  refine hK.out _ _ ⟨fun h => absurd h (by decide), ?_⟩
                  clear hK K
                  try simp only [Act.put, List.getElem_toArray, List.getElem_cons_zero, List.getElem_cons_succ, List.setIfInBounds_toArray, List.set_cons_zero, List.set_cons_succ]
                  refine anyT_done (by kernel_rfl) ?_ _
                  go_wp2_with fail
                  go_meet
                  case rel => exact ⟨A8, c8, (by rw [hq.out, hi.out, hlq.out]; try simp), by rw [hq.out, hi.out]; exact hSL.out, hB8.out, hM8.out, hX8.out⟩
                | some ad =>
                  obtain ⟨b, o, rfl⟩ := hpp.out ad rfl
                  by_cases hock : oc = k
                  ·
                    obtain rfl : oc = L := by omega
                    subst hock
                    refine region_anyT (n := 9) (S := fun w' => BX w' gb 32 h A n c) (by kernel_rfl) ?_
                    rw [hwx]
                    refine anyT_take (i := 0) (v := .slice A6 oc c6) rfl (by kernel_rfl) (by kernel_rfl) (fun _ _ _ h => h) (Or.inl ⟨by rfl, ?_⟩) hC0.out ?_
                    · intro w' hw'
                      obtain ⟨q0, q1, q2, q3, q4, q5⟩ := hw'.all
                      have ql := hw'.lt
                      clear hw'
                      go_simp
                      try with_reducible rfl
                    try simp only [Act.put, List.getElem_toArray, List.getElem_cons_zero, List.setIfInBounds_toArray, List.set_cons_zero, List.set_cons_succ]
                    refine anyT_take (i := 1) (v := .pointer (some ⟨gb, 4, none⟩)) rfl (by kernel_rfl) (by kernel_rfl) (fun _ _ _ h => h) (Or.inl ⟨by rfl, ?_⟩) hC0.out ?_
                    · intro w' hw'
                      obtain ⟨q0, q1, q2, q3, q4, q5⟩ := hw'.all
                      have ql := hw'.lt
                      clear hw'
                      go_simp
                      try with_reducible rfl
                    try simp only [Act.put, List.getElem_toArray, List.getElem_cons_zero, List.getElem_cons_succ, List.setIfInBounds_toArray, List.set_cons_zero, List.set_cons_succ]
                    refine anyT_take (i := 2) (v := .string h.s) rfl (by kernel_rfl) (by kernel_rfl) (fun _ _ _ h => h) (Or.inl ⟨by rfl, ?_⟩) hC0.out ?_
                    · intro w' hw'
                      obtain ⟨q0, q1, q2, q3, q4, q5⟩ := hw'.all
                      have ql := hw'.lt
                      clear hw'
                      go_simp
                      try with_reducible rfl
                    try simp only [Act.put, List.getElem_toArray, List.getElem_cons_zero, List.getElem_cons_succ, List.setIfInBounds_toArray, List.set_cons_zero, List.set_cons_succ]
                    refine anyT_take (i := 5) (v := .slice (some ⟨b, o, none⟩) oc oc) rfl (by kernel_rfl) (by kernel_rfl) (fun _ _ _ h => h) (Or.inl ⟨by rfl, ?_⟩) hC0.out ?_
                    · intro w' hw'
                      obtain ⟨q0, q1, q2, q3, q4, q5⟩ := hw'.all
                      have ql := hw'.lt
                      clear hw'
                      go_simp
                      try with_reducible rfl
                    try simp only [Act.put, List.getElem_toArray, List.getElem_cons_zero, List.getElem_cons_succ, List.setIfInBounds_toArray, List.set_cons_zero, List.set_cons_succ]
                    refine anyT_take (i := 6) (v := .int .i64 (oc : Int)) rfl (by kernel_rfl) (by kernel_rfl) (fun _ _ _ h => h) (Or.inl ⟨by rfl, ?_⟩) hC0.out ?_
                    · intro w' hw'
                      obtain ⟨q0, q1, q2, q3, q4, q5⟩ := hw'.all
                      have ql := hw'.lt
                      clear hw'
                      go_simp
                      try with_reducible rfl
                    try simp only [Act.put, List.getElem_toArray, List.getElem_cons_zero, List.getElem_cons_succ, List.setIfInBounds_toArray, List.set_cons_zero, List.set_cons_succ]
                    refine anyT_take (i := 7) (v := .slice (some ⟨b, o, none⟩) (oc - oc) 0) rfl (by kernel_rfl) (by kernel_rfl) (fun _ _ _ h => h) (Or.inl ⟨by rfl, ?_⟩) hC0.out ?_
                    · intro w' hw'
                      obtain ⟨q0, q1, q2, q3, q4, q5⟩ := hw'.all
                      have ql := hw'.lt
                      clear hw'
                      go_simp
                      try with_reducible rfl
                    try simp only [Act.put, List.getElem_toArray, List.getElem_cons_zero, List.getElem_cons_succ, List.setIfInBounds_toArray, List.set_cons_zero, List.set_cons_succ]
                    refine anyT_one (i := 3) (by kernel_rfl) ?_
                    refine wpOp_step rfl (fun K hK => ?_)
                    replace hK := Lib.hid hK
                    go_simp
                    refine hK.out _ _ ⟨fun _ => hM1.out, ?_⟩
                    clear hK K hC0
                    try simp only [Act.put, List.getElem_toArray, List.getElem_cons_zero, List.getElem_cons_succ, List.setIfInBounds_toArray, List.set_cons_zero, List.set_cons_succ]
                    refine anyT_one (i := 4) (by kernel_rfl) ?_
                    refine wpOp_step rfl (fun K hK => ?_)
                    replace hK := Lib.hid hK
                    refine step_append_SN rfl (.tmp 65) (.tmp 68) rfl g2 (.slice A6 oc c6) oc ((l.take oc).map encStr) (by simp [Act.eval]) hW1.out (some ⟨g3, 0, none⟩) 1 1 [S] rfl (by simp [Act.eval]) (fun e => by cases e) hT1.out hk1 hz1 ?_
                    intro v7 w7 ho7 hg7 hat7
                    have hF := grown_facts (g := g2) hg7 (fun g e => (own_ltT hW1.out g e).1) hz1
                    have hB7 : Below w.heap.size w w7 := hB1.out.trans (hF.mono hgw)
                    have hM7 : BX w7 gb 32 h A n c := (hF.block gb hgbg).trans hM1.out
                    have hX7 : XQ w7 (· < w.heap.size) t A := hX1.out.over (fun b hb => hF.block b (by omega)) (fun b hb => hb)
                    have hO7 := hO1.out.low hF hOlow.out
                    have hz7 : g2 ≤ w7.heap.size := Nat.le_trans hz1 hF.size
                    obtain ⟨A7, c7, rfl⟩ := own_shape ho7
                    refine hK.out _ _ ⟨fun _ => hM7, ?_⟩
                    clear hK K hF hg7 hat7 hB1 hM1 hX1 hO1 hW1 hT1
                    replace hB7 := Lib.hid hB7
                    replace hM7 := Lib.hid hM7
                    replace hX7 := Lib.hid hX7
                    replace ho7 := Lib.hid ho7
                    have hsn : SN w7 (some ⟨b, o, none⟩) (l.drop oc) := SN_none (by rw [hldk.out]; omega)
                    clear hO7
                    try simp only [Act.put, List.getElem_toArray, List.getElem_cons_zero, List.getElem_cons_succ, List.setIfInBounds_toArray, List.set_cons_zero, List.set_cons_succ]
                    refine anyT_one (i := 8) (by kernel_rfl) ?_
                    refine wpOp_step rfl (fun K hK => ?_)
                    replace hK := Lib.hid hK
                    refine step_append_SN rfl (.tmp 69) (.tmp 72) rfl g2 (.slice A7 (oc + 1) c7) (oc + 1) ((l.take oc).map encStr ++ [S].map encStr) (by simp [Act.eval]) ho7.out (some ⟨b, o, none⟩) (oc - oc) 0 (l.drop oc) hldk.out (by simp [Act.eval]) (fun e => by cases e) hsn hkL hz7 ?_
                    intro v8 w8 ho8 hg8 hat8
                    have hF := grown_facts (g := g2) hg8 (fun g e => (own_ltT ho7.out g e).1) hz7
                    have hB8 : Below w.heap.size w w8 := hB7.out.trans (hF.mono hgw)
                    have hM8 : BX w8 gb 32 h A n c := (hF.block gb hgbg).trans hM7.out
                    have hX8 : XQ w8 (· < w.heap.size) t A := hX7.out.over (fun b hb => hF.block b (by omega)) (fun b hb => hb)
                    obtain ⟨A8, c8, rfl⟩ := own_shape ho8
                    have hlq : (l.take oc ++ S :: l.drop oc).length = oc + 1 + (oc - oc) := by
                      have h1 := hlk.out; have h2 := hldk.out; simp only [List.length_append, List.length_cons]; omega
                    have ho9 : w8.ownsRow g2 9 1 (.slice A8 (oc + 1 + (oc - oc)) c8) (l.take oc ++ S :: l.drop oc).length ((l.take oc ++ S :: l.drop oc).map encStr) := by
                      rw [hlq]
                      have e : (l.take oc ++ S :: l.drop oc).map encStr = (l.take oc).map encStr ++ [S].map encStr ++ (l.drop oc).map encStr := by simp
                      rw [e]; exact ho8
                    have hSL := (own_SL ho9).1
                    refine hK.out _ _ ⟨fun _ => hM8, ?_⟩
                    clear hK K hF hg8 hat8 hB7 hX7 ho7 hsn ho8 ho9
                    replace hB8 := Lib.hid hB8
                    replace hM8 := Lib.hid hM8
                    replace hX8 := Lib.hid hX8
                    replace hSL := Lib.hid hSL
                    replace hlq := Lib.hid hlq
                    try simp only [Act.put, List.getElem_toArray, List.getElem_cons_zero, List.getElem_cons_succ, List.setIfInBounds_toArray, List.set_cons_zero, List.set_cons_succ]
                    refine anyT_one (i := 9) (by kernel_rfl) ?_
                    refine wpOp_step rfl (fun K hK => ?_)
                    replace hK := Lib.hid hK
                    go_simp
                    refine hK.out _ _ ⟨fun h => absurd h (by decide), ?_⟩
                    clear hK K
                    try simp only [Act.put, List.getElem_toArray, List.getElem_cons_zero, List.getElem_cons_succ, List.setIfInBounds_toArray, List.set_cons_zero, List.set_cons_succ]
                    refine anyT_done (by kernel_rfl) ?_ _
                    go_wp2_with fail
                    go_meet
                    case rel => exact ⟨A8, c8, (by rw [hq.out, hi.out, hlq.out]; try simp), by rw [hq.out, hi.out]; exact hSL.out, hB8.out, hM8.out, hX8.out⟩
                  ·
                    skip
                    refine region_anyT (n := 9) (S := fun w' => BX w' gb 32 h A n c) (by kernel_rfl) ?_
                    rw [hwx]
                    refine anyT_take (i := 0) (v := .slice A6 k c6) rfl (by kernel_rfl) (by kernel_rfl) (fun _ _ _ h => h) (Or.inl ⟨by rfl, ?_⟩) hC0.out ?_
                    · intro w' hw'
                      obtain ⟨q0, q1, q2, q3, q4, q5⟩ := hw'.all
                      have ql := hw'.lt
                      clear hw'
                      go_simp
                      try with_reducible rfl
                    try simp only [Act.put, List.getElem_toArray, List.getElem_cons_zero, List.setIfInBounds_toArray, List.set_cons_zero, List.set_cons_succ]
                    refine anyT_take (i := 1) (v := .pointer (some ⟨gb, 4, none⟩)) rfl (by kernel_rfl) (by kernel_rfl) (fun _ _ _ h => h) (Or.inl ⟨by rfl, ?_⟩) hC0.out ?_
                    · intro w' hw'
                      obtain ⟨q0, q1, q2, q3, q4, q5⟩ := hw'.all
                      have ql := hw'.lt
                      clear hw'
                      go_simp
                      try with_reducible rfl
                    try simp only [Act.put, List.getElem_toArray, List.getElem_cons_zero, List.getElem_cons_succ, List.setIfInBounds_toArray, List.set_cons_zero, List.set_cons_succ]
                    refine anyT_take (i := 2) (v := .string h.s) rfl (by kernel_rfl) (by kernel_rfl) (fun _ _ _ h => h) (Or.inl ⟨by rfl, ?_⟩) hC0.out ?_
                    · intro w' hw'
                      obtain ⟨q0, q1, q2, q3, q4, q5⟩ := hw'.all
                      have ql := hw'.lt
                      clear hw'
                      go_simp
                      try with_reducible rfl
                    try simp only [Act.put, List.getElem_toArray, List.getElem_cons_zero, List.getElem_cons_succ, List.setIfInBounds_toArray, List.set_cons_zero, List.set_cons_succ]
                    refine anyT_take (i := 5) (v := .slice (some ⟨b, o, none⟩) L oc) rfl (by kernel_rfl) (by kernel_rfl) (fun _ _ _ h => h) (Or.inl ⟨by rfl, ?_⟩) hC0.out ?_
                    · intro w' hw'
                      obtain ⟨q0, q1, q2, q3, q4, q5⟩ := hw'.all
                      have ql := hw'.lt
                      clear hw'
                      go_simp
                      try with_reducible rfl
                    try simp only [Act.put, List.getElem_toArray, List.getElem_cons_zero, List.getElem_cons_succ, List.setIfInBounds_toArray, List.set_cons_zero, List.set_cons_succ]
                    refine anyT_take (i := 6) (v := .int .i64 (k : Int)) rfl (by kernel_rfl) (by kernel_rfl) (fun _ _ _ h => h) (Or.inl ⟨by rfl, ?_⟩) hC0.out ?_
                    · intro w' hw'
                      obtain ⟨q0, q1, q2, q3, q4, q5⟩ := hw'.all
                      have ql := hw'.lt
                      clear hw'
                      go_simp
                      try with_reducible rfl
                    try simp only [Act.put, List.getElem_toArray, List.getElem_cons_zero, List.getElem_cons_succ, List.setIfInBounds_toArray, List.set_cons_zero, List.set_cons_succ]
                    refine anyT_take (i := 7) (v := .slice (some ⟨b, o + k, none⟩) (L - k) (oc - k)) rfl (by kernel_rfl) (by kernel_rfl) (fun _ _ _ h => h) (Or.inl ⟨by rfl, ?_⟩) hC0.out ?_
                    · intro w' hw'
                      obtain ⟨q0, q1, q2, q3, q4, q5⟩ := hw'.all
                      have ql := hw'.lt
                      clear hw'
                      go_simp
                      try with_reducible rfl
                    try simp only [Act.put, List.getElem_toArray, List.getElem_cons_zero, List.getElem_cons_succ, List.setIfInBounds_toArray, List.set_cons_zero, List.set_cons_succ]
                    refine anyT_one (i := 3) (by kernel_rfl) ?_
                    refine wpOp_step rfl (fun K hK => ?_)
                    replace hK := Lib.hid hK
                    go_simp
                    refine hK.out _ _ ⟨fun _ => hM1.out, ?_⟩
                    clear hK K hC0
                    try simp only [Act.put, List.getElem_toArray, List.getElem_cons_zero, List.getElem_cons_succ, List.setIfInBounds_toArray, List.set_cons_zero, List.set_cons_succ]
                    refine anyT_one (i := 4) (by kernel_rfl) ?_
                    refine wpOp_step rfl (fun K hK => ?_)
                    replace hK := Lib.hid hK
                    refine step_append_SN rfl (.tmp 65) (.tmp 68) rfl g2 (.slice A6 k c6) k ((l.take k).map encStr) (by simp [Act.eval]) hW1.out (some ⟨g3, 0, none⟩) 1 1 [S] rfl (by simp [Act.eval]) (fun e => by cases e) hT1.out hk1 hz1 ?_
                    intro v7 w7 ho7 hg7 hat7
                    have hF := grown_facts (g := g2) hg7 (fun g e => (own_ltT hW1.out g e).1) hz1
                    have hB7 : Below w.heap.size w w7 := hB1.out.trans (hF.mono hgw)
                    have hM7 : BX w7 gb 32 h A n c := (hF.block gb hgbg).trans hM1.out
                    have hX7 : XQ w7 (· < w.heap.size) t A := hX1.out.over (fun b hb => hF.block b (by omega)) (fun b hb => hb)
                    have hO7 := hO1.out.low hF hOlow.out
                    have hz7 : g2 ≤ w7.heap.size := Nat.le_trans hz1 hF.size
                    obtain ⟨A7, c7, rfl⟩ := own_shape ho7
                    refine hK.out _ _ ⟨fun _ => hM7, ?_⟩
                    clear hK K hF hg7 hat7 hB1 hM1 hX1 hO1 hW1 hT1
                    replace hB7 := Lib.hid hB7
                    replace hM7 := Lib.hid hM7
                    replace hX7 := Lib.hid hX7
                    replace ho7 := Lib.hid ho7
                    have hsn : SN w7 (some ⟨b, o + k, none⟩) (l.drop k) := hO7.s.drop k
                    clear hO7
                    try simp only [Act.put, List.getElem_toArray, List.getElem_cons_zero, List.getElem_cons_succ, List.setIfInBounds_toArray, List.set_cons_zero, List.set_cons_succ]
                    refine anyT_one (i := 8) (by kernel_rfl) ?_
                    refine wpOp_step rfl (fun K hK => ?_)
                    replace hK := Lib.hid hK
                    refine step_append_SN rfl (.tmp 69) (.tmp 72) rfl g2 (.slice A7 (k + 1) c7) (k + 1) ((l.take k).map encStr ++ [S].map encStr) (by simp [Act.eval]) ho7.out (some ⟨b, o + k, none⟩) (L - k) (oc - k) (l.drop k) hldk.out (by simp [Act.eval]) (fun e => by cases e) hsn hkL hz7 ?_
                    intro v8 w8 ho8 hg8 hat8
                    have hF := grown_facts (g := g2) hg8 (fun g e => (own_ltT ho7.out g e).1) hz7
                    have hB8 : Below w.heap.size w w8 := hB7.out.trans (hF.mono hgw)
                    have hM8 : BX w8 gb 32 h A n c := (hF.block gb hgbg).trans hM7.out
                    have hX8 : XQ w8 (· < w.heap.size) t A := hX7.out.over (fun b hb => hF.block b (by omega)) (fun b hb => hb)
                    obtain ⟨A8, c8, rfl⟩ := own_shape ho8
                    have hlq : (l.take k ++ S :: l.drop k).length = k + 1 + (L - k) := by
                      have h1 := hlk.out; have h2 := hldk.out; simp only [List.length_append, List.length_cons]; omega
                    have ho9 : w8.ownsRow g2 9 1 (.slice A8 (k + 1 + (L - k)) c8) (l.take k ++ S :: l.drop k).length ((l.take k ++ S :: l.drop k).map encStr) := by
                      rw [hlq]
                      have e : (l.take k ++ S :: l.drop k).map encStr = (l.take k).map encStr ++ [S].map encStr ++ (l.drop k).map encStr := by simp
                      rw [e]; exact ho8
                    have hSL := (own_SL ho9).1
                    refine hK.out _ _ ⟨fun _ => hM8, ?_⟩
                    clear hK K hF hg8 hat8 hB7 hX7 ho7 hsn ho8 ho9
                    replace hB8 := Lib.hid hB8
                    replace hM8 := Lib.hid hM8
                    replace hX8 := Lib.hid hX8
                    replace hSL := Lib.hid hSL
                    replace hlq := Lib.hid hlq
                    try simp only [Act.put, List.getElem_toArray, List.getElem_cons_zero, List.getElem_cons_succ, List.setIfInBounds_toArray, List.set_cons_zero, List.set_cons_succ]
                    refine anyT_one (i := 9) (by kernel_rfl) ?_
                    refine wpOp_step rfl (fun K hK => ?_)
                    replace hK := Lib.hid hK
                    go_simp
                    refine hK.out _ _ ⟨fun h => absurd h (by decide), ?_⟩
                    clear hK K
                    try simp only [Act.put, List.getElem_toArray, List.getElem_cons_zero, List.getElem_cons_succ, List.setIfInBounds_toArray, List.set_cons_zero, List.set_cons_succ]
                    refine anyT_done (by kernel_rfl) ?_ _
                    go_wp2_with fail
                    go_meet
                    case rel => exact ⟨A8, c8, (by rw [hq.out, hi.out, hlq.out]; try simp), by rw [hq.out, hi.out]; exact hSL.out, hB8.out, hM8.out, hX8.out⟩
    case rest =>
      obtain ⟨O', oc', rfl, hS0, hB0, hM0, hX0⟩ := hcut
      clear hO1 hns hL
      rename World => wq
      have hl1 := insAll_len (nm1 h) l
      have hn1 := nm1_len h
      have hle := hlen.out
      have hnd2 := hnd.out
      obtain ⟨l1, hl1e⟩ : ∃ l1, insAll l (nm1 h) = l1 := ⟨_, rfl⟩
      rw [hl1e] at hS0 hl1 ⊢
      have hl1m : l1.length + ndsL t.args ≤ 1000000 := by omega
      replace hl1m := Lib.hid hl1m
      replace hS0 := Lib.hid hS0
      replace hB0 := Lib.hid hB0
      replace hM0 := Lib.hid hM0
      replace hX0 := Lib.hid hX0
      replace hl1e := Lib.hid hl1e
      clear hl1 hn1 hle hnd2
      go_wp2_with fail
      go_loopw [0, 7] (fun ov iv wr => ∃ (k : Nat) (Ok : Option Addr) (ock : Nat), k ≤ n ∧ iv = .int .i64 (k : Int) ∧ ov = .slice Ok ((t.args.take k).foldl (fun o a => insAll o a.nmp) l1).length ock ∧ SL wr Ok ock ((t.args.take k).foldl (fun o a => insAll o a.nmp) l1) ∧ Below w.heap.size w wr ∧ BX wr gb 32 h A n c ∧ XQ wr (· < w.heap.size) t A) (fun _ iv _ => n - (RowKit.intOf iv).toNat)
      case atStart => exact ⟨0, O', oc', Nat.zero_le _, rfl, rfl, hS0.out, hB0.out, hM0.out, hX0.out⟩
      case round =>
        obtain ⟨k, Ok, ock, hk, rfl, rfl, hSk, hBk, hMk, hXk⟩ := hrel
        clear hS0 hB0 hM0 hX0
        obtain ⟨m0, m1, m2, m3, m4, m5⟩ := hMk.all
        have ml := hMk.lt
        by_cases hlt : k < n
        · have hw1 : IntKind.i64.wrap ((k : Int) + 1) = (k : Int) + 1 := IntWalk.i64_in _ (by omega)
          have hkl : k < t.args.length := by rw [hn.out]; exact hlt
          obtain ⟨b, o, rfl, hb, Aj, cj, hxc, hxq⟩ := hXk.get k hkl
          have hlF := insF_len (t.args.take k) l1
          have hnk := ndsL_take t.args k hkl
          have hl1m2 := hl1m.out
          have hfo : (t.args.take (k + 1)).foldl (fun o a => insAll o a.nmp) l1 = insAll ((t.args.take k).foldl (fun o a => insAll o a.nmp) l1) t.args[k].nmp := by
            rw [← List.take_append_getElem hkl, List.foldl_append]; rfl
          obtain ⟨lk, hlk⟩ : ∃ lk, (t.args.take k).foldl (fun o a => insAll o a.nmp) l1 = lk := ⟨_, rfl⟩
          rw [hlk] at hSk hlF hfo ⊢
          have hC := fun W (r : XQ W (· < W.heap.size) t.args[k] Aj) (s : SL W Ok ock lk) => hE.out t.args[k] (List.getElem_mem hkl) Aj cj Ok ock lk W r (hWM.out.arg (List.getElem_mem hkl)) s (by omega)
          rw [← hfo] at hC
          obtain ⟨a, ha⟩ : ∃ a, t.args[k] = a := ⟨_, rfl⟩
          rw [ha] at hC hxc hxq
          have hz : w.heap.size ≤ wr.heap.size := hBk.size
          have hxq2 := hxq.over (w' := wr) (G := (· < wr.heap.size)) (fun b hb => rfl) (fun b hb => Nat.lt_of_lt_of_le hb hz)
          obtain ⟨x0, x1, x2, x3, x4, x5⟩ := hxc
          obtain ⟨N, hN⟩ : ∃ N, lk.length = N := ⟨_, rfl⟩
          rw [hN] at hC ⊢
          replace hC := Lib.hid hC
          replace hxq2 := Lib.hid hxq2
          replace hXk := Lib.hid hXk
          replace hMk := Lib.hid hMk
          replace hBk := Lib.hid hBk
          replace hSk := Lib.hid hSk
          clear hxq ha hlk hlF hnk hl1m2 hfo hN
          go_wp2_with fail
          (with_reducible refine (hC.out _ hxq2.out hSk.out).mono ?_)
          rintro e u1 ⟨O2, oc2, rfl, hS2, hb1⟩
          have hX1 : XQ u1 (· < w.heap.size) t (some ⟨b, o, none⟩) := hXk.out.over (fun b hb => hb1.block b (Nat.lt_of_lt_of_le hb hz)) (fun b hb => hb)
          have hM1 := hMk.out.ov hb1
          have hB1 := below_call hb1 hBk.out
          clear hXk hMk hBk hb1 hC hxq2 hSk m0 m1 m2 m3 m4 m5 ml x0 x1 x2 x3 x4 x5
          replace hX1 := Lib.hid hX1
          replace hM1 := Lib.hid hM1
          replace hB1 := Lib.hid hB1
          replace hS2 := Lib.hid hS2
          go_wp2_with fail
          go_roundw
          case rel => exact ⟨k + 1, O2, oc2, by omega, by go_num, rfl, hS2.out, hB1.out, hM1.out, hX1.out⟩
          case measure => (simp [RowKit.intOf]; omega)
        · obtain rfl : k = n := by omega
          have htk : t.args.take k = t.args := by rw [← hn.out, List.take_length]
          rw [htk] at hSk ⊢
          replace hSk := Lib.hid hSk
          replace hBk := Lib.hid hBk
          clear hXk hMk
          go_wp2_with fail
          go_ret
          rw [hl1e.out]
          exact ⟨Ok, ock, rfl, hSk.out, hBk.out⟩
theorem names_all : ∀ t : XT, NOo t
  | .z h => names_1 _ fun a ha => by simp [XT.args] at ha
  | .u h x => names_1 _ fun a ha => by
    have h1 := names_all x
    simp [XT.args] at ha
    subst ha
    exact h1
  | .b h x y => names_1 _ fun a ha => by
    have h1 := names_all x
    have h2 := names_all y
    simp [XT.args] at ha
    rcases ha with rfl | rfl
    · exact h1
    · exact h2
  | .t h x y z => names_1 _ fun a ha => by
    have h1 := names_all x
    have h2 := names_all y
    have h3 := names_all z
    simp [XT.args] at ha
    rcases ha with rfl | rfl | rfl
    · exact h1
    · exact h2
    · exact h3
end Go.Proofs.Ytljiiniocnljmaa
