/-
  The law, walked.
-/
import Derived.Test.YtembgefbmecdbaaR45
import Derived.Test.YtembgefbmecdbaaKr
namespace Go.Proofs.Ytembgefbmecdbaa
open Go.RowKit Go.Lib
set_option maxRecDepth 100000 in
set_option maxHeartbeats 3200000 in
theorem law_t (w : World) (x : Int) (V : Nat) (hx : max 0 (min x 60) = (V : Int)) (A : Option Addr) (LL : List (List Int)) (cL : Nat) (hA : RLL w A LL) (hLn : LL.length ≤ 9223372036854775807) (A1 : Option Addr) (l1 : List Int) (c1 : Nat) (h1 : RL w A1 l1) (hl1 : l1.length ≤ 9223372036854775807) (A2 : Option Addr) (l2 : List Int) (c2 : Nat) (h2 : RL w A2 l2) (hl2 : l2.length ≤ 9223372036854775807) :
    Calls Try.prog 3 #[.int .i64 x, .slice A LL.length cL, .agg #[.slice A1 l1.length c1, .slice A2 l2.length c2]] w (RV w (.bool true)) := by
  have hV60 : V ≤ 60 := by omega
  obtain ⟨wb, hwb⟩ : ∃ W0, w.alloc (.cells #[.slice A1 l1.length c1, .slice A2 l2.length c2] 24) = W0 := ⟨_, rfl⟩
  have hbb : Below w.heap.size w wb := by rw [← hwb]; exact (Below.refl _ _).alloc (Nat.le_refl _) _
  have hcb : CB wb w.heap.size #[.slice A1 l1.length c1, .slice A2 l2.length c2] 24 := by rw [← hwb]; exact heap_alloc_new w _
  have hW := Lib.hid (awake_r wb)
  have hM := Lib.hid (fun w1 (h : Below w.heap.size w w1) => Make_t x V hx A LL cL w1 (hA.over h) hLn)
  replace hA := Lib.hid hA
  replace h1 := Lib.hid (h1.over hbb)
  replace h2 := Lib.hid (h2.over hbb)
  replace hbb := Lib.hid hbb
  replace hcb := Lib.hid hcb
  replace hx := Lib.hid hx
  obtain ⟨n, hn⟩ : ∃ n, LL.length = n := ⟨_, rfl⟩
  obtain ⟨n1, hn1⟩ : ∃ n, l1.length = n := ⟨_, rfl⟩
  obtain ⟨n2, hn2⟩ : ∃ n, l2.length = n := ⟨_, rfl⟩
  rw [hn] at hM hLn ⊢
  rw [hn1] at hl1 hwb hcb ⊢
  rw [hn2] at hl2 hwb hcb ⊢
  replace hn := Lib.hid hn
  replace hn1 := Lib.hid hn1
  replace hn2 := Lib.hid hn2
  replace hwb := Lib.hid hwb
  go_enter Try.func3, Try.ntmps3
  go_wp2_with fail
  rw [hwb.out]
  (with_reducible refine hW.out.mono ?_)
  rintro e w1 ⟨rfl, hb1⟩
  have hb1' := hbb.out.trans (hb1.mono hbb.out.size)
  have hM1 := Lib.hid (hM.out w1 hb1')
  have q1 := Lib.hid (h1.out.over hb1)
  have q2 := Lib.hid (h2.out.over hb1)
  have qb := Lib.hid (hcb.out.over hb1)
  replace hb1' := Lib.hid hb1'
  clear hM hW hb1 h1 h2 hcb hbb
  go_wp2_with fail
  (with_reducible refine hM1.out.mono ?_)
  rintro e w2 ⟨p, cs, vl, ve, Ac, cc, vs, rfl, hcf, hcs, hgood, _, _, hb2⟩
  clear hM1
  go_upto_region 7 with fail
  obtain ⟨w3, hw3⟩ : ∃ W0, w2.alloc (.cells #[.int .i64 (V : Int), .slice Ac cs.length cc] 28) = W0 := ⟨_, rfl⟩
  have hb23 : Below w2.heap.size w2 w3 := by rw [← hw3]; exact (Below.refl _ _).alloc (Nat.le_refl _) _
  have h8 : CB w3 w2.heap.size #[.int .i64 (V : Int), .slice Ac cs.length cc] 28 := by rw [← hw3]; exact heap_alloc_new w2 _
  have hb3' := hb1'.out.trans ((hb2.trans (hb23.mono hb2.size)).mono hb1'.out.size)
  have hcl : ∀ c, c ∈ cs → ∀ y, y ∈ c → y ≠ 0 ∧ y ≤ V ∧ -y ≤ V := fun c hc => fgn_in (hgood c hc).2.2
  have q1' := Lib.hid ((q1.out.over hb2).over hb23)
  have q2' := Lib.hid ((q2.out.over hb2).over hb23)
  have qb' := Lib.hid ((qb.out.over hb2).over hb23)
  have hcf' := Lib.hid (hcf.over hb23)
  replace h8 := Lib.hid h8
  replace hb3' := Lib.hid hb3'
  rw [hw3]
  clear q1 q2 qb hcf hb1' hw3 hb23 hb2
  obtain ⟨g8, hg8⟩ : ∃ g, w2.heap.size = g := ⟨_, rfl⟩
  rw [hg8] at h8 ⊢
  clear hg8
  replace hgood := Lib.hid hgood
  replace hcl := Lib.hid hcl
  replace hcs := Lib.hid hcs
  have m0 : w3.cell? ⟨w.heap.size, 0, none⟩ = some (.slice A1 n1 c1) := qb'.out.c 0
  have ml := lt_of_get qb'.out
  go_wp2_with fail
  clear m0 ml
  go_loopw [10, 33] (fun lv iw wr => ∃ (k : Nat) (o : List Int) (D : Option Addr) (m cap : Nat), k ≤ n1 ∧ iw = .int .i64 (k : Int) ∧ lv = .slice D m cap ∧ m ≤ 10 ∧ Hid (o.length = m ∧ wr.ownsRow w3.heap.size 3 1 (.slice D m cap) m (iv o) ∧ (∀ y, y ∈ o → y ≠ 0 ∧ y ≤ V ∧ -y ≤ V) ∧ Below w3.heap.size w3 wr)) (fun _ iw _ => n1 - (RowKit.intOf iw).toNat)
  case atStart => exact ⟨0, [], none, 0, 0, by omega, rfl, rfl, by omega, Lib.hid ⟨rfl, World.ownsRow_nil _ _ _ _, fun y hy => absurd hy (by simp), Below.refl _ _⟩⟩
  case round =>
    obtain ⟨k, o, D, m, cap, hk, rfl, rfl, hm, hI⟩ := hrel
    obtain ⟨i1, i2, i3, i4⟩ := hI.out
    have hz := i4.size
    replace i1 := Lib.hid i1
    replace i2 := Lib.hid i2
    replace i3 := Lib.hid i3
    by_cases hlt : k < n1
    · obtain ⟨b, off, hA1, hbl, hcc⟩ := q1'.out (by have := hn1.out; omega)
      have ck := (i4.cell (p := ⟨b, off + k, none⟩) hbl).trans (hcc k (by have := hn1.out; omega))
      obtain ⟨y, hy⟩ : ∃ y, l1.getD k 0 = y := ⟨_, rfl⟩
      rw [hy] at ck
      have cl : b < wr.heap.size := by omega
      subst hA1
      have e8 : wr.cell? ⟨g8, 0, none⟩ = some (.int .i64 (V : Int)) := (h8.out.over i4).c 0
      have l8 := lt_of_get (h8.out.over i4)
      replace i4 := Lib.hid i4
      clear hcc hy hbl
      have hback : ∀ w', w' = wr → k + 1 ≤ n1 := fun _ _ => by omega
      clear hback
      by_cases hy0 : y = 0
      · subst hy0
        go_wp2_with fail
        go_roundw
        case rel => exact ⟨k + 1, o, D, m, cap, by omega, by go_num, rfl, hm, hI⟩
        case measure => (change n1 - ((k : Int) + 1).toNat < n1 - ((k : Int)).toNat; omega)
      · have t0 : (y == 0) = false := beq_eq_false_iff_ne.2 hy0
        have t0' : (y != 0) = true := by simpa using hy0
        by_cases hy1 : y ≤ V
        · by_cases hy2 : -(V : Int) ≤ y
          · by_cases hm9 : m < 10
            · have tm : decide (m < 10) = true := by simpa using hm9
              clear hy0
              go_wp2_with (at_builtin; refine wpList_append_RL rfl _ _ rfl w3.heap.size _ m (iv o) rfl (i2.out.alloc _) (some ⟨wr.heap.size, 0, none⟩) 1 1 [y] rfl rfl (fun e => by cases e) (RL_new wr [y] _ rfl) (by omega) (by simp; omega) ?f1)
              case f1 =>
                intro v' w' own1 hg1
                have hb5 : Below w3.heap.size w3 w' := (i4.out.alloc hz _).grown hg1 (by simp; omega) (fun j e => (i2.out.lt j e).1)
                have own2 : w'.ownsRow w3.heap.size 3 1 v' (m + 1) (iv (o ++ [y])) := by rw [show iv (o ++ [y]) = iv o ++ iv [y] by simp [iv]]; exact own1
                obtain ⟨D', cap', ev⟩ := own_shape' own2
                subst ev
                have hI2 : Hid ((o ++ [y]).length = m + 1 ∧ w'.ownsRow w3.heap.size 3 1 (.slice D' (m + 1) cap') (m + 1) (iv (o ++ [y])) ∧ (∀ z, z ∈ o ++ [y] → z ≠ 0 ∧ z ≤ V ∧ -z ≤ V) ∧ Below w3.heap.size w3 w') := Lib.hid ⟨by rw [List.length_append, i1.out]; rfl, own2, fun z hz => by
                  rcases List.mem_append.1 hz with f | f
                  · exact i3.out z f
                  · rw [List.mem_singleton.1 f]
                    exact ⟨by simpa using t0', hy1, by omega⟩, hb5⟩
                clear own1 own2 hg1 hb5 hI i1 i2 i3 i4
                go_wp2_with fail
                go_roundw
                case rel => exact ⟨k + 1, o ++ [y], D', m + 1, cap', by omega, by go_num, rfl, by omega, hI2⟩
                case measure => (change n1 - ((k : Int) + 1).toNat < n1 - ((k : Int)).toNat; omega)
            · go_wp2_with fail
              go_roundw
              case rel => exact ⟨k + 1, o, D, m, cap, by omega, by go_num, rfl, hm, hI⟩
              case measure => (change n1 - ((k : Int) + 1).toNat < n1 - ((k : Int)).toNat; omega)
          · go_wp2_with fail
            go_roundw
            case rel => exact ⟨k + 1, o, D, m, cap, by omega, by go_num, rfl, hm, hI⟩
            case measure => (change n1 - ((k : Int) + 1).toNat < n1 - ((k : Int)).toNat; omega)
        · go_wp2_with fail
          go_roundw
          case rel => exact ⟨k + 1, o, D, m, cap, by omega, by go_num, rfl, hm, hI⟩
          case measure => (change n1 - ((k : Int) + 1).toNat < n1 - ((k : Int)).toNat; omega)
    · obtain rfl : k = n1 := by omega
      have hcf4 := hcf'.out.over i4
      have hDn : D = none → cap = 0 := fun e => by
        rcases i2.out.2 with ⟨e1, _⟩ | ⟨g, c', cur, e1, _⟩
        · cases e1; rfl
        · cases e1; cases e
      have hRo : RL wr D o := by
        have := i2.out
        rw [← i1.out] at this
        obtain ⟨D', c', e, hR⟩ := own_RL this
        injection e with e1
        rw [e1]
        exact hR
      have hF := Follows_t wr hcf4 hV60 hcl.out (by have := hcs.out; omega) D o cap hRo (by have := i1.out; omega)
      rw [i1.out] at hF
      replace hF := Lib.hid hF
      have q2w := Lib.hid (q2'.out.over i4)
      have qbw := Lib.hid (qb'.out.over i4)
      have hbw := Lib.hid (hb3'.out.trans (i4.mono hb3'.out.size))
      replace hcf4 := Lib.hid hcf4
      replace hDn := Lib.hid hDn
      replace hRo := Lib.hid hRo
      clear hI i4 i2 q1' q2' qb' hcf' hb3' h8 hlt
      go_wp2_with fail
      (with_reducible refine hF.out.mono ?_)
      rintro e w5 ⟨bw, rfl, hbw1, hb5⟩
      have hcf5 := hcf4.out.over hb5
      have hCl := Lib.hid (Clone_t hcf5)
      have hR5 := hRo.out.over hb5
      have q25 := Lib.hid (q2w.out.over hb5)
      have qb5 := Lib.hid (qbw.out.over hb5)
      have hb05 := hbw.out.trans (hb5.mono hbw.out.size)
      replace hcf5 := Lib.hid hcf5
      replace hR5 := Lib.hid hR5
      replace hb05 := Lib.hid hb05
      replace hbw1 := Lib.hid hbw1
      clear hF hcf4 hRo q2w qbw hbw hb5
      go_wp2_with fail
      (with_reducible refine hCl.out.mono ?_)
      rintro e w6 ⟨q, vd, vde, rfl, hd, hb6⟩
      have hR6 := Lib.hid ((hR5.out.over hb6).over ((Below.refl _ w6).alloc (Nat.le_refl _) (.cells #[] 3)))
      have hs6 := hb6.size
      replace hd := Lib.hid hd
      replace hb6 := Lib.hid hb6
      clear hCl
      go_wp2_with (at_builtin; refine wpList_append_RL rfl _ _ rfl w6.heap.size _ 0 [] rfl (World.ownsRow_made (base := w6.heap.size) w6 #[] 0 (Nat.le_refl _) (by decide) (by simp)) D m cap o i1.out rfl (fun e => hDn.out e) hR6.out (by omega) (by simp) ?g1)
      case g1 =>
        intro v7 w7 own7 hg7
        have hb7 : Below w6.heap.size w6 w7 := ((Below.refl _ w6).alloc (Nat.le_refl _) _).grown hg7 (by simp) (fun j e => by cases e; exact Nat.le_refl _)
        have own7' : w7.ownsRow w6.heap.size 3 1 v7 m (iv o) := by simpa using own7
        obtain ⟨D7, c7, e7⟩ := own_shape' own7'
        subst e7
        have hL : L2 w5 w6.heap.size q V cs o 0 (.slice D7 m c7) m w7 := ⟨cs, vd, vde, o, hd.out.over hb7, hgood.out, by omega, fun c hc => hc, i1.out, own7', fun g hg hf => by have := (own7'.lt g hg).1; have := (hd.out.fp g hf).2; omega, fun y hy => hy, i3.out, hs6, hb6.out.trans (hb7.mono hs6), hb7.size⟩
        replace hL := Lib.hid hL
        clear own7 own7' hg7 hb7 hd hb6 hR6
        go_wp2_with fail
        go_loopw [15, 16] (fun ev iw wr => ∃ (i : Nat) (D2 : Option Addr) (m2 cp2 : Nat), i ≤ 10 ∧ m2 ≤ 10 + i ∧ ev = .slice D2 m2 cp2 ∧ iw = .int .i64 (i : Int) ∧ Hid (L2 w5 w6.heap.size q V cs o i (.slice D2 m2 cp2) m2 wr)) (fun _ iw _ => 10 - (RowKit.intOf iw).toNat)
        case atStart => exact ⟨0, D7, m, c7, by omega, by omega, rfl, rfl, hL⟩
        case round =>
          obtain ⟨i, D2, m2, cp2, hi, hm2, rfl, rfl, hI⟩ := hrel
          have hbI : Below w5.heap.size w5 wr := by obtain ⟨_, _, _, _, _, _, _, _, _, _, _, _, _, _, kk, _⟩ := hI.out; exact kk
          have d1 : wr.cell? ⟨w.heap.size, 1, none⟩ = some (.slice A2 n2 c2) := (qb5.out.over hbI).c 1
          have dl := lt_of_get (qb5.out.over hbI)
          by_cases hlt : i < n2 ∧ i < 10
          · obtain ⟨hlt, hlt10⟩ := hlt
            obtain ⟨b, off, hA2, hbl, hcc⟩ := q25.out (by have := hn2.out; omega)
            have ck := (hbI.cell (p := ⟨b, off + i, none⟩) hbl).trans (hcc i (by have := hn2.out; omega))
            obtain ⟨y, hy⟩ : ∃ y, l2.getD i 0 = y := ⟨_, rfl⟩
            rw [hy] at ck
            have cl : b < wr.heap.size := by have := hbI.size; omega
            subst hA2
            replace hbI := Lib.hid hbI
            have hadd := hI.out.add hlt10 hcs.out hV60 y
            clear hcc hy hbl hI hL
            rcases hadd with ⟨hf, hA⟩ | ⟨hf, hy0, hA⟩
            · replace hA := Lib.hid hA
              replace hf := Lib.hid hf
              go_wp2_with fail
              (with_reducible refine hA.out.mono ?_)
              rintro e w8 ⟨rfl, hI8⟩
              replace hI8 := Lib.hid hI8
              clear hA ck cl d1 dl
              go_wp2_with fail
              go_roundw
              case rel => exact ⟨i + 1, D2, m2, cp2, by omega, by omega, rfl, by go_num, hI8⟩
              case measure => (change 10 - ((i : Int) + 1).toNat < 10 - ((i : Int)).toNat; omega)
            · replace hA := Lib.hid hA
              have hin := fgn_in (V := V) (l := [y]) (by simpa using hf) y (by simp)
              have t0' : (y != 0) = true := by simpa using hy0
              replace hf := Lib.hid hf
              replace hin := Lib.hid hin
              clear hy0
              go_wp2_with fail
              (with_reducible refine hA.out.mono ?_)
              rintro e w8 ⟨rfl, hI8⟩
              clear hA ck cl d1 dl
              obtain ⟨ds, vd2, vde2, ex, k1, k2, k3, k4, k5, k6, k7, k8, k9, k10, k11, k12⟩ := hI8
              have hal : (w8.alloc (.cells #[iz y] 3)).ownsRow w6.heap.size 3 1 (.slice D2 m2 cp2) m2 (iv ex) := k6.alloc _
              have hnw : ∀ j u, [iz y][j]? = some u → (w8.alloc (.cells #[iz y] 3)).cell? ((⟨w8.heap.size, 0, none⟩ : Addr).add j) = some u := World.news_of_block (heap_alloc_new w8 (.cells #[iz y] 3))
              have hone : ∀ u ∈ [iz y], u.oneCell' = true := by simp [Value.oneCell']
              have hsz : (w8.alloc (.cells #[iz y] 3)).heap.size = w8.heap.size + 1 := by simp
              have hB8 := Lib.hid k12
              have happ := fun w' g cap ho hg hgb => L2.app (w' := w') (y := y) (g := g) (cap := cap) (O := .cells #[iz y] 3) k1 k2 k3 k4 k5 k6 k7 k8 k9 k10 k11 k12 hin.out ho hg hgb
              replace hal := Lib.hid hal
              replace hnw := Lib.hid hnw
              replace hone := Lib.hid hone
              replace hsz := Lib.hid hsz
              replace happ := Lib.hid happ
              replace k5 := Lib.hid k5
              clear k1 k2 k3 k4 k6 k7 k8 k9 k10 k11 k12
              obtain ⟨i0, hi0, hz0, hz1, hz2⟩ := info_parts info_i64
              go_wp2_with (at_builtin; refine wpList_append_lies _ rfl _ _ 23 rfl w6.heap.size 3 i0 (.int .i64 0) 1 8 Try.underlying23 hi0 hz0 hz1 hz2 rfl (by decide) _ m2 (iv ex) rfl hal.out ⟨w8.heap.size, 0, none⟩ 1 1 [iz y] rfl rfl hnw.out hone.out (by decide) ?c3 ?c4 ?c5 (w8.heap.size + 1) hsz.out ?c6)
              case c3 => unfold maxLen; omega
              case c4 => omega
              case c5 => have := hB8.out; have := hsz.out; simp; omega
              case c6 =>
                intro g cap9 w9 ho9 hg9 hgb9 hlt9
                have hI9 := Lib.hid (happ.out w9 g cap9 ho9 hg9 hgb9)
                clear happ ho9 hg9 hgb9 hal hnw
                go_wp2_with fail
                go_roundw
                case rel => exact ⟨i + 1, some ⟨g, 0, none⟩, m2 + 1, cap9, by omega, by omega, rfl, by go_num, hI9⟩
                case measure => (change 10 - ((i : Int) + 1).toNat < 10 - ((i : Int)).toNat; omega)
          · by_cases hn' : i < n2
            · have h10 : ¬ i < 10 := fun f => hlt ⟨hn', f⟩
              clear hlt
              obtain ⟨ds, vd2, vde2, ex, k1, k2, k3, k4, k5, k6, k7, k8, k9, k10, k11, k12⟩ := hI.out
              have hR9 := Lib.hid ((hR5.out.over k11).over ((Below.refl _ wr).alloc (Nat.le_refl _) (.cells #[] 3)))
              have hR10 := Lib.hid (hR5.out.over k11)
              have hex : RL wr D2 ex := by
                rw [← k5] at k6
                obtain ⟨D', c', e, hR⟩ := own_RL k6
                injection e with e1
                rw [e1]
                exact hR
              have hcf9 := Lib.hid (hcf5.out.over k11)
              have hbw9 := Lib.hid (hb05.out.trans (k11.mono hb05.out.size))
              replace hex := Lib.hid hex
              replace k1 := Lib.hid k1
              replace k2 := Lib.hid k2
              replace k3 := Lib.hid k3
              replace k4 := Lib.hid k4
              replace k5 := Lib.hid k5
              replace k8 := Lib.hid k8
              replace k9 := Lib.hid k9
              clear k6 k7 k10 k11 k12 hI hL hbI
              go_wp2_with (at_builtin; refine wpList_append_RL rfl _ _ rfl wr.heap.size _ 0 [] rfl (World.ownsRow_made (base := wr.heap.size) wr #[] 0 (Nat.le_refl _) (by decide) (by simp)) D m cap o i1.out rfl (fun e => hDn.out e) hR9.out (by omega) (by simp) ?g2)
              case g2 =>
                intro v8 w8 own8 hg8'
                have hb8 : Below wr.heap.size wr w8 := ((Below.refl _ wr).alloc (Nat.le_refl _) _).grown hg8' (by simp) (fun j e => by cases e; exact Nat.le_refl _)
                have own8' : w8.ownsRow wr.heap.size 3 1 v8 m (iv o) := by simpa using own8
                have hz8 := hb8.size
                have hR11 := Lib.hid (hR10.out.over hb8)
                replace own8' := Lib.hid own8'
                replace hb8 := Lib.hid hb8
                clear own8 hg8' hR9 d1 dl
                go_wp2_with (at_builtin; refine wpList_append_RL rfl _ _ rfl wr.heap.size _ m (iv o) rfl own8'.out D m cap o i1.out rfl (fun e => hDn.out e) hR11.out (by omega) hz8 ?g3)
                case g3 =>
                  intro v9 w9 own9 hg9
                  have hb9 : Below wr.heap.size wr w9 := hb8.out.grown hg9 hz8 (fun j e => (own8'.out.lt j e).1)
                  have own9' : w9.ownsRow wr.heap.size 3 1 v9 (o ++ o).length (iv (o ++ o)) := by
                    rw [List.length_append, i1.out, show iv (o ++ o) = iv o ++ iv o by simp [iv]]
                    exact own9
                  obtain ⟨D9, c9, e9, hR9⟩ := own_RL own9'
                  subst e9
                  have hcf10 := hcf9.out.over hb9
                  have hF := Lib.hid (Follows_t w9 hcf10 hV60 hcl.out (by have := hcs.out; omega) D9 (o ++ o) c9 hR9 (by rw [List.length_append, i1.out]; omega))
                  have hd10 := Lib.hid (k1.out.over hb9)
                  have ho10 := Lib.hid (hR10.out.over hb9)
                  have hx10 := Lib.hid (hex.out.over hb9)
                  have hbA := Lib.hid (hbw9.out.trans (hb9.mono hbw9.out.size))
                  replace hcf10 := Lib.hid hcf10
                  clear hb9 own9' own9 hg9 hb8 own8' hz8 hR11 hR10 hcf9 hbw9 hex k1 hR9
                  obtain ⟨no, hno⟩ : ∃ no, (o ++ o).length = no := ⟨_, rfl⟩
                  rw [hno] at hF ⊢
                  replace hno := Lib.hid hno
                  go_wp2_with fail
                  (with_reducible refine hF.out.mono ?_)
                  rintro e w10 ⟨bb, rfl, hbb1, hbb2⟩
                  obtain rfl : bb = bw := fin_same hbw1.out hbb1
                  have hcf11 := hcf10.out.over hbb2
                  have hd11 := hd10.out.over hbb2
                  have ho11 := ho10.out.over hbb2
                  have hx11 := Lib.hid (hx10.out.over hbb2)
                  have hbB := Lib.hid (hbA.out.trans (hbb2.mono hbA.out.size))
                  clear hF hcf10 hd10 ho10 hx10 hbA hbb2 hbb1
                  cases bb
                  · clear hcf11 hd11 ho11 hx11
                    go_wp2_with fail
                    go_ret
                    exact ⟨rfl, hbB.out⟩
                  · obtain ⟨fo, fc⟩ := hbw1.out.1 rfl
                    have hF2 := Follows_t w10 hd11 hV60 (fun c hc => fgn_in (k2.out c hc).2.2) (by have := hcs.out; have := k3.out; omega) D o cap ho11 (by have := i1.out; omega)
                    have hds : Fails ds (fun x => -x ∈ o) := fc.more (fun c hc => k4.out c hc) fun x hx => .given x hx
                    have hes : Fails cs (fun x => -x ∈ ex) := fc.more (fun c hc => hc) fun x hx => .given x (k8.out _ hx)
                    rw [i1.out] at hF2
                    replace hF2 := Lib.hid hF2
                    replace hcf11 := Lib.hid hcf11
                    clear hd11 ho11
                    go_wp2_with fail
                    (with_reducible refine hF2.out.mono ?_)
                    rintro e w11 ⟨b2, rfl, hq1, hq2⟩
                    obtain rfl : b2 = true := hq1.2 ⟨fo, hds⟩
                    have hF3 := Follows_t w11 (hcf11.out.over hq2) hV60 hcl.out (by have := hcs.out; omega) D2 ex cp2 (hx11.out.over hq2) (by have := k5.out; omega)
                    have hbC := Lib.hid (hbB.out.trans (hq2.mono hbB.out.size))
                    rw [k5.out] at hF3
                    replace hF3 := Lib.hid hF3
                    clear hF2 hq1 hq2 hcf11 hx11 hbB
                    go_wp2_with fail
                    (with_reducible refine hF3.out.mono ?_)
                    rintro e w12 ⟨b3, rfl, hq1, hq2⟩
                    obtain rfl : b3 = true := hq1.2 ⟨not_any k9.out, hes⟩
                    have hbD := Lib.hid (hbC.out.trans (hq2.mono hbC.out.size))
                    clear hF3 hq1 hq2 hbC hes hds fo fc
                    go_wp2_with fail
                    go_ret
                    exact ⟨rfl, hbD.out⟩
            · clear hlt
              obtain ⟨ds, vd2, vde2, ex, k1, k2, k3, k4, k5, k6, k7, k8, k9, k10, k11, k12⟩ := hI.out
              have hR9 := Lib.hid ((hR5.out.over k11).over ((Below.refl _ wr).alloc (Nat.le_refl _) (.cells #[] 3)))
              have hR10 := Lib.hid (hR5.out.over k11)
              have hex : RL wr D2 ex := by
                rw [← k5] at k6
                obtain ⟨D', c', e, hR⟩ := own_RL k6
                injection e with e1
                rw [e1]
                exact hR
              have hcf9 := Lib.hid (hcf5.out.over k11)
              have hbw9 := Lib.hid (hb05.out.trans (k11.mono hb05.out.size))
              replace hex := Lib.hid hex
              replace k1 := Lib.hid k1
              replace k2 := Lib.hid k2
              replace k3 := Lib.hid k3
              replace k4 := Lib.hid k4
              replace k5 := Lib.hid k5
              replace k8 := Lib.hid k8
              replace k9 := Lib.hid k9
              clear k6 k7 k10 k11 k12 hI hL hbI
              go_wp2_with (at_builtin; refine wpList_append_RL rfl _ _ rfl wr.heap.size _ 0 [] rfl (World.ownsRow_made (base := wr.heap.size) wr #[] 0 (Nat.le_refl _) (by decide) (by simp)) D m cap o i1.out rfl (fun e => hDn.out e) hR9.out (by omega) (by simp) ?g4)
              case g4 =>
                intro v8 w8 own8 hg8'
                have hb8 : Below wr.heap.size wr w8 := ((Below.refl _ wr).alloc (Nat.le_refl _) _).grown hg8' (by simp) (fun j e => by cases e; exact Nat.le_refl _)
                have own8' : w8.ownsRow wr.heap.size 3 1 v8 m (iv o) := by simpa using own8
                have hz8 := hb8.size
                have hR11 := Lib.hid (hR10.out.over hb8)
                replace own8' := Lib.hid own8'
                replace hb8 := Lib.hid hb8
                clear own8 hg8' hR9 d1 dl
                go_wp2_with (at_builtin; refine wpList_append_RL rfl _ _ rfl wr.heap.size _ m (iv o) rfl own8'.out D m cap o i1.out rfl (fun e => hDn.out e) hR11.out (by omega) hz8 ?g5)
                case g5 =>
                  intro v9 w9 own9 hg9
                  have hb9 : Below wr.heap.size wr w9 := hb8.out.grown hg9 hz8 (fun j e => (own8'.out.lt j e).1)
                  have own9' : w9.ownsRow wr.heap.size 3 1 v9 (o ++ o).length (iv (o ++ o)) := by
                    rw [List.length_append, i1.out, show iv (o ++ o) = iv o ++ iv o by simp [iv]]
                    exact own9
                  obtain ⟨D9, c9, e9, hR9⟩ := own_RL own9'
                  subst e9
                  have hcf10 := hcf9.out.over hb9
                  have hF := Lib.hid (Follows_t w9 hcf10 hV60 hcl.out (by have := hcs.out; omega) D9 (o ++ o) c9 hR9 (by rw [List.length_append, i1.out]; omega))
                  have hd10 := Lib.hid (k1.out.over hb9)
                  have ho10 := Lib.hid (hR10.out.over hb9)
                  have hx10 := Lib.hid (hex.out.over hb9)
                  have hbA := Lib.hid (hbw9.out.trans (hb9.mono hbw9.out.size))
                  replace hcf10 := Lib.hid hcf10
                  clear hb9 own9' own9 hg9 hb8 own8' hz8 hR11 hR10 hcf9 hbw9 hex k1 hR9
                  obtain ⟨no, hno⟩ : ∃ no, (o ++ o).length = no := ⟨_, rfl⟩
                  rw [hno] at hF ⊢
                  replace hno := Lib.hid hno
                  go_wp2_with fail
                  (with_reducible refine hF.out.mono ?_)
                  rintro e w10 ⟨bb, rfl, hbb1, hbb2⟩
                  obtain rfl : bb = bw := fin_same hbw1.out hbb1
                  have hcf11 := hcf10.out.over hbb2
                  have hd11 := hd10.out.over hbb2
                  have ho11 := ho10.out.over hbb2
                  have hx11 := Lib.hid (hx10.out.over hbb2)
                  have hbB := Lib.hid (hbA.out.trans (hbb2.mono hbA.out.size))
                  clear hF hcf10 hd10 ho10 hx10 hbA hbb2 hbb1
                  cases bb
                  · clear hcf11 hd11 ho11 hx11
                    go_wp2_with fail
                    go_ret
                    exact ⟨rfl, hbB.out⟩
                  · obtain ⟨fo, fc⟩ := hbw1.out.1 rfl
                    have hF2 := Follows_t w10 hd11 hV60 (fun c hc => fgn_in (k2.out c hc).2.2) (by have := hcs.out; have := k3.out; omega) D o cap ho11 (by have := i1.out; omega)
                    have hds : Fails ds (fun x => -x ∈ o) := fc.more (fun c hc => k4.out c hc) fun x hx => .given x hx
                    have hes : Fails cs (fun x => -x ∈ ex) := fc.more (fun c hc => hc) fun x hx => .given x (k8.out _ hx)
                    rw [i1.out] at hF2
                    replace hF2 := Lib.hid hF2
                    replace hcf11 := Lib.hid hcf11
                    clear hd11 ho11
                    go_wp2_with fail
                    (with_reducible refine hF2.out.mono ?_)
                    rintro e w11 ⟨b2, rfl, hq1, hq2⟩
                    obtain rfl : b2 = true := hq1.2 ⟨fo, hds⟩
                    have hF3 := Follows_t w11 (hcf11.out.over hq2) hV60 hcl.out (by have := hcs.out; omega) D2 ex cp2 (hx11.out.over hq2) (by have := k5.out; omega)
                    have hbC := Lib.hid (hbB.out.trans (hq2.mono hbB.out.size))
                    rw [k5.out] at hF3
                    replace hF3 := Lib.hid hF3
                    clear hF2 hq1 hq2 hcf11 hx11 hbB
                    go_wp2_with fail
                    (with_reducible refine hF3.out.mono ?_)
                    rintro e w12 ⟨b3, rfl, hq1, hq2⟩
                    obtain rfl : b3 = true := hq1.2 ⟨not_any k9.out, hes⟩
                    have hbD := Lib.hid (hbC.out.trans (hq2.mono hbC.out.size))
                    clear hF3 hq1 hq2 hbC hes hds fo fc
                    go_wp2_with fail
                    go_ret
                    exact ⟨rfl, hbD.out⟩
end Go.Proofs.Ytembgefbmecdbaa
