/-
  Graph.Cone.
-/
import Derived.Test.YtinfkjflomdhbaaHd
namespace Go.Proofs.Ytinfkjflomdhbaa
open Go.RowKit Go.Lib Go.Maps
/-- The nodes of those numbers that are literals. -/
def nds (N : Nat) (l : List Int) : List Nat := (l.filter fun x => !foreign N x).map fun x => (x / 2).toNat
theorem nds_take (N : Nat) (l : List Int) (k : Nat) (h : k < l.length) : nds N (l.take (k + 1)) = if foreign N (l.getD k 0) then nds N (l.take k) else nds N (l.take k) ++ [((l.getD k 0) / 2).toNat] := by
  have hg : l.getD k 0 = l[k] := by rw [List.getD_eq_getElem?_getD, List.getElem?_eq_getElem h]; rfl
  unfold nds
  rw [List.take_succ_eq_append_getElem h, List.filter_append, List.map_append, hg]
  cases e : foreign N l[k] with
  | true => simp [e]
  | false => simp [e]
theorem info_in1 : (Try.prog.info? 3).map (fun i => (i.zero, i.size, i.bytes)) = some (some (.int .i64 0), 1, 8) := by kernel_rfl
theorem RL.one (w : World) (a : Int) : RL (w.alloc (.cells #[.int .i64 a] 3)) (some ⟨w.heap.size, 0, none⟩) [a] := fun _ => by
  have hb := heap_alloc_new w (.cells #[.int .i64 a] 3)
  refine ⟨w.heap.size, 0, rfl, lt_of_get hb, fun j hj => ?_⟩
  rw [Lib.cell_of_heap hb]
  have : j = 0 := by simpa using hj
  subst this
  rfl
set_option maxRecDepth 100000 in
set_option maxHeartbeats 6400000 in
theorem Cone_t {B p : Nat} {F : List PN} (A : Option Addr) (c : Nat) (l : List Int) (w : World) (h : GI w B p F) (hA : RL w A l) (hl : l.length ≤ 1000) (hlb : ∀ x ∈ l, x < 4611686018427387904) (hsF : F.length ≤ 1000) :
    Calls Try.prog 21 #[pg p, .slice A l.length c] w fun e w' => ∃ v, e = .returned v ∧ w'.ownsRow w.heap.size 3 1 v (upC (cdn F (F.length - 1) (mks (List.replicate F.length false) (nds F.length l))) 0 F.length).length (iv (upC (cdn F (F.length - 1) (mks (List.replicate F.length false) (nds F.length l))) 0 F.length)) ∧ Below w.heap.size w w' := by
  obtain ⟨i0, hi, hz0, hz1, hz2⟩ := info_parts info_bool
  obtain ⟨j0, hj, hy0, hy1, hy2⟩ := info_parts info_in1
  have hwf := h.wf
  have hpos := hwf.pos
  have hL := Len_t w h
  obtain ⟨N, hN⟩ : ∃ n, F.length = n := ⟨_, rfl⟩
  obtain ⟨n, hn⟩ : ∃ n, l.length = n := ⟨_, rfl⟩
  rw [hN] at hL hpos hsF ⊢
  rw [hn] at hl ⊢
  unfold RW at hL
  obtain ⟨C, hC0⟩ : ∃ C, cdn F (N - 1) (mks (List.replicate N false) (nds N l)) = C := ⟨_, rfl⟩
  rw [hC0]
  have hCl : C.length = N := by rw [← hC0, cdn_len, mks_len, List.length_replicate]
  have hge := fun k (Q : List Bool) (h : cdn F k Q = C) => h ▸ cdn_ge hwf k k Q (Nat.le_refl _)
  replace hC0 := Lib.hid hC0
  replace hCl := Lib.hid hCl
  replace hge := Lib.hid hge
  have hb1 : i0.bytes * N ≤ 281474976710656 := by rw [hz2]; omega
  have hb2 : N ≤ maxLen := by unfold maxLen; omega
  have hgd : ∀ k, k < n → l.getD k 0 ∈ l := fun k hk => by rw [List.getD_eq_getElem?_getD, List.getElem?_eq_getElem (by omega)]; exact List.getElem_mem _
  replace hL := Lib.hid hL
  replace hN := Lib.hid hN
  replace hn := Lib.hid hn
  replace hb1 := Lib.hid hb1
  replace hb2 := Lib.hid hb2
  replace h := Lib.hid h
  replace hA := Lib.hid hA
  replace hwf := Lib.hid hwf
  replace hlb := Lib.hid hlb
  replace hgd := Lib.hid hgd
  go_enter Try.func21, Try.ntmps21
  go_wp2_with fail
  (with_reducible refine hL.out.mono ?_)
  rintro e w9 ⟨rfl, hw9⟩
  subst hw9
  go_wp2_with (first
    | (at_make; refine wpList_make_full _ rfl _ _ 23 rfl w.heap.size 4 i0 (.bool false) 1 Try.underlying23 hi hz0 hz1 .i64 .i64 (N : Int) (N : Int) N rfl rfl rfl rfl hb1.out hb2.out (Nat.le_refl _) ?_; intro w1 ho1 hg1; replace ho1 := Lib.hid ho1; replace hg1 := Lib.hid hg1)
    | fail)
  obtain ⟨g, hg⟩ : ∃ g, w.heap.size = g := ⟨_, rfl⟩
  have hblk : w1.heap[g]? = some (.cells (bcl (List.replicate N false)).toArray 4 (0, 0)) := by
    have h1 := ho1.out
    obtain ⟨h2, h3⟩ := h1
    rcases h3 with ⟨e, h4⟩ | ⟨g', cap, cur, e, hb, hgg, _, _, hsz, ht⟩
    · omega
    · cases e
      rw [hg] at hgg
      rw [hgg]
      have hcur : cur = (bcl (List.replicate N false)).toArray := by
        rw [← made_bools]
        apply Array.ext'
        rw [← ht, List.take_of_length_le (by simp; omega)]
      rw [hcur]
  have hbe1 : Below w.heap.size w w1 := ⟨hg1.out.os, hg1.out.tape, hg1.out.output, hg1.out.size, fun k hk => hg1.out.block k hk (by simp)⟩
  have hg2 : w.heap.size ≤ g := by omega
  rw [hg]
  replace hblk := Lib.hid hblk
  replace hbe1 := Lib.hid hbe1
  clear ho1 hg1 hL hb1 hb2
  have hgw := Lib.hid hg
  clear hg
  go_wp2_with fail
  go_loopw [18] (fun iw wr => ∃ k : Nat, k ≤ n ∧ iw = .int .i64 (k : Int) ∧ wr.heap[g]? = some (.cells (bcl (mks (List.replicate N false) (nds N (l.take k)))).toArray 4 (0, 0)) ∧ Below w.heap.size w wr) (fun iw _ => n - (intOf iw).toNat)
  case atStart => exact ⟨0, by omega, rfl, by rw [List.take_zero]; exact hblk.out, hbe1.out⟩
  case round =>
    obtain ⟨k, hk, rfl, hbk, hbw⟩ := hrel
    clear hblk hbe1
    by_cases hlt : k < n
    · obtain ⟨b, off, rfl, hbl, hcl⟩ := hA.out.over hbw (by rw [hn.out]; omega)
      have c0 := hcl k (by rw [hn.out]; exact hlt)
      have htk := nds_take N l k (by rw [hn.out]; exact hlt)
      have hxb := hlb.out _ (hgd.out k hlt)
      obtain ⟨x, hx⟩ : ∃ x, l.getD k 0 = x := ⟨_, rfl⟩
      rw [hx] at c0 htk hxb
      have hwb := hbw.size
      have hbx := (Below.refl wr.heap.size wr).alloc (Nat.le_refl _) (.cells #[.int .i64 x] 3)
      have hH : Calls Try.prog 29 #[pg p, .slice (some ⟨wr.heap.size, 0, none⟩) 1 1] (wr.alloc (.cells #[.int .i64 x] 3)) (RV (wr.alloc (.cells #[.int .i64 x] 3)) (.bool (!foreign N x))) := by
        have h1 := has_t [x] (some ⟨wr.heap.size, 0, none⟩) 1 (wr.alloc (.cells #[.int .i64 x] 3)) ((h.out.over hbw).over hbx) (RL.one wr x) (by simp) (by simp; exact hxb)
        rw [hN.out] at h1
        have e : (!([x]).any (foreign N)) = !foreign N x := by simp
        rw [e] at h1
        exact h1
      unfold RV at hH
      have hbu : Below w.heap.size w (wr.alloc (.cells #[.int .i64 x] 3)) := hbw.alloc hwb _
      have gl := lt_of_get hbk
      have hbk2 := (hbx.block g gl).trans hbk
      have hml := mks_len (nds N (l.take k)) (List.replicate N false)
      rw [List.length_replicate] at hml
      replace hxb := Lib.hid hxb
      cases hf : foreign N x with
      | true =>
        rw [hf] at hH htk
        rw [if_pos rfl] at htk
        replace hH := Lib.hid hH
        replace hbu := Lib.hid hbu
        replace hbk2 := Lib.hid hbk2
        replace htk := Lib.hid htk
        clear hcl hx hbx hbk hbw hml hwb hf
        go_wp2_with fail
        (with_reducible refine hH.out.mono ?_)
        rintro e w2 ⟨rfl, hb2⟩
        have hb3 := hbu.out.trans (hb2.mono hbu.out.size)
        have hbk3 := (hb2.block g (lt_of_get hbk2.out)).trans hbk2.out
        rw [← htk.out] at hbk3
        replace hb3 := Lib.hid hb3
        replace hbk3 := Lib.hid hbk3
        clear hb2
        go_wp2_with fail
        go_roundw
        case rel => exact ⟨k + 1, by omega, by go_num, hbk3.out, hb3.out⟩
        case measure => simp [intOf]; omega
      | false =>
        rw [hf] at hH htk
        rw [if_neg (by decide)] at htk
        have hxn : ∃ a : Nat, x = (a : Int) ∧ a / 2 < N := by
          unfold foreign at hf
          simp at hf
          exact ⟨x.toNat, by omega, by omega⟩
        obtain ⟨a, rfl, haN⟩ := hxn
        have hxt : ((a : Int) / 2).toNat = a / 2 := by omega
        rw [hxt] at htk
        have hab : a < 1000000 := by omega
        have hNd := fun W => node_t a W (by omega)
        unfold RW at hNd
        have htk2 : bcl (mks (List.replicate N false) (nds N (l.take (k + 1)))) = bcl ((mks (List.replicate N false) (nds N (l.take k))).set (a / 2) true) := by rw [htk, mks_snoc]
        obtain ⟨P, hP⟩ : ∃ P, mks (List.replicate N false) (nds N (l.take k)) = P := ⟨_, rfl⟩
        rw [hP] at hbk2 htk2 hml
        obtain ⟨y, hy⟩ : ∃ y, a / 2 = y := ⟨_, rfl⟩
        rw [hy] at hNd htk2 haN
        replace hNd := Lib.hid hNd
        replace hH := Lib.hid hH
        replace hbu := Lib.hid hbu
        replace hbk2 := Lib.hid hbk2
        replace htk := Lib.hid htk
        replace htk2 := Lib.hid htk2
        replace hml := Lib.hid hml
        replace hy := Lib.hid hy
        clear hcl hx hbx hbk hbw hwb hf hP hxt
        go_wp2_with fail
        (with_reducible refine hH.out.mono ?_)
        rintro e w2 ⟨rfl, hb2⟩
        have hb3 := hbu.out.trans (hb2.mono hbu.out.size)
        have hbk3 := (hb2.block g (lt_of_get hbk2.out)).trans hbk2.out
        have gl3 := lt_of_get hbk3
        have gz : w2.frozen? ⟨g, y, none⟩ = false := Lib.frozen_of_heap hbk3 y
        have gc : w2.cell? ⟨g, y, none⟩ = some (.bool (P.getD y false)) := bcl_cell hbk3 y (by rw [hml.out]; exact haN)
        have hset := heap_set w2 g y _ _ (.bool true) hbk3
        rw [bcl_set, ← htk2.out] at hset
        have hb4 : Below w.heap.size w (w2.setCell ⟨g, y, none⟩ (.bool true)) := Below.setCell (p := ⟨g, y, none⟩) hb3 hg2 _
        replace hset := Lib.hid hset
        replace hb4 := Lib.hid hb4
        clear hb2 hb3 hbk3
        go_wp2_with fail
        (with_reducible refine (hNd.out _).mono ?_)
        rintro e w9 ⟨rfl, hw9⟩
        subst hw9
        go_wp2_with fail
        go_roundw
        case rel => exact ⟨k + 1, by omega, by go_num, hset.out, hb4.out⟩
        case measure => simp [intOf]; omega
    · obtain rfl : k = n := by omega
      have htk : l.take k = l := by rw [← hn.out, List.take_length]
      rw [htk] at hbk
      have hml := mks_len (nds N l) (List.replicate N false)
      rw [List.length_replicate] at hml
      obtain ⟨P, hP⟩ : ∃ P, mks (List.replicate N false) (nds N l) = P := ⟨_, rfl⟩
      rw [hP] at hbk hml
      have hC := hC0.out
      rw [hP] at hC
      replace hbk := Lib.hid hbk
      replace hbw := Lib.hid hbw
      replace hC := Lib.hid hC
      replace hml := Lib.hid hml
      clear htk hP hA hlb hgd
      go_wp2_with fail
      go_loopw [8, 9] (fun cv iw wr => ∃ (k : Nat) (Q : List Bool) (Ac : Option Addr) (cc m : Nat), k < N ∧ iw = .int .i64 (k : Int) ∧ cdn F k Q = C ∧ Q.length = N ∧ wr.heap[g]? = some (.cells (bcl Q).toArray 4 (0, 0)) ∧ cv = .slice Ac m cc ∧ m + k < N ∧ m = (upC C k N).length ∧ wr.ownsRow w.heap.size 3 1 (.slice Ac m cc) m (iv (upC C k N).reverse) ∧ Below w.heap.size w wr) (fun _ iw _ => (intOf iw).toNat)
      case atStart =>
        refine ⟨N - 1, P, none, 0, 0, by omega, by congr 1; omega, hC.out, hml.out, hbk.out, rfl, by omega, ?_, ?_, hbw.out⟩
        · rw [upC_top]; rfl
        · rw [upC_top]; exact World.ownsRow_nil _ _ _ _
      case round =>
        obtain ⟨k, Q, Ac, cc, m, hk, rfl, hQ, hQl, hbq, rfl, hmk, hm, hown, hbw2⟩ := hrel
        clear hbk hbw hC hml
        by_cases hk0 : 0 < k
        · obtain ⟨k', rfl⟩ : ∃ k', k = k' + 1 := ⟨k - 1, by omega⟩
          have gl := lt_of_get hbq
          have gc : wr.cell? ⟨g, k' + 1, none⟩ = some (.bool (Q.getD (k' + 1) false)) := bcl_cell hbq (k' + 1) (by omega)
          have hqc := hge.out (k' + 1) Q hQ
          have hup := upC_step C k' N (by omega)
          rw [hqc] at hup
          have hQ' : cdn F k' (cst F Q (k' + 1)) = C := hQ
          have hkF : F[k' + 1]? = some (F[k' + 1]'(by rw [hN.out]; exact hk)) := List.getElem?_eq_getElem _
          have hkD : F.getD (k' + 1) (0, 0) = F[k' + 1]'(by rw [hN.out]; exact hk) := by rw [List.getD_eq_getElem?_getD, hkF]; rfl
          obtain ⟨⟨a, b⟩, hab⟩ : ∃ q, F[k' + 1]'(by rw [hN.out]; exact hk) = q := ⟨_, rfl⟩
          rw [hab] at hkF hkD
          have hcast : (((k' + 1 : Nat) : Int)) - 1 = (k' : Int) := by omega
          have hkb : k' + 1 ≤ 1000 := by omega
          cases hb : Q.getD (k' + 1) false with
          | false =>
            rw [hb] at gc hup
            rw [if_neg (by decide)] at hup
            have hcs : cst F Q (k' + 1) = Q := by unfold cst; rw [if_neg]; intro h; rw [hb] at h; exact absurd h.1 (by decide)
            rw [hcs] at hQ'
            replace hup := Lib.hid hup
            replace hQ' := Lib.hid hQ'
            replace hbq := Lib.hid hbq
            replace hown := Lib.hid hown
            replace hbw2 := Lib.hid hbw2
            replace hm := Lib.hid hm
            clear hQ hqc hkF hkD hab hb hcs
            obtain ⟨kk, hkk⟩ : ∃ kk, k' + 1 = kk := ⟨_, rfl⟩
            have hkk2 : ((kk : Nat) : Int) - 1 = (k' : Int) := by omega
            rw [hkk] at gc hk hk0 hkb hmk ⊢
            replace hkk := Lib.hid hkk
            clear hcast
            go_wp2_with fail
            go_roundw
            case rel => exact ⟨k', Q, Ac, cc, m, by have := hkk.out; omega, by go_num, hQ'.out, hQl, hbq.out, rfl, by have := hkk.out; omega, by rw [hup.out]; exact hm.out, by rw [hup.out]; exact hown.out, hbw2.out⟩
            case measure => (have := hkk.out; simp [intOf]; omega)
          | true =>
            rw [hb] at gc hup
            rw [if_pos rfl] at hup
            have hxl : (upC C k' N).length = m + 1 := by rw [hup, List.length_cons, hm]
            have hrev : iv (upC C k' N).reverse = iv (upC C (k' + 1) N).reverse ++ [.int .i64 ((k' + 1 : Nat) : Int)] := by rw [hup, List.reverse_cons, iv_append]; rfl
            have hws := hbw2.size
            have hlow := own_ltT hown
            have hgn : (Value.slice Ac m cc).ownBlock ≠ some g := fun e => by
              obtain ⟨cur, hc⟩ := own_blk hown g e
              rw [hbq] at hc
              cases hc
            have hbx := (Below.refl wr.heap.size wr).alloc (Nat.le_refl _) (.cells #[.int .i64 ((k' + 1 : Nat) : Int)] 3)
            have hR := heap_alloc_new wr (.cells #[.int .i64 ((k' + 1 : Nat) : Int)] 3)
            have hown4 := hown.alloc (.cells #[.int .i64 ((k' + 1 : Nat) : Int)] 3)
            have hbk4 := (hbx.block g gl).trans hbq
            have hb4 := hbw2.alloc hws (.cells #[.int .i64 ((k' + 1 : Nat) : Int)] 3)
            have s4 : (wr.alloc (.cells #[.int .i64 ((k' + 1 : Nat) : Int)] 3)).heap.size = wr.heap.size + 1 := by simp
            have haft : ∀ w6, (wr.alloc (.cells #[.int .i64 ((k' + 1 : Nat) : Int)] 3)).grownBy w6 (Value.slice Ac m cc).ownBlock → w6.heap[g]? = some (.cells (bcl Q).toArray 4 (0, 0)) ∧ Below w.heap.size w w6 := fun w6 hg6 =>
              ⟨(hg6.block g (by rw [s4]; omega) fun e => hgn e.symm).trans hbk4, hb4.grown hg6 hb4.size fun q hq => (hlow q hq).1⟩
            have hx1 : m + 1 ≤ maxLen := by unfold maxLen; omega
            have hFan := fun (W : World) (hW : GI W B p F) => Fan_t (k' + 1) (a, b) W hW hkF
            have hcst : cst F Q (k' + 1) = if a ≠ 0 then (Q.set (a / 2) true).set (b / 2) true else Q := by
              unfold cst
              rw [hkD]
              simp only
              by_cases e : a = 0
              · rw [if_neg (fun h => h.2 e), if_neg (fun h => h e)]
              · rw [if_pos ⟨hb, e⟩, if_pos e]
            have hor := hwf.out.ok (k' + 1) _ hkF
            simp only at hFan hor
            obtain ⟨kk, hkk⟩ : ∃ kk, k' + 1 = kk := ⟨_, rfl⟩
            rw [hkk] at hrev hR hown4 s4 haft hFan hor gc hk hkb hmk hcst
            rw [hkk] at hQ'
            have hkk2 : (kk : Int) - 1 = (k' : Int) := by omega
            have hk1 : 0 < kk := by omega
            rw [hkk]
            replace hkk := Lib.hid hkk
            replace hor := Lib.hid hor
            replace hcst := Lib.hid hcst
            replace hxl := Lib.hid hxl
            replace hrev := Lib.hid hrev
            replace hR := Lib.hid hR
            replace hown4 := Lib.hid hown4
            replace s4 := Lib.hid s4
            replace haft := Lib.hid haft
            replace hx1 := Lib.hid hx1
            replace hFan := Lib.hid hFan
            replace hQ' := Lib.hid hQ'
            replace hm := Lib.hid hm
            replace hws := Lib.hid hws
            clear hQ hqc hup hkF hkD hab hb hgn hbx hbk4 hb4 hlow hown hbq hbw2 hcast hk0
            go_wp2_with (first
              | (at_builtin; refine wpList_append_lies _ rfl _ _ 27 rfl w.heap.size 3 j0 (.int .i64 0) 1 8 Try.underlying27 hj hy0 hy1 hy2 rfl (by decide) _ m (iv (upC C kk N).reverse) rfl hown4.out ⟨wr.heap.size, 0, none⟩ 1 1 [.int .i64 (kk : Int)] (by simp [Act.eval]) rfl (World.news_of_block hR.out) (by simp [Value.oneCell']) (by decide) hx1.out (by omega) (by rw [s4.out]; have := hws.out; omega) _ rfl ?_; intro g6 cap6 w6 ho6 hg6 hgb6 hlt6; obtain ⟨hq6, hb6⟩ := haft.out w6 hg6; rw [← hrev.out] at ho6; replace ho6 := Lib.hid ho6; replace hq6 := Lib.hid hq6; replace hb6 := Lib.hid hb6; clear hg6 hgb6)
              | fail)
            (with_reducible refine (hFan.out _ (h.out.over hb6.out)).mono ?_)
            rintro e w7 ⟨rfl, q, hw7⟩
            subst hw7
            have hb7 : Below w.heap.size w (w6.drewN q) := hb6.out.trans ((bdn w6 q).mono hb6.out.size)
            have ho7 := own_keepT (w' := w6.drewN q) ho6.out fun _ _ => rfl
            by_cases ha : a = 0
            · have hd : decide (a ≠ 0) = false := by simp [ha]
              have hcs := hcst.out
              rw [if_neg (fun h => h ha)] at hcs
              have hQ2 := hQ'.out
              rw [hcs] at hQ2
              replace hQ2 := Lib.hid hQ2
              replace hb7 := Lib.hid hb7
              replace ho7 := Lib.hid ho7
              rw [hd]
              clear hcs ho6 hb6 hd ha hR hown4 haft hFan gc
              go_wp2_with fail
              go_roundw
              case rel => exact ⟨k', Q, _, cap6, m + 1, by have := hkk.out; omega, by go_num, hQ2.out, hQl, hq6.out, rfl, by have := hkk.out; omega, hxl.out.symm, ho7.out, hb7.out⟩
              case measure => (have := hkk.out; simp [intOf]; omega)
            · have hd : decide (a ≠ 0) = true := by simp [ha]
              have hcs := hcst.out
              rw [if_pos ha] at hcs
              have hQ2 := hQ'.out
              rw [hcs] at hQ2
              have hab : 2 ≤ a ∧ a < b ∧ b / 2 < kk ∧ b ≠ nt a := by
                rcases hor.out with e | e
                · exact absurd (Prod.mk.inj e).1 ha
                · exact e
              have hxy : a / 2 < b / 2 := by
                obtain ⟨h1, h2, _, h4⟩ := hab
                unfold nt at h4
                split at h4 <;> omega
              have hNa := fun W => node_t a W (by omega)
              have hNb := fun W => node_t b W (by omega)
              unfold RW at hNa hNb
              have hyk := hab.2.2.1
              obtain ⟨x, hx⟩ : ∃ x, a / 2 = x := ⟨_, rfl⟩
              obtain ⟨y, hy⟩ : ∃ y, b / 2 = y := ⟨_, rfl⟩
              rw [hx] at hNa hQ2 hxy
              rw [hy] at hNb hQ2 hxy hyk
              have hq7 : (w6.drewN q).heap[g]? = some (.cells (bcl Q).toArray 4 (0, 0)) := hq6.out
              obtain ⟨w7, hw7⟩ : ∃ W, w6.drewN q = W := ⟨_, rfl⟩
              rw [hw7] at hq7 hb7 ho7 ⊢
              have gl7 := lt_of_get hq7
              have z0 : ∀ i, w7.frozen? ⟨g, i, none⟩ = false := fun i => Lib.frozen_of_heap hq7 i
              have zx := z0 x
              have zy := z0 y
              have dx : w7.cell? ⟨g, x, none⟩ = some (.bool (Q.getD x false)) := bcl_cell hq7 x (by omega)
              have dy : w7.cell? ⟨g, y, none⟩ = some (.bool (Q.getD y false)) := bcl_cell hq7 y (by omega)
              have h8 := heap_set w7 g x _ _ (.bool true) hq7
              rw [bcl_set] at h8
              have h9 := heap_set _ g y _ _ (.bool true) h8
              rw [bcl_set] at h9
              have hb9 : Below w.heap.size w ((w7.setCell ⟨g, x, none⟩ (.bool true)).setCell ⟨g, y, none⟩ (.bool true)) := Below.setCell (p := ⟨g, y, none⟩) (Below.setCell (p := ⟨g, x, none⟩) hb7 hg2 _) hg2 _
              have hgn : (Value.slice (some ⟨g6, 0, none⟩) (m + 1) cap6).ownBlock ≠ some g := fun e => by
                obtain ⟨cur, hc⟩ := own_blk ho7 g e
                rw [hq7] at hc
                cases hc
              have ho9 : ((w7.setCell ⟨g, x, none⟩ (.bool true)).setCell ⟨g, y, none⟩ (.bool true)).ownsRow w.heap.size 3 1 (.slice (some ⟨g6, 0, none⟩) (m + 1) cap6) (m + 1) (iv (upC C k' N).reverse) :=
                own_keepT ho7 fun b hb => (Below.heap_setCell _ _ _ _ (by intro e; exact hgn (by rw [hb, e]))).trans (Below.heap_setCell _ _ _ _ (by intro e; exact hgn (by rw [hb, e])))
              have hQl2 : ((Q.set x true).set y true).length = N := by rw [List.length_set, List.length_set]; exact hQl
              have hxyn : x ≠ y := by omega
              have hxN : x < N := by omega
              have hyN : y < N := by omega
              replace hQ2 := Lib.hid hQ2
              replace h9 := Lib.hid h9
              replace hb9 := Lib.hid hb9
              replace ho9 := Lib.hid ho9
              replace hNa := Lib.hid hNa
              replace hNb := Lib.hid hNb
              replace hx := Lib.hid hx
              replace hy := Lib.hid hy
              replace hQl2 := Lib.hid hQl2
              rw [hd]
              clear hcs ho6 hb6 hd ha hR hown4 haft hFan gc hab hq6 hq7 hb7 ho7 h8 z0 hgn hw7
              go_wp2_with fail
              (with_reducible refine (hNa.out _).mono ?_)
              rintro e w8 ⟨rfl, hw8⟩
              subst hw8
              go_wp2_with fail
              (with_reducible refine (hNb.out _).mono ?_)
              rintro e w8 ⟨rfl, hw8⟩
              subst hw8
              go_wp2_with fail
              go_roundw
              case rel => exact ⟨k', _, _, cap6, m + 1, by have := hkk.out; omega, by go_num, hQ2.out, hQl2.out, h9.out, rfl, by have := hkk.out; omega, hxl.out.symm, ho9.out, hb9.out⟩
              case measure => (have := hkk.out; simp [intOf]; omega)
        · obtain rfl : k = 0 := by omega
          have hfin := Rev_t (.slice Ac m cc) (upC C 0 N).reverse wr (by rw [List.length_reverse, ← hm]; exact hown) (by rw [List.length_reverse, ← hm]; omega)
          rw [List.reverse_reverse, List.length_reverse] at hfin
          have hlow := own_ltT hown
          have hws := hbw2.size
          replace hfin := Lib.hid hfin
          replace hm := Lib.hid hm
          replace hlow := Lib.hid hlow
          replace hbw2 := Lib.hid hbw2
          clear hown hbq hQ hk0
          go_wp2_with fail
          (with_reducible refine hfin.out.mono ?_)
          rintro e w5 ⟨rfl, ho5, hk5⟩
          have hb5 : Below w.heap.size w w5 := hbw2.out.trans (hk5.below hws fun b hb => (hlow.out b hb).1)
          replace ho5 := Lib.hid ho5
          replace hb5 := Lib.hid hb5
          clear hk5
          go_wp2_with fail
          go_ret
          exact ⟨_, rfl, ho5.out, hb5.out⟩
end Go.Proofs.Ytinfkjflomdhbaa
