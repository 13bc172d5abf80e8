/-
  AigOnce walked.
-/
import Derived.Test.YtinfkjflomdhbaaGu
namespace Go.Proofs.Ytinfkjflomdhbaa
open Go.RowKit Go.Lib Go.Maps
theorem pairArr : WideMaps.ArrKey Try.prog 39 3 2 := ⟨Try.underlying39, by kernel_rfl, by kernel_rfl, by kernel_rfl⟩
theorem kF2 : Keyed Try.prog 39 := Keyed.of_law (deep_law_laid laidOut (m := 2) (by omega) (of_decide_eq_true (by kernel_rfl)) (by kernel_rfl) (by rw [Try.underlying39]))
theorem key_mk2 {a b : Nat} (ha : a < 1000000) (hb : b < 1000000) : keyOf Try.prog 39 (.agg #[.int .i64 (a : Int), .int .i64 (b : Int)]) = some (kl (a, b)) :=
  WideMaps.keyOf_pair pairArr Try.underlying3 types_pos (wf_small ha) (wf_small hb)
abbrev MapI2 (w : World) (m n : Nat) (D : DU) : Prop := w.ownsMap Try.prog 39 (plainElem (H := Unit) Try.prog 3) m n D
theorem map2_keep {w w' : World} {m n : Nat} {D : DU} (h : MapI2 w m n D) (k : w'.heap[m]? = w.heap[m]?) : MapI2 w' m n D := by
  unfold MapI2 World.ownsMap at *
  rw [k]
  exact h
/-- What has not been seen is not there. -/
def SeenAg (D : DU) (F : List PN) (k : Nat) : Prop := IsMap D ∧ ∀ x y : Nat, x < 1000000 → y < 1000000 → (∀ i : Nat, i < k → F[i]? ≠ some (x, y)) → ∀ z, D.atKey (kl (x, y)) z = z
theorem SeenAg.new (F : List PN) (k : Nat) : SeenAg (.map []) F k := ⟨isMap_empty, fun _ _ _ _ _ _ => rfl⟩
theorem SeenAg.mono {D : DU} {F : List PN} {k : Nat} (h : SeenAg D F k) : SeenAg D F (k + 1) := ⟨h.1, fun x y hx hy hi => h.2 x y hx hy fun i h' => hi i (by omega)⟩
theorem SeenAg.put {D : DU} {F : List PN} {k a b : Nat} {v : DU} (h : SeenAg D F k) (hq : F[k]? = some (a, b)) (ha : a < 1000000) (hb : b < 1000000) : SeenAg (D.put (kl (a, b)) v) F (k + 1) :=
  ⟨h.1.put _ _, fun x y hx hy hi z => by
    have hne : kl (x, y) ≠ kl (a, b) := fun e => by
      have := kl_inj (p := (x, y)) (q := (a, b)) ⟨hx, hy⟩ ⟨ha, hb⟩ e
      exact hi k (by omega) (by rw [hq, this])
    rw [atKey_put_other hne]
    exact h.2 x y hx hy (fun i h' => hi i (by omega)) z⟩
theorem look_seen {w : World} {m n k : Nat} {D : DU} {F : List PN} (h : MapI2 w m n D) (hs : SeenAg D F k) {x y : Nat} (hx : x < 1000000) (hy : y < 1000000) (hi : ∀ i : Nat, i < k → F[i]? ≠ some (x, y)) :
    (Instr.lookup 36 (.map (some m)) (.agg #[.int .i64 (x : Int), .int .i64 (y : Int)]) false).run Try.prog w = .ok (.int .i64 0) w := by
  obtain ⟨c, hr, hc, _⟩ := World.ownsMap.lookup_int h kF2 Try.underlying36 Try.underlying3 (zI w) (key_mk2 hx hy)
  rw [hs.2 x y hx hy hi] at hc
  injection hc with hc
  injection hc with _ hc
  rw [hr, ← hc]
theorem andF_again {F : List PN} (h : WF F) {k a b : Nat} (hq : F[k]? = some (a, b)) (ha : a ≠ 0) : andF F b a = (F, 2 * k) := by
  obtain h0 | ⟨h1, h2, h3, h4⟩ := h.ok k _ hq
  · exact absurd (Prod.mk.inj h0).1 ha
  simp only at h1 h2 h4
  unfold andF
  rw [Nat.min_eq_right (by omega), Nat.max_eq_left (by omega), if_neg (by omega), if_neg (by omega), h.look hq (by intro e; exact ha (Prod.mk.inj e).1)]
set_option maxRecDepth 100000 in
theorem Fan_far {B p : Nat} {F : List PN} (w : World) (h : GI w B p F) : Calls Try.prog 15 #[pg p, .int .i64 (F.length : Int)] w (RW w (.tuple #[.int .i64 0, .int .i64 0, .bool false])) := by
  have hL := Len_t w h
  unfold RW at hL
  obtain ⟨N, hN⟩ : ∃ n, F.length = n := ⟨_, rfl⟩
  rw [hN] at hL ⊢
  replace hL := Lib.hid hL
  have d1 : decide ((N : Int) < 0) = false := by simp
  clear h hN
  go_enter Try.func15, Try.ntmps15
  go_wp2_with fail
  (with_reducible refine hL.out.mono ?_)
  rintro e w2 ⟨rfl, hw2⟩
  subst hw2
  go_wp2_with fail
  refine bodyPost_ret (v := .tuple #[.int .i64 0, .int .i64 0, .bool false]) (by simp [results, Try.results15, go_sem]) rfl ⟨rfl, rfl⟩
set_option maxRecDepth 100000 in
set_option maxHeartbeats 6400000 in
theorem once_t (A : Option Addr) (c0 : Nat) (l : List AC) (w : World) (hA : AL w A l) :
    Calls Try.prog 4 #[.slice A l.length c0] w (RV w (.bool true)) := by
  have hmm := @run_makeMap Try.prog
  have hAw := awake_t w
  have hP := fun W (h : Below w.heap.size w W) => plain_al A c0 l W (hA.over h)
  have hpl := plainA_len l
  obtain ⟨n0, hn0⟩ : ∃ n, l.length = n := ⟨_, rfl⟩
  rw [hn0] at hP ⊢
  obtain ⟨m, hm⟩ : ∃ m, plainA l = m := ⟨_, rfl⟩
  have hmk := plain_k l
  rw [hm] at hP hpl hmk
  have hBd := fun (A : Option Addr) (c : Nat) W (h : AL W A m) => build_rd A c m W h hmk (by omega)
  have hok := bdA_ok m
  obtain ⟨F, hF⟩ : ∃ F, (bdA m).F = F := ⟨_, rfl⟩
  have hwf := hok.wf
  have hfl := hok.fl
  rw [hF] at hwf hfl hBd
  have hLn := fun (B p : Nat) (W : World) (h : GI W B p F) => Len_t W h
  have hIn := fun (B p : Nat) (W : World) (h : GI W B p F) => Inputs_t W h
  have hFf := fun (B p : Nat) (W : World) (h : GI W B p F) => Fan_far W h
  have hF0 := fun (B p : Nat) (W : World) (h : GI W B p F) => Fan_t 0 (0, 0) W h hwf.hd
  have hab := fun (B p : Nat) (W : World) (h : GI W B p F) => And_bad (2 * (F.length : Int)) 0 W h (by omega) (by omega) (by unfold foreign; simp)
  have hob := fun (B p : Nat) (W : World) (h : GI W B p F) => Or_bad 0 (-1) W h (by omega) (by omega) (by unfold foreign; simp)
  have hmb := fun (B p : Nat) (W : World) (h : GI W B p F) => Mux_bad 0 0 (2 * (F.length : Int) + 1) W h (by omega) (by omega) (by omega) (by unfold foreign; simp; omega)
  have hpos := hwf.pos
  have hcz : cnt (F.take 1) = 0 := by unfold cnt; cases F <;> rfl
  have hcs : ∀ k, 0 < k → ∀ q : PN, F[k]? = some q → cnt (F.take (k + 1)) = cnt (F.take k) + if q.1 = 0 then 1 else 0 := fun k hk q hq => by
    have hkl := (List.getElem?_eq_some_iff.1 hq).1
    rw [List.take_add_one, hq]
    exact cnt_snoc _ _ (by rw [List.length_take]; omega)
  have hcl : ∀ k, cnt (F.take k) ≤ k := fun k => by
    have h1 : cnt (F.take k) ≤ (F.take k).tail.length := List.countP_le_length
    rw [List.length_tail, List.length_take] at h1
    omega
  obtain ⟨N, hN⟩ : ∃ N, F.length = N := ⟨_, rfl⟩
  rw [hN] at hfl hLn hFf hab hmb hpos
  have hce : F.take N = F := by rw [← hN, List.take_length]
  have hq : ∀ k, k < N → ∃ q : PN, F[k]? = some q := fun k hk => ⟨F[k]'(by omega), List.getElem?_eq_getElem (by omega)⟩
  have hNb : N ≤ 200 := by omega
  unfold RV at hAw hab hob hmb
  unfold RW at hLn hIn hFf
  simp only [Int.natCast_zero] at hF0
  replace hAw := Lib.hid hAw
  replace hP := Lib.hid hP
  replace hBd := Lib.hid hBd
  replace hLn := Lib.hid hLn
  replace hIn := Lib.hid hIn
  replace hFf := Lib.hid hFf
  replace hF0 := Lib.hid hF0
  replace hab := Lib.hid hab
  replace hob := Lib.hid hob
  replace hmb := Lib.hid hmb
  replace hcz := Lib.hid hcz
  replace hcs := Lib.hid hcs
  replace hcl := Lib.hid hcl
  replace hN := Lib.hid hN
  replace hce := Lib.hid hce
  replace hq := Lib.hid hq
  replace hwf := Lib.hid hwf
  clear hA hn0 hm hmk hok hF hfl hpl
  go_enter Try.func4, Try.ntmps4
  go_wp2_with fail
  (with_reducible refine hAw.out.mono ?_)
  rintro e w1 ⟨rfl, hb1⟩
  replace hb1 := Lib.hid hb1
  go_wp2_with fail
  (with_reducible refine (hP.out _ hb1.out).mono ?_)
  rintro e w2 ⟨A2, c2, rfl, hA2, hb2⟩
  replace hb2 := Lib.hid (hb1.out.trans (hb2.mono hb1.out.size))
  replace hA2 := Lib.hid hA2
  clear hb1
  go_wp2_with fail
  (with_reducible refine (hBd.out _ _ _ hA2.out).mono ?_)
  rintro e w3 ⟨p, A3, c3, rfl, hg3, hl3, hb3⟩
  have hb3' := hb2.out.trans (hb3.mono hb2.out.size)
  obtain ⟨B, hBe⟩ : ∃ B, w2.heap.size = B := ⟨_, rfl⟩
  rw [hBe] at hg3
  have hBw : w.heap.size ≤ B := by have := hb2.out.size; omega
  have hx3 := (Below.refl w3.heap.size w3).alloc (Nat.le_refl _) (.map #[] 0)
  have hg4 := hg3.over hx3
  have hm4 := World.ownsMap_made (H := Unit) w3 Try.prog 39 (plainElem Try.prog 3)
  have hf4 : ∀ g, FT (w3.alloc (.map #[] 0)) p g → g ≠ w3.heap.size := fun g hg e => by
    have := (hg3.lo g (hg.of (hx3.block p hg3.lt))).2
    omega
  have hb4 := hb3'.alloc hb3'.size (.map #[] 0)
  obtain ⟨sm, hsm⟩ : ∃ s, w3.heap.size = s := ⟨_, rfl⟩
  rw [hsm] at hm4 hf4
  have hsmw : w.heap.size ≤ sm := by have := hb3'.size; omega
  replace hg4 := Lib.hid hg4
  replace hm4 := Lib.hid hm4
  replace hf4 := Lib.hid hf4
  replace hb4 := Lib.hid hb4
  clear hb2 hA2 hb3 hb3' hl3 hx3 hg3 hBd hP hAw
  go_wp2_with fail
  go_loopw [6, 8] (fun cv iw wr => ∃ (k n : Nat) (D : DU), 0 < k ∧ k ≤ N ∧ iw = .int .i64 (k : Int) ∧ cv = .int .i64 ((cnt (F.take k) : Nat) : Int) ∧ GI wr B p F ∧ MapI2 wr sm n D ∧ n ≤ k ∧ SeenAg D F k ∧ (∀ g, FT wr p g → g ≠ sm) ∧ sm < wr.heap.size ∧ Below w.heap.size w wr) (fun _ iw _ => N - (intOf iw).toNat)
  case atStart => exact ⟨1, 0, .map [], by omega, by omega, rfl, by rw [hcz.out]; rfl, hg4.out, hm4.out, by omega, SeenAg.new _ _, hf4.out, hm4.out.lt, hb4.out⟩
  case round =>
    obtain ⟨k, n, D, hk0, hk, rfl, rfl, hg, hmp, hnk, hse, hfs, hsl, hbw⟩ := hrel
    clear hg4 hm4 hf4 hb4
    have hL := hLn.out B p wr hg
    have hcl' := hcl.out k
    obtain ⟨C, hC⟩ : ∃ C, cnt (F.take k) = C := ⟨_, rfl⟩
    rw [hC] at hcl' ⊢
    by_cases hlt : k < N
    · obtain ⟨⟨a, b⟩, hqk⟩ := hq.out k hlt
      have hFan := Fan_t k (a, b) wr hg hqk
      have hor := hwf.out.ok k _ hqk
      have hcn := hcs.out k hk0 _ hqk
      rw [hC] at hcn
      simp only at hFan hor hcn
      by_cases ha : a = 0
      · rw [if_pos ha] at hcn
        rw [show decide (a ≠ 0) = false by simp [ha]] at hFan
        replace hL := Lib.hid hL
        replace hFan := Lib.hid hFan
        replace hcn := Lib.hid hcn
        replace hg := Lib.hid hg
        replace hmp := Lib.hid hmp
        replace hse := Lib.hid hse
        replace hfs := Lib.hid hfs
        replace hbw := Lib.hid hbw
        replace hqk := Lib.hid hqk
        clear hor ha hC
        go_wp2_with fail
        (with_reducible refine hL.out.mono ?_)
        rintro e w9 ⟨rfl, hw9⟩
        subst hw9
        go_wp2_with fail
        (with_reducible refine hFan.out.mono ?_)
        rintro e w5 ⟨rfl, q, hw5⟩
        subst hw5
        go_wp2_with fail
        go_roundw
        case rel => exact ⟨k + 1, n, D, by omega, by omega, by go_num, by rw [hcn.out]; go_num, hg.out.over (bdn wr q), map2_keep hmp.out rfl, by omega, hse.out.mono, fun g h => hfs.out g (h.of rfl), hsl, hbw.out.trans ((bdn wr q).mono hbw.out.size)⟩
        case measure => simp [intOf]; omega
      · rw [if_neg ha, Nat.add_zero] at hcn
        rw [show decide (a ≠ 0) = true by simp [ha]] at hFan
        have hlt3 : 2 ≤ a ∧ a < b ∧ b / 2 < k ∧ b ≠ nt a := by
          rcases hor with e | e
          · exact absurd (Prod.mk.inj e).1 ha
          · exact e
        obtain ⟨h2, hab2, hbk, hbn⟩ := hlt3
        have hsa : a < 1000000 := by omega
        have hsb : b < 1000000 := by omega
        have hand := andF_again hwf.out hqk ha
        have hlk : ∀ j, (Instr.lookup 36 (.map (some sm)) (.agg #[.int .i64 (a : Int), .int .i64 (b : Int)]) false).run Try.prog (wr.drewN j) = .ok (.int .i64 0) (wr.drewN j) := fun j =>
          look_seen (w := wr.drewN j) (map2_keep (w := wr) hmp rfl) hse hsa hsb fun i hi hq2 => by
            have := hwf.out.nd i k _ hq2 hqk (by intro e; exact ha (Prod.mk.inj e).1)
            omega
        have hNt := fun W => Not_t b W hsb
        unfold RW at hNt
        obtain ⟨z, hz⟩ : ∃ z, nt b = z := ⟨_, rfl⟩
        have hza : a ≠ z := fun e => hbn (by rw [e, ← hz, nt_nt])
        rw [hz] at hNt
        have f1 : ¬ (a : Int) < 2 := by omega
        have f1' : decide ((a : Int) < 2) = false := by simp; omega
        have f2 : decide ((b : Int) ≤ (a : Int)) = false := by simp; omega
        have f3 : decide ((k : Int) ≤ (b : Int) / 2) = false := by simp; omega
        have f4 : ((a : Int) == (z : Int)) = false := by simp; omega
        have hAn := fun (W : World) (h : GI W B p F) => And_t b a W h (by rw [hN.out]; omega) (by rw [hN.out]; omega) (by rw [hN.out]; omega)
        rw [hand] at hAn
        unfold GV at hAn
        have e2k : ((2 * k : Nat) : Int) = 2 * (k : Int) := by simp
        simp only [e2k] at hAn
        have hk2 : k ≤ 200 := by omega
        replace hL := Lib.hid hL
        replace hFan := Lib.hid hFan
        replace hcn := Lib.hid hcn
        replace hg := Lib.hid hg
        replace hmp := Lib.hid hmp
        replace hse := Lib.hid hse
        replace hfs := Lib.hid hfs
        replace hbw := Lib.hid hbw
        replace hqk := Lib.hid hqk
        replace hAn := Lib.hid hAn
        replace hNt := Lib.hid hNt
        replace hand := Lib.hid hand
        replace hbk := Lib.hid hbk
        replace hbn := Lib.hid hbn
        replace hza := Lib.hid hza
        replace hz := Lib.hid hz
        replace ha := Lib.hid ha
        clear hor hC e2k
        go_wp2_with fail
        (with_reducible refine hL.out.mono ?_)
        rintro e w9 ⟨rfl, hw9⟩
        subst hw9
        go_wp2_with fail
        (with_reducible refine hFan.out.mono ?_)
        rintro e w5 ⟨rfl, q, hw5⟩
        subst hw5
        go_wp2_with fail
        (with_reducible refine (hNt.out _).mono ?_)
        rintro e w9 ⟨rfl, hw9⟩
        subst hw9
        have hmpq : MapI2 (wr.drewN q) sm n D := map2_keep hmp.out rfl
        replace hmpq := Lib.hid hmpq
        have hnm : n < maxLen := by unfold maxLen; omega
        replace hnm := Lib.hid hnm
        go_wp2_with (first
          | (at_mapUpdate; refine wpList_mapUpdate_own _ rfl _ _ _ 36 rfl 39 3 kF2 Try.underlying36 _ sm n D rfl hmpq.out hnm.out _ _ _ rfl rfl (key_mk2 hsa hsb) _ [] (plainElem_int Try.underlying3 (wf_small (n := k) (by omega))) ?_; intro w6 hm6 hg6; replace hm6 := Lib.hid hm6; replace hg6 := Lib.hid hg6)
          | fail)
        have hgq := hg.out.over (bdn wr q)
        have hfq : ∀ g, FT (wr.drewN q) p g → g ≠ sm := fun g h => hfs.out g (h.of rfl)
        have hgi6 : GI w6 B p F := by
          obtain ⟨v, mm, nn, DD, hx⟩ := hgq
          exact ⟨v, mm, nn, DD, hx.kp fun g hgf => hg6.out.block g (hx.lo g hgf).2 fun e => hfq g hgf (Option.some.inj e)⟩
        have hf6 : ∀ g, FT w6 p g → g ≠ sm := fun g h => hfq g (h.of (hg6.out.block p hgq.lt fun e => hfq p (.inl rfl) (Option.some.inj e)))
        have hb6 : Below w.heap.size w w6 := (hbw.out.trans ((bdn wr q).mono hbw.out.size)).grown hg6.out hbw.out.size fun j hj => by cases hj; exact hsmw
        have hs6 : w.heap.size ≤ w6.heap.size := hb6.size
        have hl6 := hm6.out.lt
        replace hgi6 := Lib.hid hgi6
        replace hf6 := Lib.hid hf6
        replace hb6 := Lib.hid hb6
        clear hg hmp hfs hbw hlk hL hFan hgq hfq hmpq hg6 hsl
        (with_reducible refine (hAn.out _ hgi6.out).mono ?_)
        rintro e w7 ⟨rfl, hg7, hk7⟩
        have hm7 : MapI2 w7 sm (n + 1) (D.put (kl (a, b)) (.lit (.int .i64 (k : Int)))) := map2_keep hm6.out (hk7.k.block sm hl6 fun h => hf6.out sm h rfl)
        have hf7 : ∀ g, FT w7 p g → g ≠ sm := fun g h => by
          rcases hk7.f g h with e | e
          · exact hf6.out g e
          · omega
        have hb7 : Below w.heap.size w w7 := hb6.out.trans ((hgi6.out.below hk7).mono hBw)
        have hl7 := hm7.lt
        replace hg7 := Lib.hid hg7
        replace hm7 := Lib.hid hm7
        replace hf7 := Lib.hid hf7
        replace hb7 := Lib.hid hb7
        clear hk7 hgi6 hf6 hb6 hm6 hl6 hs6
        go_wp2_with fail
        go_roundw
        case rel => exact ⟨k + 1, n + 1, _, by omega, by omega, by go_num, by rw [hcn.out]; rfl, hg7.out, hm7.out, by omega, hse.out.put hqk.out hsa hsb, hf7.out, hl7, hb7.out⟩
        case measure => simp [intOf]; omega
    · obtain rfl : k = N := by omega
      rw [hce.out] at hC
      have hI := hIn.out B p
      rw [hC] at hI
      replace hI := Lib.hid hI
      replace hL := Lib.hid hL
      replace hC := Lib.hid hC
      replace hg := Lib.hid hg
      replace hbw := Lib.hid hbw
      clear hmp hse hfs hsl hnk hcl'
      go_wp2_with fail
      (with_reducible refine hL.out.mono ?_)
      rintro e w9 ⟨rfl, hw9⟩
      subst hw9
      go_wp2_with fail
      (with_reducible refine (hF0.out B p _ hg.out).mono ?_)
      rintro e w5 ⟨rfl, q, hw5⟩
      subst hw5
      have hg5 := hg.out.over (bdn wr q)
      have hb5 := hbw.out.trans ((bdn wr q).mono hbw.out.size)
      obtain ⟨w5, hw5⟩ : ∃ W, wr.drewN q = W := ⟨_, rfl⟩
      rw [hw5] at hg5 hb5 ⊢
      replace hg5 := Lib.hid hg5
      replace hb5 := Lib.hid hb5
      clear hw5 hg hbw hL
      go_wp2_with fail
      (with_reducible refine (hLn.out B p _ hg5.out).mono ?_)
      rintro e w9 ⟨rfl, hw9⟩
      subst hw9
      go_wp2_with fail
      (with_reducible refine (hFf.out B p _ hg5.out).mono ?_)
      rintro e w9 ⟨rfl, hw9⟩
      subst hw9
      go_wp2_with fail
      (with_reducible refine (hLn.out B p _ hg5.out).mono ?_)
      rintro e w9 ⟨rfl, hw9⟩
      subst hw9
      go_wp2_with fail
      (with_reducible refine (hab.out B p _ hg5.out).mono ?_)
      rintro e w6 ⟨rfl, hb6⟩
      have hg6 := hg5.out.over hb6
      have hb6' := hb5.out.trans (hb6.mono hb5.out.size)
      replace hg6 := Lib.hid hg6
      replace hb6' := Lib.hid hb6'
      clear hb6 hg5 hb5
      go_wp2_with fail
      (with_reducible refine (hob.out B p _ hg6.out).mono ?_)
      rintro e w7 ⟨rfl, hb7⟩
      have hg7 := hg6.out.over hb7
      have hb7' := hb6'.out.trans (hb7.mono hb6'.out.size)
      replace hg7 := Lib.hid hg7
      replace hb7' := Lib.hid hb7'
      clear hb7 hg6 hb6'
      go_wp2_with fail
      (with_reducible refine (hLn.out B p _ hg7.out).mono ?_)
      rintro e w9 ⟨rfl, hw9⟩
      subst hw9
      go_wp2_with fail
      (with_reducible refine (hmb.out B p _ hg7.out).mono ?_)
      rintro e w8 ⟨rfl, hb8⟩
      have hg8 := hg7.out.over hb8
      have hb8' := hb7'.out.trans (hb8.mono hb7'.out.size)
      replace hg8 := Lib.hid hg8
      replace hb8' := Lib.hid hb8'
      clear hb8 hg7 hb7'
      go_wp2_with fail
      (with_reducible refine (hI.out _ hg8.out).mono ?_)
      rintro e w9 ⟨rfl, hw9⟩
      subst hw9
      go_wp2_with fail
      go_ret
      exact ⟨rfl, hb8'.out⟩
end Go.Proofs.Ytinfkjflomdhbaa
