/-
  The reference's Plain walked.
-/
import Derived.Test.YtembgefbmecdbaaNa
import Derived.BigQuiet
namespace Go.Proofs.Ytembgefbmecdbaa
open Go.RowKit Go.Lib
/-- What Plain leaves: nothing, or the clause in its order. -/
def PV (w : World) (l : List Int) (e : Ending) (w' : World) : Prop := (opB l = true ∧ e = .returned (.tuple #[.slice none 0 0, .bool false]) ∧ Below w.heap.size w w') ∨
  (opB l = false ∧ ∃ v, e = .returned (.tuple #[v, .bool true]) ∧ w'.ownsRow w.heap.size 3 1 v (canon l).length (iv (canon l)) ∧ Below w.heap.size w w')
theorem canon_nil : canon [] = [] := canon_of_sorted List.Pairwise.nil
set_option maxRecDepth 100000 in
set_option maxHeartbeats 6400000 in
theorem Plain_t (l : List Int) (c : Nat) (A : Option Addr) (w : World) (hl : l.length ≤ 100000) (hR : RL w A l) (hd : Dom l) : Calls Try.prog 24 #[.slice A l.length c] w (PV w l) := by
  obtain ⟨i0, hi, hz0, hz1, hz2⟩ := info_parts info_int
  obtain ⟨n, hn⟩ : ∃ n, l.length = n := ⟨_, rfl⟩
  rw [hn] at hl ⊢
  replace hn := Lib.hid hn
  replace hR := Lib.hid hR
  replace hd := Lib.hid hd
  go_enter Try.func24, Try.ntmps24
  go_wp2_with fail
  go_loopw [4, 5] (fun o i wr => ∃ (k : Nat) (Ao : Option Addr) (co : Nat), k ≤ n ∧ i = .int .i64 (k : Int) ∧ o = .slice Ao (canon (l.take k)).length co ∧ opB (l.take k) = false ∧ wr.ownsRow w.heap.size 3 1 (.slice Ao (canon (l.take k)).length co) (canon (l.take k)).length (iv (canon (l.take k))) ∧ Below w.heap.size w wr) (fun _ i _ => n - (intOf i).toNat)
  case atStart =>
    refine ⟨0, none, 0, Nat.zero_le _, rfl, ?_, rfl, ?_, Below.refl _ _⟩
    · rw [List.take_zero, canon_nil]; rfl
    · rw [List.take_zero, canon_nil]; exact World.ownsRow_nil _ _ _ _
  case round =>
    obtain ⟨i, Ao, co, hi1, rfl, rfl, hop, hown, hbw⟩ := hrel
    by_cases hlt : i < n
    · have hil : i < l.length := by rw [hn.out]; exact hlt
      obtain ⟨b, off, rfl, hb, hcell⟩ := hR.out.over hbw (by omega)
      have cx := hcell i hil
      have hxm := getD_mem l i hil
      have htk := take_snoc l i hil
      have hxd := hd.out _ hxm
      have hstep := plS_next (l.take i) (l.getD i 0) (by rw [← htk]; exact fun y hy => hd.out y (List.mem_of_mem_take hy)) hop
      rw [← htk] at hstep
      obtain ⟨x, hx⟩ : ∃ x, l.getD i 0 = x := ⟨_, rfl⟩
      rw [hx] at cx hxd hstep
      obtain ⟨o, ho⟩ : ∃ o, canon (l.take i) = o := ⟨_, rfl⟩
      have hod : Dom o := fun y hy => by
        rw [← ho, canon_mem] at hy
        exact hd.out y (List.mem_of_mem_take hy)
      have holn : o.length ≤ n := by
        rw [← ho]
        have := canon_le (l.take i)
        rw [List.length_take] at this
        omega
      have hstop : opB (l.take (i + 1)) = true → opB l = true := opB_mono fun y hy => List.mem_of_mem_take hy
      obtain ⟨t1, ht1⟩ : ∃ t1, l.take (i + 1) = t1 := ⟨_, rfl⟩
      rw [ho] at hown hstep ⊢
      rw [ht1] at hstep hstop
      obtain ⟨m, hm⟩ : ∃ m, o.length = m := ⟨_, rfl⟩
      rw [hm] at hown holn ⊢
      have hwx : IntKind.i64.wrap (-x) = -x := IntWalk.i64_in (n := -x) (by omega)
      have habsx := Lib.hid (fun w => abs_t x hxd.2 w)
      have hbs := hbw.size
      have hmco : m ≤ co := by
        rcases hown.2 with ⟨e, h0⟩ | ⟨g, cap, cur, e, _, _, h1, _⟩
        · omega
        · cases e; exact h1
      replace hown := Lib.hid hown
      replace hstep := Lib.hid hstep
      replace hstop := Lib.hid hstop
      replace hod := Lib.hid hod
      replace hm := Lib.hid hm
      replace ho := Lib.hid ho
      replace ht1 := Lib.hid ht1
      replace htk := Lib.hid htk
      replace hop := Lib.hid hop
      replace hxd := Lib.hid hxd
      clear hcell hxm hx hil
      go_wp2_with fail
      go_loopw [6, 7] (fun kv sv wr2 => ∃ k : Nat, k ≤ m ∧ kv = .int .i64 (k : Int) ∧ sv = .bool ((o.take k).contains x) ∧ (∀ j, j < k → pB x (o.getD j 0) = true ∧ o.getD j 0 ≠ -x) ∧ ∃ q, wr2 = wr.drewN q) (fun kv _ _ => m - (intOf kv).toNat)
      case atStart => exact ⟨0, Nat.zero_le _, rfl, by simp, fun j hj => by omega, 0, rfl⟩
      case round =>
        obtain ⟨k, hk, rfl, rfl, hall, q, rfl⟩ := hrel
        by_cases hkm : k < m
        · -- a literal is there
          have hkl : k < o.length := by rw [hm.out]; exact hkm
          have hAo : ∃ g, Ao = some ⟨g, 0, none⟩ := by
            rcases hown.out.2 with ⟨e, h0⟩ | ⟨g, cap, cur, e, _⟩
            · omega
            · cases e; exact ⟨g, rfl⟩
          obtain ⟨g, rfl⟩ := hAo
          have cy : wr.cell? ⟨g, k, none⟩ = some (.int .i64 (o.getD k 0)) := by
            rw [hown.out.cellAt k (by omega)]
            simp [iv, List.getD, List.getElem?_eq_getElem hkl]
          have hyd := (hod.out _ (getD_mem o k hkl)).2
          have hcs := con_succ o x k hkl
          obtain ⟨y, hy⟩ : ∃ y, o.getD k 0 = y := ⟨_, rfl⟩
          have habsy := Lib.hid (fun w => abs_t y (hy ▸ hyd) w)
          have hpy : pB x (o.getD k 0) = decide (max y (-y) ≤ max x (-x)) := by rw [hy]; rfl
          rw [hy] at cy hcs
          obtain ⟨s, hs⟩ : ∃ s, (o.take k).contains x = s := ⟨_, rfl⟩
          rw [hs] at hcs ⊢
          replace hall := Lib.hid hall
          replace hpy := Lib.hid hpy
          replace hy := Lib.hid hy
          replace hcs := Lib.hid hcs
          replace hs := Lib.hid hs
          clear hkl hyd
          by_cases hle : max y (-y) ≤ max x (-x)
          · have dle : decide (max y (-y) ≤ max x (-x)) = true := by simpa using hle
            by_cases hye : y = -x
            · have dye : (y == -x) = true := by simpa using hye
              have hres : opB l = true := hstop.out (by
                have h1 := plS_none o x k (by rw [hm.out]; exact hkm) (fun j hj => (hall.out j hj).1) (by rw [hpy.out]; exact dle) (by rw [hy.out]; exact hye)
                have h2 := hstep.out
                rw [h1] at h2
                cases h3 : opB t1 with
                | true => rfl
                | false => rw [h3] at h2; cases h2)
              replace hres := Lib.hid hres
              clear hye hle
              go_wp2_with fail
              go_quiet ((go_at_call 44; first | (exact (habsy.out _).mono (fun e w1 ⟨he, hw1⟩ => ⟨he, _, hw1⟩)) | (exact (habsx.out _).mono (fun e w1 ⟨he, hw1⟩ => ⟨he, _, hw1⟩))))
              go_wp2_with fail
              go_quiet (fail)
              go_wp2_with fail
              go_ret2
              exact Or.inl ⟨hres.out, rfl, hbw.os, hbw.tape, hbw.output, hbw.size, hbw.block⟩
            · have dye : (y == -x) = false := by simpa using hye
              have hnext : ∀ j, j < k + 1 → pB x (o.getD j 0) = true ∧ o.getD j 0 ≠ -x := fun j hj => by
                by_cases e : j = k
                · subst e; exact ⟨by rw [hpy.out]; exact dle, by rw [hy.out]; exact hye⟩
                · exact hall.out j (by omega)
              replace hnext := Lib.hid hnext
              replace hye := Lib.hid hye
              clear hle
              cases s with
              | true =>
                have hc2 : (o.take (k + 1)).contains x = true := by rw [hcs.out]; rfl
                replace hc2 := Lib.hid hc2
                go_wp2_with fail
                go_quiet ((go_at_call 44; first | (exact (habsy.out _).mono (fun e w1 ⟨he, hw1⟩ => ⟨he, _, hw1⟩)) | (exact (habsx.out _).mono (fun e w1 ⟨he, hw1⟩ => ⟨he, _, hw1⟩))))
                go_wp2_with fail
                go_quiet (fail)
                go_wp2_with fail
                go_quiet (fail)
                go_wp2_with fail
                go_roundw
                case rel => exact ⟨k + 1, by omega, by go_num, by rw [hc2.out], hnext.out, _, rfl⟩
                case measure => simp [intOf]; omega
              | false =>
                have hc2 : (o.take (k + 1)).contains x = (y == x) := by rw [hcs.out]; rfl
                replace hc2 := Lib.hid hc2
                go_wp2_with fail
                go_quiet ((go_at_call 44; first | (exact (habsy.out _).mono (fun e w1 ⟨he, hw1⟩ => ⟨he, _, hw1⟩)) | (exact (habsx.out _).mono (fun e w1 ⟨he, hw1⟩ => ⟨he, _, hw1⟩))))
                go_wp2_with fail
                go_quiet (fail)
                go_wp2_with fail
                go_quiet (fail)
                go_wp2_with fail
                go_roundw
                case rel => exact ⟨k + 1, by omega, by go_num, by rw [hc2.out], hnext.out, _, rfl⟩
                case measure => simp [intOf]; omega
          · have dle : decide (max y (-y) ≤ max x (-x)) = false := by simpa using hle
            have hat := plS_at o x k (by rw [hm.out]; omega) hall.out (Or.inr (by rw [hpy.out]; exact dle))
            rw [hs.out] at hat
            cases s with
            | true =>
              rw [if_pos rfl] at hat
              have hfin : opB t1 = false ∧ canon t1 = o := by
                have h2 := hstep.out
                rw [hat] at h2
                cases h3 : opB t1 with
                | true => rw [h3] at h2; cases h2
                | false => rw [h3] at h2; exact ⟨rfl, (Option.some.inj h2).symm⟩
              replace hfin := Lib.hid hfin
              clear hat
              go_wp2_with fail
              go_quiet ((go_at_call 44; first | (exact (habsy.out _).mono (fun e w1 ⟨he, hw1⟩ => ⟨he, _, hw1⟩)) | (exact (habsx.out _).mono (fun e w1 ⟨he, hw1⟩ => ⟨he, _, hw1⟩))))
              go_wp2_with fail
              go_roundw
              case rel => exact ⟨i + 1, _, co, by omega, by go_num, by rw [ht1.out, hfin.out.2, hm.out], by rw [ht1.out]; exact hfin.out.1, by rw [ht1.out, hfin.out.2, hm.out]; exact hown.out, hbw.os, hbw.tape, hbw.output, hbw.size, hbw.block⟩
              case measure => simp [intOf]; omega
            | false =>
              rw [if_neg (by decide)] at hat
              have hfin : opB t1 = false ∧ canon t1 = o.take k ++ x :: o.drop k := by
                have h2 := hstep.out
                rw [hat] at h2
                cases h3 : opB t1 with
                | true => rw [h3] at h2; cases h2
                | false => rw [h3] at h2; exact ⟨rfl, (Option.some.inj h2).symm⟩
              replace hfin := Lib.hid hfin
              clear hat
              replace hm := hm
              have hks : k ≤ co := by omega
              have d5 : decide ((co : Int) < (k : Int)) = false := by rw [decide_eq_false_iff_not]; omega
              have d6 : decide ((m : Int) < (k : Int)) = false := by rw [decide_eq_false_iff_not]; omega
              have d7 : decide ((co : Int) < (m : Int)) = false := by rw [decide_eq_false_iff_not]; omega
              have hne : ¬ co = k := by omega
              have hkm2 : k ≤ m := by omega
              go_wp2_with fail
              go_quiet ((go_at_call 44; first | (exact (habsy.out _).mono (fun e w1 ⟨he, hw1⟩ => ⟨he, _, hw1⟩)) | (exact (habsx.out _).mono (fun e w1 ⟨he, hw1⟩ => ⟨he, _, hw1⟩))))
              obtain ⟨W, hW⟩ : ∃ W, (wr.drewN q).drewN nq = W := ⟨_, rfl⟩
              have hbwW : Below w.heap.size w W := by rw [← hW]; exact ⟨hbw.os, hbw.tape, hbw.output, hbw.size, hbw.block⟩
              have cxW : W.cell? ⟨b, off + i, none⟩ = some (.int .i64 x) := by rw [← hW]; exact cx
              have hbW : b < W.heap.size := by rw [← hW]; exact hb
              have hWz := hbwW.size
              have hRo : RL wr (some ⟨g, 0, none⟩) o := by
                obtain ⟨A', c', e, h⟩ := own_RL (l := o) (by rw [hm.out]; exact hown.out)
                rw [(Value.slice.inj e).1]
                exact h
              have hRk : RL W (some ⟨g, 0, none⟩) (o.take k) := by rw [← hW]; exact hRo.take' k
              have hRd : RL W (some ⟨g, k, none⟩) (o.drop k) := by rw [← hW]; exact RL_drop hRo k
              have hAd : ∀ a : Addr, (((some ⟨g, k, none⟩) : Option Addr)) = some a → a.block < W.heap.size := fun a ha => by
                cases ha; rw [← hW]; exact (hown.out.lt g rfl).2
              replace hRk := Lib.hid hRk
              replace hRd := Lib.hid hRd
              replace hAd := Lib.hid hAd
              rw [hW]
              clear hRo hW hown hb
              have hlk : (o.take k).length = k := by rw [List.length_take]; have := hm.out; omega
              have hld : (o.drop k).length = (m - k) := by rw [List.length_drop]; have := hm.out; omega
              obtain ⟨lk, hlk0⟩ : ∃ lk, o.take k = lk := ⟨_, rfl⟩
              obtain ⟨ld, hld0⟩ : ∃ ld, o.drop k = ld := ⟨_, rfl⟩
              have hRk' := hRk.out
              have hRd' := hRd.out
              have hfin' := hfin.out
              rw [hlk0] at hlk hRk' hfin'
              rw [hld0] at hld hRd' hfin'
              replace hlk := Lib.hid hlk
              replace hld := Lib.hid hld
              replace hRk' := Lib.hid hRk'
              replace hRd' := Lib.hid hRd'
              replace hfin' := Lib.hid hfin'
              clear hRk hRd hfin hlk0 hld0
              go_wp2_with (at_builtin; refine wpList_append_RL rfl _ _ rfl W.heap.size _ 0 [] rfl (World.ownsRow_made (base := W.heap.size) W #[] 0 (Nat.le_refl _) (by decide) (by simp)) (some ⟨g, 0, none⟩) k co lk hlk.out rfl (fun e => by cases e) (RL.over hRk'.out ((Below.refl _ W).alloc (Nat.le_refl _) _)) (by omega) (by simp) ?f1)
              case f1 =>
                intro v1 w1 own1 hg1
                have hb1 : Below W.heap.size W w1 := ((Below.refl _ W).alloc (Nat.le_refl _) _).grown hg1 (by simp) (fun j e => by cases e; exact Nat.le_refl _)
                have own1 : w1.ownsRow W.heap.size 3 1 v1 k (iv lk) := by simpa using own1
                have cx1 : w1.cell? ⟨b, off + i, none⟩ = some (.int .i64 x) := (hb1.cell (p := ⟨b, off + i, none⟩) hbW).trans cxW
                have hz1' := hb1.size
                replace own1 := Lib.hid own1
                clear hg1
                go_wp2_with (at_builtin; refine wpList_append_RL rfl _ _ rfl W.heap.size _ k (iv lk) rfl (own1.out.alloc _) (some ⟨w1.heap.size, 0, none⟩) 1 1 [x] rfl rfl (fun e => by cases e) (RL_new w1 [x] _ rfl) (by omega) (by simp; omega) ?f2)
                case f2 =>
                  intro v2 w2 own2 hg2
                  have hb2 : Below W.heap.size W w2 := (hb1.alloc hz1' _).grown hg2 (by simp; omega) (fun j e => (own1.out.lt j e).1)
                  have hz2' := hb2.size
                  have hRd2 := hRd'.out.low hAd.out hb2
                  have own2 : w2.ownsRow W.heap.size 3 1 v2 (k + 1) (iv (lk ++ [x])) := by rw [iv_append]; simpa using own2
                  replace own2 := Lib.hid own2
                  replace hRd2 := Lib.hid hRd2
                  clear hg2 own1
                  go_wp2_with (at_builtin; refine wpList_append_RL rfl _ _ rfl W.heap.size _ (k + 1) (iv (lk ++ [x])) rfl own2.out (some ⟨g, k, none⟩) (m - k) (co - k) ld hld.out rfl (fun e => by cases e) hRd2.out (by omega) hz2' ?f3)
                  case f3 =>
                    intro v3 w3 own3 hg3
                    have hb3 : Below W.heap.size W w3 := hb2.grown hg3 hz2' (fun j e => (own2.out.lt j e).1)
                    have hbw3 : Below w.heap.size w w3 := hbwW.trans (hb3.mono hWz)
                    have own3 : w3.ownsRow W.heap.size 3 1 v3 (k + 1 + (m - k)) (iv (lk ++ [x] ++ ld)) := by rw [iv_append]; simpa using own3
                    have hc1 : canon t1 = lk ++ [x] ++ ld := by rw [hfin'.out.2, List.append_assoc]; rfl
                    have hlen3 : (canon t1).length = k + 1 + (m - k) := by
                      rw [hc1, List.length_append, List.length_append, hlk.out, hld.out]; rfl
                    rw [← hc1] at own3
                    obtain ⟨A9, c9, hv9⟩ := own_len own3
                    subst hv9
                    have own4 := Lib.hid (own_mono own3 hWz)
                    replace hlen3 := Lib.hid hlen3
                    clear hg3 own2 hRd2 own3 hc1
                    go_wp2_with fail
                    go_roundw
                    case rel => exact ⟨i + 1, A9, c9, by omega, by go_num, by rw [ht1.out, hlen3.out], by rw [ht1.out]; exact hfin'.out.1, by rw [ht1.out, hlen3.out]; exact own4.out, hbw3⟩
                    case measure => simp [intOf]; omega
        · obtain rfl : k = m := by omega
          have hat := plS_at o x k (by rw [hm.out]; omega) hall (Or.inl hm.out.symm)
          obtain ⟨s, hs⟩ : ∃ s, (o.take k).contains x = s := ⟨_, rfl⟩
          rw [hs] at hat ⊢
          cases s with
          | true =>
            rw [if_pos rfl] at hat
            have hfin : opB t1 = false ∧ canon t1 = o := by
              have h2 := hstep.out
              rw [hat] at h2
              cases h3 : opB t1 with
              | true => rw [h3] at h2; cases h2
              | false => rw [h3] at h2; exact ⟨rfl, (Option.some.inj h2).symm⟩
            replace hfin := Lib.hid hfin
            clear hat
            go_wp2_with fail
            go_quiet (fail)
            go_wp2_with fail
            go_roundw
            case rel => exact ⟨i + 1, _, co, by omega, by go_num, by rw [ht1.out, hfin.out.2, hm.out], by rw [ht1.out]; exact hfin.out.1, by rw [ht1.out, hfin.out.2, hm.out]; exact hown.out, hbw.os, hbw.tape, hbw.output, hbw.size, hbw.block⟩
            case measure => simp [intOf]; omega
          | false =>
            rw [if_neg (by decide)] at hat
            have hfin : opB t1 = false ∧ canon t1 = o.take k ++ x :: o.drop k := by
              have h2 := hstep.out
              rw [hat] at h2
              cases h3 : opB t1 with
              | true => rw [h3] at h2; cases h2
              | false => rw [h3] at h2; exact ⟨rfl, (Option.some.inj h2).symm⟩
            replace hfin := Lib.hid hfin
            clear hat
            replace hall := Lib.hid hall
            replace hs := Lib.hid hs
            cases Ao with
            | none =>
              obtain ⟨rfl, rfl⟩ : k = 0 ∧ co = 0 := by
                rcases hown.out.2 with ⟨e, h0⟩ | ⟨g, cap, cur, e, _⟩
                · cases e; exact ⟨h0, rfl⟩
                · cases e
              go_wp2_with fail
              go_quiet (fail)
              obtain ⟨W, hW⟩ : ∃ W, (wr.drewN q).drewN nq = W := ⟨_, rfl⟩
              have hbwW : Below w.heap.size w W := by rw [← hW]; exact ⟨hbw.os, hbw.tape, hbw.output, hbw.size, hbw.block⟩
              have cxW : W.cell? ⟨b, off + i, none⟩ = some (.int .i64 x) := by rw [← hW]; exact cx
              have hbW : b < W.heap.size := by rw [← hW]; exact hb
              have hWz := hbwW.size
              have hRo : RL wr none o := by
                obtain ⟨A', c', e, h⟩ := own_RL (l := o) (by rw [hm.out]; exact hown.out)
                rw [(Value.slice.inj e).1]
                exact h
              have hRk : RL W none (o.take 0) := by rw [← hW]; exact hRo.take' 0
              have hRd : RL W none (o.drop 0) := by rw [← hW]; exact (by have h0 : o = [] := List.length_eq_zero_iff.1 hm.out; rw [h0]; exact RL_nil _ _)
              have hAd : ∀ a : Addr, ((none : Option Addr)) = some a → a.block < W.heap.size := fun a ha => by
                cases ha
              replace hRk := Lib.hid hRk
              replace hRd := Lib.hid hRd
              replace hAd := Lib.hid hAd
              rw [hW]
              clear hRo hW hown hb
              have hlk : (o.take 0).length = 0 := by rw [List.length_take]; have := hm.out; omega
              have hld : (o.drop 0).length = 0 := by rw [List.length_drop]; have := hm.out; omega
              obtain ⟨lk, hlk0⟩ : ∃ lk, o.take 0 = lk := ⟨_, rfl⟩
              obtain ⟨ld, hld0⟩ : ∃ ld, o.drop 0 = ld := ⟨_, rfl⟩
              have hRk' := hRk.out
              have hRd' := hRd.out
              have hfin' := hfin.out
              rw [hlk0] at hlk hRk' hfin'
              rw [hld0] at hld hRd' hfin'
              replace hlk := Lib.hid hlk
              replace hld := Lib.hid hld
              replace hRk' := Lib.hid hRk'
              replace hRd' := Lib.hid hRd'
              replace hfin' := Lib.hid hfin'
              clear hRk hRd hfin hlk0 hld0
              go_wp2_with (at_builtin; refine wpList_append_RL rfl _ _ rfl W.heap.size _ 0 [] rfl (World.ownsRow_made (base := W.heap.size) W #[] 0 (Nat.le_refl _) (by decide) (by simp)) none 0 0 lk hlk.out rfl (fun _ => rfl) (RL.over hRk'.out ((Below.refl _ W).alloc (Nat.le_refl _) _)) (by omega) (by simp) ?f1)
              case f1 =>
                intro v1 w1 own1 hg1
                have hb1 : Below W.heap.size W w1 := ((Below.refl _ W).alloc (Nat.le_refl _) _).grown hg1 (by simp) (fun j e => by cases e; exact Nat.le_refl _)
                have own1 : w1.ownsRow W.heap.size 3 1 v1 0 (iv lk) := by simpa using own1
                have cx1 : w1.cell? ⟨b, off + i, none⟩ = some (.int .i64 x) := (hb1.cell (p := ⟨b, off + i, none⟩) hbW).trans cxW
                have hz1' := hb1.size
                replace own1 := Lib.hid own1
                clear hg1
                go_wp2_with (at_builtin; refine wpList_append_RL rfl _ _ rfl W.heap.size _ 0 (iv lk) rfl (own1.out.alloc _) (some ⟨w1.heap.size, 0, none⟩) 1 1 [x] rfl rfl (fun e => by cases e) (RL_new w1 [x] _ rfl) (by omega) (by simp; omega) ?f2)
                case f2 =>
                  intro v2 w2 own2 hg2
                  have hb2 : Below W.heap.size W w2 := (hb1.alloc hz1' _).grown hg2 (by simp; omega) (fun j e => (own1.out.lt j e).1)
                  have hz2' := hb2.size
                  have hRd2 := hRd'.out.low hAd.out hb2
                  have own2 : w2.ownsRow W.heap.size 3 1 v2 (0 + 1) (iv (lk ++ [x])) := by rw [iv_append]; simpa using own2
                  replace own2 := Lib.hid own2
                  replace hRd2 := Lib.hid hRd2
                  clear hg2 own1
                  go_wp2_with (at_builtin; refine wpList_append_RL rfl _ _ rfl W.heap.size _ (0 + 1) (iv (lk ++ [x])) rfl own2.out none 0 0 ld hld.out rfl (fun _ => rfl) hRd2.out (by omega) hz2' ?f3)
                  case f3 =>
                    intro v3 w3 own3 hg3
                    have hb3 : Below W.heap.size W w3 := hb2.grown hg3 hz2' (fun j e => (own2.out.lt j e).1)
                    have hbw3 : Below w.heap.size w w3 := hbwW.trans (hb3.mono hWz)
                    have own3 : w3.ownsRow W.heap.size 3 1 v3 (0 + 1 + 0) (iv (lk ++ [x] ++ ld)) := by rw [iv_append]; simpa using own3
                    have hc1 : canon t1 = lk ++ [x] ++ ld := by rw [hfin'.out.2, List.append_assoc]; rfl
                    have hlen3 : (canon t1).length = 0 + 1 + 0 := by
                      rw [hc1, List.length_append, List.length_append, hlk.out, hld.out]; rfl
                    rw [← hc1] at own3
                    obtain ⟨A9, c9, hv9⟩ := own_len own3
                    subst hv9
                    have own4 := Lib.hid (own_mono own3 hWz)
                    replace hlen3 := Lib.hid hlen3
                    clear hg3 own2 hRd2 own3 hc1
                    go_wp2_with fail
                    go_roundw
                    case rel => exact ⟨i + 1, A9, c9, by omega, by go_num, by rw [ht1.out, hlen3.out], by rw [ht1.out]; exact hfin'.out.1, by rw [ht1.out, hlen3.out]; exact own4.out, hbw3⟩
                    case measure => simp [intOf]; omega
            | some ag =>
              obtain ⟨g, rfl⟩ : ∃ g, ag = ⟨g, 0, none⟩ := by
                rcases hown.out.2 with ⟨e, h0⟩ | ⟨g, cap, cur, e, _⟩
                · cases e
                · cases e; exact ⟨g, rfl⟩
              have d5 : decide ((co : Int) < (k : Int)) = false := by rw [decide_eq_false_iff_not]; omega
              by_cases hck : co = k
              · subst hck
                go_wp2_with fail
                go_quiet (fail)
                obtain ⟨W, hW⟩ : ∃ W, (wr.drewN q).drewN nq = W := ⟨_, rfl⟩
                have hbwW : Below w.heap.size w W := by rw [← hW]; exact ⟨hbw.os, hbw.tape, hbw.output, hbw.size, hbw.block⟩
                have cxW : W.cell? ⟨b, off + i, none⟩ = some (.int .i64 x) := by rw [← hW]; exact cx
                have hbW : b < W.heap.size := by rw [← hW]; exact hb
                have hWz := hbwW.size
                have hRo : RL wr (some ⟨g, 0, none⟩) o := by
                  obtain ⟨A', c', e, h⟩ := own_RL (l := o) (by rw [hm.out]; exact hown.out)
                  rw [(Value.slice.inj e).1]
                  exact h
                have hRk : RL W (some ⟨g, 0, none⟩) (o.take co) := by rw [← hW]; exact hRo.take' co
                have hRd : RL W (some ⟨g, 0, none⟩) (o.drop co) := by rw [← hW]; exact (by have h0 : o.drop co = [] := List.drop_eq_nil_of_le (by rw [hm.out]; exact Nat.le_refl _); rw [h0]; exact RL_nil _ _)
                have hAd : ∀ a : Addr, (((some ⟨g, 0, none⟩) : Option Addr)) = some a → a.block < W.heap.size := fun a ha => by
                  cases ha; rw [← hW]; exact (hown.out.lt g rfl).2
                replace hRk := Lib.hid hRk
                replace hRd := Lib.hid hRd
                replace hAd := Lib.hid hAd
                rw [hW]
                clear hRo hW hown hb
                have hlk : (o.take co).length = co := by rw [List.length_take]; have := hm.out; omega
                have hld : (o.drop co).length = 0 := by rw [List.length_drop]; have := hm.out; omega
                obtain ⟨lk, hlk0⟩ : ∃ lk, o.take co = lk := ⟨_, rfl⟩
                obtain ⟨ld, hld0⟩ : ∃ ld, o.drop co = ld := ⟨_, rfl⟩
                have hRk' := hRk.out
                have hRd' := hRd.out
                have hfin' := hfin.out
                rw [hlk0] at hlk hRk' hfin'
                rw [hld0] at hld hRd' hfin'
                replace hlk := Lib.hid hlk
                replace hld := Lib.hid hld
                replace hRk' := Lib.hid hRk'
                replace hRd' := Lib.hid hRd'
                replace hfin' := Lib.hid hfin'
                clear hRk hRd hfin hlk0 hld0
                go_wp2_with (at_builtin; refine wpList_append_RL rfl _ _ rfl W.heap.size _ 0 [] rfl (World.ownsRow_made (base := W.heap.size) W #[] 0 (Nat.le_refl _) (by decide) (by simp)) (some ⟨g, 0, none⟩) co co lk hlk.out rfl (fun e => by cases e) (RL.over hRk'.out ((Below.refl _ W).alloc (Nat.le_refl _) _)) (by omega) (by simp) ?f1)
                case f1 =>
                  intro v1 w1 own1 hg1
                  have hb1 : Below W.heap.size W w1 := ((Below.refl _ W).alloc (Nat.le_refl _) _).grown hg1 (by simp) (fun j e => by cases e; exact Nat.le_refl _)
                  have own1 : w1.ownsRow W.heap.size 3 1 v1 co (iv lk) := by simpa using own1
                  have cx1 : w1.cell? ⟨b, off + i, none⟩ = some (.int .i64 x) := (hb1.cell (p := ⟨b, off + i, none⟩) hbW).trans cxW
                  have hz1' := hb1.size
                  replace own1 := Lib.hid own1
                  clear hg1
                  go_wp2_with (at_builtin; refine wpList_append_RL rfl _ _ rfl W.heap.size _ co (iv lk) rfl (own1.out.alloc _) (some ⟨w1.heap.size, 0, none⟩) 1 1 [x] rfl rfl (fun e => by cases e) (RL_new w1 [x] _ rfl) (by omega) (by simp; omega) ?f2)
                  case f2 =>
                    intro v2 w2 own2 hg2
                    have hb2 : Below W.heap.size W w2 := (hb1.alloc hz1' _).grown hg2 (by simp; omega) (fun j e => (own1.out.lt j e).1)
                    have hz2' := hb2.size
                    have hRd2 := hRd'.out.low hAd.out hb2
                    have own2 : w2.ownsRow W.heap.size 3 1 v2 (co + 1) (iv (lk ++ [x])) := by rw [iv_append]; simpa using own2
                    replace own2 := Lib.hid own2
                    replace hRd2 := Lib.hid hRd2
                    clear hg2 own1
                    go_wp2_with (at_builtin; refine wpList_append_RL rfl _ _ rfl W.heap.size _ (co + 1) (iv (lk ++ [x])) rfl own2.out (some ⟨g, 0, none⟩) 0 0 ld hld.out rfl (fun e => by cases e) hRd2.out (by omega) hz2' ?f3)
                    case f3 =>
                      intro v3 w3 own3 hg3
                      have hb3 : Below W.heap.size W w3 := hb2.grown hg3 hz2' (fun j e => (own2.out.lt j e).1)
                      have hbw3 : Below w.heap.size w w3 := hbwW.trans (hb3.mono hWz)
                      have own3 : w3.ownsRow W.heap.size 3 1 v3 (co + 1 + 0) (iv (lk ++ [x] ++ ld)) := by rw [iv_append]; simpa using own3
                      have hc1 : canon t1 = lk ++ [x] ++ ld := by rw [hfin'.out.2, List.append_assoc]; rfl
                      have hlen3 : (canon t1).length = co + 1 + 0 := by
                        rw [hc1, List.length_append, List.length_append, hlk.out, hld.out]; rfl
                      rw [← hc1] at own3
                      obtain ⟨A9, c9, hv9⟩ := own_len own3
                      subst hv9
                      have own4 := Lib.hid (own_mono own3 hWz)
                      replace hlen3 := Lib.hid hlen3
                      clear hg3 own2 hRd2 own3 hc1
                      go_wp2_with fail
                      go_roundw
                      case rel => exact ⟨i + 1, A9, c9, by omega, by go_num, by rw [ht1.out, hlen3.out], by rw [ht1.out]; exact hfin'.out.1, by rw [ht1.out, hlen3.out]; exact own4.out, hbw3⟩
                      case measure => simp [intOf]; omega
              · have hkc : k ≤ co := by omega
                go_wp2_with fail
                go_quiet (fail)
                obtain ⟨W, hW⟩ : ∃ W, (wr.drewN q).drewN nq = W := ⟨_, rfl⟩
                have hbwW : Below w.heap.size w W := by rw [← hW]; exact ⟨hbw.os, hbw.tape, hbw.output, hbw.size, hbw.block⟩
                have cxW : W.cell? ⟨b, off + i, none⟩ = some (.int .i64 x) := by rw [← hW]; exact cx
                have hbW : b < W.heap.size := by rw [← hW]; exact hb
                have hWz := hbwW.size
                have hRo : RL wr (some ⟨g, 0, none⟩) o := by
                  obtain ⟨A', c', e, h⟩ := own_RL (l := o) (by rw [hm.out]; exact hown.out)
                  rw [(Value.slice.inj e).1]
                  exact h
                have hRk : RL W (some ⟨g, 0, none⟩) (o.take k) := by rw [← hW]; exact hRo.take' k
                have hRd : RL W (some ⟨g, k, none⟩) (o.drop k) := by rw [← hW]; exact (RL_drop hRo k)
                have hAd : ∀ a : Addr, (((some ⟨g, k, none⟩) : Option Addr)) = some a → a.block < W.heap.size := fun a ha => by
                  cases ha; rw [← hW]; exact (hown.out.lt g rfl).2
                replace hRk := Lib.hid hRk
                replace hRd := Lib.hid hRd
                replace hAd := Lib.hid hAd
                rw [hW]
                clear hRo hW hown hb
                have hlk : (o.take k).length = k := by rw [List.length_take]; have := hm.out; omega
                have hld : (o.drop k).length = 0 := by rw [List.length_drop]; have := hm.out; omega
                obtain ⟨lk, hlk0⟩ : ∃ lk, o.take k = lk := ⟨_, rfl⟩
                obtain ⟨ld, hld0⟩ : ∃ ld, o.drop k = ld := ⟨_, rfl⟩
                have hRk' := hRk.out
                have hRd' := hRd.out
                have hfin' := hfin.out
                rw [hlk0] at hlk hRk' hfin'
                rw [hld0] at hld hRd' hfin'
                replace hlk := Lib.hid hlk
                replace hld := Lib.hid hld
                replace hRk' := Lib.hid hRk'
                replace hRd' := Lib.hid hRd'
                replace hfin' := Lib.hid hfin'
                clear hRk hRd hfin hlk0 hld0
                go_wp2_with (at_builtin; refine wpList_append_RL rfl _ _ rfl W.heap.size _ 0 [] rfl (World.ownsRow_made (base := W.heap.size) W #[] 0 (Nat.le_refl _) (by decide) (by simp)) (some ⟨g, 0, none⟩) k co lk hlk.out rfl (fun e => by cases e) (RL.over hRk'.out ((Below.refl _ W).alloc (Nat.le_refl _) _)) (by omega) (by simp) ?f1)
                case f1 =>
                  intro v1 w1 own1 hg1
                  have hb1 : Below W.heap.size W w1 := ((Below.refl _ W).alloc (Nat.le_refl _) _).grown hg1 (by simp) (fun j e => by cases e; exact Nat.le_refl _)
                  have own1 : w1.ownsRow W.heap.size 3 1 v1 k (iv lk) := by simpa using own1
                  have cx1 : w1.cell? ⟨b, off + i, none⟩ = some (.int .i64 x) := (hb1.cell (p := ⟨b, off + i, none⟩) hbW).trans cxW
                  have hz1' := hb1.size
                  replace own1 := Lib.hid own1
                  clear hg1
                  go_wp2_with (at_builtin; refine wpList_append_RL rfl _ _ rfl W.heap.size _ k (iv lk) rfl (own1.out.alloc _) (some ⟨w1.heap.size, 0, none⟩) 1 1 [x] rfl rfl (fun e => by cases e) (RL_new w1 [x] _ rfl) (by omega) (by simp; omega) ?f2)
                  case f2 =>
                    intro v2 w2 own2 hg2
                    have hb2 : Below W.heap.size W w2 := (hb1.alloc hz1' _).grown hg2 (by simp; omega) (fun j e => (own1.out.lt j e).1)
                    have hz2' := hb2.size
                    have hRd2 := hRd'.out.low hAd.out hb2
                    have own2 : w2.ownsRow W.heap.size 3 1 v2 (k + 1) (iv (lk ++ [x])) := by rw [iv_append]; simpa using own2
                    replace own2 := Lib.hid own2
                    replace hRd2 := Lib.hid hRd2
                    clear hg2 own1
                    go_wp2_with (at_builtin; refine wpList_append_RL rfl _ _ rfl W.heap.size _ (k + 1) (iv (lk ++ [x])) rfl own2.out (some ⟨g, k, none⟩) 0 (co - k) ld hld.out rfl (fun e => by cases e) hRd2.out (by omega) hz2' ?f3)
                    case f3 =>
                      intro v3 w3 own3 hg3
                      have hb3 : Below W.heap.size W w3 := hb2.grown hg3 hz2' (fun j e => (own2.out.lt j e).1)
                      have hbw3 : Below w.heap.size w w3 := hbwW.trans (hb3.mono hWz)
                      have own3 : w3.ownsRow W.heap.size 3 1 v3 (k + 1 + 0) (iv (lk ++ [x] ++ ld)) := by rw [iv_append]; simpa using own3
                      have hc1 : canon t1 = lk ++ [x] ++ ld := by rw [hfin'.out.2, List.append_assoc]; rfl
                      have hlen3 : (canon t1).length = k + 1 + 0 := by
                        rw [hc1, List.length_append, List.length_append, hlk.out, hld.out]; rfl
                      rw [← hc1] at own3
                      obtain ⟨A9, c9, hv9⟩ := own_len own3
                      subst hv9
                      have own4 := Lib.hid (own_mono own3 hWz)
                      replace hlen3 := Lib.hid hlen3
                      clear hg3 own2 hRd2 own3 hc1
                      go_wp2_with fail
                      go_roundw
                      case rel => exact ⟨i + 1, A9, c9, by omega, by go_num, by rw [ht1.out, hlen3.out], by rw [ht1.out]; exact hfin'.out.1, by rw [ht1.out, hlen3.out]; exact own4.out, hbw3⟩
                      case measure => simp [intOf]; omega
    · obtain rfl : i = n := by omega
      have htn : l.take i = l := by rw [← hn.out, List.take_length]
      rw [htn] at hop hown ⊢
      obtain ⟨m, hm⟩ : ∃ m, (canon l).length = m := ⟨_, rfl⟩
      obtain ⟨xs, hxs⟩ : ∃ xs, iv (canon l) = xs := ⟨_, rfl⟩
      rw [hm, hxs] at hown
      rw [hm]
      replace hown := Lib.hid hown
      replace hop := Lib.hid hop
      replace hm := Lib.hid hm
      replace hxs := Lib.hid hxs
      clear htn
      go_wp2_with fail
      go_ret2
      refine Or.inr ⟨hop.out, _, rfl, ?_, hbw⟩
      rw [hm.out, hxs.out]
      exact hown.out
end Go.Proofs.Ytembgefbmecdbaa
