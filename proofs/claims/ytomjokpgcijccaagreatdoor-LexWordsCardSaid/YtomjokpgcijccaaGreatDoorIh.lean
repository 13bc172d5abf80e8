/-
  Plain: a text's words from a blank on, from a word on.
  The walk of the reference's Lex.
-/
import Derived.Test.YtomjokpgcijccaaGreatDoorHl
import Derived.Test.YtomjokpgcijccaaGreatDoorIc
import Derived.Deep.RegionLaw
namespace Go.Proofs.YtomjokpgcijccaaGreatDoor
open Go.Lib
theorem lexF_fuel (nb : List UInt8 → Bool) (fx : Bool) : ∀ (f g : Nat) (l : List UInt8) (p : PS) (acc : List TK), l.length < f → l.length < g → lexF nb fx f l p acc = lexF nb fx g l p acc
  | 0, _, _, _, _, h, _ => by omega
  | _ + 1, 0, _, _, _, _, h => by omega
  | f + 1, g + 1, l, p, acc, hf, hg => by
    rw [lexF_step, lexF_step]
    by_cases hl : l = []
    · rw [if_pos hl, if_pos hl]
    · rw [if_neg hl, if_neg hl]
      by_cases hc : ck nb (me l).1 (l.take (me l).2) = 0
      · have hp := me_pos nb hc
        have hlp : 0 < l.length := List.length_pos_iff.2 hl
        rw [if_neg (show ¬ (ck nb (me l).1 (l.take (me l).2) ≠ 0) from fun hh => hh hc), if_neg (show ¬ (ck nb (me l).1 (l.take (me l).2) ≠ 0) from fun hh => hh hc)]
        by_cases ha : acc.length = 12000
        · rw [if_pos ha, if_pos ha]
        · rw [if_neg ha, if_neg ha]
          refine lexF_fuel nb fx f g _ _ _ ?_ ?_ <;> simp only [List.length_drop] <;> omega
      · rw [if_pos hc, if_pos hc]
theorem lexP_nil (nb : List UInt8 → Bool) (fx : Bool) (p : PS) (acc : List TK) : lexP nb fx [] p acc = .ok acc := rfl
theorem lexP_blank (nb : List UInt8 → Bool) (fx : Bool) (c : UInt8) (t : List UInt8) (p : PS) (acc : List TK) (h : blkB c.toNat = true) : lexP nb fx (c :: t) p acc = lexP nb fx t (adv fx p [c]) acc := by
  have e : ah blkB (c :: t) = ah blkB t + 1 := by
    have := ah_app_all blkB [c] t (fun d hd => by rw [List.mem_singleton.1 hd]; exact h)
    simpa [Nat.add_comm] using this
  unfold lexP
  rw [e, List.drop_succ_cons, List.take_succ_cons, show c :: t.take (ah blkB t) = [c] ++ t.take (ah blkB t) from rfl, adv_app]
  exact lexF_fuel nb fx _ _ _ _ _ (by simp only [List.length_drop, List.length_cons]; omega) (by simp only [List.length_drop]; omega)
theorem lexP_word (nb : List UInt8 → Bool) (fx : Bool) (c : UInt8) (t l : List UInt8) (p : PS) (acc : List TK) (hl : c :: t = l) (h : blkB c.toNat = false) : lexP nb fx l p acc =
    if ck nb (me l).1 (l.take (me l).2) ≠ 0 then .error (p, ck nb (me l).1 (l.take (me l).2))
    else if acc.length = 12000 then .error (p, 19)
    else lexP nb fx (l.drop (me l).2) (adv fx p (l.take (me l).2)) (acc ++ [⟨(me l).1, l.take (me l).2, p⟩]) := by
  have e : ah blkB l = 0 := by rw [← hl]; simp only [ah]; rw [h]; rfl
  have hne : l ≠ [] := by rw [← hl]; simp
  conv => lhs; unfold lexP
  rw [e, List.drop_zero, List.take_zero, adv_nil, lexF_step, if_neg hne]
  by_cases hc : ck nb (me l).1 (l.take (me l).2) = 0
  · have hp := me_pos nb hc
    have hlp : 0 < l.length := List.length_pos_iff.2 hne
    rw [if_neg (show ¬ (ck nb (me l).1 (l.take (me l).2) ≠ 0) from fun hh => hh hc), if_neg (show ¬ (ck nb (me l).1 (l.take (me l).2) ≠ 0) from fun hh => hh hc)]
    by_cases ha : acc.length = 12000
    · rw [if_pos ha, if_pos ha]
    · rw [if_neg ha, if_neg ha]
      unfold lexP
      refine lexF_fuel nb fx _ _ _ _ _ ?_ ?_ <;> simp only [List.length_drop] <;> omega
  · rw [if_pos hc, if_pos hc]
theorem adv_step (p : PS) (l : List UInt8) (j : Nat) (h : j < l.length) : adv false p (l.take (j + 1)) = ad1 (adv false p (l.take j)) l[j] := by
  rw [List.take_succ_eq_append_getElem h, adv_app]
  rfl
end Go.Proofs.YtomjokpgcijccaaGreatDoor
namespace Go.Proofs.YtomjokpgcijccaaGreatDoor
open Go.RowKit Go.Lib
theorem info_rtoken : (Tryz.prog.info? 38).map (fun i => (i.zero, i.size, i.bytes)) = some (some (.agg #[.int .i64 0, .string ⟨#[]⟩, .int .i64 0, .int .i64 0, .int .i64 0]), 5, 48) := by kernel_rfl
/-- What the reference's Lex leaves. -/
def RLR (w : World) (R : Except (PS × Int) (List TK)) (e : Ending) (w' : World) : Prop :=
  Below w.heap.size w w' ∧ match R with
  | .error x => e = .returned (.tuple #[.slice none 0 0, .agg #[.int .i64 x.1.f, .int .i64 x.1.l, .int .i64 x.1.c], .int .i64 x.2])
  | .ok a => ∃ v, e = .returned (.tuple #[v, .agg #[.int .i64 0, .int .i64 0, .int .i64 0], .int .i64 0]) ∧ w'.ownsRow (w.heap.size + 1) 38 5 v a.length (tcs a)
theorem C3.set2 {w : World} {b : Nat} {ty : TypeId} {x0 x1 x2 : Value} (h : C3 w b ty x0 x1 x2) (y : Value) : C3 (w.setCell ⟨b, 2, none⟩ y) b ty x0 x1 y := by
  unfold C3 at *
  simp [World.setCell, Array.getElem?_modify, h]
theorem C3.set1 {w : World} {b : Nat} {ty : TypeId} {x0 x1 x2 : Value} (h : C3 w b ty x0 x1 x2) (y : Value) : C3 (w.setCell ⟨b, 1, none⟩ y) b ty x0 y x2 := by
  unfold C3 at *
  simp [World.setCell, Array.getElem?_modify, h]
theorem C3.vals {w : World} {b : Nat} {ty : TypeId} {x0 x1 x2 : Value} (h : C3 w b ty x0 x1 x2) : w.cell? ⟨b, 0, none⟩ = some x0 ∧ w.cell? ⟨b, 1, none⟩ = some x1 ∧ w.cell? ⟨b, 2, none⟩ = some x2 := ⟨h.all.1, h.all.2.1, h.all.2.2.1⟩
theorem C3.far {w : World} {b : Nat} {ty : TypeId} {x0 x1 x2 : Value} (h : C3 w b ty x0 x1 x2) {d i : Nat} (hd : b ≠ d) (y : Value) : C3 (w.setCell ⟨d, i, none⟩ y) b ty x0 x1 x2 :=
  (Below.heap_setCell w ⟨d, i, none⟩ y b hd).trans h
theorem C3.far3 {w : World} {b : Nat} {ty : TypeId} {x0 x1 x2 : Value} (h : C3 w b ty x0 x1 x2) {d : Nat} (hd : b ≠ d) (y0 y1 y2 : Value) :
    C3 (((w.setCell ⟨d, 0, none⟩ y0).setCell ⟨d, 1, none⟩ y1).setCell ⟨d, 2, none⟩ y2) b ty x0 x1 x2 := ((h.far hd y0).far hd y1).far hd y2
abbrev wr2 (x : Int) : Int := wrap64 (x + 1)
theorem wr_wr2 (x : Int) : wr (x + 1) = wr2 x := IntWalk.i64_left _
def lenV : Value → Nat
  | .string s => s.size
  | _ => 0
theorem drop_blank (c : UInt8) (t : List UInt8) : (c :: t).drop 1 = t := rfl
set_option maxRecDepth 100000 in
set_option maxHeartbeats 12800000 in
theorem rLex_t (A : Option Addr) (c : Nat) (qs : List PC) (w : World) (hA : PCL w A qs) (hN : qs.length ≤ 1000000000) (hq : ∀ q, q ∈ qs → q.t.length < 4611686018427387900) :
    Calls Tryz.prog 7 #[.slice A qs.length c] w (RLR w (lexL nbP qs [])) := by
  obtain ⟨R, hR⟩ : ∃ R, lexL nbP qs [] = R := ⟨_, rfl⟩
  obtain ⟨N, hNe⟩ : ∃ N, qs.length = N := ⟨_, rfl⟩
  have h00 : lexL nbP (qs.drop 0) [] = R := hR
  rw [hR, hNe]
  rw [hNe] at hN
  obtain ⟨i0, hi, hz0, hz1, hz2⟩ := info_parts info_rtoken
  replace h00 := Lib.hid h00
  replace hA := Lib.hid hA
  replace hq := Lib.hid hq
  replace hNe := Lib.hid hNe
  clear hR
  have Z0 : C3 _ w.heap.size _ _ _ _ := Go.Deep.blk_alloc_new w (.cells #[.int .i64 0, .int .i64 0, .int .i64 0] 29)
  have hb0 : Below w.heap.size w (w.alloc (.cells #[.int .i64 0, .int .i64 0, .int .i64 0] 29)) := (Below.refl _ w).alloc (Nat.le_refl _) _
  replace Z0 := Lib.hid Z0
  replace hb0 := Lib.hid hb0
  go_enter Tryz.func7, Tryz.ntmps7
  go_wp2_with fail
  go_loopw [5, 6] (fun v iv wr => ∃ k : Nat, k ≤ N ∧ iv = .int .i64 (k : Int) ∧ ∃ acc, acc.length ≤ 12000 ∧ lexL nbP (qs.drop k) acc = R ∧ wr.ownsRow (w.heap.size + 1) 38 5 v acc.length (tcs acc) ∧ C3 wr w.heap.size 29 (.int .i64 0) (.int .i64 0) (.int .i64 0) ∧ Below w.heap.size w wr) (fun _ iv _ => N - (RowKit.intOf iv).toNat)
  case atStart => exact ⟨0, Nat.zero_le _, rfl, [], by simp, h00.out, ⟨rfl, Or.inl ⟨rfl, rfl⟩⟩, Z0.out, hb0.out⟩
  case round =>
    obtain ⟨k, hk, rfl, acc, hacc, hr, hown, Z, hbw⟩ := hrel
    clear Z0 hb0 h00
    by_cases hlt : k < N
    · have hkl : k < qs.length := by rw [hNe.out]; exact hlt
      obtain ⟨bA, oA, rfl, hbA, hc⟩ := hA.out (by omega)
      obtain ⟨c0, c1, c2, c3, c4⟩ := hc k hkl
      have h4 := c4
      have hbc := fun o => hbw.cell (p := ⟨bA, o, none⟩) hbA
      rw [← hbc] at c0 c1 c2 c3 c4
      rw [lexL_step qs k hkl acc] at hr
      have hql := hq.out qs[k] (List.getElem_mem hkl)
      generalize qs[k].t = l0 at *
      generalize qs[k].fx = fx at *
      generalize qs[k].p = p0 at *
      obtain ⟨S0, hS0⟩ : ∃ S, tx l0 = S := ⟨_, rfl⟩
      rw [hS0] at c0
      have hCP : C3 (wr.alloc (.cells #[.int .i64 p0.f, .int .i64 p0.l, .int .i64 p0.c] 29)) wr.heap.size 29 (.int .i64 p0.f) (.int .i64 p0.l) (.int .i64 p0.c) := Go.Deep.blk_alloc_new _ _
      have zr := hbw.size
      have hbw1 := hbw.alloc zr (.cells #[.int .i64 p0.f, .int .i64 p0.l, .int .i64 p0.c] 29)
      have Z1 := Z.over ((Below.refl wr.heap.size wr).alloc (Nat.le_refl _) (.cells #[.int .i64 p0.f, .int .i64 p0.l, .int .i64 p0.c] 29))
      have hown1 := own_blk hown (w' := wr.alloc (.cells #[.int .i64 p0.f, .int .i64 p0.l, .int .i64 p0.c] 29)) fun g hg => Go.Deep.blk_alloc_lt _ _ _ (own_lt hown g hg).2
      have hbo1 : ∀ g, u5.ownBlock = some g → g ≠ wr.heap.size := fun g hg => by have := (own_lt hown g hg).2; omega
      have hzP : w.heap.size < wr.heap.size := Z.lt
      replace h4 := Lib.hid h4
      replace hr := Lib.hid hr
      replace hCP := Lib.hid hCP
      replace hbw1 := Lib.hid hbw1
      replace Z1 := Lib.hid Z1
      replace hown1 := Lib.hid hown1
      replace hbo1 := Lib.hid hbo1
      replace hS0 := Lib.hid hS0
      replace hql := Lib.hid hql
      clear hc hbc hown Z hbw hA hq
      go_wp2_with fail
      generalize hBP : wr.heap.size = bP at *
      replace hBP := Lib.hid hBP
      go_loopw [5, 7] (fun v sv wq => ∃ l p a, sv = .string (tx l) ∧ List.length l < 4611686018427387900 ∧ a.length ≤ 12000 ∧ goOn (qs.drop (k + 1)) (lexP nbP fx l p a) = R ∧ C3 wq bP 29 (.int .i64 p.f) (.int .i64 p.l) (.int .i64 p.c) ∧ wq.ownsRow (w.heap.size + 1) 38 5 v a.length (tcs a) ∧ (∀ g, v.ownBlock = some g → g ≠ bP) ∧ C3 wq w.heap.size 29 (.int .i64 0) (.int .i64 0) (.int .i64 0) ∧ Below w.heap.size w wq) (fun _ sv _ => lenV sv)
      case atStart => exact ⟨l0, p0, acc, by rw [hS0.out], hql.out, hacc, hr.out, hCP.out, hown1.out, hbo1.out, Z1.out, hbw1.out⟩
      case round =>
        obtain ⟨l, p, a, rfl, hl, ha, hr, hC, hown, hbo, Z, hbw⟩ := hrel
        clear Z1 hown1 hbw1 hbo1 hCP hS0 hql hacc c0 c1 c2 c3 c4
        have hdrop := fun (n : Nat) => (show (tx l).extract n (tx l).size = tx (l.drop n) from tx_drop l n)
        have htake := fun (n : Nat) => tx_take l n
        have hsz : (tx l).size = l.length := rfl
        have hmeas : lenV (.string (tx l)) = l.length := rfl
        obtain ⟨S, hS⟩ : ∃ S, tx l = S := ⟨_, rfl⟩
        rw [hS] at hdrop htake hsz hmeas ⊢
        have hbt := fun (k : Nat) (h : k < S.size) (h' : k < l.length) => (show S[k].toNat = (l[k]).toNat by subst hS; rfl)
        obtain ⟨Av, cv, rfl⟩ := own_form hown
        have zw := hbw.size
        replace hdrop := Lib.hid hdrop
        replace htake := Lib.hid htake
        replace hsz := Lib.hid hsz
        replace hmeas := Lib.hid hmeas
        replace hbt := Lib.hid hbt
        by_cases h0 : l = []
        · have hne : S.toList = [] := by rw [← hS, tx_toList]; exact h0
          have hne2 : S.toList.isEmpty = true := by rw [hne]; rfl
          have hfin : lexL nbP (qs.drop (k + 1)) a = R := by
            rw [← hr, h0]; rfl
          replace hfin := Lib.hid hfin
          replace hne := Lib.hid hne
          replace hown := Lib.hid hown
          replace Z := Lib.hid Z
          replace hbw := Lib.hid hbw
          clear hr hC hS h0 hbo
          go_wp2_with fail
          go_roundw
          case rel => exact ⟨k + 1, by omega, by go_num, a, ha, hfin.out, hown.out, Z.out, hbw.out⟩
          case measure => simp [RowKit.intOf]; omega
        · obtain ⟨hne, hne2⟩ := ne_toList hS h0
          have hlp : 0 < l.length := List.length_pos_iff.2 h0
          have hsp : 0 < S.size := by rw [hsz.out]; exact hlp
          have hb0 := hbt.out 0 hsp hlp
          obtain ⟨c, t, hct⟩ : ∃ c t, c :: t = l := by cases l with
            | nil => exact absurd rfl h0
            | cons c t => exact ⟨c, t, rfl⟩
          have hc0 : l[0] = c := by subst hct; rfl
          rw [hc0] at hb0
          have hcx : c.toNat < 256 := UInt8.toNat_lt _
          by_cases hbl : blkB c.toNat = true
          · have hrb : goOn (qs.drop (k + 1)) (lexP nbP fx (l.drop 1) (adv fx p (l.take 1)) a) = R := by
              rw [← hr, ← hct, lexP_blank nbP fx c t p a hbl]; rfl
            have hbx : c.toNat = 32 ∨ c.toNat = 9 ∨ c.toNat = 13 ∨ c.toNat = 10 := by simpa [blkB, or_assoc] using hbl
            replace hrb := Lib.hid hrb
            replace hC := Lib.hid hC
            replace hown := Lib.hid hown
            replace hbo := Lib.hid hbo
            replace Z := Lib.hid Z
            replace hbw := Lib.hid hbw
            replace hsz := Lib.hid hsz.out
            replace hlp := Lib.hid hlp
            clear hr hbl hct hc0 hS hcx
            generalize c.toNat = x at *
            rcases hbx with rfl | rfl | rfl | rfl
            · go_wp2_with fail
              replace hlp := Lib.hid hlp.out
              go_loopw [13] (fun iv wz => ∃ j : Nat, j ≤ 1 ∧ iv = .int .i64 (j : Int) ∧ (fx = true → j = 0) ∧ KB bP wr wz ∧ C3 wz bP 29 (.int .i64 (adv fx p (l.take j)).f) (.int .i64 (adv fx p (l.take j)).l) (.int .i64 (adv fx p (l.take j)).c)) (fun iv _ => 1 - (RowKit.intOf iv).toNat)
              case atStart => exact ⟨0, Nat.zero_le _, rfl, fun _ => rfl, KB.refl _ _, by rw [List.take_zero, adv_nil]; exact hC.out⟩
              case round =>
                obtain ⟨j, hj, rfl, hfx, hKB, hCj⟩ := hrel
                have hbz := hbw.out.trans (hKB.below (by omega) hbw.out.size)
                have cF := (hbz.cell (p := ⟨bA, oA + k * 5 + 4, none⟩) hbA).trans h4.out
                have zZ := hKB.size
                have hownz := own_blk hown.out fun g hg => hKB.blk g (hbo.out g hg) (own_lt hown.out g hg).2
                have Zz := Z.out.keep hKB (by omega)
                have hCA := hCj.all
                have hnl : 1 ≤ S.size := by have := hlp.out; have := hsz.out; omega
                by_cases hend : j = 1 ∨ fx = true
                · have hCe : C3 wr bP 29 (.int .i64 (adv fx p (l.take 1)).f) (.int .i64 (adv fx p (l.take 1)).l) (.int .i64 (adv fx p (l.take 1)).c) := by
                    rcases hend with h | h
                    · rw [← h]; exact hCj
                    · have : adv fx p (l.take 1) = adv fx p (l.take j) := by rw [h]; rfl
                      rw [this]; exact hCj
                  have hds := hdrop.out 1
                  have hex : decide ((j : Int) < (1 : Int)) = false ∨ (decide ((j : Int) < (1 : Int)) = true ∧ fx = true) := by
                    by_cases h : j < 1
                    · right; exact ⟨by simp; omega, by rcases hend with e | e; omega; exact e⟩
                    · left; simp; omega
                  have hld : (l.drop 1).length = l.length - 1 := List.length_drop
                  have hszo := hsz.out
                  have hmo := hmeas.out
                  replace hCe := Lib.hid hCe
                  replace hownz := Lib.hid hownz
                  replace Zz := Lib.hid Zz
                  replace hbz := Lib.hid hbz
                  replace hds := Lib.hid hds
                  replace hld := Lib.hid hld
                  replace hszo := Lib.hid hszo
                  replace hmo := Lib.hid hmo
                  clear hKB hCj hend hfx hC hown hCA
                  by_cases hjn : j < 1
                  · have hft : fx = true := by
                      rcases hex with h | h
                      · simp at h; omega
                      · exact h.2
                    subst hft
                    have q1 : decide ((j : Int) < (1 : Int)) = true := by simp; omega
                    clear hex
                    go_wp2_with fail
                    go_roundw
                    case rel => exact ⟨l.drop 1, adv true p (l.take 1), a, by rw [← hds.out], by rw [hld.out]; omega, ha, hrb.out, hCe.out, hownz.out, hbo.out, Zz.out, hbz.out⟩
                    case measure => rw [hmo.out]; show (S.extract _ _).size < _; rw [hds.out]; show (l.drop 1).length < _; rw [hld.out]; have := hlp.out; omega
                  · have q1 : decide ((j : Int) < (1 : Int)) = false := by simp; omega
                    clear hex
                    go_wp2_with fail
                    go_roundw
                    case rel => exact ⟨l.drop 1, adv fx p (l.take 1), a, by rw [← hds.out], by rw [hld.out]; omega, ha, hrb.out, hCe.out, hownz.out, hbo.out, Zz.out, hbz.out⟩
                    case measure => rw [hmo.out]; show (S.extract _ _).size < _; rw [hds.out]; show (l.drop 1).length < _; rw [hld.out]; have := hlp.out; omega
                · have hjn : j < 1 := by omega
                  have hff : fx = false := by cases fx; rfl; exact absurd (Or.inr rfl) hend
                  subst hff
                  have hjl : j < l.length := by have := hsz.out; omega
                  have hjs : j < S.size := by omega
                  have hby := hbt.out j hjs hjl
                  have hst := adv_step p l j hjl
                  have q1 : decide ((j : Int) < (1 : Int)) = true := by simp; omega
                  have hwj : IntKind.i64.wrap ((j : Int) + 1) = ((j + 1 : Nat) : Int) := by rw [IntWalk.i64_in _ (by have := hsz.out; omega)]; omega
                  by_cases hnlb : l[j] = 10
                  · have hy : S[j].toNat = 10 := by rw [hby, hnlb]; rfl
                    unfold ad1 at hst
                    rw [if_pos hnlb, wr_wr2] at hst
                    have hK2 := ((hKB.trans (KB.set bP 2 wr (.int .i64 (wr2 (adv false p (l.take j)).c)))).trans (KB.set bP 1 _ (.int .i64 (wr2 (adv false p (l.take j)).l)))).trans (KB.set bP 2 _ (.int .i64 1))
                    have hC2 := ((hCj.set2 (.int .i64 (wr2 (adv false p (l.take j)).c))).set1 (.int .i64 (wr2 (adv false p (l.take j)).l))).set2 (.int .i64 1)
                    generalize adv false p (l.take j) = pj at *
                    replace hK2 := Lib.hid hK2
                    replace hC2 := Lib.hid hC2
                    replace hst := Lib.hid hst
                    replace hnlb := Lib.hid hnlb
                    clear hownz Zz hbz hKB hCj hfx hend hby
                    go_wp2_with fail
                    go_roundw
                    case rel => exact ⟨j + 1, by omega, by go_num, (fun h => by cases h), hK2.out, by rw [hst.out]; exact hC2.out⟩
                    case measure => simp [RowKit.intOf]; omega
                  · have hyn : ¬ S[j].toNat = 10 := by rw [hby]; intro e; exact hnlb (UInt8.toNat_inj.1 e)
                    generalize hyy : S[j].toNat = y at *
                    have q2 : ((y : Int) == 10) = false := by simp; omega
                    unfold ad1 at hst
                    rw [if_neg hnlb, wr_wr2] at hst
                    have hK2 := hKB.trans (KB.set bP 2 wr (.int .i64 (wr2 (adv false p (l.take j)).c)))
                    have hC2 := hCj.set2 (.int .i64 (wr2 (adv false p (l.take j)).c))
                    generalize adv false p (l.take j) = pj at *
                    replace hK2 := Lib.hid hK2
                    replace hC2 := Lib.hid hC2
                    replace hst := Lib.hid hst
                    replace hnlb := Lib.hid hnlb
                    clear hownz Zz hbz hKB hCj hfx hend hby
                    go_wp2_with fail
                    go_roundw
                    case rel => exact ⟨j + 1, by omega, by go_num, (fun h => by cases h), hK2.out, by rw [hst.out]; exact hC2.out⟩
                    case measure => simp [RowKit.intOf]; omega
            · go_wp2_with fail
              replace hlp := Lib.hid hlp.out
              go_loopw [13] (fun iv wz => ∃ j : Nat, j ≤ 1 ∧ iv = .int .i64 (j : Int) ∧ (fx = true → j = 0) ∧ KB bP wr wz ∧ C3 wz bP 29 (.int .i64 (adv fx p (l.take j)).f) (.int .i64 (adv fx p (l.take j)).l) (.int .i64 (adv fx p (l.take j)).c)) (fun iv _ => 1 - (RowKit.intOf iv).toNat)
              case atStart => exact ⟨0, Nat.zero_le _, rfl, fun _ => rfl, KB.refl _ _, by rw [List.take_zero, adv_nil]; exact hC.out⟩
              case round =>
                obtain ⟨j, hj, rfl, hfx, hKB, hCj⟩ := hrel
                have hbz := hbw.out.trans (hKB.below (by omega) hbw.out.size)
                have cF := (hbz.cell (p := ⟨bA, oA + k * 5 + 4, none⟩) hbA).trans h4.out
                have zZ := hKB.size
                have hownz := own_blk hown.out fun g hg => hKB.blk g (hbo.out g hg) (own_lt hown.out g hg).2
                have Zz := Z.out.keep hKB (by omega)
                have hCA := hCj.all
                have hnl : 1 ≤ S.size := by have := hlp.out; have := hsz.out; omega
                by_cases hend : j = 1 ∨ fx = true
                · have hCe : C3 wr bP 29 (.int .i64 (adv fx p (l.take 1)).f) (.int .i64 (adv fx p (l.take 1)).l) (.int .i64 (adv fx p (l.take 1)).c) := by
                    rcases hend with h | h
                    · rw [← h]; exact hCj
                    · have : adv fx p (l.take 1) = adv fx p (l.take j) := by rw [h]; rfl
                      rw [this]; exact hCj
                  have hds := hdrop.out 1
                  have hex : decide ((j : Int) < (1 : Int)) = false ∨ (decide ((j : Int) < (1 : Int)) = true ∧ fx = true) := by
                    by_cases h : j < 1
                    · right; exact ⟨by simp; omega, by rcases hend with e | e; omega; exact e⟩
                    · left; simp; omega
                  have hld : (l.drop 1).length = l.length - 1 := List.length_drop
                  have hszo := hsz.out
                  have hmo := hmeas.out
                  replace hCe := Lib.hid hCe
                  replace hownz := Lib.hid hownz
                  replace Zz := Lib.hid Zz
                  replace hbz := Lib.hid hbz
                  replace hds := Lib.hid hds
                  replace hld := Lib.hid hld
                  replace hszo := Lib.hid hszo
                  replace hmo := Lib.hid hmo
                  clear hKB hCj hend hfx hC hown hCA
                  by_cases hjn : j < 1
                  · have hft : fx = true := by
                      rcases hex with h | h
                      · simp at h; omega
                      · exact h.2
                    subst hft
                    have q1 : decide ((j : Int) < (1 : Int)) = true := by simp; omega
                    clear hex
                    go_wp2_with fail
                    go_roundw
                    case rel => exact ⟨l.drop 1, adv true p (l.take 1), a, by rw [← hds.out], by rw [hld.out]; omega, ha, hrb.out, hCe.out, hownz.out, hbo.out, Zz.out, hbz.out⟩
                    case measure => rw [hmo.out]; show (S.extract _ _).size < _; rw [hds.out]; show (l.drop 1).length < _; rw [hld.out]; have := hlp.out; omega
                  · have q1 : decide ((j : Int) < (1 : Int)) = false := by simp; omega
                    clear hex
                    go_wp2_with fail
                    go_roundw
                    case rel => exact ⟨l.drop 1, adv fx p (l.take 1), a, by rw [← hds.out], by rw [hld.out]; omega, ha, hrb.out, hCe.out, hownz.out, hbo.out, Zz.out, hbz.out⟩
                    case measure => rw [hmo.out]; show (S.extract _ _).size < _; rw [hds.out]; show (l.drop 1).length < _; rw [hld.out]; have := hlp.out; omega
                · have hjn : j < 1 := by omega
                  have hff : fx = false := by cases fx; rfl; exact absurd (Or.inr rfl) hend
                  subst hff
                  have hjl : j < l.length := by have := hsz.out; omega
                  have hjs : j < S.size := by omega
                  have hby := hbt.out j hjs hjl
                  have hst := adv_step p l j hjl
                  have q1 : decide ((j : Int) < (1 : Int)) = true := by simp; omega
                  have hwj : IntKind.i64.wrap ((j : Int) + 1) = ((j + 1 : Nat) : Int) := by rw [IntWalk.i64_in _ (by have := hsz.out; omega)]; omega
                  by_cases hnlb : l[j] = 10
                  · have hy : S[j].toNat = 10 := by rw [hby, hnlb]; rfl
                    unfold ad1 at hst
                    rw [if_pos hnlb, wr_wr2] at hst
                    have hK2 := ((hKB.trans (KB.set bP 2 wr (.int .i64 (wr2 (adv false p (l.take j)).c)))).trans (KB.set bP 1 _ (.int .i64 (wr2 (adv false p (l.take j)).l)))).trans (KB.set bP 2 _ (.int .i64 1))
                    have hC2 := ((hCj.set2 (.int .i64 (wr2 (adv false p (l.take j)).c))).set1 (.int .i64 (wr2 (adv false p (l.take j)).l))).set2 (.int .i64 1)
                    generalize adv false p (l.take j) = pj at *
                    replace hK2 := Lib.hid hK2
                    replace hC2 := Lib.hid hC2
                    replace hst := Lib.hid hst
                    replace hnlb := Lib.hid hnlb
                    clear hownz Zz hbz hKB hCj hfx hend hby
                    go_wp2_with fail
                    go_roundw
                    case rel => exact ⟨j + 1, by omega, by go_num, (fun h => by cases h), hK2.out, by rw [hst.out]; exact hC2.out⟩
                    case measure => simp [RowKit.intOf]; omega
                  · have hyn : ¬ S[j].toNat = 10 := by rw [hby]; intro e; exact hnlb (UInt8.toNat_inj.1 e)
                    generalize hyy : S[j].toNat = y at *
                    have q2 : ((y : Int) == 10) = false := by simp; omega
                    unfold ad1 at hst
                    rw [if_neg hnlb, wr_wr2] at hst
                    have hK2 := hKB.trans (KB.set bP 2 wr (.int .i64 (wr2 (adv false p (l.take j)).c)))
                    have hC2 := hCj.set2 (.int .i64 (wr2 (adv false p (l.take j)).c))
                    generalize adv false p (l.take j) = pj at *
                    replace hK2 := Lib.hid hK2
                    replace hC2 := Lib.hid hC2
                    replace hst := Lib.hid hst
                    replace hnlb := Lib.hid hnlb
                    clear hownz Zz hbz hKB hCj hfx hend hby
                    go_wp2_with fail
                    go_roundw
                    case rel => exact ⟨j + 1, by omega, by go_num, (fun h => by cases h), hK2.out, by rw [hst.out]; exact hC2.out⟩
                    case measure => simp [RowKit.intOf]; omega
            · go_wp2_with fail
              replace hlp := Lib.hid hlp.out
              go_loopw [13] (fun iv wz => ∃ j : Nat, j ≤ 1 ∧ iv = .int .i64 (j : Int) ∧ (fx = true → j = 0) ∧ KB bP wr wz ∧ C3 wz bP 29 (.int .i64 (adv fx p (l.take j)).f) (.int .i64 (adv fx p (l.take j)).l) (.int .i64 (adv fx p (l.take j)).c)) (fun iv _ => 1 - (RowKit.intOf iv).toNat)
              case atStart => exact ⟨0, Nat.zero_le _, rfl, fun _ => rfl, KB.refl _ _, by rw [List.take_zero, adv_nil]; exact hC.out⟩
              case round =>
                obtain ⟨j, hj, rfl, hfx, hKB, hCj⟩ := hrel
                have hbz := hbw.out.trans (hKB.below (by omega) hbw.out.size)
                have cF := (hbz.cell (p := ⟨bA, oA + k * 5 + 4, none⟩) hbA).trans h4.out
                have zZ := hKB.size
                have hownz := own_blk hown.out fun g hg => hKB.blk g (hbo.out g hg) (own_lt hown.out g hg).2
                have Zz := Z.out.keep hKB (by omega)
                have hCA := hCj.all
                have hnl : 1 ≤ S.size := by have := hlp.out; have := hsz.out; omega
                by_cases hend : j = 1 ∨ fx = true
                · have hCe : C3 wr bP 29 (.int .i64 (adv fx p (l.take 1)).f) (.int .i64 (adv fx p (l.take 1)).l) (.int .i64 (adv fx p (l.take 1)).c) := by
                    rcases hend with h | h
                    · rw [← h]; exact hCj
                    · have : adv fx p (l.take 1) = adv fx p (l.take j) := by rw [h]; rfl
                      rw [this]; exact hCj
                  have hds := hdrop.out 1
                  have hex : decide ((j : Int) < (1 : Int)) = false ∨ (decide ((j : Int) < (1 : Int)) = true ∧ fx = true) := by
                    by_cases h : j < 1
                    · right; exact ⟨by simp; omega, by rcases hend with e | e; omega; exact e⟩
                    · left; simp; omega
                  have hld : (l.drop 1).length = l.length - 1 := List.length_drop
                  have hszo := hsz.out
                  have hmo := hmeas.out
                  replace hCe := Lib.hid hCe
                  replace hownz := Lib.hid hownz
                  replace Zz := Lib.hid Zz
                  replace hbz := Lib.hid hbz
                  replace hds := Lib.hid hds
                  replace hld := Lib.hid hld
                  replace hszo := Lib.hid hszo
                  replace hmo := Lib.hid hmo
                  clear hKB hCj hend hfx hC hown hCA
                  by_cases hjn : j < 1
                  · have hft : fx = true := by
                      rcases hex with h | h
                      · simp at h; omega
                      · exact h.2
                    subst hft
                    have q1 : decide ((j : Int) < (1 : Int)) = true := by simp; omega
                    clear hex
                    go_wp2_with fail
                    go_roundw
                    case rel => exact ⟨l.drop 1, adv true p (l.take 1), a, by rw [← hds.out], by rw [hld.out]; omega, ha, hrb.out, hCe.out, hownz.out, hbo.out, Zz.out, hbz.out⟩
                    case measure => rw [hmo.out]; show (S.extract _ _).size < _; rw [hds.out]; show (l.drop 1).length < _; rw [hld.out]; have := hlp.out; omega
                  · have q1 : decide ((j : Int) < (1 : Int)) = false := by simp; omega
                    clear hex
                    go_wp2_with fail
                    go_roundw
                    case rel => exact ⟨l.drop 1, adv fx p (l.take 1), a, by rw [← hds.out], by rw [hld.out]; omega, ha, hrb.out, hCe.out, hownz.out, hbo.out, Zz.out, hbz.out⟩
                    case measure => rw [hmo.out]; show (S.extract _ _).size < _; rw [hds.out]; show (l.drop 1).length < _; rw [hld.out]; have := hlp.out; omega
                · have hjn : j < 1 := by omega
                  have hff : fx = false := by cases fx; rfl; exact absurd (Or.inr rfl) hend
                  subst hff
                  have hjl : j < l.length := by have := hsz.out; omega
                  have hjs : j < S.size := by omega
                  have hby := hbt.out j hjs hjl
                  have hst := adv_step p l j hjl
                  have q1 : decide ((j : Int) < (1 : Int)) = true := by simp; omega
                  have hwj : IntKind.i64.wrap ((j : Int) + 1) = ((j + 1 : Nat) : Int) := by rw [IntWalk.i64_in _ (by have := hsz.out; omega)]; omega
                  by_cases hnlb : l[j] = 10
                  · have hy : S[j].toNat = 10 := by rw [hby, hnlb]; rfl
                    unfold ad1 at hst
                    rw [if_pos hnlb, wr_wr2] at hst
                    have hK2 := ((hKB.trans (KB.set bP 2 wr (.int .i64 (wr2 (adv false p (l.take j)).c)))).trans (KB.set bP 1 _ (.int .i64 (wr2 (adv false p (l.take j)).l)))).trans (KB.set bP 2 _ (.int .i64 1))
                    have hC2 := ((hCj.set2 (.int .i64 (wr2 (adv false p (l.take j)).c))).set1 (.int .i64 (wr2 (adv false p (l.take j)).l))).set2 (.int .i64 1)
                    generalize adv false p (l.take j) = pj at *
                    replace hK2 := Lib.hid hK2
                    replace hC2 := Lib.hid hC2
                    replace hst := Lib.hid hst
                    replace hnlb := Lib.hid hnlb
                    clear hownz Zz hbz hKB hCj hfx hend hby
                    go_wp2_with fail
                    go_roundw
                    case rel => exact ⟨j + 1, by omega, by go_num, (fun h => by cases h), hK2.out, by rw [hst.out]; exact hC2.out⟩
                    case measure => simp [RowKit.intOf]; omega
                  · have hyn : ¬ S[j].toNat = 10 := by rw [hby]; intro e; exact hnlb (UInt8.toNat_inj.1 e)
                    generalize hyy : S[j].toNat = y at *
                    have q2 : ((y : Int) == 10) = false := by simp; omega
                    unfold ad1 at hst
                    rw [if_neg hnlb, wr_wr2] at hst
                    have hK2 := hKB.trans (KB.set bP 2 wr (.int .i64 (wr2 (adv false p (l.take j)).c)))
                    have hC2 := hCj.set2 (.int .i64 (wr2 (adv false p (l.take j)).c))
                    generalize adv false p (l.take j) = pj at *
                    replace hK2 := Lib.hid hK2
                    replace hC2 := Lib.hid hC2
                    replace hst := Lib.hid hst
                    replace hnlb := Lib.hid hnlb
                    clear hownz Zz hbz hKB hCj hfx hend hby
                    go_wp2_with fail
                    go_roundw
                    case rel => exact ⟨j + 1, by omega, by go_num, (fun h => by cases h), hK2.out, by rw [hst.out]; exact hC2.out⟩
                    case measure => simp [RowKit.intOf]; omega
            · go_wp2_with fail
              replace hlp := Lib.hid hlp.out
              go_loopw [13] (fun iv wz => ∃ j : Nat, j ≤ 1 ∧ iv = .int .i64 (j : Int) ∧ (fx = true → j = 0) ∧ KB bP wr wz ∧ C3 wz bP 29 (.int .i64 (adv fx p (l.take j)).f) (.int .i64 (adv fx p (l.take j)).l) (.int .i64 (adv fx p (l.take j)).c)) (fun iv _ => 1 - (RowKit.intOf iv).toNat)
              case atStart => exact ⟨0, Nat.zero_le _, rfl, fun _ => rfl, KB.refl _ _, by rw [List.take_zero, adv_nil]; exact hC.out⟩
              case round =>
                obtain ⟨j, hj, rfl, hfx, hKB, hCj⟩ := hrel
                have hbz := hbw.out.trans (hKB.below (by omega) hbw.out.size)
                have cF := (hbz.cell (p := ⟨bA, oA + k * 5 + 4, none⟩) hbA).trans h4.out
                have zZ := hKB.size
                have hownz := own_blk hown.out fun g hg => hKB.blk g (hbo.out g hg) (own_lt hown.out g hg).2
                have Zz := Z.out.keep hKB (by omega)
                have hCA := hCj.all
                have hnl : 1 ≤ S.size := by have := hlp.out; have := hsz.out; omega
                by_cases hend : j = 1 ∨ fx = true
                · have hCe : C3 wr bP 29 (.int .i64 (adv fx p (l.take 1)).f) (.int .i64 (adv fx p (l.take 1)).l) (.int .i64 (adv fx p (l.take 1)).c) := by
                    rcases hend with h | h
                    · rw [← h]; exact hCj
                    · have : adv fx p (l.take 1) = adv fx p (l.take j) := by rw [h]; rfl
                      rw [this]; exact hCj
                  have hds := hdrop.out 1
                  have hex : decide ((j : Int) < (1 : Int)) = false ∨ (decide ((j : Int) < (1 : Int)) = true ∧ fx = true) := by
                    by_cases h : j < 1
                    · right; exact ⟨by simp; omega, by rcases hend with e | e; omega; exact e⟩
                    · left; simp; omega
                  have hld : (l.drop 1).length = l.length - 1 := List.length_drop
                  have hszo := hsz.out
                  have hmo := hmeas.out
                  replace hCe := Lib.hid hCe
                  replace hownz := Lib.hid hownz
                  replace Zz := Lib.hid Zz
                  replace hbz := Lib.hid hbz
                  replace hds := Lib.hid hds
                  replace hld := Lib.hid hld
                  replace hszo := Lib.hid hszo
                  replace hmo := Lib.hid hmo
                  clear hKB hCj hend hfx hC hown hCA
                  by_cases hjn : j < 1
                  · have hft : fx = true := by
                      rcases hex with h | h
                      · simp at h; omega
                      · exact h.2
                    subst hft
                    have q1 : decide ((j : Int) < (1 : Int)) = true := by simp; omega
                    clear hex
                    go_wp2_with fail
                    go_roundw
                    case rel => exact ⟨l.drop 1, adv true p (l.take 1), a, by rw [← hds.out], by rw [hld.out]; omega, ha, hrb.out, hCe.out, hownz.out, hbo.out, Zz.out, hbz.out⟩
                    case measure => rw [hmo.out]; show (S.extract _ _).size < _; rw [hds.out]; show (l.drop 1).length < _; rw [hld.out]; have := hlp.out; omega
                  · have q1 : decide ((j : Int) < (1 : Int)) = false := by simp; omega
                    clear hex
                    go_wp2_with fail
                    go_roundw
                    case rel => exact ⟨l.drop 1, adv fx p (l.take 1), a, by rw [← hds.out], by rw [hld.out]; omega, ha, hrb.out, hCe.out, hownz.out, hbo.out, Zz.out, hbz.out⟩
                    case measure => rw [hmo.out]; show (S.extract _ _).size < _; rw [hds.out]; show (l.drop 1).length < _; rw [hld.out]; have := hlp.out; omega
                · have hjn : j < 1 := by omega
                  have hff : fx = false := by cases fx; rfl; exact absurd (Or.inr rfl) hend
                  subst hff
                  have hjl : j < l.length := by have := hsz.out; omega
                  have hjs : j < S.size := by omega
                  have hby := hbt.out j hjs hjl
                  have hst := adv_step p l j hjl
                  have q1 : decide ((j : Int) < (1 : Int)) = true := by simp; omega
                  have hwj : IntKind.i64.wrap ((j : Int) + 1) = ((j + 1 : Nat) : Int) := by rw [IntWalk.i64_in _ (by have := hsz.out; omega)]; omega
                  by_cases hnlb : l[j] = 10
                  · have hy : S[j].toNat = 10 := by rw [hby, hnlb]; rfl
                    unfold ad1 at hst
                    rw [if_pos hnlb, wr_wr2] at hst
                    have hK2 := ((hKB.trans (KB.set bP 2 wr (.int .i64 (wr2 (adv false p (l.take j)).c)))).trans (KB.set bP 1 _ (.int .i64 (wr2 (adv false p (l.take j)).l)))).trans (KB.set bP 2 _ (.int .i64 1))
                    have hC2 := ((hCj.set2 (.int .i64 (wr2 (adv false p (l.take j)).c))).set1 (.int .i64 (wr2 (adv false p (l.take j)).l))).set2 (.int .i64 1)
                    generalize adv false p (l.take j) = pj at *
                    replace hK2 := Lib.hid hK2
                    replace hC2 := Lib.hid hC2
                    replace hst := Lib.hid hst
                    replace hnlb := Lib.hid hnlb
                    clear hownz Zz hbz hKB hCj hfx hend hby
                    go_wp2_with fail
                    go_roundw
                    case rel => exact ⟨j + 1, by omega, by go_num, (fun h => by cases h), hK2.out, by rw [hst.out]; exact hC2.out⟩
                    case measure => simp [RowKit.intOf]; omega
                  · have hyn : ¬ S[j].toNat = 10 := by rw [hby]; intro e; exact hnlb (UInt8.toNat_inj.1 e)
                    generalize hyy : S[j].toNat = y at *
                    have q2 : ((y : Int) == 10) = false := by simp; omega
                    unfold ad1 at hst
                    rw [if_neg hnlb, wr_wr2] at hst
                    have hK2 := hKB.trans (KB.set bP 2 wr (.int .i64 (wr2 (adv false p (l.take j)).c)))
                    have hC2 := hCj.set2 (.int .i64 (wr2 (adv false p (l.take j)).c))
                    generalize adv false p (l.take j) = pj at *
                    replace hK2 := Lib.hid hK2
                    replace hC2 := Lib.hid hC2
                    replace hst := Lib.hid hst
                    replace hnlb := Lib.hid hnlb
                    clear hownz Zz hbz hKB hCj hfx hend hby
                    go_wp2_with fail
                    go_roundw
                    case rel => exact ⟨j + 1, by omega, by go_num, (fun h => by cases h), hK2.out, by rw [hst.out]; exact hC2.out⟩
                    case measure => simp [RowKit.intOf]; omega
          · have hblf : blkB c.toNat = false := by simpa using hbl
            have hr2 := hr
            rw [lexP_word nbP fx c t l p a hct hblf] at hr2
            have hW := Word_t l wr (by omega) h0
            rw [hS] at hW
            have hme := me_le l
            have hpos : ck nbP (me l).1 (l.take (me l).2) = 0 → 0 < (me l).2 := me_pos nbP
            unfold WP WV at hW
            have hxs : ¬ c.toNat = 32 ∧ ¬ c.toNat = 9 ∧ ¬ c.toNat = 13 ∧ ¬ c.toNat = 10 := by simpa [blkB, not_or, and_assoc] using hblf
            obtain ⟨x1, x2, x3, x4⟩ := hxs
            clear hr hblf hbl hct hc0 hcx
            generalize c.toNat = x at *
            have y1 : ((x : Int) == 32) = false := by simp; omega
            have y2 : ((x : Int) == 9) = false := by simp; omega
            have y3 : ((x : Int) == 13) = false := by simp; omega
            have y4 : ((x : Int) == 10) = false := by simp; omega
            have z1 : ((x : Int) != 32) = true := by simp; omega
            have z2 : ((x : Int) != 9) = true := by simp; omega
            have z3 : ((x : Int) != 13) = true := by simp; omega
            have z4 : ((x : Int) != 10) = true := by simp; omega
            replace hC := Lib.hid hC
            replace hown := Lib.hid hown
            replace hbo := Lib.hid hbo
            replace Z := Lib.hid Z
            replace hbw := Lib.hid hbw
            replace hlp := Lib.hid hlp
            obtain ⟨T, hT⟩ : ∃ T, l.take (me l).2 = T := ⟨_, rfl⟩
            obtain ⟨L2, hL2⟩ : ∃ T, l.drop (me l).2 = T := ⟨_, rfl⟩
            obtain ⟨n, hn⟩ : ∃ n, (me l).2 = n := ⟨_, rfl⟩
            obtain ⟨m1, hm1⟩ : ∃ n, (me l).1 = n := ⟨_, rfl⟩
            obtain ⟨e0, he0⟩ : ∃ e0, ck nbP (me l).1 (l.take (me l).2) = e0 := ⟨_, rfl⟩
            rw [he0] at hr2 hpos hW
            rw [hn] at hW hr2 hme hpos hT hL2
            rw [hm1] at hW hr2
            rw [hT, hL2] at hr2
            have hTx := htake.out n
            rw [hT] at hTx
            have hnS : n ≤ S.size := by rw [hsz.out]; exact hme
            replace hn := Lib.hid hn
            replace hm1 := Lib.hid hm1
            replace he0 := Lib.hid he0
            replace hL2 := Lib.hid hL2
            replace hT := Lib.hid hT
            replace hS := Lib.hid hS
            replace hTx := Lib.hid hTx
            by_cases hz : e0 = 0
            · rw [if_pos hz] at hW
              have hn0 := hpos hz
              rw [if_neg (show ¬ (e0 ≠ 0) from fun hh => hh hz)] at hr2
              replace hW := Lib.hid hW
              by_cases hm : a.length = 12000
              · have q3 : decide ((12000 : Int) ≤ (a.length : Int)) = true := by simp; omega
                have q4 : decide (12000 ≤ a.length) = true := by simp; omega
                have q5 : (12000 : Int) ≤ (a.length : Int) := by omega
                have q6 : 12000 ≤ a.length := by omega
                have hRe : R = .error (p, 19) := by
                  rw [if_pos hm] at hr2
                  exact hr2.symm
                replace hm := Lib.hid hm
                replace hz := Lib.hid hz
                replace hRe := Lib.hid hRe
                clear hr2 hpos
                go_wp2_with fail
                (with_reducible refine hW.out.mono ?_)
                rintro e w3 ⟨rfl, hb3⟩
                have C3' := hC.out.over hb3
                have Z3 := Z.out.over hb3
                have hbw3 := hbw.out.trans (hb3.mono hbw.out.size)
                have ZA := Z3.all
                replace C3' := Lib.hid C3'
                replace Z3 := Lib.hid Z3
                replace hbw3 := Lib.hid hbw3
                clear hb3 hW hC Z hbw
                go_wp2_with fail
                have K1 := C3'.out.drew.vals
                go_region_held3 (fun w' => w'.cell? ⟨bP, 0, none⟩ = some (.int .i64 p.f) ∧ w'.cell? ⟨bP, 1, none⟩ = some (.int .i64 p.l) ∧ w'.cell? ⟨bP, 2, none⟩ = some (.int .i64 p.c))
                  (first | (with_reducible exact K1) | (exact (C3'.out.drew.far3 (by show bP ≠ w.heap.size; omega) _ _ _).vals)) (fail)
                have hb9 := ((hbw3.out.drew.setCell (p := ⟨w.heap.size, 0, none⟩) (by exact Nat.le_refl _) (.int .i64 p.f)).setCell (p := ⟨w.heap.size, 1, none⟩) (by exact Nat.le_refl _) (.int .i64 p.l)).setCell (p := ⟨w.heap.size, 2, none⟩) (by exact Nat.le_refl _) (.int .i64 p.c)
                replace hb9 := Lib.hid hb9
                clear K1
                go_wp2_with fail
                refine bodyPost_ret (v := .tuple #[.slice none 0 0, .agg #[.int .i64 p.f, .int .i64 p.l, .int .i64 p.c], .int .i64 19]) (by simp [results, Tryz.results7, go_sem, ZA]) rfl ⟨hb9.out, ?_⟩
                rw [hRe.out]
              · have q3 : decide ((12000 : Int) ≤ (a.length : Int)) = false := by simp; omega
                have q4 : decide (12000 ≤ a.length) = false := by simp; omega
                have q5 : ¬ (12000 : Int) ≤ (a.length : Int) := by omega
                have q6 : ¬ 12000 ≤ a.length := by omega
                rw [if_neg hm] at hr2
                have hal : a.length < 12000 := by omega
                replace hm := Lib.hid hm
                replace hz := Lib.hid hz
                replace hr2 := Lib.hid hr2
                clear hpos
                go_wp2_with fail
                (with_reducible refine hW.out.mono ?_)
                rintro e w3 ⟨rfl, hb3⟩
                have C3' := hC.out.over hb3
                have Z3 := Z.out.over hb3
                have hbw3 := hbw.out.trans (hb3.mono hbw.out.size)
                have hown3 := own_blk hown.out fun g hg => hb3.block g (own_lt hown.out g hg).2
                have C4 := C3'.over ((Below.refl w3.heap.size w3).drew.alloc (Nat.le_refl _) (.cells #[.int .i64 (m1 : Int), .string (S.extract 0 n), .int .i64 p.f, .int .i64 p.l, .int .i64 p.c] 38))
                have Z4 := Z3.over ((Below.refl w3.heap.size w3).drew.alloc (Nat.le_refl _) (.cells #[.int .i64 (m1 : Int), .string (S.extract 0 n), .int .i64 p.f, .int .i64 p.l, .int .i64 p.c] 38))
                have zz3 := hbw3.size
                have hbw4 := hbw3.drew.alloc zz3 (.cells #[.int .i64 (m1 : Int), .string (S.extract 0 n), .int .i64 p.f, .int .i64 p.l, .int .i64 p.c] 38)
                have hlow3 := fun g hg => own_lt hown3 g hg
                have hown4 := own_blk (w' := w3.drew.alloc (.cells #[.int .i64 (m1 : Int), .string (S.extract 0 n), .int .i64 p.f, .int .i64 p.l, .int .i64 p.c] 38)) hown3 fun g hg => Go.Deep.blk_alloc_lt _ _ _ (own_lt hown3 g hg).2
                have hnw := (C5.new w3.drew 38 (.int .i64 (m1 : Int)) (.string (S.extract 0 n)) (.int .i64 p.f) (.int .i64 p.l) (.int .i64 p.c)).news
                have sz4 : (w3.drew.alloc (.cells #[.int .i64 (m1 : Int), .string (S.extract 0 n), .int .i64 p.f, .int .i64 p.l, .int .i64 p.c] 38)).heap.size = w3.heap.size + 1 := by simp
                have sz5 : w.heap.size + 1 ≤ (w3.drew.alloc (.cells #[.int .i64 (m1 : Int), .string (S.extract 0 n), .int .i64 p.f, .int .i64 p.l, .int .i64 p.c] 38)).heap.size := by rw [sz4]; omega
                have hx1 : a.length + 1 ≤ maxLen := by unfold maxLen; omega
                have hx2 : (a.length + 1) * 48 ≤ 140737488355328 := by omega
                have hCv := C3'.vals
                have bP3 := C3'.lt
                obtain ⟨v1, v2, v3⟩ := hCv
                have hone : ∀ u ∈ [Value.int .i64 (m1 : Int), .string (S.extract 0 n), .int .i64 p.f, .int .i64 p.l, .int .i64 p.c], u.oneCell' = true := by simp [Value.oneCell']
                replace hone := Lib.hid hone
                replace hx1 := Lib.hid hx1
                replace hx2 := Lib.hid hx2
                replace sz4 := Lib.hid sz4
                replace sz5 := Lib.hid sz5
                replace hnw := Lib.hid hnw
                replace hown4 := Lib.hid hown4
                replace hbw4 := Lib.hid hbw4
                replace Z4 := Lib.hid Z4
                replace C4 := Lib.hid C4
                replace hlow3 := Lib.hid hlow3
                replace hown3 := Lib.hid hown3
                clear hb3 hW hC Z hbw hown C3' Z3 hbw3
                go_wp2_with fail
                go_region_law (refine step_append_lies _ rfl (.tmp 67) (.tmp 74) 33 rfl (w.heap.size + 1) 38 i0 (.agg #[.int .i64 0, .string ⟨#[]⟩, .int .i64 0, .int .i64 0, .int .i64 0]) 5 48 Tryz.underlying33 hi hz0 hz1 hz2 rfl (by decide) _ a.length (tcs a) (by simp [Act.eval, Act.put]) hown4.out ⟨w3.heap.size, 0, none⟩ 1 1 [.int .i64 (m1 : Int), .string (S.extract 0 n), .int .i64 p.f, .int .i64 p.l, .int .i64 p.c] (by simp [Act.eval, Act.put]) rfl hnw.out hone.out (by decide) hx1.out hx2.out sz5.out (w3.heap.size + 1) sz4.out ?_; intro g2 cap w6 ho6 hg6 hgb hlt6)
                have hg6 : (w3.drew.alloc (.cells #[.int .i64 (m1 : Int), .string (S.extract 0 n), .int .i64 p.f, .int .i64 p.l, .int .i64 p.c] 38)).grownBy w6 (Value.slice Av a.length cv).ownBlock := hg6
                have hbo9 := hbo.out
                have hnP : some bP ≠ (Value.slice Av a.length cv).ownBlock := fun h => hbo9 bP h.symm rfl
                have hnZ : some w.heap.size ≠ (Value.slice Av a.length cv).ownBlock := fun h => by have := (hlow3.out _ h.symm).1; omega
                have hC : C3 w6 bP 29 (.int .i64 p.f) (.int .i64 p.l) (.int .i64 p.c) := (hg6.block bP (by have := sz4.out; omega) hnP).trans C4.out
                have Z : C3 w6 w.heap.size 29 (.int .i64 0) (.int .i64 0) (.int .i64 0) := (hg6.block w.heap.size (by have := sz4.out; omega) hnZ).trans Z4.out
                have hbw : Below w.heap.size w w6 := hbw4.out.grown hg6 (by have := sz4.out; omega) (fun k hk => by have := (hlow3.out _ hk).1; omega)
                have hown : w6.ownsRow (w.heap.size + 1) 38 5 (.slice (some ⟨g2, 0, none⟩) (a.length + 1) cap) (a.length + 1) (tcs (a ++ [⟨m1, T, p⟩])) := by
                  rw [tcs_app]
                  have e : tcs [⟨m1, T, p⟩] = [.int .i64 (m1 : Int), .string (S.extract 0 n), .int .i64 p.f, .int .i64 p.l, .int .i64 p.c] := by rw [hTx.out]; rfl
                  rw [e]; exact ho6
                have hg2P : g2 ≠ bP := by
                  rcases hgb with h | h
                  · exact hbo9 g2 h
                  · omega
                have hbo2 : ∀ g, (Value.slice (some ⟨g2, 0, none⟩) (a.length + 1) cap).ownBlock = some g → g ≠ bP := fun g hg => by cases hg; exact hg2P
                have hal9 : (a ++ [TK.mk m1 T p]).length = a.length + 1 := by simp
                have hrb : goOn (qs.drop (k + 1)) (lexP nbP fx (l.drop n) (adv fx p (l.take n)) (a ++ [TK.mk m1 T p])) = R := by
                  rw [hL2.out, hT.out]; exact hr2.out
                generalize (a ++ [TK.mk m1 T p]) = a9 at *
                clear hbo hbo9 hnP hnZ ho6 hg6 hgb hown4 hbw4 Z4 C4 hnw hone hr2 hlow3 hown3 v1 v2 v3
                have hbo := hbo2
                clear hbo2
                replace hrb := Lib.hid hrb
                replace hal9 := Lib.hid hal9
                replace hC := Lib.hid hC
                replace hown := Lib.hid hown
                replace hbo := Lib.hid hbo
                replace Z := Lib.hid Z
                replace hbw := Lib.hid hbw
                replace hn0 := Lib.hid hn0
                go_wp2_with fail
                replace hlp := Lib.hid hlp.out
                go_loopw [13] (fun iv wz => ∃ j : Nat, j ≤ n ∧ iv = .int .i64 (j : Int) ∧ (fx = true → j = 0) ∧ KB bP w6 wz ∧ C3 wz bP 29 (.int .i64 (adv fx p (l.take j)).f) (.int .i64 (adv fx p (l.take j)).l) (.int .i64 (adv fx p (l.take j)).c)) (fun iv _ => n - (RowKit.intOf iv).toNat)
                case atStart => exact ⟨0, Nat.zero_le _, rfl, fun _ => rfl, KB.refl _ _, by rw [List.take_zero, adv_nil]; exact hC.out⟩
                case round =>
                  obtain ⟨j, hj, rfl, hfx, hKB, hCj⟩ := hrel
                  have hbz := hbw.out.trans (hKB.below (by omega) hbw.out.size)
                  have cF := (hbz.cell (p := ⟨bA, oA + k * 5 + 4, none⟩) hbA).trans h4.out
                  have zZ := hKB.size
                  have hownz := own_blk hown.out fun g hg => hKB.blk g (hbo.out g hg) (own_lt hown.out g hg).2
                  have Zz := Z.out.keep hKB (by omega)
                  have hCA := hCj.all
                  have hnl : n ≤ S.size := by have := hsz.out; omega
                  by_cases hend : j = n ∨ fx = true
                  · have hCe : C3 wr bP 29 (.int .i64 (adv fx p (l.take n)).f) (.int .i64 (adv fx p (l.take n)).l) (.int .i64 (adv fx p (l.take n)).c) := by
                      rcases hend with h | h
                      · rw [← h]; exact hCj
                      · have : adv fx p (l.take n) = adv fx p (l.take j) := by rw [h]; rfl
                        rw [this]; exact hCj
                    have hds := hdrop.out n
                    have hex : decide ((j : Int) < (n : Int)) = false ∨ (decide ((j : Int) < (n : Int)) = true ∧ fx = true) := by
                      by_cases h : j < n
                      · right; exact ⟨by simp; omega, by rcases hend with e | e; omega; exact e⟩
                      · left; simp; omega
                    have hld : (l.drop n).length = l.length - n := List.length_drop
                    have hszo := hsz.out
                    have hmo := hmeas.out
                    replace hCe := Lib.hid hCe
                    replace hownz := Lib.hid hownz
                    replace Zz := Lib.hid Zz
                    replace hbz := Lib.hid hbz
                    replace hds := Lib.hid hds
                    replace hld := Lib.hid hld
                    replace hszo := Lib.hid hszo
                    replace hmo := Lib.hid hmo
                    clear hKB hCj hend hfx hC hown hCA
                    by_cases hjn : j < n
                    · have hft : fx = true := by
                        rcases hex with h | h
                        · simp at h; omega
                        · exact h.2
                      subst hft
                      have q1 : decide ((j : Int) < (n : Int)) = true := by simp; omega
                      clear hex
                      go_wp2_with fail
                      go_roundw
                      case rel => exact ⟨l.drop n, adv true p (l.take n), a9, by rw [← hds.out], by rw [hld.out]; omega, by have := hal9.out; omega, hrb.out, hCe.out, (by rw [hal9.out]; exact hownz.out), hbo.out, Zz.out, hbz.out⟩
                      case measure => rw [hmo.out]; show (S.extract _ _).size < _; rw [hds.out]; show (l.drop n).length < _; rw [hld.out]; have := hlp.out; have := hn0.out; omega
                    · have q1 : decide ((j : Int) < (n : Int)) = false := by simp; omega
                      clear hex
                      go_wp2_with fail
                      go_roundw
                      case rel => exact ⟨l.drop n, adv fx p (l.take n), a9, by rw [← hds.out], by rw [hld.out]; omega, by have := hal9.out; omega, hrb.out, hCe.out, (by rw [hal9.out]; exact hownz.out), hbo.out, Zz.out, hbz.out⟩
                      case measure => rw [hmo.out]; show (S.extract _ _).size < _; rw [hds.out]; show (l.drop n).length < _; rw [hld.out]; have := hlp.out; have := hn0.out; omega
                  · have hjn : j < n := by omega
                    have hff : fx = false := by cases fx; rfl; exact absurd (Or.inr rfl) hend
                    subst hff
                    have hjl : j < l.length := by have := hsz.out; omega
                    have hjs : j < S.size := by omega
                    have hby := hbt.out j hjs hjl
                    have hst := adv_step p l j hjl
                    have q1 : decide ((j : Int) < (n : Int)) = true := by simp; omega
                    have hwj : IntKind.i64.wrap ((j : Int) + 1) = ((j + 1 : Nat) : Int) := by rw [IntWalk.i64_in _ (by have := hsz.out; omega)]; omega
                    by_cases hnlb : l[j] = 10
                    · have hy : S[j].toNat = 10 := by rw [hby, hnlb]; rfl
                      unfold ad1 at hst
                      rw [if_pos hnlb, wr_wr2] at hst
                      have hK2 := ((hKB.trans (KB.set bP 2 wr (.int .i64 (wr2 (adv false p (l.take j)).c)))).trans (KB.set bP 1 _ (.int .i64 (wr2 (adv false p (l.take j)).l)))).trans (KB.set bP 2 _ (.int .i64 1))
                      have hC2 := ((hCj.set2 (.int .i64 (wr2 (adv false p (l.take j)).c))).set1 (.int .i64 (wr2 (adv false p (l.take j)).l))).set2 (.int .i64 1)
                      generalize adv false p (l.take j) = pj at *
                      replace hK2 := Lib.hid hK2
                      replace hC2 := Lib.hid hC2
                      replace hst := Lib.hid hst
                      replace hnlb := Lib.hid hnlb
                      clear hownz Zz hbz hKB hCj hfx hend hby
                      go_wp2_with fail
                      go_roundw
                      case rel => exact ⟨j + 1, by omega, by go_num, (fun h => by cases h), hK2.out, by rw [hst.out]; exact hC2.out⟩
                      case measure => simp [RowKit.intOf]; omega
                    · have hyn : ¬ S[j].toNat = 10 := by rw [hby]; intro e; exact hnlb (UInt8.toNat_inj.1 e)
                      generalize hyy : S[j].toNat = y at *
                      have q2 : ((y : Int) == 10) = false := by simp; omega
                      unfold ad1 at hst
                      rw [if_neg hnlb, wr_wr2] at hst
                      have hK2 := hKB.trans (KB.set bP 2 wr (.int .i64 (wr2 (adv false p (l.take j)).c)))
                      have hC2 := hCj.set2 (.int .i64 (wr2 (adv false p (l.take j)).c))
                      generalize adv false p (l.take j) = pj at *
                      replace hK2 := Lib.hid hK2
                      replace hC2 := Lib.hid hC2
                      replace hst := Lib.hid hst
                      replace hnlb := Lib.hid hnlb
                      clear hownz Zz hbz hKB hCj hfx hend hby
                      go_wp2_with fail
                      go_roundw
                      case rel => exact ⟨j + 1, by omega, by go_num, (fun h => by cases h), hK2.out, by rw [hst.out]; exact hC2.out⟩
                      case measure => simp [RowKit.intOf]; omega

            · rw [if_neg hz] at hW
              have q1 : (e0 == 0) = false := by simpa using hz
              have q2 : (e0 != 0) = true := by simpa using hz
              have hRe : R = .error (p, e0) := by
                rw [if_pos hz] at hr2
                exact hr2.symm
              replace hW := Lib.hid hW
              replace hz := Lib.hid hz
              replace hRe := Lib.hid hRe
              clear hr2 hpos
              go_wp2_with fail
              (with_reducible refine hW.out.mono ?_)
              rintro e w3 ⟨rfl, hb3⟩
              have C3' := hC.out.over hb3
              have Z3 := Z.out.over hb3
              have hbw3 := hbw.out.trans (hb3.mono hbw.out.size)
              have ZA := Z3.all
              replace C3' := Lib.hid C3'
              replace Z3 := Lib.hid Z3
              replace hbw3 := Lib.hid hbw3
              clear hb3 hW hC Z hbw
              go_wp2_with fail
              have K1 := C3'.out.drew.vals
              go_region_held3 (fun w' => w'.cell? ⟨bP, 0, none⟩ = some (.int .i64 p.f) ∧ w'.cell? ⟨bP, 1, none⟩ = some (.int .i64 p.l) ∧ w'.cell? ⟨bP, 2, none⟩ = some (.int .i64 p.c))
                (first | (with_reducible exact K1) | (exact (C3'.out.drew.far3 (by show bP ≠ w.heap.size; omega) _ _ _).vals)) (fail)
              have hb9 := ((hbw3.out.drew.setCell (p := ⟨w.heap.size, 0, none⟩) (by exact Nat.le_refl _) (.int .i64 p.f)).setCell (p := ⟨w.heap.size, 1, none⟩) (by exact Nat.le_refl _) (.int .i64 p.l)).setCell (p := ⟨w.heap.size, 2, none⟩) (by exact Nat.le_refl _) (.int .i64 p.c)
              replace hb9 := Lib.hid hb9
              clear K1
              go_wp2_with fail
              refine bodyPost_ret (v := .tuple #[.slice none 0 0, .agg #[.int .i64 p.f, .int .i64 p.l, .int .i64 p.c], .int .i64 e0]) (by simp [results, Tryz.results7, go_sem, ZA]) rfl ⟨hb9.out, ?_⟩
              rw [hRe.out]
    · obtain rfl : k = N := by omega
      have hfin : R = .ok acc := by
        rw [List.drop_eq_nil_of_le (by rw [hNe.out]; omega)] at hr
        exact hr.symm
      have zA := Z.all
      replace hfin := Lib.hid hfin
      replace hown := Lib.hid hown
      replace hbw := Lib.hid hbw
      replace Z := Lib.hid Z
      clear hr
      go_wp2_with fail
      refine bodyPost_ret (v := .tuple #[u5, .agg #[.int .i64 0, .int .i64 0, .int .i64 0], .int .i64 0]) (by simp [results, Tryz.results7, go_sem, zA]) rfl ⟨((hbw.out.setCell (by exact Nat.le_refl _) _).setCell (by exact Nat.le_refl _) _).setCell (by exact Nat.le_refl _) _, ?_⟩
      rw [hfin.out]
      refine ⟨u5, rfl, own_blk hown.out fun g hg => ?_⟩
      have := (own_lt hown.out g hg).1
      rw [Below.heap_setCell _ _ _ _ (by show g ≠ w.heap.size; omega), Below.heap_setCell _ _ _ _ (by show g ≠ w.heap.size; omega), Below.heap_setCell _ _ _ _ (by show g ≠ w.heap.size; omega)]
end Go.Proofs.YtomjokpgcijccaaGreatDoor
