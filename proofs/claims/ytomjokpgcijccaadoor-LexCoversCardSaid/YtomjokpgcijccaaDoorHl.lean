/-
  The walk of LexMany.
-/
import Derived.Test.YtomjokpgcijccaaDoorHk
import Derived.Laws.BytesString
namespace Go.Proofs.YtomjokpgcijccaaDoor
open Go.RowKit Go.Lib
theorem me_semi (t : List UInt8) : me (59 :: t) = (3, 1) := by
  have h : sgn (59 :: t) = 1 := rfl
  rw [me_cons, h]
  rfl
theorem lexF_step (nb : List UInt8 → Bool) (fx : Bool) (f : Nat) (l : List UInt8) (p : PS) (acc : List TK) : lexF nb fx (f + 1) l p acc = if l = [] then .ok acc
    else if ck nb (me l).1 (l.take (me l).2) ≠ 0 then .error (p, ck nb (me l).1 (l.take (me l).2))
    else if acc.length = 12000 then .error (p, 19)
    else lexF nb fx f ((l.drop (me l).2).drop (ah blkB (l.drop (me l).2))) (adv fx (adv fx p (l.take (me l).2)) ((l.drop (me l).2).take (ah blkB (l.drop (me l).2)))) (acc ++ [⟨(me l).1, l.take (me l).2, p⟩]) := rfl
theorem lexF_many (nb : List UInt8 → Bool) : ∀ (n f : Nat) (acc : List TK) (c : Int), n < f → acc.length ≤ 12000 → 0 ≤ c → c + n < 1000000000 →
    (acc.length + n ≤ 12000 → ∃ out, lexF nb false f (List.replicate n 59) ⟨1, 1, c⟩ acc = .ok out ∧ out.length = acc.length + n) ∧
    (12000 < acc.length + n → lexF nb false f (List.replicate n 59) ⟨1, 1, c⟩ acc = .error (⟨1, 1, c + (12000 - acc.length)⟩, 19))
  | 0, f, acc, c, hf, ha, h0, hc => by
    obtain ⟨g, rfl⟩ : ∃ g, f = g + 1 := ⟨f - 1, by omega⟩
    exact ⟨fun _ => ⟨acc, by simp [lexF], by simp⟩, fun h => by omega⟩
  | n + 1, f, acc, c, hf, ha, h0, hc => by
    obtain ⟨g, rfl⟩ : ∃ g, f = g + 1 := ⟨f - 1, by omega⟩
    have hck : ck nb 3 [59] = 0 := by unfold ck; simp
    have hbl : ah blkB (List.replicate n 59) = 0 := by cases n <;> rfl
    have hst : lexF nb false (g + 1) (List.replicate (n + 1) 59) ⟨1, 1, c⟩ acc = if acc.length = 12000 then .error (⟨1, 1, c⟩, 19) else lexF nb false g (List.replicate n 59) ⟨1, 1, c + 1⟩ (acc ++ [⟨3, [59], ⟨1, 1, c⟩⟩]) := by
      rw [List.replicate_succ]
      rw [lexF_step, if_neg (by simp), me_semi]
      simp only [List.take_succ_cons, List.take_zero, List.drop_succ_cons, List.drop_zero, hck, hbl]
      rw [if_neg (by simp)]
      split
      · rfl
      · have e : adv false (adv false ⟨1, 1, c⟩ [59]) [] = ⟨1, 1, c + 1⟩ := by
          rw [adv_nil]
          show PS.mk 1 1 (wr (c + 1)) = _
          rw [wr_in _ (by omega)]
        rw [e]
    rw [hst]
    by_cases hl : acc.length = 12000
    · rw [if_pos hl]
      exact ⟨fun h => by omega, fun _ => by rw [hl]; congr 2; congr 1; omega⟩
    · rw [if_neg hl]
      have ih := lexF_many nb n g (acc ++ [⟨3, [59], ⟨1, 1, c⟩⟩]) (c + 1) (by omega) (by simp; omega) (by omega) (by omega)
      simp only [List.length_append, List.length_cons, List.length_nil] at ih
      refine ⟨fun h => ?_, fun h => ?_⟩
      · obtain ⟨out, h1, h2⟩ := ih.1 (by omega)
        exact ⟨out, h1, by omega⟩
      · rw [ih.2 (by omega)]
        congr 2
        congr 1
        omega
theorem lex_many (nb : List UInt8 → Bool) (n : Nat) (hn : n ≤ 20000) :
    (n ≤ 12000 → ∃ out, lexL nb [⟨List.replicate n 59, ⟨1, 1, 1⟩, false⟩] [] = .ok out ∧ out.length = n) ∧
    (12000 < n → lexL nb [⟨List.replicate n 59, ⟨1, 1, 1⟩, false⟩] [] = .error (⟨1, 1, 12001⟩, 19)) := by
  have hbl : ah blkB (List.replicate n 59) = 0 := by cases n <;> rfl
  have hp : lexP nb false (List.replicate n 59) ⟨1, 1, 1⟩ [] = lexF nb false (n + 1) (List.replicate n 59) ⟨1, 1, 1⟩ [] := by
    unfold lexP
    rw [hbl, List.drop_zero, List.take_zero, adv_nil, List.length_replicate]
  have hx := lexF_many nb n (n + 1) [] 1 (by omega) (by simp) (by omega) (by omega)
  rw [← hp] at hx
  simp only [List.length_nil, Nat.zero_add] at hx
  refine ⟨fun h => ?_, fun h => ?_⟩
  · obtain ⟨out, h1, h2⟩ := hx.1 h
    refine ⟨out, ?_, h2⟩
    unfold lexL
    rw [h1]; rfl
  · unfold lexL
    rw [hx.2 h]; rfl
theorem foldl_push : ∀ (l : List UInt8) (r : ByteArray), (l.map fun b => ((b.toNat : Nat) : Int)).foldl (fun r n => r.push (UInt8.ofNat n.toNat)) r = ⟨(r.data.toList ++ l).toArray⟩
  | [], r => by simp
  | b :: l, r => by
    simp only [List.map_cons, List.foldl_cons]
    rw [foldl_push l]
    apply ByteArray.ext
    simp
/-- The conversion of bytes that the call owns into a text. -/
theorem conv_own {w : World} {B n g c : Nat} {l : List UInt8} (h : w.ownsRow B 5 1 (.slice (some ⟨g, 0, none⟩) n c) n (l.map fun b => .int .u8 ((b.toNat : Nat) : Int))) :
    (convert 40 9 (.slice (some ⟨g, 0, none⟩) n c)).run Tryd.prog w = .ok (.string (tx l)) w := by
  have hln : l.length = n := by simpa using h.1
  rw [run_convert_bytes_string w _ _ 5 _ _ _ Tryd.underlying40 Tryd.underlying5 Tryd.underlying9]
  have hf : tx l = (l.map fun b => ((b.toNat : Nat) : Int)).foldl (fun r n => r.push (UInt8.ofNat n.toNat)) ByteArray.empty := by
    rw [foldl_push]
    rfl
  rw [hf]
  refine run_bytesToString w _ _ _ (l.map fun b => ((b.toNat : Nat) : Int)) ?_
  have hl := run_loadCells_list (P := Tryd.prog) w ⟨g, 0, none⟩ (l.map fun b => Value.int .u8 ((b.toNat : Nat) : Int)) (fun j v hv => by
    have hadd : (⟨g, 0, none⟩ : Addr).add j = ⟨g, j, none⟩ := by unfold Addr.add; split <;> simp_all
    rw [hadd]
    rcases h.2 with ⟨e, _⟩ | ⟨g', cap, cur, e, hb, hg, h1, h2, h3, h4⟩
    · cases e
    · cases e
      rw [← h4, List.getElem?_take] at hv
      split at hv
      · simpa [World.cell?, hg] using hv
      · cases hv)
  have hm : (l.map fun b => ((b.toNat : Nat) : Int)).map (Value.int .u8) = l.map fun b => Value.int .u8 ((b.toNat : Nat) : Int) := by rw [List.map_map]; rfl
  rw [List.length_map, hln] at hl
  rw [hm]
  exact hl
theorem info_byte : (Tryd.prog.info? 5).map (fun i => (i.zero, i.size, i.bytes)) = some (some (.int .u8 0), 1, 1) := by kernel_rfl
def semis (k : Nat) : List UInt8 := List.replicate k 59
theorem semis_snoc (k : Nat) : (semis (k + 1)).map (fun b => Value.int .u8 ((b.toNat : Nat) : Int)) = (semis k).map (fun b => Value.int .u8 ((b.toNat : Nat) : Int)) ++ [.int .u8 59] := by
  unfold semis
  rw [List.replicate_succ', List.map_append]; rfl
theorem pos1_ok : PS.ok ⟨1, 1, 1⟩ := ⟨by decide, by decide, by decide⟩
set_option maxRecDepth 100000 in
set_option maxHeartbeats 3200000 in
theorem LexMany_t (x : Int) (w : World) (hL : LS w) : Calls Tryd.prog 5 #[.int .i64 x] w (RV w (.bool true)) := by
  have hAw := awake_t w hL
  obtain ⟨i0, hi, hz0, hz1, hz2⟩ := info_parts info_byte
  have hLx := fun (W : World) (b : Nat) (k : Nat) (hk : k ≤ 12010) (h : C5 W b 35 (.string (tx (semis k))) (.int .i64 1) (.int .i64 1) (.int .i64 1) (.bool false)) (hL : LS W) =>
    (show Calls Tryd.prog 10 #[.slice (some ⟨b, 0, none⟩) 1 1] W (LR W (lexL nbP [⟨semis k, ⟨1, 1, 1⟩, false⟩] [])) from Lex_t (some ⟨b, 0, none⟩) 1 [⟨semis k, ⟨1, 1, 1⟩, false⟩] W (C5.PL h) (by show 1 ≤ 1000000000; omega) hL (fun q hq => by rw [List.mem_singleton.1 hq]; exact ⟨pos1_ok, by show (List.replicate k (59 : UInt8)).length < _; rw [List.length_replicate]; omega⟩))
  obtain ⟨m, hm, hmx⟩ : ∃ m : Nat, m ≤ 20 ∧ max 0 (min x 20) = (m : Int) := ⟨(max 0 (min x 20)).toNat, by omega, by omega⟩
  have hmk : ∀ W : World, (Instr.makeSlice 40 (.int .i64 0) (.int .i64 13000)).run Tryd.prog W = .ok (.slice (some ⟨W.heap.size, 0, none⟩) 0 13000) (W.alloc (.cells (madeCells #[.int .u8 0] 13000) 5)) := fun W => by
    have h := run_make (P := Tryd.prog) W 40 5 i0 (.int .u8 0) Tryd.underlying40 hi hz0 .i64 .i64 0 13000 (by decide) (by decide) (by rw [hz2]; decide) (by decide)
    have e : (Value.int .u8 0).cells = #[.int .u8 0] := rfl
    simpa [hz1, e] using h
  obtain ⟨N, hN⟩ : ∃ N, 11990 + m = N := ⟨_, rfl⟩
  have hNw : IntKind.i64.wrap (11990 + (m : Int)) = (N : Int) := by rw [IntWalk.i64_in _ (by omega)]; omega
  have hNb : N ≤ 12010 := by omega
  replace hAw := Lib.hid hAw
  replace hLx := Lib.hid hLx
  replace hL := Lib.hid hL
  replace hN := Lib.hid hN
  go_enter Tryd.func5, Tryd.ntmps5
  go_wp2_with fail
  (with_reducible refine hAw.out.mono ?_)
  rintro e w1 ⟨rfl, hb1⟩
  have hL1 := hL.out.over hb1
  have hO0 := World.ownsRow_made (base := w1.heap.size) (e := 5) (size := 1) w1 (madeCells #[.int .u8 0] 13000) 13000 (Nat.le_refl _) (by unfold maxLen; omega) (by rw [size_madeCells])
  have hbA := hb1.alloc hb1.size (.cells (madeCells #[.int .u8 0] 13000) 5)
  have hb1A := (Below.refl w1.heap.size w1).alloc (Nat.le_refl _) (.cells (madeCells #[.int .u8 0] 13000) 5)
  replace hL1 := Lib.hid hL1
  replace hO0 := Lib.hid hO0
  replace hbA := Lib.hid hbA
  replace hb1A := Lib.hid hb1A
  replace hb1 := Lib.hid hb1
  clear hAw hL
  go_wp2_with fail
  go_loopw [3, 15] (fun v iv wr => ∃ k : Nat, k ≤ N ∧ iv = .int .i64 (k : Int) ∧ ∃ g cap, v = .slice (some ⟨g, 0, none⟩) k cap ∧ wr.ownsRow w1.heap.size 5 1 v k ((semis k).map fun b => .int .u8 ((b.toNat : Nat) : Int)) ∧ Below w1.heap.size w1 wr) (fun _ iv _ => N - (RowKit.intOf iv).toNat)
  case atStart => exact ⟨0, Nat.zero_le _, rfl, _, _, rfl, hO0.out, hb1A.out⟩
  case round =>
    obtain ⟨k, hk, rfl, g, cap, rfl, hO, hbk⟩ := hrel
    clear hO0 hbA hb1A hmk
    by_cases hlt : k < N
    · have hO1 := own_blk hO (w' := wr.alloc (.cells #[.int .u8 59] 5)) fun g hg => Go.Deep.blk_alloc_lt _ _ _ (own_lt hO g hg).2
      have hb2 := hbk.alloc hbk.size (.cells #[.int .u8 59] 5)
      have hlow := fun g hg => (own_lt hO1 g hg).1
      have hnx := semis_snoc k
      have hzk : (wr.alloc (.cells #[.int .u8 59] 5)).heap.size = wr.heap.size + 1 := by simp
      have hnw := cell_one_new wr (.int .u8 59) 5
      have zk := hbk.size
      generalize (semis k).map (fun b => Value.int .u8 ((b.toNat : Nat) : Int)) = ck at *
      replace hnx := Lib.hid hnx
      replace hO1 := Lib.hid hO1
      replace hb2 := Lib.hid hb2
      replace hlow := Lib.hid hlow
      replace hzk := Lib.hid hzk
      replace hnw := Lib.hid hnw
      clear hO hbk
      go_wp2_with (at_builtin; refine wpList_append_lies _ rfl _ _ 40 rfl w1.heap.size 5 i0 (.int .u8 0) 1 1 Tryd.underlying40 hi hz0 hz1 hz2 rfl (by decide) _ k ck rfl hO1.out ⟨wr.heap.size, 0, none⟩ 1 1 [.int .u8 59] rfl ?a0 ?a1 ?a2 ?a3 ?a4 ?a5 ?a6 (wr.heap.size + 1) ?a7 ?a8)
      case a0 => rfl
      case a1 => exact hnw.out
      case a2 => simp [Value.oneCell']
      case a3 => decide
      case a4 => unfold maxLen; omega
      case a5 => omega
      case a6 => have := hzk.out; omega
      case a7 => exact hzk.out
      case a8 =>
        intro g2 cap w6 ho6 hg6 hgb hlt6
        have hb6 : Below w1.heap.size w1 w6 := hb2.out.grown hg6 (by have := hzk.out; omega) (fun k hk => hlow.out k hk)
        replace ho6 := Lib.hid ho6
        replace hb6 := Lib.hid hb6
        clear hg6 hgb hb2 hO1 hnw
        go_wp2_with fail
        go_roundw
        case rel => exact ⟨k + 1, by omega, by go_num, g2, cap, rfl, by rw [hnx.out]; exact ho6.out, hb6.out⟩
        case measure => simp [RowKit.intOf]; omega
    · obtain rfl : k = N := by omega
      have hcv := conv_own hO
      have hbk1 : Below w.heap.size w wr := hb1.out.trans (hbk.mono hb1.out.size)
      have hCz := hLx.out (wr.alloc (.cells #[.string (tx (semis k)), .int .i64 1, .int .i64 1, .int .i64 1, .bool false] 35)) wr.heap.size k hNb (C5.new _ _ _ _ _ _ _) ((hL1.out.over hbk).over ((Below.refl _ wr).alloc (Nat.le_refl _) _))
      have hbP := hbk1.alloc hbk1.size (.cells #[.string (tx (semis k)), .int .i64 1, .int .i64 1, .int .i64 1, .bool false] 35)
      have hmany := lex_many nbP k (by omega)
      obtain ⟨S, hS⟩ : ∃ S, tx (semis k) = S := ⟨_, rfl⟩
      rw [hS] at hcv hCz hbP
      by_cases hk : 12000 < k
      · have hm10 : (10 : Int) < (m : Int) := by have := hN.out; omega
        have he := hmany.2 hk
        rw [show List.replicate k (59 : UInt8) = semis k from rfl] at he
        rw [he] at hCz
        unfold LR at hCz
        replace hCz := Lib.hid hCz
        replace hbP := Lib.hid hbP
        replace hk := Lib.hid hk
        clear hmany he hS hbk1 hO hbk hLx hN
        go_wp2_with fail
        (with_reducible refine hCz.out.mono ?_)
        rintro e w3 ⟨hb3, rfl⟩
        have hb3' := below_call hb3 hbP.out
        have z3 := hb3'.size
        clear hb3
        go_wp2_with fail
        go_ret
        exact ⟨rfl, by go_grown⟩
      · have hm10 : ¬ (10 : Int) < (m : Int) := by have := hN.out; omega
        obtain ⟨out, he, hol⟩ := hmany.1 (by omega)
        rw [show List.replicate k (59 : UInt8) = semis k from rfl] at he
        rw [he] at hCz
        unfold LR at hCz
        simp only [hol] at hCz
        replace hCz := Lib.hid hCz
        replace hbP := Lib.hid hbP
        replace hk := Lib.hid hk
        clear hmany he hS hbk1 hO hbk hLx hN
        go_wp2_with fail
        (with_reducible refine hCz.out.mono ?_)
        rintro e w3 ⟨hb3, v, rfl, ho⟩
        obtain ⟨Av, cv, rfl⟩ := own_form ho
        have hb3' := below_call hb3 hbP.out
        have z3 := hb3'.size
        clear hb3 ho
        go_wp2_with fail
        go_ret
        exact ⟨rfl, by go_grown⟩
end Go.Proofs.YtomjokpgcijccaaDoor
