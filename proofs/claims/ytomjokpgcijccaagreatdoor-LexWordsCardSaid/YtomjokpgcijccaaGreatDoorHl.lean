/-
  The walk of LexMany.
-/
import Derived.Test.YtomjokpgcijccaaGreatDoorHk
import Derived.Laws.BytesString
namespace Go.Proofs.YtomjokpgcijccaaGreatDoor
open Go.RowKit Go.Lib
theorem me_semi (t : List UInt8) : me (59 :: t) = (3, 1) := by
  have h : sgn (59 :: t) = 1 := rfl
  rw [me_cons, h]
  rfl
theorem lexF_step (nb : List UInt8 → Bool) (fx : Bool) (f : Nat) (l : List UInt8) (p : PS) (acc : List TK) : lexF nb fx (f + 1) l p acc = if l = [] then .ok acc
    else if ck nb (me l).1 (l.take (me l).2) ≠ 0 then .error (p, ck nb (me l).1 (l.take (me l).2))
    else if acc.length = 12000 then .error (p, 19)
    else lexF nb fx f ((l.drop (me l).2).drop (ah blkB (l.drop (me l).2))) (adv fx (adv fx p (l.take (me l).2)) ((l.drop (me l).2).take (ah blkB (l.drop (me l).2)))) (acc ++ [⟨(me l).1, l.take (me l).2, p⟩]) := rfl
theorem lexF_many (nb : List UInt8 → Bool) : ∀ (n f : Nat) (acc : List TK) (c : Int), n < f → acc.length ≤ 12000 → 0 ≤ c → c + n < 1000000000 →
    (acc.length + n ≤ 12000 → ∃ out, lexF nb false f (List.replicate n 59) ⟨1, 1, c⟩ acc = .ok out ∧ out.length = acc.length + n) ∧
    (12000 < acc.length + n → lexF nb false f (List.replicate n 59) ⟨1, 1, c⟩ acc = .error (⟨1, 1, c + (12000 - acc.length)⟩, 19))
  | 0, f, acc, c, hf, ha, h0, hc => by
    obtain ⟨g, rfl⟩ : ∃ g, f = g + 1 := ⟨f - 1, by omega⟩
    exact ⟨fun _ => ⟨acc, by simp [lexF], by simp⟩, fun h => by omega⟩
  | n + 1, f, acc, c, hf, ha, h0, hc => by
    obtain ⟨g, rfl⟩ : ∃ g, f = g + 1 := ⟨f - 1, by omega⟩
    have hck : ck nb 3 [59] = 0 := by unfold ck; simp
    have hbl : ah blkB (List.replicate n 59) = 0 := by cases n <;> rfl
    have hst : lexF nb false (g + 1) (List.replicate (n + 1) 59) ⟨1, 1, c⟩ acc = if acc.length = 12000 then .error (⟨1, 1, c⟩, 19) else lexF nb false g (List.replicate n 59) ⟨1, 1, c + 1⟩ (acc ++ [⟨3, [59], ⟨1, 1, c⟩⟩]) := by
      rw [List.replicate_succ]
      rw [lexF_step, if_neg (by simp), me_semi]
      simp only [List.take_succ_cons, List.take_zero, List.drop_succ_cons, List.drop_zero, hck, hbl]
      rw [if_neg (by simp)]
      split
      · rfl
      · have e : adv false (adv false ⟨1, 1, c⟩ [59]) [] = ⟨1, 1, c + 1⟩ := by
          rw [adv_nil]
          show PS.mk 1 1 (wr (c + 1)) = _
          rw [wr_in _ (by omega)]
        rw [e]
    rw [hst]
    by_cases hl : acc.length = 12000
    · rw [if_pos hl]
      exact ⟨fun h => by omega, fun _ => by rw [hl]; congr 2; congr 1; omega⟩
    · rw [if_neg hl]
      have ih := lexF_many nb n g (acc ++ [⟨3, [59], ⟨1, 1, c⟩⟩]) (c + 1) (by omega) (by simp; omega) (by omega) (by omega)
      simp only [List.length_append, List.length_cons, List.length_nil] at ih
      refine ⟨fun h => ?_, fun h => ?_⟩
      · obtain ⟨out, h1, h2⟩ := ih.1 (by omega)
        exact ⟨out, h1, by omega⟩
      · rw [ih.2 (by omega)]
        congr 2
        congr 1
        omega
theorem lex_many (nb : List UInt8 → Bool) (n : Nat) (hn : n ≤ 20000) :
    (n ≤ 12000 → ∃ out, lexL nb [⟨List.replicate n 59, ⟨1, 1, 1⟩, false⟩] [] = .ok out ∧ out.length = n) ∧
    (12000 < n → lexL nb [⟨List.replicate n 59, ⟨1, 1, 1⟩, false⟩] [] = .error (⟨1, 1, 12001⟩, 19)) := by
  have hbl : ah blkB (List.replicate n 59) = 0 := by cases n <;> rfl
  have hp : lexP nb false (List.replicate n 59) ⟨1, 1, 1⟩ [] = lexF nb false (n + 1) (List.replicate n 59) ⟨1, 1, 1⟩ [] := by
    unfold lexP
    rw [hbl, List.drop_zero, List.take_zero, adv_nil, List.length_replicate]
  have hx := lexF_many nb n (n + 1) [] 1 (by omega) (by simp) (by omega) (by omega)
  rw [← hp] at hx
  simp only [List.length_nil, Nat.zero_add] at hx
  refine ⟨fun h => ?_, fun h => ?_⟩
  · obtain ⟨out, h1, h2⟩ := hx.1 h
    refine ⟨out, ?_, h2⟩
    unfold lexL
    rw [h1]; rfl
  · unfold lexL
    rw [hx.2 h]; rfl
theorem foldl_push : ∀ (l : List UInt8) (r : ByteArray), (l.map fun b => ((b.toNat : Nat) : Int)).foldl (fun r n => r.push (UInt8.ofNat n.toNat)) r = ⟨(r.data.toList ++ l).toArray⟩
  | [], r => by simp
  | b :: l, r => by
    simp only [List.map_cons, List.foldl_cons]
    rw [foldl_push l]
    apply ByteArray.ext
    simp
/-- The conversion of bytes that the call owns into a text. -/
theorem conv_own {w : World} {B n g c : Nat} {l : List UInt8} (h : w.ownsRow B 5 1 (.slice (some ⟨g, 0, none⟩) n c) n (l.map fun b => .int .u8 ((b.toNat : Nat) : Int))) :
    (convert 66 9 (.slice (some ⟨g, 0, none⟩) n c)).run Tryz.prog w = .ok (.string (tx l)) w := by
  have hln : l.length = n := by simpa using h.1
  rw [run_convert_bytes_string w _ _ 5 _ _ _ Tryz.underlying66 Tryz.underlying5 Tryz.underlying9]
  have hf : tx l = (l.map fun b => ((b.toNat : Nat) : Int)).foldl (fun r n => r.push (UInt8.ofNat n.toNat)) ByteArray.empty := by
    rw [foldl_push]
    rfl
  rw [hf]
  refine run_bytesToString w _ _ _ (l.map fun b => ((b.toNat : Nat) : Int)) ?_
  have hl := run_loadCells_list (P := Tryz.prog) w ⟨g, 0, none⟩ (l.map fun b => Value.int .u8 ((b.toNat : Nat) : Int)) (fun j v hv => by
    have hadd : (⟨g, 0, none⟩ : Addr).add j = ⟨g, j, none⟩ := by unfold Addr.add; split <;> simp_all
    rw [hadd]
    rcases h.2 with ⟨e, _⟩ | ⟨g', cap, cur, e, hb, hg, h1, h2, h3, h4⟩
    · cases e
    · cases e
      rw [← h4, List.getElem?_take] at hv
      split at hv
      · simpa [World.cell?, hg] using hv
      · cases hv)
  have hm : (l.map fun b => ((b.toNat : Nat) : Int)).map (Value.int .u8) = l.map fun b => Value.int .u8 ((b.toNat : Nat) : Int) := by rw [List.map_map]; rfl
  rw [List.length_map, hln] at hl
  rw [hm]
  exact hl
theorem info_byte : (Tryz.prog.info? 5).map (fun i => (i.zero, i.size, i.bytes)) = some (some (.int .u8 0), 1, 1) := by kernel_rfl
def semis (k : Nat) : List UInt8 := List.replicate k 59
theorem semis_snoc (k : Nat) : (semis (k + 1)).map (fun b => Value.int .u8 ((b.toNat : Nat) : Int)) = (semis k).map (fun b => Value.int .u8 ((b.toNat : Nat) : Int)) ++ [.int .u8 59] := by
  unfold semis
  rw [List.replicate_succ', List.map_append]; rfl
theorem pos1_ok : PS.ok ⟨1, 1, 1⟩ := ⟨by decide, by decide, by decide⟩
end Go.Proofs.YtomjokpgcijccaaGreatDoor
