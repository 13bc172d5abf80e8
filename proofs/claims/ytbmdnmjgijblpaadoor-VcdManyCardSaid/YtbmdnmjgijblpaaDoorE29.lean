/-
  vcd's writer: id.
-/
import Derived.Test.YtbmdnmjgijblpaaDoorE26
import Derived.Laws.BytesString
namespace Go.Proofs.YtbmdnmjgijblpaaDoor
open Go Go.RowKit Go.Lib Go.Maps
/-- The Id of a number. -/
def idL (n : Nat) : List UInt8 := if n < 94 then [UInt8.ofNat (33 + n)] else UInt8.ofNat (33 + n % 94) :: idL (n / 94)
termination_by n
decreasing_by omega
def idR (n : Nat) : List UInt8 := if n = 0 then [] else idL n
theorem idL_eq (n : Nat) : idL n = UInt8.ofNat (33 + n % 94) :: idR (n / 94) := by
  rw [idL]
  unfold idR
  by_cases h : n < 94
  · rw [if_pos h, if_pos (by omega), Nat.mod_eq_of_lt h]
  · rw [if_neg h, if_neg (by omega)]
theorem idR_pos {n : Nat} (h : 0 < n) : idR n = UInt8.ofNat (33 + n % 94) :: idR (n / 94) := by
  rw [← idL_eq]; unfold idR; rw [if_neg (by omega)]
def ucells (l : List UInt8) : List Value := l.map fun b => .int .u8 ((b.toNat : Nat) : Int)
theorem conv_u {w : World} {B n g c : Nat} {l : List UInt8} (h : w.ownsRow B 5 1 (.slice (some ⟨g, 0, none⟩) n c) n (ucells l)) :
    (convert 44 9 (.slice (some ⟨g, 0, none⟩) n c)).run Tryd.prog w = .ok (.string (bt l)) w := by
  have hlen : l.length = n := by
    have := h.1
    simp [ucells] at this
    omega
  rw [run_convert_bytes_string w _ _ 5 _ _ _ Tryd.underlying44 Tryd.underlying5 Tryd.underlying9]
  have hcells := h.cells (g := g) rfl
  have hl := run_loadCells_list (P := Tryd.prog) w ⟨g, 0, none⟩ (ucells l) (fun j v hv => hcells j v hv)
  have e : bt l = (l.map fun b => ((b.toNat : Nat) : Int)).foldl (fun r n => r.push (UInt8.ofNat n.toNat)) ByteArray.empty := by
    have : ∀ (l : List UInt8) (a : ByteArray), (l.map fun b => ((b.toNat : Nat) : Int)).foldl (fun r n => r.push (UInt8.ofNat n.toNat)) a = ⟨a.data ++ l.toArray⟩ := by
      intro l
      induction l with
      | nil => intro a; simp
      | cons b l ih =>
        intro a
        rw [List.map_cons, List.foldl_cons, ih]
        simp [ByteArray.push, UInt8.ofNat_toNat]
    rw [this]
    simp [bt]
  rw [e]
  refine run_bytesToString w _ _ _ (l.map fun b => ((b.toNat : Nat) : Int)) ?_
  have e2 : (l.map fun b => ((b.toNat : Nat) : Int)).map (Value.int .u8) = ucells l := by simp [ucells, List.map_map, Function.comp_def]
  rw [e2]
  simpa [ucells, hlen] using hl
theorem info_u8' : (Tryd.prog.info? 5).map (fun i => (i.zero, i.size, i.bytes)) = some (some (.int .u8 0), 1, 1) := by kernel_rfl
set_option maxRecDepth 100000 in
set_option maxHeartbeats 1600000 in
theorem id_t (n : Nat) (hn : n ≤ 1000000) (w : World) : Calls Tryd.prog 31 #[.int .i64 (n : Int)] w fun e w' => e = .returned (.string (bt (idL n))) ∧ Below w.heap.size w w' := by
  obtain ⟨i0, hi0, hz0, hz1, hz2⟩ := info_parts info_u8'
  have hcell : ∀ m : Nat, Value.int .u8 (33 + (m : Int) % 94) = .int .u8 (((UInt8.ofNat (33 + m % 94)).toNat : Nat) : Int) := fun m => by
    have h1 : (UInt8.ofNat (33 + m % 94)).toNat = 33 + m % 94 := by
      rw [UInt8.toNat_ofNat']
      exact Nat.mod_eq_of_lt (by omega)
    rw [h1]
    congr 1
  have ho0 : (w.alloc (.cells #[.int .u8 (33 + (n : Int) % 94)] 5)).ownsRow w.heap.size 5 1 (.slice (some ⟨w.heap.size, 0, none⟩) 1 1) 1 (ucells [UInt8.ofNat (33 + n % 94)]) :=
    ⟨rfl, .inr ⟨w.heap.size, 1, _, rfl, Nat.le_refl _, heap_alloc_new w _, Nat.le_refl _, by decide, rfl, by simp [ucells, hcell]⟩⟩
  have hb0 := vnew w (.cells #[.int .u8 (33 + (n : Int) % 94)] 5)
  have hid0 : [UInt8.ofNat (33 + n % 94)] ++ idR (n / 94) = idL n := (idL_eq n).symm
  replace ho0 := Lib.hid ho0
  replace hb0 := Lib.hid hb0
  replace hid0 := Lib.hid hid0
  replace hcell := Lib.hid hcell
  go_enter Tryd.func31, Tryd.ntmps31
  go_wp2_with fail
  go_loopw [0, 3] (fun nv dv wr => ∃ (m k : Nat) (A : Addr) (c : Nat) (l : List UInt8), nv = .int .i64 (m : Int) ∧ dv = .slice (some A) k c ∧ k + m ≤ n + 1 ∧ 0 < k ∧ Hid (k = l.length ∧ l ++ idR m = idL n ∧ wr.ownsRow w.heap.size 5 1 (.slice (some A) k c) k (ucells l) ∧ Below w.heap.size w wr)) (fun nv _ _ => (RowKit.intOf nv).toNat)
  case atStart => exact ⟨n / 94, 1, _, 1, [UInt8.ofNat (33 + n % 94)], by simp, rfl, by omega, by omega, Lib.hid ⟨rfl, hid0.out, ho0.out, hb0.out⟩⟩
  case round =>
    obtain ⟨m, k, A, c, l, rfl, rfl, hkm, hk0, hI⟩ := hrel
    clear ho0 hb0 hid0
    obtain ⟨hkl, hid, hown, hbw⟩ := hI.out
    clear hI
    by_cases h0 : m = 0
    · subst h0
      obtain ⟨g, c2, e, hg, cur, hc, _⟩ := own_some hown hk0
      cases e
      have hcv := conv_u hown
      have hl : l = idL n := by rw [← hid]; simp [idR]
      replace hbw := Lib.hid hbw
      replace hl := Lib.hid hl
      clear hid hown hc hg hkl hkm hk0
      go_wp2_with fail
      go_ret
      exact ⟨by rw [hl.out]; rfl, hbw.out⟩
    · have hpos : 0 < m := by omega
      rw [idR_pos hpos] at hid
      have hsz := hbw.size
      have hb1 := vnew wr (.cells #[.int .u8 (33 + (m : Int) % 94)] 5)
      have hown1 := own_keepT hown (fun b hb => hb1.block b (own_ltT hown b hb).2)
      have hlow := own_ltT hown
      have hR := World.news_of_block (heap_alloc_new wr (.cells #[.int .u8 (33 + (m : Int) % 94)] 5))
      have hone : ∀ v ∈ [Value.int .u8 (33 + (m : Int) % 94)], v.oneCell' = true := by simp [Value.oneCell']
      have hx1 : k + 1 ≤ maxLen := by unfold maxLen; omega
      have hx2 : (k + 1) * 1 ≤ 140737488355328 := by omega
      have hsz2 : w.heap.size ≤ (wr.alloc (.cells #[.int .u8 (33 + (m : Int) % 94)] 5)).heap.size := by have := hb1.size; omega
      have hbw1 := below_call hb1 hbw
      have hdec : m / 94 < m := by omega
      have hfin : ∀ g cap w', w'.ownsRow w.heap.size 5 1 (.slice (some ⟨g, 0, none⟩) (k + 1) cap) (k + 1) (ucells l ++ [.int .u8 (33 + (m : Int) % 94)]) → (wr.alloc (.cells #[.int .u8 (33 + (m : Int) % 94)] 5)).grownBy w' (some A.block) → Hid (k + 1 = (l ++ [UInt8.ofNat (33 + m % 94)]).length ∧ (l ++ [UInt8.ofNat (33 + m % 94)]) ++ idR (m / 94) = idL n ∧ w'.ownsRow w.heap.size 5 1 (.slice (some ⟨g, 0, none⟩) (k + 1) cap) (k + 1) (ucells (l ++ [UInt8.ofNat (33 + m % 94)])) ∧ Below w.heap.size w w') := fun g cap w' ho hg => Lib.hid ⟨by simp [hkl], by rw [← hid]; simp, by rw [show ucells (l ++ [UInt8.ofNat (33 + m % 94)]) = ucells l ++ [.int .u8 (33 + (m : Int) % 94)] from by simp [ucells, hcell.out]]; exact ho, hbw1.grown hg hsz2 (fun q hq => (hlow q hq).1)⟩
      replace hown1 := Lib.hid hown1
      replace hR := Lib.hid hR
      replace hone := Lib.hid hone
      replace hx1 := Lib.hid hx1
      replace hx2 := Lib.hid hx2
      replace hsz2 := Lib.hid hsz2
      replace hfin := Lib.hid hfin
      clear hkl hid hown hbw hsz hb1 hlow hbw1
      go_wp2_with (first
        | (at_builtin; refine wpList_append_lies _ rfl _ _ 44 rfl w.heap.size 5 i0 (.int .u8 0) 1 1 Tryd.underlying44 hi0 hz0 hz1 hz2 rfl (by decide) _ k (ucells l) rfl hown1.out ⟨wr.heap.size, 0, none⟩ 1 1 [.int .u8 (33 + (m : Int) % 94)] (by simp [Act.eval]) rfl hR.out hone.out (by decide) hx1.out hx2.out hsz2.out _ rfl ?_; intro g6 cap6 w6 ho6 hg6 _ _; replace ho6 := hfin.out g6 cap6 w6 ho6 hg6; clear hg6)
        | fail)
      go_roundw
      case rel => exact ⟨m / 94, k + 1, _, cap6, _, by simp, rfl, by omega, by omega, ho6⟩
      case measure => simp [RowKit.intOf]; omega
end Go.Proofs.YtbmdnmjgijblpaaDoor
