/-
  The walk of bv's Text: the digits of a vector, the most significant first.
-/
import Derived.Test.YtdjaikglkgabdaaGreatDoorWb
import Derived.Test.YtdjaikglkgabdaaGreatDoorM
import Derived.Laws.BytesString
namespace Go.Proofs.YtdjaikglkgabdaaGreatDoor
open Go.RowKit
def dgt (n x j : Nat) : Int := if x.testBit (n - 1 - j) then 49 else 48
def dig (n x k j : Nat) : Value := .int .u8 (if n ≤ j + k then dgt n x j else 0)
def txt (n x : Nat) : ByteArray := ((List.range n).map (dgt n x)).foldl (fun r n => r.push (UInt8.ofNat n.toNat)) ByteArray.empty
theorem txt_49 : txt 4 9 = ⟨#[49, 48, 48, 49]⟩ := by decide
theorem txt_41 : txt 4 1 = ⟨#[48, 48, 48, 49]⟩ := by decide
theorem info_u8 : (Tryz.prog.info? 5).map (fun i => (i.zero, i.size, i.bytes)) = some (some (.int .u8 0), 1, 1) := by kernel_rfl
theorem conv_txt (n x g : Nat) (w : World) (h : w.rowIs g 5 n (dig n x n)) :
    (convert 45 9 (.slice (some ⟨g, 0, none⟩) n n)).run Tryz.prog w = .ok (.string (txt n x)) w := by
  rw [run_convert_bytes_string w _ _ 5 _ _ _ Tryz.underlying45 Tryz.underlying5 Tryz.underlying9]
  refine run_bytesToString w _ _ _ ((List.range n).map (dgt n x)) ?_
  have hl := run_loadCells_list (P := Tryz.prog) w ⟨g, 0, none⟩ (((List.range n).map (dgt n x)).map (Value.int .u8)) (fun j v hv => by
    rw [List.getElem?_map, List.getElem?_map, Option.map_map, Option.map_eq_some_iff] at hv
    obtain ⟨i, hi, rfl⟩ := hv
    have hj : j < n := by
      rcases Nat.lt_or_ge j n with h' | h'
      · exact h'
      · rw [List.getElem?_eq_none (by simpa using h')] at hi; cases hi
    rw [List.getElem?_eq_getElem (by simpa using hj)] at hi
    simp only [List.getElem_range, Option.some.injEq] at hi
    subst hi
    have hadd : (⟨g, 0, none⟩ : Addr).add j = ⟨g, j, none⟩ := by unfold Addr.add; split <;> simp_all
    rw [hadd, World.rowIs.cell h hj]
    simp [dig])
  simpa using hl
end Go.Proofs.YtdjaikglkgabdaaGreatDoor
