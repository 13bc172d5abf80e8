/-
  Holds.
-/
import Derived.Test.YtikngnbnodaflaaGreatDoorKp
namespace Go.Proofs.YtikngnbnodaflaaGreatDoor
open Go.RowKit Go.Lib
section
variable {base : Nat} {w : World} {p V : Nat} {cs : List (List Int)} {vl ve : Value}
theorem take_all (m : List Bool) (cs : List (List Int)) (k : Nat) (hk : k < cs.length) : holB m (cs.take (k + 1)) = (holB m (cs.take k) && (cs[k]).any (litB m)) := by
  unfold holB
  rw [List.take_succ_eq_append_getElem hk, List.all_append]
  simp
theorem all_take (m : List Bool) (cs : List (List Int)) (k : Nat) (h : holB m cs = true) : holB m (cs.take k) = true := by
  unfold holB at *
  rw [List.all_eq_true] at *
  exact fun c hc => h c (List.mem_of_mem_take hc)
end
end Go.Proofs.YtikngnbnodaflaaGreatDoor
