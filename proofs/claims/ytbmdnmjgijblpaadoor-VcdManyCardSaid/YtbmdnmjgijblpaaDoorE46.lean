/-
  What the rows of layer 25 list: the tables of the library.
-/
import Derived.Test.YtbmdnmjgijblpaaDoorE45
import Derived.Test.YtbmdnmjgijblpaaDoorCards
import Derived.Test.YtbmdnmjgijblpaaDoorTie
import Derived.WalkKit
import Derived.ProofKit
import Derived.Lay
import Derived.LaidMore
import Derived.OpenShut
import Derived.SevenTiedAt
import Derived.Stop.Joined
import Derived.Stop.LaidErr
import Derived.ChangeOld
namespace Go.Proofs.YtbmdnmjgijblpaaDoor
open Go Go.ChangeShapes Go.WideShapes Go.ChangeAt Go.RowKit Go.Lib
/-- The list of tables of the rows. -/
def laid25 : List (String × DataW Unit) := Rows.vcdManyRow.laid
theorem own25 : ownKnob Tryd.prog.godebug = none := by kernel_rfl
theorem laidOut : laidOutB Tryd.prog = true := by kernel_rfl
theorem pow_datum : (Rows.laid_internal_strconv_uint64pow10 : DataW Unit) = tabData .u64 pow10Tab := by kernel_rfl
theorem LT_of_laid {W : World} (h : laidMetH Tryd.prog laid25 W) : LT W := by
  rw [MakeChecks.laidMetH_plain _ _ _ (by kernel_rfl)] at h
  unfold laid25 Rows.vcdManyRow at h
  dsimp only at h
  have h1 := laidMet.tail h
  have h2 := laidMet.tail h1
  exact tabIs_of_head (g := 1) (t := 109) (e := 31) (by kernel_rfl) (by kernel_rfl) Tryd.underlying109 Tryd.underlying31 (by kernel_rfl) (by kernel_rfl) (pow_datum ▸ h2)
/-- The witness's world. -/
theorem witness_met (os : Os) (args : Array Value) : laidMetH Tryd.prog laid25 ((World.laidAll Tryd.prog os laid25).forCall (fun _ _ => 0) ⟨#[], args, []⟩).memory := by
  rw [MakeChecks.laidMetH_plain _ _ _ (by kernel_rfl)]
  exact laidMet_laidAll _ (by kernel_rfl) (by kernel_rfl)
theorem witness_shape (os : Os) (args : Array Value) : ((World.laidAll Tryd.prog os laid25).forCall (fun _ _ => 0) ⟨#[], args, []⟩).Shaped Tryd.prog := World.shaped_of_ZipB (by kernel_rfl) (by kernel_rfl)
end Go.Proofs.YtbmdnmjgijblpaaDoor
