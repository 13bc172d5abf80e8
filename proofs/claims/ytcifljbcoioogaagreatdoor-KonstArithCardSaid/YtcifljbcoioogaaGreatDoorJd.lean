/-
  What the row of KonstArith lists: the tables of the library.
-/
import Derived.Test.YtcifljbcoioogaaGreatDoorJb
import Derived.Test.YtcifljbcoioogaaGreatDoorCards
import Derived.Test.YtcifljbcoioogaaGreatDoorTie
import Derived.WalkKit
import Derived.ProofKit
import Derived.Lay
import Derived.LaidMore
import Derived.OpenShut
import Derived.SevenTiedAt
import Derived.Stop.Joined
import Derived.Stop.LaidErr
import Derived.Lib.TrailingZeros
import Derived.ShutString
import Derived.ChangeOld
import Derived.Deep.Slices
import Derived.Lib.SmallJoins
import Derived.Lib.LaidTab
namespace Go.Proofs.YtcifljbcoioogaaGreatDoor
open Go Go.RowKit Go.Lib
/-- The list of tables of the rows. -/
def laid6 : List (String × DataW Unit) := Rows.konstEvalsRow.laid
theorem own6 : ownKnob Tryz.prog.godebug = none := by kernel_rfl
theorem pow_datum : (Rows.laid_internal_strconv_uint64pow10 : DataW Unit) = tabData .u64 pow10Tab := by kernel_rfl
theorem bru_datum : (Rows.laid_math_bits_deBruijn64tab : DataW Unit) = tabData .u8 (deBruijn64tab.map Int.ofNat) := by kernel_rfl
theorem LT_of_laid {W : World} (h : laidMetH Tryz.prog laid6 W) : LT W := by
  rw [MakeChecks.laidMetH_plain _ _ _ (by kernel_rfl)] at h
  unfold laid6 Rows.konstEvalsRow at h
  dsimp only at h
  have h1 := laidMet.tail h
  have h2 := laidMet.tail h1
  have e1 : TabIs Tryz.prog W "math/bits.deBruijn64tab" .u8 (deBruijn64tab.map Int.ofNat) :=
    tabIs_of_head (g := 2) (t := 144) (e := 5) (by kernel_rfl) (by kernel_rfl) Tryz.underlying144 Tryz.underlying5 (by kernel_rfl) (by kernel_rfl) (bru_datum ▸ h1)
  have e2 : TabIs Tryz.prog W "internal/strconv.uint64pow10" .u64 pow10Tab :=
    tabIs_of_head (g := 0) (t := 129) (e := 87) (by kernel_rfl) (by kernel_rfl) Tryz.underlying129 Tryz.underlying87 (by kernel_rfl) (by kernel_rfl) (pow_datum ▸ h2)
  exact ⟨e2, e1.cell (by kernel_rfl) 15 (by decide)⟩
/-- The witness's world. -/
theorem witness_met (os : Os) (args : Array Value) : laidMetH Tryz.prog laid6 ((World.laidAll Tryz.prog os laid6).forCall (fun _ _ => 0) ⟨#[], args, []⟩).memory := by
  rw [MakeChecks.laidMetH_plain _ _ _ (by kernel_rfl)]
  exact laidMet_laidAll _ (by kernel_rfl) (by kernel_rfl)
theorem witness_shape (os : Os) (args : Array Value) : ((World.laidAll Tryz.prog os laid6).forCall (fun _ _ => 0) ⟨#[], args, []⟩).Shaped Tryz.prog := World.shaped_of_ZipB (by kernel_rfl) (by kernel_rfl)
open Go.ChangeShapes Go.WideShapes Go.ChangeAt
theorem laidOut : laidOutB Tryz.prog = true := by kernel_rfl
end Go.Proofs.YtcifljbcoioogaaGreatDoor
