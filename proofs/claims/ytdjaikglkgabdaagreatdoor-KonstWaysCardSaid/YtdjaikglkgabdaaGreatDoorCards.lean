/-
  DERIVED. GIVEN WITH THE SEED: THE CARDS: each row of YtdjaikglkgabdaaGreatDoorRows.lean that lists a variable, with what it lists TIED to the program's text (the seventh form; the later family's looks); each row that meets fmt, with fmt's text TOLD by the authors' own Lean function (tested against real Go, not proved from fmt's source: count such statements apart). THE CARD IS WHAT COUNTS. Prove the row's statement (the work); the ties are given (YtdjaikglkgabdaaGreatDoorTie.lean); close each card by the builder's one call (the guide's Derived/Test/ToyasCard.lean, 'card_holds'). Laid BY PROGRAM, IN A SANDBOX (cutbox-door.mjs). By AI agents, Wed Nov 11 2026. No macro, syntax, notation, axiom, sorry.
-/
import Derived.Test.YtdjaikglkgabdaaGreatDoorRows
import GoSem.ClaimSeven
namespace Go.Proofs.YtdjaikglkgabdaaGreatDoor
namespace Rows

/-- THE TIED CARD OF 'sluicegatelaw11.KonstValues'. -/
def konstValuesCard : Claim7 := { stood := { row := konstValuesRow, standIns := [], harness := (true, "223943d6cd02f7ed8714f39ab298f63454055f040f6d351760605494b2e2efd7"), looks := false }, kinds := [], alts := [], laidByText := true, laidKinds := [.data, .data, .data], laidTests := true, laidLooks := .later }
def KonstValuesCardSaid : Prop := Claim7.holds Tryz.pinned (.plain (OpenSpec.ofChange konstValuesSpec)) konstValuesCard

/-- THE TIED CARD OF 'sluicegatelaw11.KonstEvals'. -/
def konstEvalsCard : Claim7 := { stood := { row := konstEvalsRow, standIns := [], harness := (true, "223943d6cd02f7ed8714f39ab298f63454055f040f6d351760605494b2e2efd7"), looks := false }, kinds := [], alts := [], laidByText := true, laidKinds := [.data, .data, .data], laidTests := true, laidLooks := .later }
def KonstEvalsCardSaid : Prop := Claim7.holds Tryz.pinned (.plain (OpenSpec.ofChange konstEvalsSpec)) konstEvalsCard

/-- THE TIED CARD OF 'sluicegatelaw11.KonstArith'. -/
def konstArithCard : Claim7 := { stood := { row := konstArithRow, standIns := [], harness := (true, "223943d6cd02f7ed8714f39ab298f63454055f040f6d351760605494b2e2efd7"), looks := false }, kinds := [], alts := [], laidByText := true, laidKinds := [.data, .data, .data], laidTests := true, laidLooks := .later }
def KonstArithCardSaid : Prop := Claim7.holds Tryz.pinned (.plain (OpenSpec.ofChange konstArithSpec)) konstArithCard

/-- THE TIED CARD OF 'sluicegatelaw11.KonstWays'. -/
def konstWaysCard : Claim7 := { stood := { row := konstWaysRow, standIns := [], harness := (true, "223943d6cd02f7ed8714f39ab298f63454055f040f6d351760605494b2e2efd7"), looks := false }, kinds := [], alts := [], laidByText := true, laidKinds := [.data, .data, .data], laidTests := true, laidLooks := .later }
def KonstWaysCardSaid : Prop := Claim7.holds Tryz.pinned (.plain (OpenSpec.ofChange konstWaysSpec)) konstWaysCard

/-- THE SECOND FORM's CARD OF 'sluicegatelaw11.KonstValues'. -/
def konstValuesUptoCard : Claim7 := { stood := { row := konstValuesUptoRow, standIns := [], harness := (true, "223943d6cd02f7ed8714f39ab298f63454055f040f6d351760605494b2e2efd7"), looks := false }, kinds := [], alts := [], laidByText := true, laidKinds := [.data, .data, .data], laidTests := true, laidLooks := .later }
def KonstValuesUptoCardSaid : Prop := Claim7.holds Tryz.pinned (.plain (OpenSpec.upto konstValuesSpec)) konstValuesUptoCard

/-- THE SECOND FORM's CARD OF 'sluicegatelaw11.KonstEvals'. -/
def konstEvalsUptoCard : Claim7 := { stood := { row := konstEvalsUptoRow, standIns := [], harness := (true, "223943d6cd02f7ed8714f39ab298f63454055f040f6d351760605494b2e2efd7"), looks := false }, kinds := [], alts := [], laidByText := true, laidKinds := [.data, .data, .data], laidTests := true, laidLooks := .later }
def KonstEvalsUptoCardSaid : Prop := Claim7.holds Tryz.pinned (.plain (OpenSpec.upto konstEvalsSpec)) konstEvalsUptoCard

/-- THE SECOND FORM's CARD OF 'sluicegatelaw11.KonstArith'. -/
def konstArithUptoCard : Claim7 := { stood := { row := konstArithUptoRow, standIns := [], harness := (true, "223943d6cd02f7ed8714f39ab298f63454055f040f6d351760605494b2e2efd7"), looks := false }, kinds := [], alts := [], laidByText := true, laidKinds := [.data, .data, .data], laidTests := true, laidLooks := .later }
def KonstArithUptoCardSaid : Prop := Claim7.holds Tryz.pinned (.plain (OpenSpec.upto konstArithSpec)) konstArithUptoCard

/-- THE SECOND FORM's CARD OF 'sluicegatelaw11.KonstWays'. -/
def konstWaysUptoCard : Claim7 := { stood := { row := konstWaysUptoRow, standIns := [], harness := (true, "223943d6cd02f7ed8714f39ab298f63454055f040f6d351760605494b2e2efd7"), looks := false }, kinds := [], alts := [], laidByText := true, laidKinds := [.data, .data, .data], laidTests := true, laidLooks := .later }
def KonstWaysUptoCardSaid : Prop := Claim7.holds Tryz.pinned (.plain (OpenSpec.upto konstWaysSpec)) konstWaysUptoCard
end Rows
end Go.Proofs.YtdjaikglkgabdaaGreatDoor
