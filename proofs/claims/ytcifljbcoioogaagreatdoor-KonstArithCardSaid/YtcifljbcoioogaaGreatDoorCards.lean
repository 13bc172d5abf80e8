/-
  DERIVED. GIVEN WITH THE SEED: THE CARDS: each row of YtcifljbcoioogaaGreatDoorRows.lean that lists a variable, with what it lists TIED to the program's text (the seventh form; the later family's looks); each row that meets fmt, with fmt's text TOLD by the authors' own Lean function (tested against real Go, not proved from fmt's source: count such statements apart). THE CARD IS WHAT COUNTS. Prove the row's statement (the work); the ties are given (YtcifljbcoioogaaGreatDoorTie.lean); close each card by the builder's one call (the guide's Derived/Test/ToyasCard.lean, 'card_holds'). Laid BY PROGRAM, IN A SANDBOX (cutbox-door.mjs). By AI agents, Wed Nov 11 2026. No macro, syntax, notation, axiom, sorry.
-/
import Derived.Test.YtcifljbcoioogaaGreatDoorRows
import GoSem.ClaimSeven
namespace Go.Proofs.YtcifljbcoioogaaGreatDoor
namespace Rows

/-- THE TIED CARD OF 'sluicegatelaw11.KonstEvals'. -/
def konstEvalsCard : Claim7 := { stood := { row := konstEvalsRow, standIns := [], harness := (true, "77de2c9ee45aa52effd5b9ac309945158873ac3225e676542b323b2a4d3bcf52"), looks := false }, kinds := [], alts := [], laidByText := true, laidKinds := [.data, .data, .data], laidTests := true, laidLooks := .later }
def KonstEvalsCardSaid : Prop := Claim7.holds Tryz.pinned (.plain (OpenSpec.ofChange konstEvalsSpec)) konstEvalsCard

/-- THE TIED CARD OF 'sluicegatelaw11.KonstArith'. -/
def konstArithCard : Claim7 := { stood := { row := konstArithRow, standIns := [], harness := (true, "77de2c9ee45aa52effd5b9ac309945158873ac3225e676542b323b2a4d3bcf52"), looks := false }, kinds := [], alts := [], laidByText := true, laidKinds := [.data, .data, .data], laidTests := true, laidLooks := .later }
def KonstArithCardSaid : Prop := Claim7.holds Tryz.pinned (.plain (OpenSpec.ofChange konstArithSpec)) konstArithCard

/-- THE SECOND FORM's CARD OF 'sluicegatelaw11.KonstEvals'. -/
def konstEvalsUptoCard : Claim7 := { stood := { row := konstEvalsUptoRow, standIns := [], harness := (true, "77de2c9ee45aa52effd5b9ac309945158873ac3225e676542b323b2a4d3bcf52"), looks := false }, kinds := [], alts := [], laidByText := true, laidKinds := [.data, .data, .data], laidTests := true, laidLooks := .later }
def KonstEvalsUptoCardSaid : Prop := Claim7.holds Tryz.pinned (.plain (OpenSpec.upto konstEvalsSpec)) konstEvalsUptoCard

/-- THE SECOND FORM's CARD OF 'sluicegatelaw11.KonstArith'. -/
def konstArithUptoCard : Claim7 := { stood := { row := konstArithUptoRow, standIns := [], harness := (true, "77de2c9ee45aa52effd5b9ac309945158873ac3225e676542b323b2a4d3bcf52"), looks := false }, kinds := [], alts := [], laidByText := true, laidKinds := [.data, .data, .data], laidTests := true, laidLooks := .later }
def KonstArithUptoCardSaid : Prop := Claim7.holds Tryz.pinned (.plain (OpenSpec.upto konstArithSpec)) konstArithUptoCard
end Rows
end Go.Proofs.YtcifljbcoioogaaGreatDoor
