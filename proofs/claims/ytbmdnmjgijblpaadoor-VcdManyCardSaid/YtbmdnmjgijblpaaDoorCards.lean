/-
  DERIVED. GIVEN WITH THE SEED: THE CARDS: each row of YtbmdnmjgijblpaaDoorRows.lean that lists a variable, with what it lists TIED to the program's text (the seventh form; the later family's looks); each row that meets fmt, with fmt's text TOLD by the authors' own Lean function (tested against real Go, not proved from fmt's source: count such statements apart). THE CARD IS WHAT COUNTS. Prove the row's statement (the work); the ties are given (YtbmdnmjgijblpaaDoorTie.lean); close each card by the builder's one call (the guide's Derived/Test/ToyasCard.lean, 'card_holds'). Laid BY PROGRAM, IN A SANDBOX (cutbox-door.mjs). By AI agents, Wed Nov 11 2026. No macro, syntax, notation, axiom, sorry.
-/
import Derived.Test.YtbmdnmjgijblpaaDoorRows
import GoSem.ClaimSeven
namespace Go.Proofs.YtbmdnmjgijblpaaDoor
namespace Rows

/-- THE TIED CARD OF 'sluicegatelaw25.VcdMany'. -/
def vcdManyCard : Claim7 := { stood := { row := vcdManyRow, standIns := [], harness := (true, "9bd3c883320a6193e2a7da402ce0643358df1e4d6363d92a3a3e546b62013ca7"), looks := true }, kinds := [], alts := [], laidByText := true, laidKinds := [.data, .data, .data, .sentinel, .sentinel], laidTests := true, laidLooks := .later }
def VcdManyCardSaid : Prop := Claim7.holds Tryd.pinned (.plain (OpenSpec.ofChange vcdManySpec)) vcdManyCard

/-- THE SECOND FORM's CARD OF 'sluicegatelaw25.VcdMany'. -/
def vcdManyUptoCard : Claim7 := { stood := { row := vcdManyUptoRow, standIns := [], harness := (true, "9bd3c883320a6193e2a7da402ce0643358df1e4d6363d92a3a3e546b62013ca7"), looks := true }, kinds := [], alts := [], laidByText := true, laidKinds := [.data, .data, .data, .sentinel, .sentinel], laidTests := true, laidLooks := .later }
def VcdManyUptoCardSaid : Prop := Claim7.holds Tryd.pinned (.plain (OpenSpec.upto vcdManySpec)) vcdManyUptoCard
end Rows
end Go.Proofs.YtbmdnmjgijblpaaDoor
