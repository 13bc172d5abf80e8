/-
  No cell of these rows narrows 'for every input' (looked for: loops, veiled, ifaces, maps, wideKeys, modest, calm, conditions, laid).
  DERIVED. THE GIVEN ROWS OF THIS SEAT. 5 by the template 'for every input the law returns true; each argument reads behind the call as it read before'; 0 by the template 'total and deterministic' (their statements: YtegoldihcchfdaaTotals.lean).
  GIVEN WITH THE SEED: the statements are not yours to turn. If you find one false, say at which input.
  Laid BY PROGRAM, IN A SANDBOX (cutbox-rows.mjs): the forced cells as the released guide's own fill.sh prints them over the translation 248692a3f939bf7c… (all of the seat's roots in one cut). By AI agents, Wed Nov 11 2026. No macro, syntax, notation, axiom, sorry.
-/
import Derived.Test.YtegoldihcchfdaaChecked
import GoSem.Claim
import GoSem.ClaimJoined
import GoSem.ClaimMapViews
import Derived.JoinedTies
import Derived.KernelRfl
namespace Go.Proofs.Ytegoldihcchfdaa
/- THE CELL 'sum', in the pinned program and in every row, IS THE sha256 OF THE DUMP (.gsa) THAT YtegoldihcchfdaaProg.lean LOADS. Nothing in Lean hashes anything: it is a label: what it is worth is what the hold of that sum in a sandbox is worth. -/
noncomputable def Try.pinned : Pinned := { name := "ytegoldihcchfdaa", sum := "248692a3f939bf7cc63929eba88f512aaf987a91fa9b6e8fce59cb05ef33b756", checked := Try.checked }
namespace Rows
def none {H : Type} : Left H := { results := [], args := [] }

/-- 'sluicegatelaw06.SrcMakes': WHATEVER THE INPUT: true; the input reads as it did. -/
def srcMakesSpec : ChangeSpec := { name := "srcMakes", fn := fun _ => fun
  | [d1, d2, d3] => { results := [.lit (.bool true)], args := [d1, d2, d3] }
  | _ => none }
def srcMakesRow : OpenClaim := { program := "ytegoldihcchfdaa", sum := "248692a3f939bf7cc63929eba88f512aaf987a91fa9b6e8fce59cb05ef33b756", func := "sluicegate/sluicegatelaw06.SrcMakes", spec := "srcMakes", unfollowed := true, recurses := true, apart := false }
def SrcMakesSaid : Prop := srcMakesRow.holds Try.pinned (OpenSpec.ofChange srcMakesSpec)

/-- ITS FALSE NEIGHBOUR: 'it returns false'. Refute it at one input. -/
def srcMakesWrong : ChangeSpec := { name := "srcMakes", fn := fun _ => fun
  | [d1, d2, d3] => { results := [.lit (.bool false)], args := [d1, d2, d3] }
  | _ => none }
def SrcMakesWrongFalsely : Prop := srcMakesRow.holds Try.pinned (OpenSpec.ofChange srcMakesWrong)

/-- 'sluicegatelaw06.SrcPlaces': WHATEVER THE INPUT: true; the input reads as it did. -/
def srcPlacesSpec : ChangeSpec := { name := "srcPlaces", fn := fun _ => fun
  | [d1, d2, d3] => { results := [.lit (.bool true)], args := [d1, d2, d3] }
  | _ => none }
def srcPlacesRow : OpenClaim := { program := "ytegoldihcchfdaa", sum := "248692a3f939bf7cc63929eba88f512aaf987a91fa9b6e8fce59cb05ef33b756", func := "sluicegate/sluicegatelaw06.SrcPlaces", spec := "srcPlaces", unfollowed := true, recurses := true, apart := false }
def SrcPlacesSaid : Prop := srcPlacesRow.holds Try.pinned (OpenSpec.ofChange srcPlacesSpec)

/-- ITS FALSE NEIGHBOUR: 'it returns false'. Refute it at one input. -/
def srcPlacesWrong : ChangeSpec := { name := "srcPlaces", fn := fun _ => fun
  | [d1, d2, d3] => { results := [.lit (.bool false)], args := [d1, d2, d3] }
  | _ => none }
def SrcPlacesWrongFalsely : Prop := srcPlacesRow.holds Try.pinned (OpenSpec.ofChange srcPlacesWrong)

/-- 'sluicegatelaw06.SrcLines': WHATEVER THE INPUT: true; the input reads as it did. -/
def srcLinesSpec : ChangeSpec := { name := "srcLines", fn := fun _ => fun
  | [d1, d2] => { results := [.lit (.bool true)], args := [d1, d2] }
  | _ => none }
def srcLinesRow : OpenClaim := { program := "ytegoldihcchfdaa", sum := "248692a3f939bf7cc63929eba88f512aaf987a91fa9b6e8fce59cb05ef33b756", func := "sluicegate/sluicegatelaw06.SrcLines", spec := "srcLines", unfollowed := true, recurses := true, apart := false }
def SrcLinesSaid : Prop := srcLinesRow.holds Try.pinned (OpenSpec.ofChange srcLinesSpec)

/-- ITS FALSE NEIGHBOUR: 'it returns false'. Refute it at one input. -/
def srcLinesWrong : ChangeSpec := { name := "srcLines", fn := fun _ => fun
  | [d1, d2] => { results := [.lit (.bool false)], args := [d1, d2] }
  | _ => none }
def SrcLinesWrongFalsely : Prop := srcLinesRow.holds Try.pinned (OpenSpec.ofChange srcLinesWrong)

/-- 'sluicegatelaw06.SrcOrders': WHATEVER THE INPUT: true; the input reads as it did. -/
def srcOrdersSpec : ChangeSpec := { name := "srcOrders", fn := fun _ => fun
  | [d1, d2, d3] => { results := [.lit (.bool true)], args := [d1, d2, d3] }
  | _ => none }
def srcOrdersRow : OpenClaim := { program := "ytegoldihcchfdaa", sum := "248692a3f939bf7cc63929eba88f512aaf987a91fa9b6e8fce59cb05ef33b756", func := "sluicegate/sluicegatelaw06.SrcOrders", spec := "srcOrders", unfollowed := true, recurses := true, apart := false }
def SrcOrdersSaid : Prop := srcOrdersRow.holds Try.pinned (OpenSpec.ofChange srcOrdersSpec)

/-- ITS FALSE NEIGHBOUR: 'it returns false'. Refute it at one input. -/
def srcOrdersWrong : ChangeSpec := { name := "srcOrders", fn := fun _ => fun
  | [d1, d2, d3] => { results := [.lit (.bool false)], args := [d1, d2, d3] }
  | _ => none }
def SrcOrdersWrongFalsely : Prop := srcOrdersRow.holds Try.pinned (OpenSpec.ofChange srcOrdersWrong)

/-- 'sluicegatelaw06.SrcJoins': WHATEVER THE INPUT: true; the input reads as it did. -/
def srcJoinsSpec : ChangeSpec := { name := "srcJoins", fn := fun _ => fun
  | [d] => { results := [.lit (.bool true)], args := [d] }
  | _ => none }
def srcJoinsRow : OpenClaim := { program := "ytegoldihcchfdaa", sum := "248692a3f939bf7cc63929eba88f512aaf987a91fa9b6e8fce59cb05ef33b756", func := "sluicegate/sluicegatelaw06.SrcJoins", spec := "srcJoins", unfollowed := true, recurses := true, apart := false }
def SrcJoinsSaid : Prop := srcJoinsRow.holds Try.pinned (OpenSpec.ofChange srcJoinsSpec)

/-- ITS FALSE NEIGHBOUR: 'it returns false'. Refute it at one input. -/
def srcJoinsWrong : ChangeSpec := { name := "srcJoins", fn := fun _ => fun
  | [d] => { results := [.lit (.bool false)], args := [d] }
  | _ => none }
def SrcJoinsWrongFalsely : Prop := srcJoinsRow.holds Try.pinned (OpenSpec.ofChange srcJoinsWrong)

/- THE SECOND FORM. 'bulk': how many values and letters a reading holds, each counted each time it is reached (what is shared counts as often as it is met; a slice's spare places count too). A statement '..UptoSaid' is the law's where the arguments, and the package variables that the reading takes, are together of bulk at most 1048576: NARROWER than '..Said'. Prove '..Said' where nothing that the law and all that it calls make is longer than what came in: it says more and counts as full. Else prove '..UptoSaid'. A law counts once. -/
mutual
def uptoBulk {H : Type} : DataW H → Nat
  | .lit (.string bytes) => bytes.length + 1
  | .lit _ => 1
  | .nil => 1
  | .ptr d => uptoBulk d + 1
  | .slice elems spare => uptoBulkAll elems + uptoBulkAll spare + 1
  | .agg parts => uptoBulkAll parts + 1
  | .iface _ d => uptoBulk d + 1
  | .map entries => uptoBulkEntries entries + 1
  | .held _ => 1
def uptoBulkAll {H : Type} : List (DataW H) → Nat
  | [] => 0
  | d :: r => uptoBulk d + uptoBulkAll r
def uptoBulkEntries {H : Type} : List (Lit × DataW H) → Nat
  | [] => 0
  | x :: r => uptoBulkEntry x + uptoBulkEntries r
def uptoBulkEntry {H : Type} : Lit × DataW H → Nat
  | (.string bytes, d) => bytes.length + uptoBulk d + 1
  | (_, d) => uptoBulk d + 1
 end
def uptoSmall : (H : Type) → List (DataW H) → Bool := fun _ ds => decide (uptoBulkAll ds ≤ 1048576)
def OpenSpec.upto (s : _root_.Go.ChangeSpec) : _root_.Go.OpenSpec := { _root_.Go.OpenSpec.ofChange s with cond := some uptoSmall }

/-- 'sluicegatelaw06.SrcMakes', WHERE WHAT IT READS IS OF BULK AT MOST 1048576: true; the input reads as it did. -/
def srcMakesUptoRow : OpenClaim := { program := "ytegoldihcchfdaa", sum := "248692a3f939bf7cc63929eba88f512aaf987a91fa9b6e8fce59cb05ef33b756", func := "sluicegate/sluicegatelaw06.SrcMakes", spec := "srcMakes", unfollowed := true, recurses := true, apart := false, narrowed := true }
def SrcMakesUptoSaid : Prop := srcMakesUptoRow.holds Try.pinned (OpenSpec.upto srcMakesSpec)

/-- 'sluicegatelaw06.SrcPlaces', WHERE WHAT IT READS IS OF BULK AT MOST 1048576: true; the input reads as it did. -/
def srcPlacesUptoRow : OpenClaim := { program := "ytegoldihcchfdaa", sum := "248692a3f939bf7cc63929eba88f512aaf987a91fa9b6e8fce59cb05ef33b756", func := "sluicegate/sluicegatelaw06.SrcPlaces", spec := "srcPlaces", unfollowed := true, recurses := true, apart := false, narrowed := true }
def SrcPlacesUptoSaid : Prop := srcPlacesUptoRow.holds Try.pinned (OpenSpec.upto srcPlacesSpec)

/-- 'sluicegatelaw06.SrcLines', WHERE WHAT IT READS IS OF BULK AT MOST 1048576: true; the input reads as it did. -/
def srcLinesUptoRow : OpenClaim := { program := "ytegoldihcchfdaa", sum := "248692a3f939bf7cc63929eba88f512aaf987a91fa9b6e8fce59cb05ef33b756", func := "sluicegate/sluicegatelaw06.SrcLines", spec := "srcLines", unfollowed := true, recurses := true, apart := false, narrowed := true }
def SrcLinesUptoSaid : Prop := srcLinesUptoRow.holds Try.pinned (OpenSpec.upto srcLinesSpec)

/-- 'sluicegatelaw06.SrcOrders', WHERE WHAT IT READS IS OF BULK AT MOST 1048576: true; the input reads as it did. -/
def srcOrdersUptoRow : OpenClaim := { program := "ytegoldihcchfdaa", sum := "248692a3f939bf7cc63929eba88f512aaf987a91fa9b6e8fce59cb05ef33b756", func := "sluicegate/sluicegatelaw06.SrcOrders", spec := "srcOrders", unfollowed := true, recurses := true, apart := false, narrowed := true }
def SrcOrdersUptoSaid : Prop := srcOrdersUptoRow.holds Try.pinned (OpenSpec.upto srcOrdersSpec)

/-- 'sluicegatelaw06.SrcJoins', WHERE WHAT IT READS IS OF BULK AT MOST 1048576: true; the input reads as it did. -/
def srcJoinsUptoRow : OpenClaim := { program := "ytegoldihcchfdaa", sum := "248692a3f939bf7cc63929eba88f512aaf987a91fa9b6e8fce59cb05ef33b756", func := "sluicegate/sluicegatelaw06.SrcJoins", spec := "srcJoins", unfollowed := true, recurses := true, apart := false, narrowed := true }
def SrcJoinsUptoSaid : Prop := srcJoinsUptoRow.holds Try.pinned (OpenSpec.upto srcJoinsSpec)

end Rows
end Go.Proofs.Ytegoldihcchfdaa
