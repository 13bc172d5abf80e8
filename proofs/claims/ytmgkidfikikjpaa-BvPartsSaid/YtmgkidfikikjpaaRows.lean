/-
  No cell of these rows narrows 'for every input' (looked for: loops, veiled, ifaces, maps, wideKeys, modest, calm, conditions, laid).
  DERIVED. THE GIVEN ROWS OF THIS SEAT. 3 by the template 'for every input the law returns true; each argument reads behind the call as it read before'; 0 by the template 'total and deterministic' (their statements: YtmgkidfikikjpaaTotals.lean).
  GIVEN WITH THE SEED: the statements are not yours to turn. If you find one false, say at which input.
  Laid BY PROGRAM, IN A SANDBOX (cutbox-rows.mjs): the forced cells as the released guide's own fill.sh prints them over the translation 143d47353ceb7354… (all of the seat's roots in one cut). By AI agents, Wed Nov 11 2026. No macro, syntax, notation, axiom, sorry.
-/
import Derived.Test.YtmgkidfikikjpaaChecked
import GoSem.Claim
import GoSem.ClaimJoined
import GoSem.ClaimMapViews
import Derived.JoinedTies
import Derived.KernelRfl
namespace Go.Proofs.Ytmgkidfikikjpaa
/- THE CELL 'sum', in the pinned program and in every row, IS THE sha256 OF THE DUMP (.gsa) THAT YtmgkidfikikjpaaProg.lean LOADS. Nothing in Lean hashes anything: it is a label: what it is worth is what the hold of that sum in a sandbox is worth. -/
noncomputable def Try.pinned : Pinned := { name := "ytmgkidfikikjpaa", sum := "143d47353ceb73547ef40793b01121c6106489f3e2ba5b71817741bd57c70367", checked := Try.checked }
namespace Rows
def none {H : Type} : Left H := { results := [], args := [] }

/-- 'sluicegatelaw01.BvBins': WHATEVER THE INPUT: true; the input reads as it did. -/
def bvBinsSpec : ChangeSpec := { name := "bvBins", fn := fun _ => fun
  | [d1, d2] => { results := [.lit (.bool true)], args := [d1, d2] }
  | _ => none }
def bvBinsRow : OpenClaim := { program := "ytmgkidfikikjpaa", sum := "143d47353ceb73547ef40793b01121c6106489f3e2ba5b71817741bd57c70367", func := "sluicegate/sluicegatelaw01.BvBins", spec := "bvBins", inPlace := ["math/bits.Add64", "math/bits.Sub64"], unfollowed := true, recurses := true, apart := false }
def BvBinsSaid : Prop := bvBinsRow.holds Try.pinned (OpenSpec.ofChange bvBinsSpec)

/-- ITS FALSE NEIGHBOUR: 'it returns false'. Refute it at one input. -/
def bvBinsWrong : ChangeSpec := { name := "bvBins", fn := fun _ => fun
  | [d1, d2] => { results := [.lit (.bool false)], args := [d1, d2] }
  | _ => none }
def BvBinsWrongFalsely : Prop := bvBinsRow.holds Try.pinned (OpenSpec.ofChange bvBinsWrong)

/-- 'sluicegatelaw01.BvParts': WHATEVER THE INPUT: true; the input reads as it did. -/
def bvPartsSpec : ChangeSpec := { name := "bvParts", fn := fun _ => fun
  | [d1, d2, d3] => { results := [.lit (.bool true)], args := [d1, d2, d3] }
  | _ => none }
def bvPartsRow : OpenClaim := { program := "ytmgkidfikikjpaa", sum := "143d47353ceb73547ef40793b01121c6106489f3e2ba5b71817741bd57c70367", func := "sluicegate/sluicegatelaw01.BvParts", spec := "bvParts", inPlace := ["math/bits.Add64", "math/bits.Sub64"], unfollowed := true, recurses := true, apart := false }
def BvPartsSaid : Prop := bvPartsRow.holds Try.pinned (OpenSpec.ofChange bvPartsSpec)

/-- ITS FALSE NEIGHBOUR: 'it returns false'. Refute it at one input. -/
def bvPartsWrong : ChangeSpec := { name := "bvParts", fn := fun _ => fun
  | [d1, d2, d3] => { results := [.lit (.bool false)], args := [d1, d2, d3] }
  | _ => none }
def BvPartsWrongFalsely : Prop := bvPartsRow.holds Try.pinned (OpenSpec.ofChange bvPartsWrong)

/-- 'sluicegatelaw01.BvSplits': WHATEVER THE INPUT: true; the input reads as it did. -/
def bvSplitsSpec : ChangeSpec := { name := "bvSplits", fn := fun _ => fun
  | [d1, d2] => { results := [.lit (.bool true)], args := [d1, d2] }
  | _ => none }
def bvSplitsRow : OpenClaim := { program := "ytmgkidfikikjpaa", sum := "143d47353ceb73547ef40793b01121c6106489f3e2ba5b71817741bd57c70367", func := "sluicegate/sluicegatelaw01.BvSplits", spec := "bvSplits", inPlace := ["math/bits.Add64", "math/bits.Sub64"], unfollowed := true, recurses := true, apart := false }
def BvSplitsSaid : Prop := bvSplitsRow.holds Try.pinned (OpenSpec.ofChange bvSplitsSpec)

/-- ITS FALSE NEIGHBOUR: 'it returns false'. Refute it at one input. -/
def bvSplitsWrong : ChangeSpec := { name := "bvSplits", fn := fun _ => fun
  | [d1, d2] => { results := [.lit (.bool false)], args := [d1, d2] }
  | _ => none }
def BvSplitsWrongFalsely : Prop := bvSplitsRow.holds Try.pinned (OpenSpec.ofChange bvSplitsWrong)

/- THE SECOND FORM. 'bulk': how many values and letters a reading holds, each counted each time it is reached (what is shared counts as often as it is met; a slice's spare places count too). A statement '..UptoSaid' is the law's where the arguments, and the package variables that the reading takes, are together of bulk at most 1048576: NARROWER than '..Said'. Prove '..Said' where nothing that the law and all that it calls make is longer than what came in: it says more and counts as full. Else prove '..UptoSaid'. A law counts once. -/
mutual
def uptoBulk {H : Type} : DataW H → Nat
  | .lit (.string bytes) => bytes.length + 1
  | .lit _ => 1
  | .nil => 1
  | .ptr d => uptoBulk d + 1
  | .slice elems spare => uptoBulkAll elems + uptoBulkAll spare + 1
  | .agg parts => uptoBulkAll parts + 1
  | .iface _ d => uptoBulk d + 1
  | .map entries => uptoBulkEntries entries + 1
  | .held _ => 1
def uptoBulkAll {H : Type} : List (DataW H) → Nat
  | [] => 0
  | d :: r => uptoBulk d + uptoBulkAll r
def uptoBulkEntries {H : Type} : List (Lit × DataW H) → Nat
  | [] => 0
  | x :: r => uptoBulkEntry x + uptoBulkEntries r
def uptoBulkEntry {H : Type} : Lit × DataW H → Nat
  | (.string bytes, d) => bytes.length + uptoBulk d + 1
  | (_, d) => uptoBulk d + 1
 end
def uptoSmall : (H : Type) → List (DataW H) → Bool := fun _ ds => decide (uptoBulkAll ds ≤ 1048576)
def OpenSpec.upto (s : _root_.Go.ChangeSpec) : _root_.Go.OpenSpec := { _root_.Go.OpenSpec.ofChange s with cond := some uptoSmall }

/-- 'sluicegatelaw01.BvBins', WHERE WHAT IT READS IS OF BULK AT MOST 1048576: true; the input reads as it did. -/
def bvBinsUptoRow : OpenClaim := { program := "ytmgkidfikikjpaa", sum := "143d47353ceb73547ef40793b01121c6106489f3e2ba5b71817741bd57c70367", func := "sluicegate/sluicegatelaw01.BvBins", spec := "bvBins", inPlace := ["math/bits.Add64", "math/bits.Sub64"], unfollowed := true, recurses := true, apart := false, narrowed := true }
def BvBinsUptoSaid : Prop := bvBinsUptoRow.holds Try.pinned (OpenSpec.upto bvBinsSpec)

/-- 'sluicegatelaw01.BvParts', WHERE WHAT IT READS IS OF BULK AT MOST 1048576: true; the input reads as it did. -/
def bvPartsUptoRow : OpenClaim := { program := "ytmgkidfikikjpaa", sum := "143d47353ceb73547ef40793b01121c6106489f3e2ba5b71817741bd57c70367", func := "sluicegate/sluicegatelaw01.BvParts", spec := "bvParts", inPlace := ["math/bits.Add64", "math/bits.Sub64"], unfollowed := true, recurses := true, apart := false, narrowed := true }
def BvPartsUptoSaid : Prop := bvPartsUptoRow.holds Try.pinned (OpenSpec.upto bvPartsSpec)

/-- 'sluicegatelaw01.BvSplits', WHERE WHAT IT READS IS OF BULK AT MOST 1048576: true; the input reads as it did. -/
def bvSplitsUptoRow : OpenClaim := { program := "ytmgkidfikikjpaa", sum := "143d47353ceb73547ef40793b01121c6106489f3e2ba5b71817741bd57c70367", func := "sluicegate/sluicegatelaw01.BvSplits", spec := "bvSplits", inPlace := ["math/bits.Add64", "math/bits.Sub64"], unfollowed := true, recurses := true, apart := false, narrowed := true }
def BvSplitsUptoSaid : Prop := bvSplitsUptoRow.holds Try.pinned (OpenSpec.upto bvSplitsSpec)

end Rows
end Go.Proofs.Ytmgkidfikikjpaa
