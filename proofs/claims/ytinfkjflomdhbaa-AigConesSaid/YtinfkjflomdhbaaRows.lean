/-
  No cell of these rows narrows 'for every input' (looked for: loops, veiled, ifaces, maps, wideKeys, modest, calm, conditions, laid).
  DERIVED. THE GIVEN ROWS OF THIS SEAT. 4 by the template 'for every input the law returns true; each argument reads behind the call as it read before'; 0 by the template 'total and deterministic' (their statements: YtinfkjflomdhbaaTotals.lean).
  GIVEN WITH THE SEED: the statements are not yours to turn. If you find one false, say at which input.
  Laid BY PROGRAM, IN A SANDBOX (cutbox-rows.mjs): the forced cells as the released guide's own fill.sh prints them over the translation 7f4170174eeda94d… (all of the seat's roots in one cut). By AI agents, Wed Nov 11 2026. No macro, syntax, notation, axiom, sorry.
-/
import Derived.Test.YtinfkjflomdhbaaChecked
import GoSem.Claim
import GoSem.ClaimJoined
import GoSem.ClaimMapViews
import Derived.JoinedTies
import Derived.KernelRfl
namespace Go.Proofs.Ytinfkjflomdhbaa
/- THE CELL 'sum', in the pinned program and in every row, IS THE sha256 OF THE DUMP (.gsa) THAT YtinfkjflomdhbaaProg.lean LOADS. Nothing in Lean hashes anything: it is a label: what it is worth is what the hold of that sum in a sandbox is worth. -/
noncomputable def Try.pinned : Pinned := { name := "ytinfkjflomdhbaa", sum := "7f4170174eeda94dc5331c563a5317f8ffc38a7a78d0652c2bfb5e8123be6674", checked := Try.checked }
namespace Rows
def none {H : Type} : Left H := { results := [], args := [] }

/-- 'sluicegatelaw21.AigMeans': WHATEVER THE INPUT: true; the input reads as it did. -/
def aigMeansSpec : ChangeSpec := { name := "aigMeans", fn := fun _ => fun
  | [d1, d2] => { results := [.lit (.bool true)], args := [d1, d2] }
  | _ => none }
def aigMeansRow : OpenClaim := { program := "ytinfkjflomdhbaa", sum := "7f4170174eeda94dc5331c563a5317f8ffc38a7a78d0652c2bfb5e8123be6674", func := "sluicegate/sluicegatelaw21.AigMeans", spec := "aigMeans", unfollowed := true, recurses := true, plainKeys := false, apart := false }
def AigMeansSaid : Prop := aigMeansRow.holds Try.pinned (OpenSpec.ofChange aigMeansSpec)

/-- ITS FALSE NEIGHBOUR: 'it returns false'. Refute it at one input. -/
def aigMeansWrong : ChangeSpec := { name := "aigMeans", fn := fun _ => fun
  | [d1, d2] => { results := [.lit (.bool false)], args := [d1, d2] }
  | _ => none }
def AigMeansWrongFalsely : Prop := aigMeansRow.holds Try.pinned (OpenSpec.ofChange aigMeansWrong)

/-- 'sluicegatelaw21.AigOnce': WHATEVER THE INPUT: true; the input reads as it did. -/
def aigOnceSpec : ChangeSpec := { name := "aigOnce", fn := fun _ => fun
  | [d] => { results := [.lit (.bool true)], args := [d] }
  | _ => none }
def aigOnceRow : OpenClaim := { program := "ytinfkjflomdhbaa", sum := "7f4170174eeda94dc5331c563a5317f8ffc38a7a78d0652c2bfb5e8123be6674", func := "sluicegate/sluicegatelaw21.AigOnce", spec := "aigOnce", unfollowed := true, recurses := true, plainKeys := false, apart := false }
def AigOnceSaid : Prop := aigOnceRow.holds Try.pinned (OpenSpec.ofChange aigOnceSpec)

/-- ITS FALSE NEIGHBOUR: 'it returns false'. Refute it at one input. -/
def aigOnceWrong : ChangeSpec := { name := "aigOnce", fn := fun _ => fun
  | [d] => { results := [.lit (.bool false)], args := [d] }
  | _ => none }
def AigOnceWrongFalsely : Prop := aigOnceRow.holds Try.pinned (OpenSpec.ofChange aigOnceWrong)

/-- 'sluicegatelaw21.AigCones': WHATEVER THE INPUT: true; the input reads as it did. -/
def aigConesSpec : ChangeSpec := { name := "aigCones", fn := fun _ => fun
  | [d1, d2, d3] => { results := [.lit (.bool true)], args := [d1, d2, d3] }
  | _ => none }
def aigConesRow : OpenClaim := { program := "ytinfkjflomdhbaa", sum := "7f4170174eeda94dc5331c563a5317f8ffc38a7a78d0652c2bfb5e8123be6674", func := "sluicegate/sluicegatelaw21.AigCones", spec := "aigCones", unfollowed := true, recurses := true, plainKeys := false, apart := false }
def AigConesSaid : Prop := aigConesRow.holds Try.pinned (OpenSpec.ofChange aigConesSpec)

/-- ITS FALSE NEIGHBOUR: 'it returns false'. Refute it at one input. -/
def aigConesWrong : ChangeSpec := { name := "aigCones", fn := fun _ => fun
  | [d1, d2, d3] => { results := [.lit (.bool false)], args := [d1, d2, d3] }
  | _ => none }
def AigConesWrongFalsely : Prop := aigConesRow.holds Try.pinned (OpenSpec.ofChange aigConesWrong)

/-- 'sluicegatelaw21.AigGrows': WHATEVER THE INPUT: true; the input reads as it did. -/
def aigGrowsSpec : ChangeSpec := { name := "aigGrows", fn := fun _ => fun
  | [d1, d2, d3] => { results := [.lit (.bool true)], args := [d1, d2, d3] }
  | _ => none }
def aigGrowsRow : OpenClaim := { program := "ytinfkjflomdhbaa", sum := "7f4170174eeda94dc5331c563a5317f8ffc38a7a78d0652c2bfb5e8123be6674", func := "sluicegate/sluicegatelaw21.AigGrows", spec := "aigGrows", unfollowed := true, recurses := true, plainKeys := false, apart := false }
def AigGrowsSaid : Prop := aigGrowsRow.holds Try.pinned (OpenSpec.ofChange aigGrowsSpec)

/-- ITS FALSE NEIGHBOUR: 'it returns false'. Refute it at one input. -/
def aigGrowsWrong : ChangeSpec := { name := "aigGrows", fn := fun _ => fun
  | [d1, d2, d3] => { results := [.lit (.bool false)], args := [d1, d2, d3] }
  | _ => none }
def AigGrowsWrongFalsely : Prop := aigGrowsRow.holds Try.pinned (OpenSpec.ofChange aigGrowsWrong)

/- THE SECOND FORM. 'bulk': how many values and letters a reading holds, each counted each time it is reached (what is shared counts as often as it is met; a slice's spare places count too). A statement '..UptoSaid' is the law's where the arguments, and the package variables that the reading takes, are together of bulk at most 1048576: NARROWER than '..Said'. Prove '..Said' where nothing that the law and all that it calls make is longer than what came in: it says more and counts as full. Else prove '..UptoSaid'. A law counts once. -/
mutual
def uptoBulk {H : Type} : DataW H → Nat
  | .lit (.string bytes) => bytes.length + 1
  | .lit _ => 1
  | .nil => 1
  | .ptr d => uptoBulk d + 1
  | .slice elems spare => uptoBulkAll elems + uptoBulkAll spare + 1
  | .agg parts => uptoBulkAll parts + 1
  | .iface _ d => uptoBulk d + 1
  | .map entries => uptoBulkEntries entries + 1
  | .held _ => 1
def uptoBulkAll {H : Type} : List (DataW H) → Nat
  | [] => 0
  | d :: r => uptoBulk d + uptoBulkAll r
def uptoBulkEntries {H : Type} : List (Lit × DataW H) → Nat
  | [] => 0
  | x :: r => uptoBulkEntry x + uptoBulkEntries r
def uptoBulkEntry {H : Type} : Lit × DataW H → Nat
  | (.string bytes, d) => bytes.length + uptoBulk d + 1
  | (_, d) => uptoBulk d + 1
 end
def uptoSmall : (H : Type) → List (DataW H) → Bool := fun _ ds => decide (uptoBulkAll ds ≤ 1048576)
def OpenSpec.upto (s : _root_.Go.ChangeSpec) : _root_.Go.OpenSpec := { _root_.Go.OpenSpec.ofChange s with cond := some uptoSmall }

/-- 'sluicegatelaw21.AigMeans', WHERE WHAT IT READS IS OF BULK AT MOST 1048576: true; the input reads as it did. -/
def aigMeansUptoRow : OpenClaim := { program := "ytinfkjflomdhbaa", sum := "7f4170174eeda94dc5331c563a5317f8ffc38a7a78d0652c2bfb5e8123be6674", func := "sluicegate/sluicegatelaw21.AigMeans", spec := "aigMeans", unfollowed := true, recurses := true, plainKeys := false, apart := false, narrowed := true }
def AigMeansUptoSaid : Prop := aigMeansUptoRow.holds Try.pinned (OpenSpec.upto aigMeansSpec)

/-- 'sluicegatelaw21.AigOnce', WHERE WHAT IT READS IS OF BULK AT MOST 1048576: true; the input reads as it did. -/
def aigOnceUptoRow : OpenClaim := { program := "ytinfkjflomdhbaa", sum := "7f4170174eeda94dc5331c563a5317f8ffc38a7a78d0652c2bfb5e8123be6674", func := "sluicegate/sluicegatelaw21.AigOnce", spec := "aigOnce", unfollowed := true, recurses := true, plainKeys := false, apart := false, narrowed := true }
def AigOnceUptoSaid : Prop := aigOnceUptoRow.holds Try.pinned (OpenSpec.upto aigOnceSpec)

/-- 'sluicegatelaw21.AigCones', WHERE WHAT IT READS IS OF BULK AT MOST 1048576: true; the input reads as it did. -/
def aigConesUptoRow : OpenClaim := { program := "ytinfkjflomdhbaa", sum := "7f4170174eeda94dc5331c563a5317f8ffc38a7a78d0652c2bfb5e8123be6674", func := "sluicegate/sluicegatelaw21.AigCones", spec := "aigCones", unfollowed := true, recurses := true, plainKeys := false, apart := false, narrowed := true }
def AigConesUptoSaid : Prop := aigConesUptoRow.holds Try.pinned (OpenSpec.upto aigConesSpec)

/-- 'sluicegatelaw21.AigGrows', WHERE WHAT IT READS IS OF BULK AT MOST 1048576: true; the input reads as it did. -/
def aigGrowsUptoRow : OpenClaim := { program := "ytinfkjflomdhbaa", sum := "7f4170174eeda94dc5331c563a5317f8ffc38a7a78d0652c2bfb5e8123be6674", func := "sluicegate/sluicegatelaw21.AigGrows", spec := "aigGrows", unfollowed := true, recurses := true, plainKeys := false, apart := false, narrowed := true }
def AigGrowsUptoSaid : Prop := aigGrowsUptoRow.holds Try.pinned (OpenSpec.upto aigGrowsSpec)

end Rows
end Go.Proofs.Ytinfkjflomdhbaa
