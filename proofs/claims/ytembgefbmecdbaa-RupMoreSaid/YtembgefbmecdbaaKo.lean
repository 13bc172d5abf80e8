/-
  The text of a formula.
-/
import Derived.Test.YtembgefbmecdbaaKf
import Derived.Test.YtembgefbmecdbaaKh
import Derived.Lib.ItoaLen
import Derived.Lib.LaidTab
namespace Go.Proofs.Ytembgefbmecdbaa
open Go.RowKit Go.Lib
/-- The table of the library that Text looks into lies as it is laid. -/
def LT (w : World) : Prop := TabIs Try.prog w "internal/strconv.uint64pow10" .u64 pow10Tab
theorem LT.on {w w' : World} (h : LT w) (hb : Below w.heap.size w w') : LT w' := tabBelow_of_tabIs h w' hb
section
variable {base : Nat} {w : World} {p V : Nat} {cs : List (List Int)} {vl ve : Value}
end
end Go.Proofs.Ytembgefbmecdbaa
