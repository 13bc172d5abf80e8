/-
  The walks of bv's arithmetic (sum, difference, product), logic, and of Bin for these operations.
-/
import Derived.Test.YtbmdnmjgijblpaaDoorWe
import Derived.Test.YtbmdnmjgijblpaaDoorM2
namespace Go.Proofs.YtbmdnmjgijblpaaDoor
open Go.RowKit

end Go.Proofs.YtbmdnmjgijblpaaDoor
