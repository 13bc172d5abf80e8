/-
  The walks of math/bits.Mul64 and of bv's sum, difference, negate, product.
  The walks of bv's difference, negate, product, shiftUp, shiftDown.
-/
import Derived.Test.YtbmdnmjgijblpaaDoorWd
import Derived.Test.YtbmdnmjgijblpaaDoorM2
import Derived.Deep.RegionWith
namespace Go.Proofs.YtbmdnmjgijblpaaDoor
open Go.RowKit
end Go.Proofs.YtbmdnmjgijblpaaDoor
namespace Go.Proofs.YtbmdnmjgijblpaaDoor
open Go.RowKit
end Go.Proofs.YtbmdnmjgijblpaaDoor
