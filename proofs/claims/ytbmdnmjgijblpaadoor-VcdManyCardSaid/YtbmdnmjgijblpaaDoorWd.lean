/-
  The walks of the bitwise functions of bv: bitwise with each of its functions, and what is made of it: invert, ones.
-/
import Derived.Test.YtbmdnmjgijblpaaDoorWb
namespace Go.Proofs.YtbmdnmjgijblpaaDoor
open Go.RowKit

end Go.Proofs.YtbmdnmjgijblpaaDoor
