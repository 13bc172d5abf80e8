/-
  The walks of bv's contains, Slice, Ext and of Un where it turns all bits or negates.
-/
import Derived.Test.YtomjokpgcijccaaDoorWg
import Derived.Test.YtomjokpgcijccaaDoorM4
namespace Go.Proofs.YtomjokpgcijccaaDoor
open Go.RowKit
end Go.Proofs.YtomjokpgcijccaaDoor
