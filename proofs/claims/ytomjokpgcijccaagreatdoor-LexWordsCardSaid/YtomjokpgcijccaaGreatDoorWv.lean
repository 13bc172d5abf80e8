/-
  The walks of bv's contains, Slice, Ext and of Un where it turns all bits or negates.
-/
import Derived.Test.YtomjokpgcijccaaGreatDoorWg
import Derived.Test.YtomjokpgcijccaaGreatDoorM4
namespace Go.Proofs.YtomjokpgcijccaaGreatDoor
open Go.RowKit
end Go.Proofs.YtomjokpgcijccaaGreatDoor
