/-
  The walk of the statement BvMakes, at most five words.
-/
import Derived.Test.YtmgkidfikikjpaaYf
import Derived.Test.YtmgkidfikikjpaaRs
import Derived.Deep.DeepCutAuto
namespace Go.Proofs.Ytmgkidfikikjpaa
open Go.RowKit
attribute [local go_sem ↓] Go.wp_at_zero Go.wp_at_succ
end Go.Proofs.Ytmgkidfikikjpaa
