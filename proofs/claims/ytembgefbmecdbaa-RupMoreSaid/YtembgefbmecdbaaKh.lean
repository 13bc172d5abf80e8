/-
  The builder of strings that a call has made itself: its copy check and its writing of a string, at this translation.
-/
import Derived.Test.YtembgefbmecdbaaKc
import Derived.Test.YtembgefbmecdbaaLc
namespace Go.Proofs.Ytembgefbmecdbaa
open Go.RowKit Go.Lib
end Go.Proofs.Ytembgefbmecdbaa
