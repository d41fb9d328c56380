/-
  CONTRACTS of the laws' test of their code's length.
-/
import Derived.Test.YtnjbaomekbiflaaProg
import Derived.Test.YtnjbaomekbiflaaAid
namespace Go.Proofs.Ytnjbaomekbiflaa
set_option maxRecDepth 100000
open Go.RowKit
end Go.Proofs.Ytnjbaomekbiflaa
