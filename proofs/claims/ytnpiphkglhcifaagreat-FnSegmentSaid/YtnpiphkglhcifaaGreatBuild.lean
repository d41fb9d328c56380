/-
  A strings.Builder over a translation whose copyCheck ends in a refusal: CONTRACTS of copyCheck and WriteByte (the library's own are not laid there).
-/
import Derived.Test.YtnpiphkglhcifaaGreatShelf
import Derived.Test.YtnpiphkglhcifaaGreatInts
import Derived.Lib.Builder
namespace Go.Proofs.YtnpiphkglhcifaaGreat
set_option maxRecDepth 100000
open Go.RowKit



end Go.Proofs.YtnpiphkglhcifaaGreat
