/-
  WHAT THE LAWS OF CHAPTER 5 WANT OF THE PROGRAM: a record of contracts, one for each function. Impl5 proves it of the code.
-/
import Derived.Test.YtcpjpjdfddmncaaAtoms
import Derived.Test.YtcpjpjdfddmncaaAtomS
import Derived.Test.YtcpjpjdfddmncaaTransP
import Derived.Test.YtcpjpjdfddmncaaStrs
import Derived.Test.YtcpjpjdfddmncaaMark
namespace Go.Proofs.Ytcpjpjdfddmncaa
set_option maxRecDepth 100000
open Go.RowKit

/-- An answer of atoms of its own and a flag. -/
def OutOA (base : Nat) (w' : World) (ls : List Atm) (b : Bool) (e : Ending) : Prop := ∃ u, e = .returned (.tuple #[u, .bool b]) ∧ OwnAs w' base u ls.length (fun j => ls.getD j a00)
/-- An answer of strings of its own and a flag. -/
def OutOS (base : Nat) (w' : World) (xs : List ByteArray) (b : Bool) (e : Ending) : Prop := ∃ u, e = .returned (.tuple #[u, .bool b]) ∧ OwnStrs w' base u xs.length (fun j => xs.getD j ByteArray.empty)
structure Impl5 : Prop where
  parse : ∀ (s : ByteArray) (w : World), s.size ≤ 1048576 → Calls Try.prog 86 #[.string s] w fun e w' => e = parAE s ∧ Below w.heap.size w w'
  parseT : ∀ (t : ByteArray) (w : World), t.size ≤ 1048576 → Calls Try.prog 53 #[.string t] w fun e w' => OutOA w.heap.size w' (parL t) (parLB t) e ∧ Below w.heap.size w w'
end Go.Proofs.Ytcpjpjdfddmncaa
