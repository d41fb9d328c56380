/-
  WHAT THE LAWS OF CHAPTER 5 WANT OF THE PROGRAM: a record of contracts, one for each function. Impl5 proves it of the code.
-/
import Derived.Test.YtiajaeaffmmckaaAtoms
import Derived.Test.YtiajaeaffmmckaaAtomS
import Derived.Test.YtiajaeaffmmckaaTransP
import Derived.Test.YtiajaeaffmmckaaStrs
import Derived.Test.YtiajaeaffmmckaaMark
namespace Go.Proofs.Ytiajaeaffmmckaa
set_option maxRecDepth 100000
open Go.RowKit

/-- An answer of atoms of its own and a flag. -/
def OutOA (base : Nat) (w' : World) (ls : List Atm) (b : Bool) (e : Ending) : Prop := ∃ u, e = .returned (.tuple #[u, .bool b]) ∧ OwnAs w' base u ls.length (fun j => ls.getD j a00)
/-- An answer of strings of its own and a flag. -/
def OutOS (base : Nat) (w' : World) (xs : List ByteArray) (b : Bool) (e : Ending) : Prop := ∃ u, e = .returned (.tuple #[u, .bool b]) ∧ OwnStrs w' base u xs.length (fun j => xs.getD j ByteArray.empty)
structure Impl5 : Prop where
  valid : ∀ (k : Int) (t : ByteArray) (w : World), (Lit.int .i64 k).wf = true → t.size ≤ 1048576 → Calls Try.prog 15 #[atV k t] w fun e w' => e = .returned (.bool (Pl.goodA k (by8 t))) ∧ Below w.heap.size w w'
  format : ∀ (k : Int) (t : ByteArray) (w : World), (Lit.int .i64 k).wf = true → t.size ≤ 1048576 → Calls Try.prog 13 #[atV k t] w fun e w' => e = fmtAE k t ∧ Below w.heap.size w w'
  parse : ∀ (s : ByteArray) (w : World), s.size ≤ 1048576 → Calls Try.prog 17 #[.string s] w fun e w' => e = parAE s ∧ Below w.heap.size w w'
  formatT : ∀ (v : Value) (ls : List Atm) (w : World), AtomsAt w v ls → ls.length ≤ 2097152 → (∀ e ∈ ls, (Lit.int .i64 e.1).wf = true ∧ e.2.size ≤ 1048576) → Calls Try.prog 20 #[v] w fun e w' => e = fmtLE ls ∧ Below w.heap.size w w'
  parseT : ∀ (t : ByteArray) (w : World), t.size ≤ 1048576 → Calls Try.prog 25 #[.string t] w fun e w' => OutOA w.heap.size w' (parL t) (parLB t) e ∧ Below w.heap.size w w'
  plain : ∀ (v : Value) (ls : List Atm) (w : World), AtomsAt w v ls → ls.length ≤ 2097152 → (∀ e ∈ ls, (Lit.int .i64 e.1).wf = true ∧ e.2.size ≤ 1048576) → Calls Try.prog 22 #[v] w fun e w' => OutOS w.heap.size w' (plainL ls) (okL ls) e ∧ Below w.heap.size w w'
end Go.Proofs.Ytiajaeaffmmckaa
