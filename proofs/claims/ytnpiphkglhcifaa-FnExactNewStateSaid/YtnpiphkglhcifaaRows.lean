/-
  No cell of these rows narrows 'for every input' (looked for: loops, veiled, ifaces, maps, wideKeys, modest, calm, conditions, laid).
  DERIVED. THE GIVEN ROWS OF THIS SEAT. 3 by the template 'for every input the law returns true; each argument reads behind the call as it read before'; 0 by the template 'total and deterministic' (their statements: YtnpiphkglhcifaaTotals.lean).
  GIVEN WITH THE SEED: the statements are not yours to turn. If you find one false, say at which input.
  Laid BY PROGRAM, IN A SANDBOX (cutbox-rows.mjs): the forced cells as the released guide's own fill.sh prints them over the translation 2fd4a7d5fc14608c… (all of the seat's roots in one cut). By AI agents, Wed Nov 11 2026. No macro, syntax, notation, axiom, sorry.
-/
import Derived.Test.YtnpiphkglhcifaaChecked
import GoSem.Claim
import GoSem.ClaimJoined
import GoSem.ClaimMapViews
import Derived.JoinedTies
import Derived.KernelRfl
namespace Go.Proofs.Ytnpiphkglhcifaa
/- THE CELL 'sum', in the pinned program and in every row, IS THE sha256 OF THE DUMP (.gsa) THAT YtnpiphkglhcifaaProg.lean LOADS. Nothing in Lean hashes anything: it is a label: what it is worth is what the hold of that sum in a sandbox is worth. -/
noncomputable def Try.pinned : Pinned := { name := "ytnpiphkglhcifaa", sum := "2fd4a7d5fc14608cade42442af347cf4bce55754e0f31b6bb15d7483473c7dcf", checked := Try.checked }
namespace Rows
def none {H : Type} : Left H := { results := [], args := [] }

/-- 'laws.FnExactNewState': WHATEVER THE INPUT: true; the input reads as it did. -/
def fnExactNewStateSpec : ChangeSpec := { name := "fnExactNewState", fn := fun _ => fun
  | [d] => { results := [.lit (.bool true)], args := [d] }
  | _ => none }
def fnExactNewStateRow : OpenClaim := { program := "ytnpiphkglhcifaa", sum := "2fd4a7d5fc14608cade42442af347cf4bce55754e0f31b6bb15d7483473c7dcf", func := "loop.example/g00882/laws.FnExactNewState", spec := "fnExactNewState", apart := false }
def FnExactNewStateSaid : Prop := fnExactNewStateRow.holds Try.pinned (OpenSpec.ofChange fnExactNewStateSpec)

/-- ITS FALSE NEIGHBOUR: 'it returns false'. Refute it at one input. -/
def fnExactNewStateWrong : ChangeSpec := { name := "fnExactNewState", fn := fun _ => fun
  | [d] => { results := [.lit (.bool false)], args := [d] }
  | _ => none }
def FnExactNewStateWrongFalsely : Prop := fnExactNewStateRow.holds Try.pinned (OpenSpec.ofChange fnExactNewStateWrong)

/-- 'laws.FnExactIsValidState': WHATEVER THE INPUT: true; the input reads as it did. -/
def fnExactIsValidStateSpec : ChangeSpec := { name := "fnExactIsValidState", fn := fun _ => fun
  | [d] => { results := [.lit (.bool true)], args := [d] }
  | _ => none }
def fnExactIsValidStateRow : OpenClaim := { program := "ytnpiphkglhcifaa", sum := "2fd4a7d5fc14608cade42442af347cf4bce55754e0f31b6bb15d7483473c7dcf", func := "loop.example/g00882/laws.FnExactIsValidState", spec := "fnExactIsValidState", apart := false }
def FnExactIsValidStateSaid : Prop := fnExactIsValidStateRow.holds Try.pinned (OpenSpec.ofChange fnExactIsValidStateSpec)

/-- ITS FALSE NEIGHBOUR: 'it returns false'. Refute it at one input. -/
def fnExactIsValidStateWrong : ChangeSpec := { name := "fnExactIsValidState", fn := fun _ => fun
  | [d] => { results := [.lit (.bool false)], args := [d] }
  | _ => none }
def FnExactIsValidStateWrongFalsely : Prop := fnExactIsValidStateRow.holds Try.pinned (OpenSpec.ofChange fnExactIsValidStateWrong)

/-- 'laws.FnExactLastWord': WHATEVER THE INPUT: true; the input reads as it did. -/
def fnExactLastWordSpec : ChangeSpec := { name := "fnExactLastWord", fn := fun _ => fun
  | [d] => { results := [.lit (.bool true)], args := [d] }
  | _ => none }
def fnExactLastWordRow : OpenClaim := { program := "ytnpiphkglhcifaa", sum := "2fd4a7d5fc14608cade42442af347cf4bce55754e0f31b6bb15d7483473c7dcf", func := "loop.example/g00882/laws.FnExactLastWord", spec := "fnExactLastWord", apart := false }
def FnExactLastWordSaid : Prop := fnExactLastWordRow.holds Try.pinned (OpenSpec.ofChange fnExactLastWordSpec)

/-- ITS FALSE NEIGHBOUR: 'it returns false'. Refute it at one input. -/
def fnExactLastWordWrong : ChangeSpec := { name := "fnExactLastWord", fn := fun _ => fun
  | [d] => { results := [.lit (.bool false)], args := [d] }
  | _ => none }
def FnExactLastWordWrongFalsely : Prop := fnExactLastWordRow.holds Try.pinned (OpenSpec.ofChange fnExactLastWordWrong)

/- THE SECOND FORM. 'bulk': how many values and letters a reading holds, each counted each time it is reached (what is shared counts as often as it is met; a slice's spare places count too). A statement '..UptoSaid' is the law's where the arguments, and the package variables that the reading takes, are together of bulk at most 1048576: NARROWER than '..Said'. Prove '..Said' where nothing that the law and all that it calls make is longer than what came in: it says more and counts as full. Else prove '..UptoSaid'. A law counts once. -/
mutual
def uptoBulk {H : Type} : DataW H → Nat
  | .lit (.string bytes) => bytes.length + 1
  | .lit _ => 1
  | .nil => 1
  | .ptr d => uptoBulk d + 1
  | .slice elems spare => uptoBulkAll elems + uptoBulkAll spare + 1
  | .agg parts => uptoBulkAll parts + 1
  | .iface _ d => uptoBulk d + 1
  | .map entries => uptoBulkEntries entries + 1
  | .held _ => 1
def uptoBulkAll {H : Type} : List (DataW H) → Nat
  | [] => 0
  | d :: r => uptoBulk d + uptoBulkAll r
def uptoBulkEntries {H : Type} : List (Lit × DataW H) → Nat
  | [] => 0
  | x :: r => uptoBulkEntry x + uptoBulkEntries r
def uptoBulkEntry {H : Type} : Lit × DataW H → Nat
  | (.string bytes, d) => bytes.length + uptoBulk d + 1
  | (_, d) => uptoBulk d + 1
 end
def uptoSmall : (H : Type) → List (DataW H) → Bool := fun _ ds => decide (uptoBulkAll ds ≤ 1048576)
def OpenSpec.upto (s : _root_.Go.ChangeSpec) : _root_.Go.OpenSpec := { _root_.Go.OpenSpec.ofChange s with cond := some uptoSmall }

/-- 'laws.FnExactNewState', WHERE WHAT IT READS IS OF BULK AT MOST 1048576: true; the input reads as it did. -/
def fnExactNewStateUptoRow : OpenClaim := { program := "ytnpiphkglhcifaa", sum := "2fd4a7d5fc14608cade42442af347cf4bce55754e0f31b6bb15d7483473c7dcf", func := "loop.example/g00882/laws.FnExactNewState", spec := "fnExactNewState", apart := false, narrowed := true }
def FnExactNewStateUptoSaid : Prop := fnExactNewStateUptoRow.holds Try.pinned (OpenSpec.upto fnExactNewStateSpec)

/-- 'laws.FnExactIsValidState', WHERE WHAT IT READS IS OF BULK AT MOST 1048576: true; the input reads as it did. -/
def fnExactIsValidStateUptoRow : OpenClaim := { program := "ytnpiphkglhcifaa", sum := "2fd4a7d5fc14608cade42442af347cf4bce55754e0f31b6bb15d7483473c7dcf", func := "loop.example/g00882/laws.FnExactIsValidState", spec := "fnExactIsValidState", apart := false, narrowed := true }
def FnExactIsValidStateUptoSaid : Prop := fnExactIsValidStateUptoRow.holds Try.pinned (OpenSpec.upto fnExactIsValidStateSpec)

/-- 'laws.FnExactLastWord', WHERE WHAT IT READS IS OF BULK AT MOST 1048576: true; the input reads as it did. -/
def fnExactLastWordUptoRow : OpenClaim := { program := "ytnpiphkglhcifaa", sum := "2fd4a7d5fc14608cade42442af347cf4bce55754e0f31b6bb15d7483473c7dcf", func := "loop.example/g00882/laws.FnExactLastWord", spec := "fnExactLastWord", apart := false, narrowed := true }
def FnExactLastWordUptoSaid : Prop := fnExactLastWordUptoRow.holds Try.pinned (OpenSpec.upto fnExactLastWordSpec)

end Rows
end Go.Proofs.Ytnpiphkglhcifaa
