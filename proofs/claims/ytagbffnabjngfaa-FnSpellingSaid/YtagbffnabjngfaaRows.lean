/-
  No cell of these rows narrows 'for every input' (looked for: loops, veiled, ifaces, maps, wideKeys, modest, calm, conditions, laid).
  DERIVED. THE GIVEN ROWS OF THIS SEAT. 7 by the template 'for every input the law returns true; each argument reads behind the call as it read before'; 0 by the template 'total and deterministic' (their statements: YtagbffnabjngfaaTotals.lean).
  GIVEN WITH THE SEED: the statements are not yours to turn. If you find one false, say at which input.
  Laid BY PROGRAM, IN A SANDBOX (cutbox-rows.mjs): the forced cells as the released guide's own fill.sh prints them over the translation a549aba99daf22e9… (all of the seat's roots in one cut). By AI agents, Wed Nov 11 2026. No macro, syntax, notation, axiom, sorry.
-/
import Derived.Test.YtagbffnabjngfaaChecked
import GoSem.Claim
import GoSem.ClaimJoined
import GoSem.ClaimMapViews
import Derived.JoinedTies
import Derived.KernelRfl
namespace Go.Proofs.Ytagbffnabjngfaa
/- THE CELL 'sum', in the pinned program and in every row, IS THE sha256 OF THE DUMP (.gsa) THAT YtagbffnabjngfaaProg.lean LOADS. Nothing in Lean hashes anything: it is a label: what it is worth is what the hold of that sum in a sandbox is worth. -/
noncomputable def Try.pinned : Pinned := { name := "ytagbffnabjngfaa", sum := "a549aba99daf22e983b3fd1306bbda9d1ad50ada3f1e37d797bc590e430b9f4a", checked := Try.checked }
namespace Rows
def none {H : Type} : Left H := { results := [], args := [] }

/-- 'laws.FnSpelling': WHATEVER THE INPUT: true; the input reads as it did. -/
def fnSpellingSpec : ChangeSpec := { name := "fnSpelling", fn := fun _ => fun
  | [d] => { results := [.lit (.bool true)], args := [d] }
  | _ => none }
def fnSpellingRow : OpenClaim := { program := "ytagbffnabjngfaa", sum := "a549aba99daf22e983b3fd1306bbda9d1ad50ada3f1e37d797bc590e430b9f4a", func := "loop.example/g00882/laws.FnSpelling", spec := "fnSpelling", inPlace := ["internal/bytealg.IndexByteString"], recurses := true, apart := false }
def FnSpellingSaid : Prop := fnSpellingRow.holds Try.pinned (OpenSpec.ofChange fnSpellingSpec)

/-- ITS FALSE NEIGHBOUR: 'it returns false'. Refute it at one input. -/
def fnSpellingWrong : ChangeSpec := { name := "fnSpelling", fn := fun _ => fun
  | [d] => { results := [.lit (.bool false)], args := [d] }
  | _ => none }
def FnSpellingWrongFalsely : Prop := fnSpellingRow.holds Try.pinned (OpenSpec.ofChange fnSpellingWrong)

/-- 'laws.FnSuffixRule': WHATEVER THE INPUT: true; the input reads as it did. -/
def fnSuffixRuleSpec : ChangeSpec := { name := "fnSuffixRule", fn := fun _ => fun
  | [d] => { results := [.lit (.bool true)], args := [d] }
  | _ => none }
def fnSuffixRuleRow : OpenClaim := { program := "ytagbffnabjngfaa", sum := "a549aba99daf22e983b3fd1306bbda9d1ad50ada3f1e37d797bc590e430b9f4a", func := "loop.example/g00882/laws.FnSuffixRule", spec := "fnSuffixRule", inPlace := ["internal/bytealg.IndexByteString"], apart := false }
def FnSuffixRuleSaid : Prop := fnSuffixRuleRow.holds Try.pinned (OpenSpec.ofChange fnSuffixRuleSpec)

/-- ITS FALSE NEIGHBOUR: 'it returns false'. Refute it at one input. -/
def fnSuffixRuleWrong : ChangeSpec := { name := "fnSuffixRule", fn := fun _ => fun
  | [d] => { results := [.lit (.bool false)], args := [d] }
  | _ => none }
def FnSuffixRuleWrongFalsely : Prop := fnSuffixRuleRow.holds Try.pinned (OpenSpec.ofChange fnSuffixRuleWrong)

/-- 'laws.FnExactIsWord': WHATEVER THE INPUT: true; the input reads as it did. -/
def fnExactIsWordSpec : ChangeSpec := { name := "fnExactIsWord", fn := fun _ => fun
  | [d] => { results := [.lit (.bool true)], args := [d] }
  | _ => none }
def fnExactIsWordRow : OpenClaim := { program := "ytagbffnabjngfaa", sum := "a549aba99daf22e983b3fd1306bbda9d1ad50ada3f1e37d797bc590e430b9f4a", func := "loop.example/g00882/laws.FnExactIsWord", spec := "fnExactIsWord", apart := false }
def FnExactIsWordSaid : Prop := fnExactIsWordRow.holds Try.pinned (OpenSpec.ofChange fnExactIsWordSpec)

/-- ITS FALSE NEIGHBOUR: 'it returns false'. Refute it at one input. -/
def fnExactIsWordWrong : ChangeSpec := { name := "fnExactIsWord", fn := fun _ => fun
  | [d] => { results := [.lit (.bool false)], args := [d] }
  | _ => none }
def FnExactIsWordWrongFalsely : Prop := fnExactIsWordRow.holds Try.pinned (OpenSpec.ofChange fnExactIsWordWrong)

/-- 'laws.FnExactVowelGroups': WHATEVER THE INPUT: true; the input reads as it did. -/
def fnExactVowelGroupsSpec : ChangeSpec := { name := "fnExactVowelGroups", fn := fun _ => fun
  | [d] => { results := [.lit (.bool true)], args := [d] }
  | _ => none }
def fnExactVowelGroupsRow : OpenClaim := { program := "ytagbffnabjngfaa", sum := "a549aba99daf22e983b3fd1306bbda9d1ad50ada3f1e37d797bc590e430b9f4a", func := "loop.example/g00882/laws.FnExactVowelGroups", spec := "fnExactVowelGroups", inPlace := ["internal/bytealg.IndexByteString"], apart := false }
def FnExactVowelGroupsSaid : Prop := fnExactVowelGroupsRow.holds Try.pinned (OpenSpec.ofChange fnExactVowelGroupsSpec)

/-- ITS FALSE NEIGHBOUR: 'it returns false'. Refute it at one input. -/
def fnExactVowelGroupsWrong : ChangeSpec := { name := "fnExactVowelGroups", fn := fun _ => fun
  | [d] => { results := [.lit (.bool false)], args := [d] }
  | _ => none }
def FnExactVowelGroupsWrongFalsely : Prop := fnExactVowelGroupsRow.holds Try.pinned (OpenSpec.ofChange fnExactVowelGroupsWrong)

/-- 'laws.FnExactSuffixRule': WHATEVER THE INPUT: true; the input reads as it did. -/
def fnExactSuffixRuleSpec : ChangeSpec := { name := "fnExactSuffixRule", fn := fun _ => fun
  | [d1, d2] => { results := [.lit (.bool true)], args := [d1, d2] }
  | _ => none }
def fnExactSuffixRuleRow : OpenClaim := { program := "ytagbffnabjngfaa", sum := "a549aba99daf22e983b3fd1306bbda9d1ad50ada3f1e37d797bc590e430b9f4a", func := "loop.example/g00882/laws.FnExactSuffixRule", spec := "fnExactSuffixRule", inPlace := ["internal/bytealg.IndexByteString"], apart := false }
def FnExactSuffixRuleSaid : Prop := fnExactSuffixRuleRow.holds Try.pinned (OpenSpec.ofChange fnExactSuffixRuleSpec)

/-- ITS FALSE NEIGHBOUR: 'it returns false'. Refute it at one input. -/
def fnExactSuffixRuleWrong : ChangeSpec := { name := "fnExactSuffixRule", fn := fun _ => fun
  | [d1, d2] => { results := [.lit (.bool false)], args := [d1, d2] }
  | _ => none }
def FnExactSuffixRuleWrongFalsely : Prop := fnExactSuffixRuleRow.holds Try.pinned (OpenSpec.ofChange fnExactSuffixRuleWrong)

/-- 'laws.FnExactJoinSuffix': WHATEVER THE INPUT: true; the input reads as it did. -/
def fnExactJoinSuffixSpec : ChangeSpec := { name := "fnExactJoinSuffix", fn := fun _ => fun
  | [d1, d2] => { results := [.lit (.bool true)], args := [d1, d2] }
  | _ => none }
def fnExactJoinSuffixRow : OpenClaim := { program := "ytagbffnabjngfaa", sum := "a549aba99daf22e983b3fd1306bbda9d1ad50ada3f1e37d797bc590e430b9f4a", func := "loop.example/g00882/laws.FnExactJoinSuffix", spec := "fnExactJoinSuffix", inPlace := ["internal/bytealg.IndexByteString"], apart := false }
def FnExactJoinSuffixSaid : Prop := fnExactJoinSuffixRow.holds Try.pinned (OpenSpec.ofChange fnExactJoinSuffixSpec)

/-- ITS FALSE NEIGHBOUR: 'it returns false'. Refute it at one input. -/
def fnExactJoinSuffixWrong : ChangeSpec := { name := "fnExactJoinSuffix", fn := fun _ => fun
  | [d1, d2] => { results := [.lit (.bool false)], args := [d1, d2] }
  | _ => none }
def FnExactJoinSuffixWrongFalsely : Prop := fnExactJoinSuffixRow.holds Try.pinned (OpenSpec.ofChange fnExactJoinSuffixWrong)

/-- 'laws.FnExactSplitSuffix': WHATEVER THE INPUT: true; the input reads as it did. -/
def fnExactSplitSuffixSpec : ChangeSpec := { name := "fnExactSplitSuffix", fn := fun _ => fun
  | [d1, d2] => { results := [.lit (.bool true)], args := [d1, d2] }
  | _ => none }
def fnExactSplitSuffixRow : OpenClaim := { program := "ytagbffnabjngfaa", sum := "a549aba99daf22e983b3fd1306bbda9d1ad50ada3f1e37d797bc590e430b9f4a", func := "loop.example/g00882/laws.FnExactSplitSuffix", spec := "fnExactSplitSuffix", inPlace := ["internal/bytealg.IndexByteString"], recurses := true, apart := false }
def FnExactSplitSuffixSaid : Prop := fnExactSplitSuffixRow.holds Try.pinned (OpenSpec.ofChange fnExactSplitSuffixSpec)

/-- ITS FALSE NEIGHBOUR: 'it returns false'. Refute it at one input. -/
def fnExactSplitSuffixWrong : ChangeSpec := { name := "fnExactSplitSuffix", fn := fun _ => fun
  | [d1, d2] => { results := [.lit (.bool false)], args := [d1, d2] }
  | _ => none }
def FnExactSplitSuffixWrongFalsely : Prop := fnExactSplitSuffixRow.holds Try.pinned (OpenSpec.ofChange fnExactSplitSuffixWrong)

/- THE SECOND FORM. 'bulk': how many values and letters a reading holds, each counted each time it is reached (what is shared counts as often as it is met; a slice's spare places count too). A statement '..UptoSaid' is the law's where the arguments, and the package variables that the reading takes, are together of bulk at most 1048576: NARROWER than '..Said'. Prove '..Said' where nothing that the law and all that it calls make is longer than what came in: it says more and counts as full. Else prove '..UptoSaid'. A law counts once. -/
mutual
def uptoBulk {H : Type} : DataW H → Nat
  | .lit (.string bytes) => bytes.length + 1
  | .lit _ => 1
  | .nil => 1
  | .ptr d => uptoBulk d + 1
  | .slice elems spare => uptoBulkAll elems + uptoBulkAll spare + 1
  | .agg parts => uptoBulkAll parts + 1
  | .iface _ d => uptoBulk d + 1
  | .map entries => uptoBulkEntries entries + 1
  | .held _ => 1
def uptoBulkAll {H : Type} : List (DataW H) → Nat
  | [] => 0
  | d :: r => uptoBulk d + uptoBulkAll r
def uptoBulkEntries {H : Type} : List (Lit × DataW H) → Nat
  | [] => 0
  | x :: r => uptoBulkEntry x + uptoBulkEntries r
def uptoBulkEntry {H : Type} : Lit × DataW H → Nat
  | (.string bytes, d) => bytes.length + uptoBulk d + 1
  | (_, d) => uptoBulk d + 1
 end
def uptoSmall : (H : Type) → List (DataW H) → Bool := fun _ ds => decide (uptoBulkAll ds ≤ 1048576)
def OpenSpec.upto (s : _root_.Go.ChangeSpec) : _root_.Go.OpenSpec := { _root_.Go.OpenSpec.ofChange s with cond := some uptoSmall }

/-- 'laws.FnSpelling', WHERE WHAT IT READS IS OF BULK AT MOST 1048576: true; the input reads as it did. -/
def fnSpellingUptoRow : OpenClaim := { program := "ytagbffnabjngfaa", sum := "a549aba99daf22e983b3fd1306bbda9d1ad50ada3f1e37d797bc590e430b9f4a", func := "loop.example/g00882/laws.FnSpelling", spec := "fnSpelling", inPlace := ["internal/bytealg.IndexByteString"], recurses := true, apart := false, narrowed := true }
def FnSpellingUptoSaid : Prop := fnSpellingUptoRow.holds Try.pinned (OpenSpec.upto fnSpellingSpec)

/-- 'laws.FnSuffixRule', WHERE WHAT IT READS IS OF BULK AT MOST 1048576: true; the input reads as it did. -/
def fnSuffixRuleUptoRow : OpenClaim := { program := "ytagbffnabjngfaa", sum := "a549aba99daf22e983b3fd1306bbda9d1ad50ada3f1e37d797bc590e430b9f4a", func := "loop.example/g00882/laws.FnSuffixRule", spec := "fnSuffixRule", inPlace := ["internal/bytealg.IndexByteString"], apart := false, narrowed := true }
def FnSuffixRuleUptoSaid : Prop := fnSuffixRuleUptoRow.holds Try.pinned (OpenSpec.upto fnSuffixRuleSpec)

/-- 'laws.FnExactIsWord', WHERE WHAT IT READS IS OF BULK AT MOST 1048576: true; the input reads as it did. -/
def fnExactIsWordUptoRow : OpenClaim := { program := "ytagbffnabjngfaa", sum := "a549aba99daf22e983b3fd1306bbda9d1ad50ada3f1e37d797bc590e430b9f4a", func := "loop.example/g00882/laws.FnExactIsWord", spec := "fnExactIsWord", apart := false, narrowed := true }
def FnExactIsWordUptoSaid : Prop := fnExactIsWordUptoRow.holds Try.pinned (OpenSpec.upto fnExactIsWordSpec)

/-- 'laws.FnExactVowelGroups', WHERE WHAT IT READS IS OF BULK AT MOST 1048576: true; the input reads as it did. -/
def fnExactVowelGroupsUptoRow : OpenClaim := { program := "ytagbffnabjngfaa", sum := "a549aba99daf22e983b3fd1306bbda9d1ad50ada3f1e37d797bc590e430b9f4a", func := "loop.example/g00882/laws.FnExactVowelGroups", spec := "fnExactVowelGroups", inPlace := ["internal/bytealg.IndexByteString"], apart := false, narrowed := true }
def FnExactVowelGroupsUptoSaid : Prop := fnExactVowelGroupsUptoRow.holds Try.pinned (OpenSpec.upto fnExactVowelGroupsSpec)

/-- 'laws.FnExactSuffixRule', WHERE WHAT IT READS IS OF BULK AT MOST 1048576: true; the input reads as it did. -/
def fnExactSuffixRuleUptoRow : OpenClaim := { program := "ytagbffnabjngfaa", sum := "a549aba99daf22e983b3fd1306bbda9d1ad50ada3f1e37d797bc590e430b9f4a", func := "loop.example/g00882/laws.FnExactSuffixRule", spec := "fnExactSuffixRule", inPlace := ["internal/bytealg.IndexByteString"], apart := false, narrowed := true }
def FnExactSuffixRuleUptoSaid : Prop := fnExactSuffixRuleUptoRow.holds Try.pinned (OpenSpec.upto fnExactSuffixRuleSpec)

/-- 'laws.FnExactJoinSuffix', WHERE WHAT IT READS IS OF BULK AT MOST 1048576: true; the input reads as it did. -/
def fnExactJoinSuffixUptoRow : OpenClaim := { program := "ytagbffnabjngfaa", sum := "a549aba99daf22e983b3fd1306bbda9d1ad50ada3f1e37d797bc590e430b9f4a", func := "loop.example/g00882/laws.FnExactJoinSuffix", spec := "fnExactJoinSuffix", inPlace := ["internal/bytealg.IndexByteString"], apart := false, narrowed := true }
def FnExactJoinSuffixUptoSaid : Prop := fnExactJoinSuffixUptoRow.holds Try.pinned (OpenSpec.upto fnExactJoinSuffixSpec)

/-- 'laws.FnExactSplitSuffix', WHERE WHAT IT READS IS OF BULK AT MOST 1048576: true; the input reads as it did. -/
def fnExactSplitSuffixUptoRow : OpenClaim := { program := "ytagbffnabjngfaa", sum := "a549aba99daf22e983b3fd1306bbda9d1ad50ada3f1e37d797bc590e430b9f4a", func := "loop.example/g00882/laws.FnExactSplitSuffix", spec := "fnExactSplitSuffix", inPlace := ["internal/bytealg.IndexByteString"], recurses := true, apart := false, narrowed := true }
def FnExactSplitSuffixUptoSaid : Prop := fnExactSplitSuffixUptoRow.holds Try.pinned (OpenSpec.upto fnExactSplitSuffixSpec)

end Rows
end Go.Proofs.Ytagbffnabjngfaa
