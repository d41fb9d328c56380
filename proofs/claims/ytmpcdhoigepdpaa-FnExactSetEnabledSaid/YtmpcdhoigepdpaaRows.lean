/-
  No cell of these rows narrows 'for every input' (looked for: loops, veiled, ifaces, maps, wideKeys, modest, calm, conditions, laid).
  DERIVED. THE GIVEN ROWS OF THIS SEAT. 5 by the template 'for every input the law returns true; each argument reads behind the call as it read before'; 0 by the template 'total and deterministic' (their statements: YtmpcdhoigepdpaaTotals.lean).
  GIVEN WITH THE SEED: the statements are not yours to turn. If you find one false, say at which input.
  Laid BY PROGRAM, IN A SANDBOX (cutbox-rows.mjs): the forced cells as the released guide's own fill.sh prints them over the translation 779e0dec1c10b850… (all of the seat's roots in one cut). By AI agents, Wed Nov 11 2026. No macro, syntax, notation, axiom, sorry.
-/
import Derived.Test.YtmpcdhoigepdpaaChecked
import GoSem.Claim
import GoSem.ClaimJoined
import GoSem.ClaimMapViews
import Derived.JoinedTies
import Derived.KernelRfl
namespace Go.Proofs.Ytmpcdhoigepdpaa
/- THE CELL 'sum', in the pinned program and in every row, IS THE sha256 OF THE DUMP (.gsa) THAT YtmpcdhoigepdpaaProg.lean LOADS. Nothing in Lean hashes anything: it is a label: what it is worth is what the hold of that sum in a sandbox is worth. -/
noncomputable def Try.pinned : Pinned := { name := "ytmpcdhoigepdpaa", sum := "779e0dec1c10b850f6fafeecc15e722f3512da1b20ff3ec35385d590896b8690", checked := Try.checked }
namespace Rows
def none {H : Type} : Left H := { results := [], args := [] }

/-- 'laws.FnReverse': WHATEVER THE INPUT: true; the input reads as it did. -/
def fnReverseSpec : ChangeSpec := { name := "fnReverse", fn := fun _ => fun
  | [d] => { results := [.lit (.bool true)], args := [d] }
  | _ => none }
def fnReverseRow : OpenClaim := { program := "ytmpcdhoigepdpaa", sum := "779e0dec1c10b850f6fafeecc15e722f3512da1b20ff3ec35385d590896b8690", func := "loop.example/g00882/laws.FnReverse", spec := "fnReverse", unfollowed := true, recurses := true, plainKeys := false, apart := false }
def FnReverseSaid : Prop := fnReverseRow.holds Try.pinned (OpenSpec.ofChange fnReverseSpec)

/-- ITS FALSE NEIGHBOUR: 'it returns false'. Refute it at one input. -/
def fnReverseWrong : ChangeSpec := { name := "fnReverse", fn := fun _ => fun
  | [d] => { results := [.lit (.bool false)], args := [d] }
  | _ => none }
def FnReverseWrongFalsely : Prop := fnReverseRow.holds Try.pinned (OpenSpec.ofChange fnReverseWrong)

/-- 'laws.FnExactIsValidStack': WHATEVER THE INPUT: true; the input reads as it did. -/
def fnExactIsValidStackSpec : ChangeSpec := { name := "fnExactIsValidStack", fn := fun _ => fun
  | [d] => { results := [.lit (.bool true)], args := [d] }
  | _ => none }
def fnExactIsValidStackRow : OpenClaim := { program := "ytmpcdhoigepdpaa", sum := "779e0dec1c10b850f6fafeecc15e722f3512da1b20ff3ec35385d590896b8690", func := "loop.example/g00882/laws.FnExactIsValidStack", spec := "fnExactIsValidStack", unfollowed := true, recurses := true, plainKeys := false, apart := false }
def FnExactIsValidStackSaid : Prop := fnExactIsValidStackRow.holds Try.pinned (OpenSpec.ofChange fnExactIsValidStackSpec)

/-- ITS FALSE NEIGHBOUR: 'it returns false'. Refute it at one input. -/
def fnExactIsValidStackWrong : ChangeSpec := { name := "fnExactIsValidStack", fn := fun _ => fun
  | [d] => { results := [.lit (.bool false)], args := [d] }
  | _ => none }
def FnExactIsValidStackWrongFalsely : Prop := fnExactIsValidStackRow.holds Try.pinned (OpenSpec.ofChange fnExactIsValidStackWrong)

/-- 'laws.FnExactLookupStack': WHATEVER THE INPUT: true; the input reads as it did. -/
def fnExactLookupStackSpec : ChangeSpec := { name := "fnExactLookupStack", fn := fun _ => fun
  | [d1, d2] => { results := [.lit (.bool true)], args := [d1, d2] }
  | _ => none }
def fnExactLookupStackRow : OpenClaim := { program := "ytmpcdhoigepdpaa", sum := "779e0dec1c10b850f6fafeecc15e722f3512da1b20ff3ec35385d590896b8690", func := "loop.example/g00882/laws.FnExactLookupStack", spec := "fnExactLookupStack", unfollowed := true, recurses := true, plainKeys := false, apart := false }
def FnExactLookupStackSaid : Prop := fnExactLookupStackRow.holds Try.pinned (OpenSpec.ofChange fnExactLookupStackSpec)

/-- ITS FALSE NEIGHBOUR: 'it returns false'. Refute it at one input. -/
def fnExactLookupStackWrong : ChangeSpec := { name := "fnExactLookupStack", fn := fun _ => fun
  | [d1, d2] => { results := [.lit (.bool false)], args := [d1, d2] }
  | _ => none }
def FnExactLookupStackWrongFalsely : Prop := fnExactLookupStackRow.holds Try.pinned (OpenSpec.ofChange fnExactLookupStackWrong)

/-- 'laws.FnExactShadowedEntries': WHATEVER THE INPUT: true; the input reads as it did. -/
def fnExactShadowedEntriesSpec : ChangeSpec := { name := "fnExactShadowedEntries", fn := fun _ => fun
  | [d] => { results := [.lit (.bool true)], args := [d] }
  | _ => none }
def fnExactShadowedEntriesRow : OpenClaim := { program := "ytmpcdhoigepdpaa", sum := "779e0dec1c10b850f6fafeecc15e722f3512da1b20ff3ec35385d590896b8690", func := "loop.example/g00882/laws.FnExactShadowedEntries", spec := "fnExactShadowedEntries", unfollowed := true, recurses := true, plainKeys := false, apart := false }
def FnExactShadowedEntriesSaid : Prop := fnExactShadowedEntriesRow.holds Try.pinned (OpenSpec.ofChange fnExactShadowedEntriesSpec)

/-- ITS FALSE NEIGHBOUR: 'it returns false'. Refute it at one input. -/
def fnExactShadowedEntriesWrong : ChangeSpec := { name := "fnExactShadowedEntries", fn := fun _ => fun
  | [d] => { results := [.lit (.bool false)], args := [d] }
  | _ => none }
def FnExactShadowedEntriesWrongFalsely : Prop := fnExactShadowedEntriesRow.holds Try.pinned (OpenSpec.ofChange fnExactShadowedEntriesWrong)

/-- 'laws.FnExactSetEnabled': WHATEVER THE INPUT: true; the input reads as it did. -/
def fnExactSetEnabledSpec : ChangeSpec := { name := "fnExactSetEnabled", fn := fun _ => fun
  | [d1, d2, d3] => { results := [.lit (.bool true)], args := [d1, d2, d3] }
  | _ => none }
def fnExactSetEnabledRow : OpenClaim := { program := "ytmpcdhoigepdpaa", sum := "779e0dec1c10b850f6fafeecc15e722f3512da1b20ff3ec35385d590896b8690", func := "loop.example/g00882/laws.FnExactSetEnabled", spec := "fnExactSetEnabled", unfollowed := true, recurses := true, plainKeys := false, apart := false }
def FnExactSetEnabledSaid : Prop := fnExactSetEnabledRow.holds Try.pinned (OpenSpec.ofChange fnExactSetEnabledSpec)

/-- ITS FALSE NEIGHBOUR: 'it returns false'. Refute it at one input. -/
def fnExactSetEnabledWrong : ChangeSpec := { name := "fnExactSetEnabled", fn := fun _ => fun
  | [d1, d2, d3] => { results := [.lit (.bool false)], args := [d1, d2, d3] }
  | _ => none }
def FnExactSetEnabledWrongFalsely : Prop := fnExactSetEnabledRow.holds Try.pinned (OpenSpec.ofChange fnExactSetEnabledWrong)

/- THE SECOND FORM. 'bulk': how many values and letters a reading holds, each counted each time it is reached (what is shared counts as often as it is met; a slice's spare places count too). A statement '..UptoSaid' is the law's where the arguments, and the package variables that the reading takes, are together of bulk at most 1048576: NARROWER than '..Said'. Prove '..Said' where nothing that the law and all that it calls make is longer than what came in: it says more and counts as full. Else prove '..UptoSaid'. A law counts once. -/
mutual
def uptoBulk {H : Type} : DataW H → Nat
  | .lit (.string bytes) => bytes.length + 1
  | .lit _ => 1
  | .nil => 1
  | .ptr d => uptoBulk d + 1
  | .slice elems spare => uptoBulkAll elems + uptoBulkAll spare + 1
  | .agg parts => uptoBulkAll parts + 1
  | .iface _ d => uptoBulk d + 1
  | .map entries => uptoBulkEntries entries + 1
  | .held _ => 1
def uptoBulkAll {H : Type} : List (DataW H) → Nat
  | [] => 0
  | d :: r => uptoBulk d + uptoBulkAll r
def uptoBulkEntries {H : Type} : List (Lit × DataW H) → Nat
  | [] => 0
  | x :: r => uptoBulkEntry x + uptoBulkEntries r
def uptoBulkEntry {H : Type} : Lit × DataW H → Nat
  | (.string bytes, d) => bytes.length + uptoBulk d + 1
  | (_, d) => uptoBulk d + 1
 end
def uptoSmall : (H : Type) → List (DataW H) → Bool := fun _ ds => decide (uptoBulkAll ds ≤ 1048576)
def OpenSpec.upto (s : _root_.Go.ChangeSpec) : _root_.Go.OpenSpec := { _root_.Go.OpenSpec.ofChange s with cond := some uptoSmall }

/-- 'laws.FnReverse', WHERE WHAT IT READS IS OF BULK AT MOST 1048576: true; the input reads as it did. -/
def fnReverseUptoRow : OpenClaim := { program := "ytmpcdhoigepdpaa", sum := "779e0dec1c10b850f6fafeecc15e722f3512da1b20ff3ec35385d590896b8690", func := "loop.example/g00882/laws.FnReverse", spec := "fnReverse", unfollowed := true, recurses := true, plainKeys := false, apart := false, narrowed := true }
def FnReverseUptoSaid : Prop := fnReverseUptoRow.holds Try.pinned (OpenSpec.upto fnReverseSpec)

/-- 'laws.FnExactIsValidStack', WHERE WHAT IT READS IS OF BULK AT MOST 1048576: true; the input reads as it did. -/
def fnExactIsValidStackUptoRow : OpenClaim := { program := "ytmpcdhoigepdpaa", sum := "779e0dec1c10b850f6fafeecc15e722f3512da1b20ff3ec35385d590896b8690", func := "loop.example/g00882/laws.FnExactIsValidStack", spec := "fnExactIsValidStack", unfollowed := true, recurses := true, plainKeys := false, apart := false, narrowed := true }
def FnExactIsValidStackUptoSaid : Prop := fnExactIsValidStackUptoRow.holds Try.pinned (OpenSpec.upto fnExactIsValidStackSpec)

/-- 'laws.FnExactLookupStack', WHERE WHAT IT READS IS OF BULK AT MOST 1048576: true; the input reads as it did. -/
def fnExactLookupStackUptoRow : OpenClaim := { program := "ytmpcdhoigepdpaa", sum := "779e0dec1c10b850f6fafeecc15e722f3512da1b20ff3ec35385d590896b8690", func := "loop.example/g00882/laws.FnExactLookupStack", spec := "fnExactLookupStack", unfollowed := true, recurses := true, plainKeys := false, apart := false, narrowed := true }
def FnExactLookupStackUptoSaid : Prop := fnExactLookupStackUptoRow.holds Try.pinned (OpenSpec.upto fnExactLookupStackSpec)

/-- 'laws.FnExactShadowedEntries', WHERE WHAT IT READS IS OF BULK AT MOST 1048576: true; the input reads as it did. -/
def fnExactShadowedEntriesUptoRow : OpenClaim := { program := "ytmpcdhoigepdpaa", sum := "779e0dec1c10b850f6fafeecc15e722f3512da1b20ff3ec35385d590896b8690", func := "loop.example/g00882/laws.FnExactShadowedEntries", spec := "fnExactShadowedEntries", unfollowed := true, recurses := true, plainKeys := false, apart := false, narrowed := true }
def FnExactShadowedEntriesUptoSaid : Prop := fnExactShadowedEntriesUptoRow.holds Try.pinned (OpenSpec.upto fnExactShadowedEntriesSpec)

/-- 'laws.FnExactSetEnabled', WHERE WHAT IT READS IS OF BULK AT MOST 1048576: true; the input reads as it did. -/
def fnExactSetEnabledUptoRow : OpenClaim := { program := "ytmpcdhoigepdpaa", sum := "779e0dec1c10b850f6fafeecc15e722f3512da1b20ff3ec35385d590896b8690", func := "loop.example/g00882/laws.FnExactSetEnabled", spec := "fnExactSetEnabled", unfollowed := true, recurses := true, plainKeys := false, apart := false, narrowed := true }
def FnExactSetEnabledUptoSaid : Prop := fnExactSetEnabledUptoRow.holds Try.pinned (OpenSpec.upto fnExactSetEnabledSpec)

end Rows
end Go.Proofs.Ytmpcdhoigepdpaa
