/-
  No cell of these rows narrows 'for every input' (looked for: loops, veiled, ifaces, maps, wideKeys, modest, calm, conditions, laid).
  DERIVED. THE GIVEN ROWS OF THIS SEAT. 8 by the template 'for every input the law returns true; each argument reads behind the call as it read before'; 0 by the template 'total and deterministic' (their statements: YtllmghcemdgohaaTotals.lean).
  GIVEN WITH THE SEED: the statements are not yours to turn. If you find one false, say at which input.
  Laid BY PROGRAM, IN A SANDBOX (cutbox-rows.mjs): the forced cells as the released guide's own fill.sh prints them over the translation 14b84528a4f2e9e9… (all of the seat's roots in one cut). By AI agents, Wed Nov 11 2026. No macro, syntax, notation, axiom, sorry.
-/
import Derived.Test.YtllmghcemdgohaaChecked
import GoSem.Claim
import GoSem.ClaimJoined
import GoSem.ClaimMapViews
import Derived.JoinedTies
import Derived.KernelRfl
namespace Go.Proofs.Ytllmghcemdgohaa
/- THE CELL 'sum', in the pinned program and in every row, IS THE sha256 OF THE DUMP (.gsa) THAT YtllmghcemdgohaaProg.lean LOADS. Nothing in Lean hashes anything: it is a label: what it is worth is what the hold of that sum in a sandbox is worth. -/
noncomputable def Try.pinned : Pinned := { name := "ytllmghcemdgohaa", sum := "14b84528a4f2e9e9d24ff4b8b5e2540876e5d798ffba3575e6aee9950e359d8b", checked := Try.checked }
namespace Rows
def none {H : Type} : Left H := { results := [], args := [] }

/-- 'laws.FnReverse': WHATEVER THE INPUT: true; the input reads as it did. -/
def fnReverseSpec : ChangeSpec := { name := "fnReverse", fn := fun _ => fun
  | [d] => { results := [.lit (.bool true)], args := [d] }
  | _ => none }
def fnReverseRow : OpenClaim := { program := "ytllmghcemdgohaa", sum := "14b84528a4f2e9e9d24ff4b8b5e2540876e5d798ffba3575e6aee9950e359d8b", func := "loop.example/g00882/laws.FnReverse", spec := "fnReverse", unfollowed := true, recurses := true, plainKeys := false, apart := false }
def FnReverseSaid : Prop := fnReverseRow.holds Try.pinned (OpenSpec.ofChange fnReverseSpec)

/-- ITS FALSE NEIGHBOUR: 'it returns false'. Refute it at one input. -/
def fnReverseWrong : ChangeSpec := { name := "fnReverse", fn := fun _ => fun
  | [d] => { results := [.lit (.bool false)], args := [d] }
  | _ => none }
def FnReverseWrongFalsely : Prop := fnReverseRow.holds Try.pinned (OpenSpec.ofChange fnReverseWrong)

/-- 'laws.FnExactIsValidEntry': WHATEVER THE INPUT: true; the input reads as it did. -/
def fnExactIsValidEntrySpec : ChangeSpec := { name := "fnExactIsValidEntry", fn := fun _ => fun
  | [d] => { results := [.lit (.bool true)], args := [d] }
  | _ => none }
def fnExactIsValidEntryRow : OpenClaim := { program := "ytllmghcemdgohaa", sum := "14b84528a4f2e9e9d24ff4b8b5e2540876e5d798ffba3575e6aee9950e359d8b", func := "loop.example/g00882/laws.FnExactIsValidEntry", spec := "fnExactIsValidEntry", unfollowed := true, recurses := true, plainKeys := false, apart := false }
def FnExactIsValidEntrySaid : Prop := fnExactIsValidEntryRow.holds Try.pinned (OpenSpec.ofChange fnExactIsValidEntrySpec)

/-- ITS FALSE NEIGHBOUR: 'it returns false'. Refute it at one input. -/
def fnExactIsValidEntryWrong : ChangeSpec := { name := "fnExactIsValidEntry", fn := fun _ => fun
  | [d] => { results := [.lit (.bool false)], args := [d] }
  | _ => none }
def FnExactIsValidEntryWrongFalsely : Prop := fnExactIsValidEntryRow.holds Try.pinned (OpenSpec.ofChange fnExactIsValidEntryWrong)

/-- 'laws.FnExactIsValidDictionary': WHATEVER THE INPUT: true; the input reads as it did. -/
def fnExactIsValidDictionarySpec : ChangeSpec := { name := "fnExactIsValidDictionary", fn := fun _ => fun
  | [d] => { results := [.lit (.bool true)], args := [d] }
  | _ => none }
def fnExactIsValidDictionaryRow : OpenClaim := { program := "ytllmghcemdgohaa", sum := "14b84528a4f2e9e9d24ff4b8b5e2540876e5d798ffba3575e6aee9950e359d8b", func := "loop.example/g00882/laws.FnExactIsValidDictionary", spec := "fnExactIsValidDictionary", unfollowed := true, recurses := true, plainKeys := false, apart := false }
def FnExactIsValidDictionarySaid : Prop := fnExactIsValidDictionaryRow.holds Try.pinned (OpenSpec.ofChange fnExactIsValidDictionarySpec)

/-- ITS FALSE NEIGHBOUR: 'it returns false'. Refute it at one input. -/
def fnExactIsValidDictionaryWrong : ChangeSpec := { name := "fnExactIsValidDictionary", fn := fun _ => fun
  | [d] => { results := [.lit (.bool false)], args := [d] }
  | _ => none }
def FnExactIsValidDictionaryWrongFalsely : Prop := fnExactIsValidDictionaryRow.holds Try.pinned (OpenSpec.ofChange fnExactIsValidDictionaryWrong)

/-- 'laws.FnExactLookup': WHATEVER THE INPUT: true; the input reads as it did. -/
def fnExactLookupSpec : ChangeSpec := { name := "fnExactLookup", fn := fun _ => fun
  | [d1, d2] => { results := [.lit (.bool true)], args := [d1, d2] }
  | _ => none }
def fnExactLookupRow : OpenClaim := { program := "ytllmghcemdgohaa", sum := "14b84528a4f2e9e9d24ff4b8b5e2540876e5d798ffba3575e6aee9950e359d8b", func := "loop.example/g00882/laws.FnExactLookup", spec := "fnExactLookup", unfollowed := true, recurses := true, plainKeys := false, apart := false }
def FnExactLookupSaid : Prop := fnExactLookupRow.holds Try.pinned (OpenSpec.ofChange fnExactLookupSpec)

/-- ITS FALSE NEIGHBOUR: 'it returns false'. Refute it at one input. -/
def fnExactLookupWrong : ChangeSpec := { name := "fnExactLookup", fn := fun _ => fun
  | [d1, d2] => { results := [.lit (.bool false)], args := [d1, d2] }
  | _ => none }
def FnExactLookupWrongFalsely : Prop := fnExactLookupRow.holds Try.pinned (OpenSpec.ofChange fnExactLookupWrong)

/-- 'laws.FnExactReverseLookup': WHATEVER THE INPUT: true; the input reads as it did. -/
def fnExactReverseLookupSpec : ChangeSpec := { name := "fnExactReverseLookup", fn := fun _ => fun
  | [d1, d2] => { results := [.lit (.bool true)], args := [d1, d2] }
  | _ => none }
def fnExactReverseLookupRow : OpenClaim := { program := "ytllmghcemdgohaa", sum := "14b84528a4f2e9e9d24ff4b8b5e2540876e5d798ffba3575e6aee9950e359d8b", func := "loop.example/g00882/laws.FnExactReverseLookup", spec := "fnExactReverseLookup", unfollowed := true, recurses := true, plainKeys := false, apart := false }
def FnExactReverseLookupSaid : Prop := fnExactReverseLookupRow.holds Try.pinned (OpenSpec.ofChange fnExactReverseLookupSpec)

/-- ITS FALSE NEIGHBOUR: 'it returns false'. Refute it at one input. -/
def fnExactReverseLookupWrong : ChangeSpec := { name := "fnExactReverseLookup", fn := fun _ => fun
  | [d1, d2] => { results := [.lit (.bool false)], args := [d1, d2] }
  | _ => none }
def FnExactReverseLookupWrongFalsely : Prop := fnExactReverseLookupRow.holds Try.pinned (OpenSpec.ofChange fnExactReverseLookupWrong)

/-- 'laws.FnExactLongestOutline': WHATEVER THE INPUT: true; the input reads as it did. -/
def fnExactLongestOutlineSpec : ChangeSpec := { name := "fnExactLongestOutline", fn := fun _ => fun
  | [d] => { results := [.lit (.bool true)], args := [d] }
  | _ => none }
def fnExactLongestOutlineRow : OpenClaim := { program := "ytllmghcemdgohaa", sum := "14b84528a4f2e9e9d24ff4b8b5e2540876e5d798ffba3575e6aee9950e359d8b", func := "loop.example/g00882/laws.FnExactLongestOutline", spec := "fnExactLongestOutline", unfollowed := true, recurses := true, plainKeys := false, apart := false }
def FnExactLongestOutlineSaid : Prop := fnExactLongestOutlineRow.holds Try.pinned (OpenSpec.ofChange fnExactLongestOutlineSpec)

/-- ITS FALSE NEIGHBOUR: 'it returns false'. Refute it at one input. -/
def fnExactLongestOutlineWrong : ChangeSpec := { name := "fnExactLongestOutline", fn := fun _ => fun
  | [d] => { results := [.lit (.bool false)], args := [d] }
  | _ => none }
def FnExactLongestOutlineWrongFalsely : Prop := fnExactLongestOutlineRow.holds Try.pinned (OpenSpec.ofChange fnExactLongestOutlineWrong)

/-- 'laws.FnExactFormatDictionary': WHATEVER THE INPUT: true; the input reads as it did. -/
def fnExactFormatDictionarySpec : ChangeSpec := { name := "fnExactFormatDictionary", fn := fun _ => fun
  | [d] => { results := [.lit (.bool true)], args := [d] }
  | _ => none }
def fnExactFormatDictionaryRow : OpenClaim := { program := "ytllmghcemdgohaa", sum := "14b84528a4f2e9e9d24ff4b8b5e2540876e5d798ffba3575e6aee9950e359d8b", func := "loop.example/g00882/laws.FnExactFormatDictionary", spec := "fnExactFormatDictionary", inPlace := ["internal/abi.NoEscape", "internal/bytealg.IndexByteString", "internal/bytealg.IndexString", "internal/bytealg.MakeNoZero"], unfollowed := true, recurses := true, named := ["internal/bytealg.MaxLen"], plainKeys := false, apart := false }
def FnExactFormatDictionarySaid : Prop := fnExactFormatDictionaryRow.holds Try.pinned (OpenSpec.ofChange fnExactFormatDictionarySpec)

/-- ITS FALSE NEIGHBOUR: 'it returns false'. Refute it at one input. -/
def fnExactFormatDictionaryWrong : ChangeSpec := { name := "fnExactFormatDictionary", fn := fun _ => fun
  | [d] => { results := [.lit (.bool false)], args := [d] }
  | _ => none }
def FnExactFormatDictionaryWrongFalsely : Prop := fnExactFormatDictionaryRow.holds Try.pinned (OpenSpec.ofChange fnExactFormatDictionaryWrong)

/-- 'laws.FnExactParseDictionary': WHATEVER THE INPUT: true; the input reads as it did. -/
def fnExactParseDictionarySpec : ChangeSpec := { name := "fnExactParseDictionary", fn := fun _ => fun
  | [d] => { results := [.lit (.bool true)], args := [d] }
  | _ => none }
def fnExactParseDictionaryRow : OpenClaim := { program := "ytllmghcemdgohaa", sum := "14b84528a4f2e9e9d24ff4b8b5e2540876e5d798ffba3575e6aee9950e359d8b", func := "loop.example/g00882/laws.FnExactParseDictionary", spec := "fnExactParseDictionary", inPlace := ["internal/bytealg.IndexByteString", "internal/bytealg.IndexString", "internal/abi.NoEscape"], unfollowed := true, recurses := true, named := ["internal/bytealg.MaxLen"], plainKeys := false, apart := false }
def FnExactParseDictionarySaid : Prop := fnExactParseDictionaryRow.holds Try.pinned (OpenSpec.ofChange fnExactParseDictionarySpec)

/-- ITS FALSE NEIGHBOUR: 'it returns false'. Refute it at one input. -/
def fnExactParseDictionaryWrong : ChangeSpec := { name := "fnExactParseDictionary", fn := fun _ => fun
  | [d] => { results := [.lit (.bool false)], args := [d] }
  | _ => none }
def FnExactParseDictionaryWrongFalsely : Prop := fnExactParseDictionaryRow.holds Try.pinned (OpenSpec.ofChange fnExactParseDictionaryWrong)

/- THE SECOND FORM. 'bulk': how many values and letters a reading holds, each counted each time it is reached (what is shared counts as often as it is met; a slice's spare places count too). A statement '..UptoSaid' is the law's where the arguments, and the package variables that the reading takes, are together of bulk at most 1048576: NARROWER than '..Said'. Prove '..Said' where nothing that the law and all that it calls make is longer than what came in: it says more and counts as full. Else prove '..UptoSaid'. A law counts once. -/
mutual
def uptoBulk {H : Type} : DataW H → Nat
  | .lit (.string bytes) => bytes.length + 1
  | .lit _ => 1
  | .nil => 1
  | .ptr d => uptoBulk d + 1
  | .slice elems spare => uptoBulkAll elems + uptoBulkAll spare + 1
  | .agg parts => uptoBulkAll parts + 1
  | .iface _ d => uptoBulk d + 1
  | .map entries => uptoBulkEntries entries + 1
  | .held _ => 1
def uptoBulkAll {H : Type} : List (DataW H) → Nat
  | [] => 0
  | d :: r => uptoBulk d + uptoBulkAll r
def uptoBulkEntries {H : Type} : List (Lit × DataW H) → Nat
  | [] => 0
  | x :: r => uptoBulkEntry x + uptoBulkEntries r
def uptoBulkEntry {H : Type} : Lit × DataW H → Nat
  | (.string bytes, d) => bytes.length + uptoBulk d + 1
  | (_, d) => uptoBulk d + 1
 end
def uptoSmall : (H : Type) → List (DataW H) → Bool := fun _ ds => decide (uptoBulkAll ds ≤ 1048576)
def OpenSpec.upto (s : _root_.Go.ChangeSpec) : _root_.Go.OpenSpec := { _root_.Go.OpenSpec.ofChange s with cond := some uptoSmall }

/-- 'laws.FnReverse', WHERE WHAT IT READS IS OF BULK AT MOST 1048576: true; the input reads as it did. -/
def fnReverseUptoRow : OpenClaim := { program := "ytllmghcemdgohaa", sum := "14b84528a4f2e9e9d24ff4b8b5e2540876e5d798ffba3575e6aee9950e359d8b", func := "loop.example/g00882/laws.FnReverse", spec := "fnReverse", unfollowed := true, recurses := true, plainKeys := false, apart := false, narrowed := true }
def FnReverseUptoSaid : Prop := fnReverseUptoRow.holds Try.pinned (OpenSpec.upto fnReverseSpec)

/-- 'laws.FnExactIsValidEntry', WHERE WHAT IT READS IS OF BULK AT MOST 1048576: true; the input reads as it did. -/
def fnExactIsValidEntryUptoRow : OpenClaim := { program := "ytllmghcemdgohaa", sum := "14b84528a4f2e9e9d24ff4b8b5e2540876e5d798ffba3575e6aee9950e359d8b", func := "loop.example/g00882/laws.FnExactIsValidEntry", spec := "fnExactIsValidEntry", unfollowed := true, recurses := true, plainKeys := false, apart := false, narrowed := true }
def FnExactIsValidEntryUptoSaid : Prop := fnExactIsValidEntryUptoRow.holds Try.pinned (OpenSpec.upto fnExactIsValidEntrySpec)

/-- 'laws.FnExactIsValidDictionary', WHERE WHAT IT READS IS OF BULK AT MOST 1048576: true; the input reads as it did. -/
def fnExactIsValidDictionaryUptoRow : OpenClaim := { program := "ytllmghcemdgohaa", sum := "14b84528a4f2e9e9d24ff4b8b5e2540876e5d798ffba3575e6aee9950e359d8b", func := "loop.example/g00882/laws.FnExactIsValidDictionary", spec := "fnExactIsValidDictionary", unfollowed := true, recurses := true, plainKeys := false, apart := false, narrowed := true }
def FnExactIsValidDictionaryUptoSaid : Prop := fnExactIsValidDictionaryUptoRow.holds Try.pinned (OpenSpec.upto fnExactIsValidDictionarySpec)

/-- 'laws.FnExactLookup', WHERE WHAT IT READS IS OF BULK AT MOST 1048576: true; the input reads as it did. -/
def fnExactLookupUptoRow : OpenClaim := { program := "ytllmghcemdgohaa", sum := "14b84528a4f2e9e9d24ff4b8b5e2540876e5d798ffba3575e6aee9950e359d8b", func := "loop.example/g00882/laws.FnExactLookup", spec := "fnExactLookup", unfollowed := true, recurses := true, plainKeys := false, apart := false, narrowed := true }
def FnExactLookupUptoSaid : Prop := fnExactLookupUptoRow.holds Try.pinned (OpenSpec.upto fnExactLookupSpec)

/-- 'laws.FnExactReverseLookup', WHERE WHAT IT READS IS OF BULK AT MOST 1048576: true; the input reads as it did. -/
def fnExactReverseLookupUptoRow : OpenClaim := { program := "ytllmghcemdgohaa", sum := "14b84528a4f2e9e9d24ff4b8b5e2540876e5d798ffba3575e6aee9950e359d8b", func := "loop.example/g00882/laws.FnExactReverseLookup", spec := "fnExactReverseLookup", unfollowed := true, recurses := true, plainKeys := false, apart := false, narrowed := true }
def FnExactReverseLookupUptoSaid : Prop := fnExactReverseLookupUptoRow.holds Try.pinned (OpenSpec.upto fnExactReverseLookupSpec)

/-- 'laws.FnExactLongestOutline', WHERE WHAT IT READS IS OF BULK AT MOST 1048576: true; the input reads as it did. -/
def fnExactLongestOutlineUptoRow : OpenClaim := { program := "ytllmghcemdgohaa", sum := "14b84528a4f2e9e9d24ff4b8b5e2540876e5d798ffba3575e6aee9950e359d8b", func := "loop.example/g00882/laws.FnExactLongestOutline", spec := "fnExactLongestOutline", unfollowed := true, recurses := true, plainKeys := false, apart := false, narrowed := true }
def FnExactLongestOutlineUptoSaid : Prop := fnExactLongestOutlineUptoRow.holds Try.pinned (OpenSpec.upto fnExactLongestOutlineSpec)

/-- 'laws.FnExactFormatDictionary', WHERE WHAT IT READS IS OF BULK AT MOST 1048576: true; the input reads as it did. -/
def fnExactFormatDictionaryUptoRow : OpenClaim := { program := "ytllmghcemdgohaa", sum := "14b84528a4f2e9e9d24ff4b8b5e2540876e5d798ffba3575e6aee9950e359d8b", func := "loop.example/g00882/laws.FnExactFormatDictionary", spec := "fnExactFormatDictionary", inPlace := ["internal/abi.NoEscape", "internal/bytealg.IndexByteString", "internal/bytealg.IndexString", "internal/bytealg.MakeNoZero"], unfollowed := true, recurses := true, named := ["internal/bytealg.MaxLen"], plainKeys := false, apart := false, narrowed := true }
def FnExactFormatDictionaryUptoSaid : Prop := fnExactFormatDictionaryUptoRow.holds Try.pinned (OpenSpec.upto fnExactFormatDictionarySpec)

/-- 'laws.FnExactParseDictionary', WHERE WHAT IT READS IS OF BULK AT MOST 1048576: true; the input reads as it did. -/
def fnExactParseDictionaryUptoRow : OpenClaim := { program := "ytllmghcemdgohaa", sum := "14b84528a4f2e9e9d24ff4b8b5e2540876e5d798ffba3575e6aee9950e359d8b", func := "loop.example/g00882/laws.FnExactParseDictionary", spec := "fnExactParseDictionary", inPlace := ["internal/bytealg.IndexByteString", "internal/bytealg.IndexString", "internal/abi.NoEscape"], unfollowed := true, recurses := true, named := ["internal/bytealg.MaxLen"], plainKeys := false, apart := false, narrowed := true }
def FnExactParseDictionaryUptoSaid : Prop := fnExactParseDictionaryUptoRow.holds Try.pinned (OpenSpec.upto fnExactParseDictionarySpec)

end Rows
end Go.Proofs.Ytllmghcemdgohaa
