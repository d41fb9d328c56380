/-
  No cell of these rows narrows 'for every input' (looked for: loops, veiled, ifaces, maps, wideKeys, modest, calm, conditions, laid).
  DERIVED. THE GIVEN ROWS OF THIS SEAT. 8 by the template 'for every input the law returns true; each argument reads behind the call as it read before'; 0 by the template 'total and deterministic' (their statements: YtiajaeaffmmckaaTotals.lean).
  GIVEN WITH THE SEED: the statements are not yours to turn. If you find one false, say at which input.
  Laid BY PROGRAM, IN A SANDBOX (cutbox-rows.mjs): the forced cells as the released guide's own fill.sh prints them over the translation ae0460da7c40fa35… (all of the seat's roots in one cut). By AI agents, Wed Nov 11 2026. No macro, syntax, notation, axiom, sorry.
-/
import Derived.Test.YtiajaeaffmmckaaChecked
import GoSem.Claim
import GoSem.ClaimJoined
import GoSem.ClaimMapViews
import Derived.JoinedTies
import Derived.KernelRfl
namespace Go.Proofs.Ytiajaeaffmmckaa
/- THE CELL 'sum', in the pinned program and in every row, IS THE sha256 OF THE DUMP (.gsa) THAT YtiajaeaffmmckaaProg.lean LOADS. Nothing in Lean hashes anything: it is a label: what it is worth is what the hold of that sum in a sandbox is worth. -/
noncomputable def Try.pinned : Pinned := { name := "ytiajaeaffmmckaa", sum := "ae0460da7c40fa354aee9301fce3ad40a8a102f05b1d8303b3778cb702f55119", checked := Try.checked }
namespace Rows
def none {H : Type} : Left H := { results := [], args := [] }

/-- 'laws.FnAtoms': WHATEVER THE INPUT: true; the input reads as it did. -/
def fnAtomsSpec : ChangeSpec := { name := "fnAtoms", fn := fun _ => fun
  | [d] => { results := [.lit (.bool true)], args := [d] }
  | _ => none }
def fnAtomsRow : OpenClaim := { program := "ytiajaeaffmmckaa", sum := "ae0460da7c40fa354aee9301fce3ad40a8a102f05b1d8303b3778cb702f55119", func := "loop.example/g00882/laws.FnAtoms", spec := "fnAtoms", unfollowed := true, recurses := true, apart := false }
def FnAtomsSaid : Prop := fnAtomsRow.holds Try.pinned (OpenSpec.ofChange fnAtomsSpec)

/-- ITS FALSE NEIGHBOUR: 'it returns false'. Refute it at one input. -/
def fnAtomsWrong : ChangeSpec := { name := "fnAtoms", fn := fun _ => fun
  | [d] => { results := [.lit (.bool false)], args := [d] }
  | _ => none }
def FnAtomsWrongFalsely : Prop := fnAtomsRow.holds Try.pinned (OpenSpec.ofChange fnAtomsWrong)

/-- 'laws.FnTranslations': WHATEVER THE INPUT: true; the input reads as it did. -/
def fnTranslationsSpec : ChangeSpec := { name := "fnTranslations", fn := fun _ => fun
  | [d] => { results := [.lit (.bool true)], args := [d] }
  | _ => none }
def fnTranslationsRow : OpenClaim := { program := "ytiajaeaffmmckaa", sum := "ae0460da7c40fa354aee9301fce3ad40a8a102f05b1d8303b3778cb702f55119", func := "loop.example/g00882/laws.FnTranslations", spec := "fnTranslations", inPlace := ["internal/bytealg.IndexByteString", "internal/bytealg.IndexString", "internal/abi.NoEscape", "internal/bytealg.MakeNoZero"], unfollowed := true, recurses := true, named := ["internal/bytealg.MaxLen"], apart := false }
def FnTranslationsSaid : Prop := fnTranslationsRow.holds Try.pinned (OpenSpec.ofChange fnTranslationsSpec)

/-- ITS FALSE NEIGHBOUR: 'it returns false'. Refute it at one input. -/
def fnTranslationsWrong : ChangeSpec := { name := "fnTranslations", fn := fun _ => fun
  | [d] => { results := [.lit (.bool false)], args := [d] }
  | _ => none }
def FnTranslationsWrongFalsely : Prop := fnTranslationsRow.holds Try.pinned (OpenSpec.ofChange fnTranslationsWrong)

/-- 'laws.FnExactIsValidAtom': WHATEVER THE INPUT: true; the input reads as it did. -/
def fnExactIsValidAtomSpec : ChangeSpec := { name := "fnExactIsValidAtom", fn := fun _ => fun
  | [d] => { results := [.lit (.bool true)], args := [d] }
  | _ => none }
def fnExactIsValidAtomRow : OpenClaim := { program := "ytiajaeaffmmckaa", sum := "ae0460da7c40fa354aee9301fce3ad40a8a102f05b1d8303b3778cb702f55119", func := "loop.example/g00882/laws.FnExactIsValidAtom", spec := "fnExactIsValidAtom", unfollowed := true, recurses := true, apart := false }
def FnExactIsValidAtomSaid : Prop := fnExactIsValidAtomRow.holds Try.pinned (OpenSpec.ofChange fnExactIsValidAtomSpec)

/-- ITS FALSE NEIGHBOUR: 'it returns false'. Refute it at one input. -/
def fnExactIsValidAtomWrong : ChangeSpec := { name := "fnExactIsValidAtom", fn := fun _ => fun
  | [d] => { results := [.lit (.bool false)], args := [d] }
  | _ => none }
def FnExactIsValidAtomWrongFalsely : Prop := fnExactIsValidAtomRow.holds Try.pinned (OpenSpec.ofChange fnExactIsValidAtomWrong)

/-- 'laws.FnExactFormatAtom': WHATEVER THE INPUT: true; the input reads as it did. -/
def fnExactFormatAtomSpec : ChangeSpec := { name := "fnExactFormatAtom", fn := fun _ => fun
  | [d] => { results := [.lit (.bool true)], args := [d] }
  | _ => none }
def fnExactFormatAtomRow : OpenClaim := { program := "ytiajaeaffmmckaa", sum := "ae0460da7c40fa354aee9301fce3ad40a8a102f05b1d8303b3778cb702f55119", func := "loop.example/g00882/laws.FnExactFormatAtom", spec := "fnExactFormatAtom", unfollowed := true, recurses := true, apart := false }
def FnExactFormatAtomSaid : Prop := fnExactFormatAtomRow.holds Try.pinned (OpenSpec.ofChange fnExactFormatAtomSpec)

/-- ITS FALSE NEIGHBOUR: 'it returns false'. Refute it at one input. -/
def fnExactFormatAtomWrong : ChangeSpec := { name := "fnExactFormatAtom", fn := fun _ => fun
  | [d] => { results := [.lit (.bool false)], args := [d] }
  | _ => none }
def FnExactFormatAtomWrongFalsely : Prop := fnExactFormatAtomRow.holds Try.pinned (OpenSpec.ofChange fnExactFormatAtomWrong)

/-- 'laws.FnExactParseAtom': WHATEVER THE INPUT: true; the input reads as it did. -/
def fnExactParseAtomSpec : ChangeSpec := { name := "fnExactParseAtom", fn := fun _ => fun
  | [d] => { results := [.lit (.bool true)], args := [d] }
  | _ => none }
def fnExactParseAtomRow : OpenClaim := { program := "ytiajaeaffmmckaa", sum := "ae0460da7c40fa354aee9301fce3ad40a8a102f05b1d8303b3778cb702f55119", func := "loop.example/g00882/laws.FnExactParseAtom", spec := "fnExactParseAtom", unfollowed := true, recurses := true, apart := false }
def FnExactParseAtomSaid : Prop := fnExactParseAtomRow.holds Try.pinned (OpenSpec.ofChange fnExactParseAtomSpec)

/-- ITS FALSE NEIGHBOUR: 'it returns false'. Refute it at one input. -/
def fnExactParseAtomWrong : ChangeSpec := { name := "fnExactParseAtom", fn := fun _ => fun
  | [d] => { results := [.lit (.bool false)], args := [d] }
  | _ => none }
def FnExactParseAtomWrongFalsely : Prop := fnExactParseAtomRow.holds Try.pinned (OpenSpec.ofChange fnExactParseAtomWrong)

/-- 'laws.FnExactFormatTranslation': WHATEVER THE INPUT: true; the input reads as it did. -/
def fnExactFormatTranslationSpec : ChangeSpec := { name := "fnExactFormatTranslation", fn := fun _ => fun
  | [d] => { results := [.lit (.bool true)], args := [d] }
  | _ => none }
def fnExactFormatTranslationRow : OpenClaim := { program := "ytiajaeaffmmckaa", sum := "ae0460da7c40fa354aee9301fce3ad40a8a102f05b1d8303b3778cb702f55119", func := "loop.example/g00882/laws.FnExactFormatTranslation", spec := "fnExactFormatTranslation", inPlace := ["internal/bytealg.IndexByteString", "internal/bytealg.IndexString", "internal/abi.NoEscape", "internal/bytealg.MakeNoZero"], unfollowed := true, recurses := true, named := ["internal/bytealg.MaxLen"], apart := false }
def FnExactFormatTranslationSaid : Prop := fnExactFormatTranslationRow.holds Try.pinned (OpenSpec.ofChange fnExactFormatTranslationSpec)

/-- ITS FALSE NEIGHBOUR: 'it returns false'. Refute it at one input. -/
def fnExactFormatTranslationWrong : ChangeSpec := { name := "fnExactFormatTranslation", fn := fun _ => fun
  | [d] => { results := [.lit (.bool false)], args := [d] }
  | _ => none }
def FnExactFormatTranslationWrongFalsely : Prop := fnExactFormatTranslationRow.holds Try.pinned (OpenSpec.ofChange fnExactFormatTranslationWrong)

/-- 'laws.FnExactParseTranslation': WHATEVER THE INPUT: true; the input reads as it did. -/
def fnExactParseTranslationSpec : ChangeSpec := { name := "fnExactParseTranslation", fn := fun _ => fun
  | [d] => { results := [.lit (.bool true)], args := [d] }
  | _ => none }
def fnExactParseTranslationRow : OpenClaim := { program := "ytiajaeaffmmckaa", sum := "ae0460da7c40fa354aee9301fce3ad40a8a102f05b1d8303b3778cb702f55119", func := "loop.example/g00882/laws.FnExactParseTranslation", spec := "fnExactParseTranslation", unfollowed := true, recurses := true, apart := false }
def FnExactParseTranslationSaid : Prop := fnExactParseTranslationRow.holds Try.pinned (OpenSpec.ofChange fnExactParseTranslationSpec)

/-- ITS FALSE NEIGHBOUR: 'it returns false'. Refute it at one input. -/
def fnExactParseTranslationWrong : ChangeSpec := { name := "fnExactParseTranslation", fn := fun _ => fun
  | [d] => { results := [.lit (.bool false)], args := [d] }
  | _ => none }
def FnExactParseTranslationWrongFalsely : Prop := fnExactParseTranslationRow.holds Try.pinned (OpenSpec.ofChange fnExactParseTranslationWrong)

/-- 'laws.FnExactPlainWords': WHATEVER THE INPUT: true; the input reads as it did. -/
def fnExactPlainWordsSpec : ChangeSpec := { name := "fnExactPlainWords", fn := fun _ => fun
  | [d] => { results := [.lit (.bool true)], args := [d] }
  | _ => none }
def fnExactPlainWordsRow : OpenClaim := { program := "ytiajaeaffmmckaa", sum := "ae0460da7c40fa354aee9301fce3ad40a8a102f05b1d8303b3778cb702f55119", func := "loop.example/g00882/laws.FnExactPlainWords", spec := "fnExactPlainWords", inPlace := ["internal/bytealg.IndexByteString", "internal/bytealg.IndexString", "internal/abi.NoEscape", "internal/bytealg.MakeNoZero"], unfollowed := true, recurses := true, named := ["internal/bytealg.MaxLen"], apart := false }
def FnExactPlainWordsSaid : Prop := fnExactPlainWordsRow.holds Try.pinned (OpenSpec.ofChange fnExactPlainWordsSpec)

/-- ITS FALSE NEIGHBOUR: 'it returns false'. Refute it at one input. -/
def fnExactPlainWordsWrong : ChangeSpec := { name := "fnExactPlainWords", fn := fun _ => fun
  | [d] => { results := [.lit (.bool false)], args := [d] }
  | _ => none }
def FnExactPlainWordsWrongFalsely : Prop := fnExactPlainWordsRow.holds Try.pinned (OpenSpec.ofChange fnExactPlainWordsWrong)

/- THE SECOND FORM. 'bulk': how many values and letters a reading holds, each counted each time it is reached (what is shared counts as often as it is met; a slice's spare places count too). A statement '..UptoSaid' is the law's where the arguments, and the package variables that the reading takes, are together of bulk at most 1048576: NARROWER than '..Said'. Prove '..Said' where nothing that the law and all that it calls make is longer than what came in: it says more and counts as full. Else prove '..UptoSaid'. A law counts once. -/
mutual
def uptoBulk {H : Type} : DataW H → Nat
  | .lit (.string bytes) => bytes.length + 1
  | .lit _ => 1
  | .nil => 1
  | .ptr d => uptoBulk d + 1
  | .slice elems spare => uptoBulkAll elems + uptoBulkAll spare + 1
  | .agg parts => uptoBulkAll parts + 1
  | .iface _ d => uptoBulk d + 1
  | .map entries => uptoBulkEntries entries + 1
  | .held _ => 1
def uptoBulkAll {H : Type} : List (DataW H) → Nat
  | [] => 0
  | d :: r => uptoBulk d + uptoBulkAll r
def uptoBulkEntries {H : Type} : List (Lit × DataW H) → Nat
  | [] => 0
  | x :: r => uptoBulkEntry x + uptoBulkEntries r
def uptoBulkEntry {H : Type} : Lit × DataW H → Nat
  | (.string bytes, d) => bytes.length + uptoBulk d + 1
  | (_, d) => uptoBulk d + 1
 end
def uptoSmall : (H : Type) → List (DataW H) → Bool := fun _ ds => decide (uptoBulkAll ds ≤ 1048576)
def OpenSpec.upto (s : _root_.Go.ChangeSpec) : _root_.Go.OpenSpec := { _root_.Go.OpenSpec.ofChange s with cond := some uptoSmall }

/-- 'laws.FnAtoms', WHERE WHAT IT READS IS OF BULK AT MOST 1048576: true; the input reads as it did. -/
def fnAtomsUptoRow : OpenClaim := { program := "ytiajaeaffmmckaa", sum := "ae0460da7c40fa354aee9301fce3ad40a8a102f05b1d8303b3778cb702f55119", func := "loop.example/g00882/laws.FnAtoms", spec := "fnAtoms", unfollowed := true, recurses := true, apart := false, narrowed := true }
def FnAtomsUptoSaid : Prop := fnAtomsUptoRow.holds Try.pinned (OpenSpec.upto fnAtomsSpec)

/-- 'laws.FnTranslations', WHERE WHAT IT READS IS OF BULK AT MOST 1048576: true; the input reads as it did. -/
def fnTranslationsUptoRow : OpenClaim := { program := "ytiajaeaffmmckaa", sum := "ae0460da7c40fa354aee9301fce3ad40a8a102f05b1d8303b3778cb702f55119", func := "loop.example/g00882/laws.FnTranslations", spec := "fnTranslations", inPlace := ["internal/bytealg.IndexByteString", "internal/bytealg.IndexString", "internal/abi.NoEscape", "internal/bytealg.MakeNoZero"], unfollowed := true, recurses := true, named := ["internal/bytealg.MaxLen"], apart := false, narrowed := true }
def FnTranslationsUptoSaid : Prop := fnTranslationsUptoRow.holds Try.pinned (OpenSpec.upto fnTranslationsSpec)

/-- 'laws.FnExactIsValidAtom', WHERE WHAT IT READS IS OF BULK AT MOST 1048576: true; the input reads as it did. -/
def fnExactIsValidAtomUptoRow : OpenClaim := { program := "ytiajaeaffmmckaa", sum := "ae0460da7c40fa354aee9301fce3ad40a8a102f05b1d8303b3778cb702f55119", func := "loop.example/g00882/laws.FnExactIsValidAtom", spec := "fnExactIsValidAtom", unfollowed := true, recurses := true, apart := false, narrowed := true }
def FnExactIsValidAtomUptoSaid : Prop := fnExactIsValidAtomUptoRow.holds Try.pinned (OpenSpec.upto fnExactIsValidAtomSpec)

/-- 'laws.FnExactFormatAtom', WHERE WHAT IT READS IS OF BULK AT MOST 1048576: true; the input reads as it did. -/
def fnExactFormatAtomUptoRow : OpenClaim := { program := "ytiajaeaffmmckaa", sum := "ae0460da7c40fa354aee9301fce3ad40a8a102f05b1d8303b3778cb702f55119", func := "loop.example/g00882/laws.FnExactFormatAtom", spec := "fnExactFormatAtom", unfollowed := true, recurses := true, apart := false, narrowed := true }
def FnExactFormatAtomUptoSaid : Prop := fnExactFormatAtomUptoRow.holds Try.pinned (OpenSpec.upto fnExactFormatAtomSpec)

/-- 'laws.FnExactParseAtom', WHERE WHAT IT READS IS OF BULK AT MOST 1048576: true; the input reads as it did. -/
def fnExactParseAtomUptoRow : OpenClaim := { program := "ytiajaeaffmmckaa", sum := "ae0460da7c40fa354aee9301fce3ad40a8a102f05b1d8303b3778cb702f55119", func := "loop.example/g00882/laws.FnExactParseAtom", spec := "fnExactParseAtom", unfollowed := true, recurses := true, apart := false, narrowed := true }
def FnExactParseAtomUptoSaid : Prop := fnExactParseAtomUptoRow.holds Try.pinned (OpenSpec.upto fnExactParseAtomSpec)

/-- 'laws.FnExactFormatTranslation', WHERE WHAT IT READS IS OF BULK AT MOST 1048576: true; the input reads as it did. -/
def fnExactFormatTranslationUptoRow : OpenClaim := { program := "ytiajaeaffmmckaa", sum := "ae0460da7c40fa354aee9301fce3ad40a8a102f05b1d8303b3778cb702f55119", func := "loop.example/g00882/laws.FnExactFormatTranslation", spec := "fnExactFormatTranslation", inPlace := ["internal/bytealg.IndexByteString", "internal/bytealg.IndexString", "internal/abi.NoEscape", "internal/bytealg.MakeNoZero"], unfollowed := true, recurses := true, named := ["internal/bytealg.MaxLen"], apart := false, narrowed := true }
def FnExactFormatTranslationUptoSaid : Prop := fnExactFormatTranslationUptoRow.holds Try.pinned (OpenSpec.upto fnExactFormatTranslationSpec)

/-- 'laws.FnExactParseTranslation', WHERE WHAT IT READS IS OF BULK AT MOST 1048576: true; the input reads as it did. -/
def fnExactParseTranslationUptoRow : OpenClaim := { program := "ytiajaeaffmmckaa", sum := "ae0460da7c40fa354aee9301fce3ad40a8a102f05b1d8303b3778cb702f55119", func := "loop.example/g00882/laws.FnExactParseTranslation", spec := "fnExactParseTranslation", unfollowed := true, recurses := true, apart := false, narrowed := true }
def FnExactParseTranslationUptoSaid : Prop := fnExactParseTranslationUptoRow.holds Try.pinned (OpenSpec.upto fnExactParseTranslationSpec)

/-- 'laws.FnExactPlainWords', WHERE WHAT IT READS IS OF BULK AT MOST 1048576: true; the input reads as it did. -/
def fnExactPlainWordsUptoRow : OpenClaim := { program := "ytiajaeaffmmckaa", sum := "ae0460da7c40fa354aee9301fce3ad40a8a102f05b1d8303b3778cb702f55119", func := "loop.example/g00882/laws.FnExactPlainWords", spec := "fnExactPlainWords", inPlace := ["internal/bytealg.IndexByteString", "internal/bytealg.IndexString", "internal/abi.NoEscape", "internal/bytealg.MakeNoZero"], unfollowed := true, recurses := true, named := ["internal/bytealg.MaxLen"], apart := false, narrowed := true }
def FnExactPlainWordsUptoSaid : Prop := fnExactPlainWordsUptoRow.holds Try.pinned (OpenSpec.upto fnExactPlainWordsSpec)

end Rows
end Go.Proofs.Ytiajaeaffmmckaa
