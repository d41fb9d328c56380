/-
  No cell of these rows narrows 'for every input' (looked for: loops, veiled, ifaces, maps, wideKeys, modest, calm, conditions, laid).
  DERIVED. THE GIVEN ROWS OF THIS SEAT. 6 by the template 'for every input the law returns true; each argument reads behind the call as it read before'; 0 by the template 'total and deterministic' (their statements: YtnjbaomekbiflaaTotals.lean).
  GIVEN WITH THE SEED: the statements are not yours to turn. If you find one false, say at which input.
  Laid BY PROGRAM, IN A SANDBOX (cutbox-rows.mjs): the forced cells as the released guide's own fill.sh prints them over the translation 5c4b9dc64fa553a5… (all of the seat's roots in one cut). By AI agents, Wed Nov 11 2026. No macro, syntax, notation, axiom, sorry.
-/
import Derived.Test.YtnjbaomekbiflaaChecked
import GoSem.Claim
import GoSem.ClaimJoined
import GoSem.ClaimMapViews
import Derived.JoinedTies
import Derived.KernelRfl
namespace Go.Proofs.Ytnjbaomekbiflaa
/- THE CELL 'sum', in the pinned program and in every row, IS THE sha256 OF THE DUMP (.gsa) THAT YtnjbaomekbiflaaProg.lean LOADS. Nothing in Lean hashes anything: it is a label: what it is worth is what the hold of that sum in a sandbox is worth. -/
noncomputable def Try.pinned : Pinned := { name := "ytnjbaomekbiflaa", sum := "5c4b9dc64fa553a5c458c7aea5e0fd81b5f80f51811056c758dcf27a02262d5a", checked := Try.checked }
namespace Rows
def none {H : Type} : Left H := { results := [], args := [] }

/-- 'laws.FnExactDefaultFolds': WHATEVER THE INPUT: true; the input reads as it did. -/
def fnExactDefaultFoldsSpec : ChangeSpec := { name := "fnExactDefaultFolds", fn := fun _ => fun
  | [] => { results := [.lit (.bool true)], args := [] }
  | _ => none }
def fnExactDefaultFoldsRow : OpenClaim := { program := "ytnjbaomekbiflaa", sum := "5c4b9dc64fa553a5c458c7aea5e0fd81b5f80f51811056c758dcf27a02262d5a", func := "loop.example/g00882/laws.FnExactDefaultFolds", spec := "fnExactDefaultFolds", apart := false }
def FnExactDefaultFoldsSaid : Prop := fnExactDefaultFoldsRow.holds Try.pinned (OpenSpec.ofChange fnExactDefaultFoldsSpec)

/-- ITS FALSE NEIGHBOUR: 'it returns false'. Refute it at one input. -/
def fnExactDefaultFoldsWrong : ChangeSpec := { name := "fnExactDefaultFolds", fn := fun _ => fun
  | [] => { results := [.lit (.bool false)], args := [] }
  | _ => none }
def FnExactDefaultFoldsWrongFalsely : Prop := fnExactDefaultFoldsRow.holds Try.pinned (OpenSpec.ofChange fnExactDefaultFoldsWrong)

/-- 'laws.FnExactIsValidFolds': WHATEVER THE INPUT: true; the input reads as it did. -/
def fnExactIsValidFoldsSpec : ChangeSpec := { name := "fnExactIsValidFolds", fn := fun _ => fun
  | [d] => { results := [.lit (.bool true)], args := [d] }
  | _ => none }
def fnExactIsValidFoldsRow : OpenClaim := { program := "ytnjbaomekbiflaa", sum := "5c4b9dc64fa553a5c458c7aea5e0fd81b5f80f51811056c758dcf27a02262d5a", func := "loop.example/g00882/laws.FnExactIsValidFolds", spec := "fnExactIsValidFolds", apart := false }
def FnExactIsValidFoldsSaid : Prop := fnExactIsValidFoldsRow.holds Try.pinned (OpenSpec.ofChange fnExactIsValidFoldsSpec)

/-- ITS FALSE NEIGHBOUR: 'it returns false'. Refute it at one input. -/
def fnExactIsValidFoldsWrong : ChangeSpec := { name := "fnExactIsValidFolds", fn := fun _ => fun
  | [d] => { results := [.lit (.bool false)], args := [d] }
  | _ => none }
def FnExactIsValidFoldsWrongFalsely : Prop := fnExactIsValidFoldsRow.holds Try.pinned (OpenSpec.ofChange fnExactIsValidFoldsWrong)

/-- 'laws.FnExactUnfold': WHATEVER THE INPUT: true; the input reads as it did. -/
def fnExactUnfoldSpec : ChangeSpec := { name := "fnExactUnfold", fn := fun _ => fun
  | [d1, d2] => { results := [.lit (.bool true)], args := [d1, d2] }
  | _ => none }
def fnExactUnfoldRow : OpenClaim := { program := "ytnjbaomekbiflaa", sum := "5c4b9dc64fa553a5c458c7aea5e0fd81b5f80f51811056c758dcf27a02262d5a", func := "loop.example/g00882/laws.FnExactUnfold", spec := "fnExactUnfold", unfollowed := true, recurses := true, apart := false }
def FnExactUnfoldSaid : Prop := fnExactUnfoldRow.holds Try.pinned (OpenSpec.ofChange fnExactUnfoldSpec)

/-- ITS FALSE NEIGHBOUR: 'it returns false'. Refute it at one input. -/
def fnExactUnfoldWrong : ChangeSpec := { name := "fnExactUnfold", fn := fun _ => fun
  | [d1, d2] => { results := [.lit (.bool false)], args := [d1, d2] }
  | _ => none }
def FnExactUnfoldWrongFalsely : Prop := fnExactUnfoldRow.holds Try.pinned (OpenSpec.ofChange fnExactUnfoldWrong)

/-- 'laws.FnExactFoldInto': WHATEVER THE INPUT: true; the input reads as it did. -/
def fnExactFoldIntoSpec : ChangeSpec := { name := "fnExactFoldInto", fn := fun _ => fun
  | [d1, d2] => { results := [.lit (.bool true)], args := [d1, d2] }
  | _ => none }
def fnExactFoldIntoRow : OpenClaim := { program := "ytnjbaomekbiflaa", sum := "5c4b9dc64fa553a5c458c7aea5e0fd81b5f80f51811056c758dcf27a02262d5a", func := "loop.example/g00882/laws.FnExactFoldInto", spec := "fnExactFoldInto", unfollowed := true, recurses := true, apart := false }
def FnExactFoldIntoSaid : Prop := fnExactFoldIntoRow.holds Try.pinned (OpenSpec.ofChange fnExactFoldIntoSpec)

/-- ITS FALSE NEIGHBOUR: 'it returns false'. Refute it at one input. -/
def fnExactFoldIntoWrong : ChangeSpec := { name := "fnExactFoldInto", fn := fun _ => fun
  | [d1, d2] => { results := [.lit (.bool false)], args := [d1, d2] }
  | _ => none }
def FnExactFoldIntoWrongFalsely : Prop := fnExactFoldIntoRow.holds Try.pinned (OpenSpec.ofChange fnExactFoldIntoWrong)

/-- 'laws.FnExactFoldedText': WHATEVER THE INPUT: true; the input reads as it did. -/
def fnExactFoldedTextSpec : ChangeSpec := { name := "fnExactFoldedText", fn := fun _ => fun
  | [d1, d2] => { results := [.lit (.bool true)], args := [d1, d2] }
  | _ => none }
def fnExactFoldedTextRow : OpenClaim := { program := "ytnjbaomekbiflaa", sum := "5c4b9dc64fa553a5c458c7aea5e0fd81b5f80f51811056c758dcf27a02262d5a", func := "loop.example/g00882/laws.FnExactFoldedText", spec := "fnExactFoldedText", inPlace := ["internal/bytealg.IndexByteString", "internal/bytealg.IndexString", "internal/abi.NoEscape", "internal/bytealg.MakeNoZero"], unfollowed := true, recurses := true, named := ["internal/bytealg.MaxLen"], apart := false }
def FnExactFoldedTextSaid : Prop := fnExactFoldedTextRow.holds Try.pinned (OpenSpec.ofChange fnExactFoldedTextSpec)

/-- ITS FALSE NEIGHBOUR: 'it returns false'. Refute it at one input. -/
def fnExactFoldedTextWrong : ChangeSpec := { name := "fnExactFoldedText", fn := fun _ => fun
  | [d1, d2] => { results := [.lit (.bool false)], args := [d1, d2] }
  | _ => none }
def FnExactFoldedTextWrongFalsely : Prop := fnExactFoldedTextRow.holds Try.pinned (OpenSpec.ofChange fnExactFoldedTextWrong)

/-- 'laws.FnFoldInverse': WHATEVER THE INPUT: true; the input reads as it did. -/
def fnFoldInverseSpec : ChangeSpec := { name := "fnFoldInverse", fn := fun _ => fun
  | [d] => { results := [.lit (.bool true)], args := [d] }
  | _ => none }
def fnFoldInverseRow : OpenClaim := { program := "ytnjbaomekbiflaa", sum := "5c4b9dc64fa553a5c458c7aea5e0fd81b5f80f51811056c758dcf27a02262d5a", func := "loop.example/g00882/laws.FnFoldInverse", spec := "fnFoldInverse", unfollowed := true, recurses := true, apart := false }
def FnFoldInverseSaid : Prop := fnFoldInverseRow.holds Try.pinned (OpenSpec.ofChange fnFoldInverseSpec)

/-- ITS FALSE NEIGHBOUR: 'it returns false'. Refute it at one input. -/
def fnFoldInverseWrong : ChangeSpec := { name := "fnFoldInverse", fn := fun _ => fun
  | [d] => { results := [.lit (.bool false)], args := [d] }
  | _ => none }
def FnFoldInverseWrongFalsely : Prop := fnFoldInverseRow.holds Try.pinned (OpenSpec.ofChange fnFoldInverseWrong)

/- THE SECOND FORM. 'bulk': how many values and letters a reading holds, each counted each time it is reached (what is shared counts as often as it is met; a slice's spare places count too). A statement '..UptoSaid' is the law's where the arguments, and the package variables that the reading takes, are together of bulk at most 1048576: NARROWER than '..Said'. Prove '..Said' where nothing that the law and all that it calls make is longer than what came in: it says more and counts as full. Else prove '..UptoSaid'. A law counts once. -/
mutual
def uptoBulk {H : Type} : DataW H → Nat
  | .lit (.string bytes) => bytes.length + 1
  | .lit _ => 1
  | .nil => 1
  | .ptr d => uptoBulk d + 1
  | .slice elems spare => uptoBulkAll elems + uptoBulkAll spare + 1
  | .agg parts => uptoBulkAll parts + 1
  | .iface _ d => uptoBulk d + 1
  | .map entries => uptoBulkEntries entries + 1
  | .held _ => 1
def uptoBulkAll {H : Type} : List (DataW H) → Nat
  | [] => 0
  | d :: r => uptoBulk d + uptoBulkAll r
def uptoBulkEntries {H : Type} : List (Lit × DataW H) → Nat
  | [] => 0
  | x :: r => uptoBulkEntry x + uptoBulkEntries r
def uptoBulkEntry {H : Type} : Lit × DataW H → Nat
  | (.string bytes, d) => bytes.length + uptoBulk d + 1
  | (_, d) => uptoBulk d + 1
 end
def uptoSmall : (H : Type) → List (DataW H) → Bool := fun _ ds => decide (uptoBulkAll ds ≤ 1048576)
def OpenSpec.upto (s : _root_.Go.ChangeSpec) : _root_.Go.OpenSpec := { _root_.Go.OpenSpec.ofChange s with cond := some uptoSmall }

/-- 'laws.FnExactDefaultFolds', WHERE WHAT IT READS IS OF BULK AT MOST 1048576: true; the input reads as it did. -/
def fnExactDefaultFoldsUptoRow : OpenClaim := { program := "ytnjbaomekbiflaa", sum := "5c4b9dc64fa553a5c458c7aea5e0fd81b5f80f51811056c758dcf27a02262d5a", func := "loop.example/g00882/laws.FnExactDefaultFolds", spec := "fnExactDefaultFolds", apart := false, narrowed := true }
def FnExactDefaultFoldsUptoSaid : Prop := fnExactDefaultFoldsUptoRow.holds Try.pinned (OpenSpec.upto fnExactDefaultFoldsSpec)

/-- 'laws.FnExactIsValidFolds', WHERE WHAT IT READS IS OF BULK AT MOST 1048576: true; the input reads as it did. -/
def fnExactIsValidFoldsUptoRow : OpenClaim := { program := "ytnjbaomekbiflaa", sum := "5c4b9dc64fa553a5c458c7aea5e0fd81b5f80f51811056c758dcf27a02262d5a", func := "loop.example/g00882/laws.FnExactIsValidFolds", spec := "fnExactIsValidFolds", apart := false, narrowed := true }
def FnExactIsValidFoldsUptoSaid : Prop := fnExactIsValidFoldsUptoRow.holds Try.pinned (OpenSpec.upto fnExactIsValidFoldsSpec)

/-- 'laws.FnExactUnfold', WHERE WHAT IT READS IS OF BULK AT MOST 1048576: true; the input reads as it did. -/
def fnExactUnfoldUptoRow : OpenClaim := { program := "ytnjbaomekbiflaa", sum := "5c4b9dc64fa553a5c458c7aea5e0fd81b5f80f51811056c758dcf27a02262d5a", func := "loop.example/g00882/laws.FnExactUnfold", spec := "fnExactUnfold", unfollowed := true, recurses := true, apart := false, narrowed := true }
def FnExactUnfoldUptoSaid : Prop := fnExactUnfoldUptoRow.holds Try.pinned (OpenSpec.upto fnExactUnfoldSpec)

/-- 'laws.FnExactFoldInto', WHERE WHAT IT READS IS OF BULK AT MOST 1048576: true; the input reads as it did. -/
def fnExactFoldIntoUptoRow : OpenClaim := { program := "ytnjbaomekbiflaa", sum := "5c4b9dc64fa553a5c458c7aea5e0fd81b5f80f51811056c758dcf27a02262d5a", func := "loop.example/g00882/laws.FnExactFoldInto", spec := "fnExactFoldInto", unfollowed := true, recurses := true, apart := false, narrowed := true }
def FnExactFoldIntoUptoSaid : Prop := fnExactFoldIntoUptoRow.holds Try.pinned (OpenSpec.upto fnExactFoldIntoSpec)

/-- 'laws.FnExactFoldedText', WHERE WHAT IT READS IS OF BULK AT MOST 1048576: true; the input reads as it did. -/
def fnExactFoldedTextUptoRow : OpenClaim := { program := "ytnjbaomekbiflaa", sum := "5c4b9dc64fa553a5c458c7aea5e0fd81b5f80f51811056c758dcf27a02262d5a", func := "loop.example/g00882/laws.FnExactFoldedText", spec := "fnExactFoldedText", inPlace := ["internal/bytealg.IndexByteString", "internal/bytealg.IndexString", "internal/abi.NoEscape", "internal/bytealg.MakeNoZero"], unfollowed := true, recurses := true, named := ["internal/bytealg.MaxLen"], apart := false, narrowed := true }
def FnExactFoldedTextUptoSaid : Prop := fnExactFoldedTextUptoRow.holds Try.pinned (OpenSpec.upto fnExactFoldedTextSpec)

/-- 'laws.FnFoldInverse', WHERE WHAT IT READS IS OF BULK AT MOST 1048576: true; the input reads as it did. -/
def fnFoldInverseUptoRow : OpenClaim := { program := "ytnjbaomekbiflaa", sum := "5c4b9dc64fa553a5c458c7aea5e0fd81b5f80f51811056c758dcf27a02262d5a", func := "loop.example/g00882/laws.FnFoldInverse", spec := "fnFoldInverse", unfollowed := true, recurses := true, apart := false, narrowed := true }
def FnFoldInverseUptoSaid : Prop := fnFoldInverseUptoRow.holds Try.pinned (OpenSpec.upto fnFoldInverseSpec)

end Rows
end Go.Proofs.Ytnjbaomekbiflaa
