/-
  No cell of these rows narrows 'for every input' (looked for: loops, veiled, ifaces, maps, wideKeys, modest, calm, conditions, laid).
  DERIVED. THE GIVEN ROWS OF THIS SEAT. 5 by the template 'for every input the law returns true; each argument reads behind the call as it read before'; 0 by the template 'total and deterministic' (their statements: YthigdblloddepaaTotals.lean).
  GIVEN WITH THE SEED: the statements are not yours to turn. If you find one false, say at which input.
  Laid BY PROGRAM, IN A SANDBOX (cutbox-rows.mjs): the forced cells as the released guide's own fill.sh prints them over the translation 10d118f4cdd78fa7… (all of the seat's roots in one cut). By AI agents, Wed Nov 11 2026. No macro, syntax, notation, axiom, sorry.
-/
import Derived.Test.YthigdblloddepaaChecked
import GoSem.Claim
import GoSem.ClaimJoined
import GoSem.ClaimMapViews
import Derived.JoinedTies
import Derived.KernelRfl
namespace Go.Proofs.Ythigdblloddepaa
/- THE CELL 'sum', in the pinned program and in every row, IS THE sha256 OF THE DUMP (.gsa) THAT YthigdblloddepaaProg.lean LOADS. Nothing in Lean hashes anything: it is a label: what it is worth is what the hold of that sum in a sandbox is worth. -/
noncomputable def Try.pinned : Pinned := { name := "ythigdblloddepaa", sum := "10d118f4cdd78fa7ca79fe375cc86c83e31df48f26903a97564ad3dcd96c67bf", checked := Try.checked }
namespace Rows
def none {H : Type} : Left H := { results := [], args := [] }

/-- 'laws.FnExactMatchAt': WHATEVER THE INPUT: true; the input reads as it did. -/
def fnExactMatchAtSpec : ChangeSpec := { name := "fnExactMatchAt", fn := fun _ => fun
  | [d1, d2, d3] => { results := [.lit (.bool true)], args := [d1, d2, d3] }
  | _ => none }
def fnExactMatchAtRow : OpenClaim := { program := "ythigdblloddepaa", sum := "10d118f4cdd78fa7ca79fe375cc86c83e31df48f26903a97564ad3dcd96c67bf", func := "loop.example/g00882/laws.FnExactMatchAt", spec := "fnExactMatchAt", unfollowed := true, recurses := true, plainKeys := false, apart := false }
def FnExactMatchAtSaid : Prop := fnExactMatchAtRow.holds Try.pinned (OpenSpec.ofChange fnExactMatchAtSpec)

/-- ITS FALSE NEIGHBOUR: 'it returns false'. Refute it at one input. -/
def fnExactMatchAtWrong : ChangeSpec := { name := "fnExactMatchAt", fn := fun _ => fun
  | [d1, d2, d3] => { results := [.lit (.bool false)], args := [d1, d2, d3] }
  | _ => none }
def FnExactMatchAtWrongFalsely : Prop := fnExactMatchAtRow.holds Try.pinned (OpenSpec.ofChange fnExactMatchAtWrong)

/-- 'laws.FnExactSegment': WHATEVER THE INPUT: true; the input reads as it did. -/
def fnExactSegmentSpec : ChangeSpec := { name := "fnExactSegment", fn := fun _ => fun
  | [d1, d2] => { results := [.lit (.bool true)], args := [d1, d2] }
  | _ => none }
def fnExactSegmentRow : OpenClaim := { program := "ythigdblloddepaa", sum := "10d118f4cdd78fa7ca79fe375cc86c83e31df48f26903a97564ad3dcd96c67bf", func := "loop.example/g00882/laws.FnExactSegment", spec := "fnExactSegment", unfollowed := true, recurses := true, plainKeys := false, apart := false }
def FnExactSegmentSaid : Prop := fnExactSegmentRow.holds Try.pinned (OpenSpec.ofChange fnExactSegmentSpec)

/-- ITS FALSE NEIGHBOUR: 'it returns false'. Refute it at one input. -/
def fnExactSegmentWrong : ChangeSpec := { name := "fnExactSegment", fn := fun _ => fun
  | [d1, d2] => { results := [.lit (.bool false)], args := [d1, d2] }
  | _ => none }
def FnExactSegmentWrongFalsely : Prop := fnExactSegmentRow.holds Try.pinned (OpenSpec.ofChange fnExactSegmentWrong)

/-- 'laws.FnExactIsSegmentation': WHATEVER THE INPUT: true; the input reads as it did. -/
def fnExactIsSegmentationSpec : ChangeSpec := { name := "fnExactIsSegmentation", fn := fun _ => fun
  | [d1, d2, d3] => { results := [.lit (.bool true)], args := [d1, d2, d3] }
  | _ => none }
def fnExactIsSegmentationRow : OpenClaim := { program := "ythigdblloddepaa", sum := "10d118f4cdd78fa7ca79fe375cc86c83e31df48f26903a97564ad3dcd96c67bf", func := "loop.example/g00882/laws.FnExactIsSegmentation", spec := "fnExactIsSegmentation", unfollowed := true, recurses := true, plainKeys := false, apart := false }
def FnExactIsSegmentationSaid : Prop := fnExactIsSegmentationRow.holds Try.pinned (OpenSpec.ofChange fnExactIsSegmentationSpec)

/-- ITS FALSE NEIGHBOUR: 'it returns false'. Refute it at one input. -/
def fnExactIsSegmentationWrong : ChangeSpec := { name := "fnExactIsSegmentation", fn := fun _ => fun
  | [d1, d2, d3] => { results := [.lit (.bool false)], args := [d1, d2, d3] }
  | _ => none }
def FnExactIsSegmentationWrongFalsely : Prop := fnExactIsSegmentationRow.holds Try.pinned (OpenSpec.ofChange fnExactIsSegmentationWrong)

/-- 'laws.FnExactCountUntranslated': WHATEVER THE INPUT: true; the input reads as it did. -/
def fnExactCountUntranslatedSpec : ChangeSpec := { name := "fnExactCountUntranslated", fn := fun _ => fun
  | [d] => { results := [.lit (.bool true)], args := [d] }
  | _ => none }
def fnExactCountUntranslatedRow : OpenClaim := { program := "ythigdblloddepaa", sum := "10d118f4cdd78fa7ca79fe375cc86c83e31df48f26903a97564ad3dcd96c67bf", func := "loop.example/g00882/laws.FnExactCountUntranslated", spec := "fnExactCountUntranslated", plainKeys := false, apart := false }
def FnExactCountUntranslatedSaid : Prop := fnExactCountUntranslatedRow.holds Try.pinned (OpenSpec.ofChange fnExactCountUntranslatedSpec)

/-- ITS FALSE NEIGHBOUR: 'it returns false'. Refute it at one input. -/
def fnExactCountUntranslatedWrong : ChangeSpec := { name := "fnExactCountUntranslated", fn := fun _ => fun
  | [d] => { results := [.lit (.bool false)], args := [d] }
  | _ => none }
def FnExactCountUntranslatedWrongFalsely : Prop := fnExactCountUntranslatedRow.holds Try.pinned (OpenSpec.ofChange fnExactCountUntranslatedWrong)

/-- 'laws.FnExactFewestPieces': WHATEVER THE INPUT: true; the input reads as it did. -/
def fnExactFewestPiecesSpec : ChangeSpec := { name := "fnExactFewestPieces", fn := fun _ => fun
  | [d1, d2] => { results := [.lit (.bool true)], args := [d1, d2] }
  | _ => none }
def fnExactFewestPiecesRow : OpenClaim := { program := "ythigdblloddepaa", sum := "10d118f4cdd78fa7ca79fe375cc86c83e31df48f26903a97564ad3dcd96c67bf", func := "loop.example/g00882/laws.FnExactFewestPieces", spec := "fnExactFewestPieces", unfollowed := true, recurses := true, plainKeys := false, apart := false }
def FnExactFewestPiecesSaid : Prop := fnExactFewestPiecesRow.holds Try.pinned (OpenSpec.ofChange fnExactFewestPiecesSpec)

/-- ITS FALSE NEIGHBOUR: 'it returns false'. Refute it at one input. -/
def fnExactFewestPiecesWrong : ChangeSpec := { name := "fnExactFewestPieces", fn := fun _ => fun
  | [d1, d2] => { results := [.lit (.bool false)], args := [d1, d2] }
  | _ => none }
def FnExactFewestPiecesWrongFalsely : Prop := fnExactFewestPiecesRow.holds Try.pinned (OpenSpec.ofChange fnExactFewestPiecesWrong)

/- THE SECOND FORM. 'bulk': how many values and letters a reading holds, each counted each time it is reached (what is shared counts as often as it is met; a slice's spare places count too). A statement '..UptoSaid' is the law's where the arguments, and the package variables that the reading takes, are together of bulk at most 1048576: NARROWER than '..Said'. Prove '..Said' where nothing that the law and all that it calls make is longer than what came in: it says more and counts as full. Else prove '..UptoSaid'. A law counts once. -/
mutual
def uptoBulk {H : Type} : DataW H → Nat
  | .lit (.string bytes) => bytes.length + 1
  | .lit _ => 1
  | .nil => 1
  | .ptr d => uptoBulk d + 1
  | .slice elems spare => uptoBulkAll elems + uptoBulkAll spare + 1
  | .agg parts => uptoBulkAll parts + 1
  | .iface _ d => uptoBulk d + 1
  | .map entries => uptoBulkEntries entries + 1
  | .held _ => 1
def uptoBulkAll {H : Type} : List (DataW H) → Nat
  | [] => 0
  | d :: r => uptoBulk d + uptoBulkAll r
def uptoBulkEntries {H : Type} : List (Lit × DataW H) → Nat
  | [] => 0
  | x :: r => uptoBulkEntry x + uptoBulkEntries r
def uptoBulkEntry {H : Type} : Lit × DataW H → Nat
  | (.string bytes, d) => bytes.length + uptoBulk d + 1
  | (_, d) => uptoBulk d + 1
 end
def uptoSmall : (H : Type) → List (DataW H) → Bool := fun _ ds => decide (uptoBulkAll ds ≤ 1048576)
def OpenSpec.upto (s : _root_.Go.ChangeSpec) : _root_.Go.OpenSpec := { _root_.Go.OpenSpec.ofChange s with cond := some uptoSmall }

/-- 'laws.FnExactMatchAt', WHERE WHAT IT READS IS OF BULK AT MOST 1048576: true; the input reads as it did. -/
def fnExactMatchAtUptoRow : OpenClaim := { program := "ythigdblloddepaa", sum := "10d118f4cdd78fa7ca79fe375cc86c83e31df48f26903a97564ad3dcd96c67bf", func := "loop.example/g00882/laws.FnExactMatchAt", spec := "fnExactMatchAt", unfollowed := true, recurses := true, plainKeys := false, apart := false, narrowed := true }
def FnExactMatchAtUptoSaid : Prop := fnExactMatchAtUptoRow.holds Try.pinned (OpenSpec.upto fnExactMatchAtSpec)

/-- 'laws.FnExactSegment', WHERE WHAT IT READS IS OF BULK AT MOST 1048576: true; the input reads as it did. -/
def fnExactSegmentUptoRow : OpenClaim := { program := "ythigdblloddepaa", sum := "10d118f4cdd78fa7ca79fe375cc86c83e31df48f26903a97564ad3dcd96c67bf", func := "loop.example/g00882/laws.FnExactSegment", spec := "fnExactSegment", unfollowed := true, recurses := true, plainKeys := false, apart := false, narrowed := true }
def FnExactSegmentUptoSaid : Prop := fnExactSegmentUptoRow.holds Try.pinned (OpenSpec.upto fnExactSegmentSpec)

/-- 'laws.FnExactIsSegmentation', WHERE WHAT IT READS IS OF BULK AT MOST 1048576: true; the input reads as it did. -/
def fnExactIsSegmentationUptoRow : OpenClaim := { program := "ythigdblloddepaa", sum := "10d118f4cdd78fa7ca79fe375cc86c83e31df48f26903a97564ad3dcd96c67bf", func := "loop.example/g00882/laws.FnExactIsSegmentation", spec := "fnExactIsSegmentation", unfollowed := true, recurses := true, plainKeys := false, apart := false, narrowed := true }
def FnExactIsSegmentationUptoSaid : Prop := fnExactIsSegmentationUptoRow.holds Try.pinned (OpenSpec.upto fnExactIsSegmentationSpec)

/-- 'laws.FnExactCountUntranslated', WHERE WHAT IT READS IS OF BULK AT MOST 1048576: true; the input reads as it did. -/
def fnExactCountUntranslatedUptoRow : OpenClaim := { program := "ythigdblloddepaa", sum := "10d118f4cdd78fa7ca79fe375cc86c83e31df48f26903a97564ad3dcd96c67bf", func := "loop.example/g00882/laws.FnExactCountUntranslated", spec := "fnExactCountUntranslated", plainKeys := false, apart := false, narrowed := true }
def FnExactCountUntranslatedUptoSaid : Prop := fnExactCountUntranslatedUptoRow.holds Try.pinned (OpenSpec.upto fnExactCountUntranslatedSpec)

/-- 'laws.FnExactFewestPieces', WHERE WHAT IT READS IS OF BULK AT MOST 1048576: true; the input reads as it did. -/
def fnExactFewestPiecesUptoRow : OpenClaim := { program := "ythigdblloddepaa", sum := "10d118f4cdd78fa7ca79fe375cc86c83e31df48f26903a97564ad3dcd96c67bf", func := "loop.example/g00882/laws.FnExactFewestPieces", spec := "fnExactFewestPieces", unfollowed := true, recurses := true, plainKeys := false, apart := false, narrowed := true }
def FnExactFewestPiecesUptoSaid : Prop := fnExactFewestPiecesUptoRow.holds Try.pinned (OpenSpec.upto fnExactFewestPiecesSpec)

end Rows
end Go.Proofs.Ythigdblloddepaa
