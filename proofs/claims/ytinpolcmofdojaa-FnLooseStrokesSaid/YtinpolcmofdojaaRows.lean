/-
  No cell of these rows narrows 'for every input' (looked for: loops, veiled, ifaces, maps, wideKeys, modest, calm, conditions, laid).
  DERIVED. THE GIVEN ROWS OF THIS SEAT. 11 by the template 'for every input the law returns true; each argument reads behind the call as it read before'; 0 by the template 'total and deterministic' (their statements: YtinpolcmofdojaaTotals.lean).
  GIVEN WITH THE SEED: the statements are not yours to turn. If you find one false, say at which input.
  Laid BY PROGRAM, IN A SANDBOX (cutbox-rows.mjs): the forced cells as the released guide's own fill.sh prints them over the translation 004b00721c32d134… (all of the seat's roots in one cut). By AI agents, Wed Nov 11 2026. No macro, syntax, notation, axiom, sorry.
-/
import Derived.Test.YtinpolcmofdojaaChecked
import GoSem.Claim
import GoSem.ClaimJoined
import GoSem.ClaimMapViews
import Derived.JoinedTies
import Derived.KernelRfl
namespace Go.Proofs.Ytinpolcmofdojaa
/- THE CELL 'sum', in the pinned program and in every row, IS THE sha256 OF THE DUMP (.gsa) THAT YtinpolcmofdojaaProg.lean LOADS. Nothing in Lean hashes anything: it is a label: what it is worth is what the hold of that sum in a sandbox is worth. -/
noncomputable def Try.pinned : Pinned := { name := "ytinpolcmofdojaa", sum := "004b00721c32d134cae8c661f7bb9fb118092ffbcb6aa74966866ff4ca659095", checked := Try.checked }
namespace Rows
def none {H : Type} : Left H := { results := [], args := [] }

/-- 'laws.FnStrokes': WHATEVER THE INPUT: true; the input reads as it did. -/
def fnStrokesSpec : ChangeSpec := { name := "fnStrokes", fn := fun _ => fun
  | [d] => { results := [.lit (.bool true)], args := [d] }
  | _ => none }
def fnStrokesRow : OpenClaim := { program := "ytinpolcmofdojaa", sum := "004b00721c32d134cae8c661f7bb9fb118092ffbcb6aa74966866ff4ca659095", func := "loop.example/g00882/laws.FnStrokes", spec := "fnStrokes", inPlace := ["internal/abi.NoEscape", "internal/bytealg.IndexByteString"], apart := false }
def FnStrokesSaid : Prop := fnStrokesRow.holds Try.pinned (OpenSpec.ofChange fnStrokesSpec)

/-- ITS FALSE NEIGHBOUR: 'it returns false'. Refute it at one input. -/
def fnStrokesWrong : ChangeSpec := { name := "fnStrokes", fn := fun _ => fun
  | [d] => { results := [.lit (.bool false)], args := [d] }
  | _ => none }
def FnStrokesWrongFalsely : Prop := fnStrokesRow.holds Try.pinned (OpenSpec.ofChange fnStrokesWrong)

/-- 'laws.FnLooseStrokes': WHATEVER THE INPUT: true; the input reads as it did. -/
def fnLooseStrokesSpec : ChangeSpec := { name := "fnLooseStrokes", fn := fun _ => fun
  | [d] => { results := [.lit (.bool true)], args := [d] }
  | _ => none }
def fnLooseStrokesRow : OpenClaim := { program := "ytinpolcmofdojaa", sum := "004b00721c32d134cae8c661f7bb9fb118092ffbcb6aa74966866ff4ca659095", func := "loop.example/g00882/laws.FnLooseStrokes", spec := "fnLooseStrokes", inPlace := ["internal/bytealg.IndexByteString", "internal/abi.NoEscape"], apart := false }
def FnLooseStrokesSaid : Prop := fnLooseStrokesRow.holds Try.pinned (OpenSpec.ofChange fnLooseStrokesSpec)

/-- ITS FALSE NEIGHBOUR: 'it returns false'. Refute it at one input. -/
def fnLooseStrokesWrong : ChangeSpec := { name := "fnLooseStrokes", fn := fun _ => fun
  | [d] => { results := [.lit (.bool false)], args := [d] }
  | _ => none }
def FnLooseStrokesWrongFalsely : Prop := fnLooseStrokesRow.holds Try.pinned (OpenSpec.ofChange fnLooseStrokesWrong)

/-- 'laws.FnKeys': WHATEVER THE INPUT: true; the input reads as it did. -/
def fnKeysSpec : ChangeSpec := { name := "fnKeys", fn := fun _ => fun
  | [d] => { results := [.lit (.bool true)], args := [d] }
  | _ => none }
def fnKeysRow : OpenClaim := { program := "ytinpolcmofdojaa", sum := "004b00721c32d134cae8c661f7bb9fb118092ffbcb6aa74966866ff4ca659095", func := "loop.example/g00882/laws.FnKeys", spec := "fnKeys", apart := false }
def FnKeysSaid : Prop := fnKeysRow.holds Try.pinned (OpenSpec.ofChange fnKeysSpec)

/-- ITS FALSE NEIGHBOUR: 'it returns false'. Refute it at one input. -/
def fnKeysWrong : ChangeSpec := { name := "fnKeys", fn := fun _ => fun
  | [d] => { results := [.lit (.bool false)], args := [d] }
  | _ => none }
def FnKeysWrongFalsely : Prop := fnKeysRow.holds Try.pinned (OpenSpec.ofChange fnKeysWrong)

/-- 'laws.FnExactIsValidStroke': WHATEVER THE INPUT: true; the input reads as it did. -/
def fnExactIsValidStrokeSpec : ChangeSpec := { name := "fnExactIsValidStroke", fn := fun _ => fun
  | [d] => { results := [.lit (.bool true)], args := [d] }
  | _ => none }
def fnExactIsValidStrokeRow : OpenClaim := { program := "ytinpolcmofdojaa", sum := "004b00721c32d134cae8c661f7bb9fb118092ffbcb6aa74966866ff4ca659095", func := "loop.example/g00882/laws.FnExactIsValidStroke", spec := "fnExactIsValidStroke", apart := false }
def FnExactIsValidStrokeSaid : Prop := fnExactIsValidStrokeRow.holds Try.pinned (OpenSpec.ofChange fnExactIsValidStrokeSpec)

/-- ITS FALSE NEIGHBOUR: 'it returns false'. Refute it at one input. -/
def fnExactIsValidStrokeWrong : ChangeSpec := { name := "fnExactIsValidStroke", fn := fun _ => fun
  | [d] => { results := [.lit (.bool false)], args := [d] }
  | _ => none }
def FnExactIsValidStrokeWrongFalsely : Prop := fnExactIsValidStrokeRow.holds Try.pinned (OpenSpec.ofChange fnExactIsValidStrokeWrong)

/-- 'laws.FnExactFormatStroke': WHATEVER THE INPUT: true; the input reads as it did. -/
def fnExactFormatStrokeSpec : ChangeSpec := { name := "fnExactFormatStroke", fn := fun _ => fun
  | [d] => { results := [.lit (.bool true)], args := [d] }
  | _ => none }
def fnExactFormatStrokeRow : OpenClaim := { program := "ytinpolcmofdojaa", sum := "004b00721c32d134cae8c661f7bb9fb118092ffbcb6aa74966866ff4ca659095", func := "loop.example/g00882/laws.FnExactFormatStroke", spec := "fnExactFormatStroke", inPlace := ["internal/abi.NoEscape"], apart := false }
def FnExactFormatStrokeSaid : Prop := fnExactFormatStrokeRow.holds Try.pinned (OpenSpec.ofChange fnExactFormatStrokeSpec)

/-- ITS FALSE NEIGHBOUR: 'it returns false'. Refute it at one input. -/
def fnExactFormatStrokeWrong : ChangeSpec := { name := "fnExactFormatStroke", fn := fun _ => fun
  | [d] => { results := [.lit (.bool false)], args := [d] }
  | _ => none }
def FnExactFormatStrokeWrongFalsely : Prop := fnExactFormatStrokeRow.holds Try.pinned (OpenSpec.ofChange fnExactFormatStrokeWrong)

/-- 'laws.FnExactParseStroke': WHATEVER THE INPUT: true; the input reads as it did. -/
def fnExactParseStrokeSpec : ChangeSpec := { name := "fnExactParseStroke", fn := fun _ => fun
  | [d] => { results := [.lit (.bool true)], args := [d] }
  | _ => none }
def fnExactParseStrokeRow : OpenClaim := { program := "ytinpolcmofdojaa", sum := "004b00721c32d134cae8c661f7bb9fb118092ffbcb6aa74966866ff4ca659095", func := "loop.example/g00882/laws.FnExactParseStroke", spec := "fnExactParseStroke", inPlace := ["internal/bytealg.IndexByteString", "internal/abi.NoEscape"], apart := false }
def FnExactParseStrokeSaid : Prop := fnExactParseStrokeRow.holds Try.pinned (OpenSpec.ofChange fnExactParseStrokeSpec)

/-- ITS FALSE NEIGHBOUR: 'it returns false'. Refute it at one input. -/
def fnExactParseStrokeWrong : ChangeSpec := { name := "fnExactParseStroke", fn := fun _ => fun
  | [d] => { results := [.lit (.bool false)], args := [d] }
  | _ => none }
def FnExactParseStrokeWrongFalsely : Prop := fnExactParseStrokeRow.holds Try.pinned (OpenSpec.ofChange fnExactParseStrokeWrong)

/-- 'laws.FnExactParseLooseStroke': WHATEVER THE INPUT: true; the input reads as it did. -/
def fnExactParseLooseStrokeSpec : ChangeSpec := { name := "fnExactParseLooseStroke", fn := fun _ => fun
  | [d] => { results := [.lit (.bool true)], args := [d] }
  | _ => none }
def fnExactParseLooseStrokeRow : OpenClaim := { program := "ytinpolcmofdojaa", sum := "004b00721c32d134cae8c661f7bb9fb118092ffbcb6aa74966866ff4ca659095", func := "loop.example/g00882/laws.FnExactParseLooseStroke", spec := "fnExactParseLooseStroke", inPlace := ["internal/bytealg.IndexByteString"], apart := false }
def FnExactParseLooseStrokeSaid : Prop := fnExactParseLooseStrokeRow.holds Try.pinned (OpenSpec.ofChange fnExactParseLooseStrokeSpec)

/-- ITS FALSE NEIGHBOUR: 'it returns false'. Refute it at one input. -/
def fnExactParseLooseStrokeWrong : ChangeSpec := { name := "fnExactParseLooseStroke", fn := fun _ => fun
  | [d] => { results := [.lit (.bool false)], args := [d] }
  | _ => none }
def FnExactParseLooseStrokeWrongFalsely : Prop := fnExactParseLooseStrokeRow.holds Try.pinned (OpenSpec.ofChange fnExactParseLooseStrokeWrong)

/-- 'laws.FnExactKeysOf': WHATEVER THE INPUT: true; the input reads as it did. -/
def fnExactKeysOfSpec : ChangeSpec := { name := "fnExactKeysOf", fn := fun _ => fun
  | [d] => { results := [.lit (.bool true)], args := [d] }
  | _ => none }
def fnExactKeysOfRow : OpenClaim := { program := "ytinpolcmofdojaa", sum := "004b00721c32d134cae8c661f7bb9fb118092ffbcb6aa74966866ff4ca659095", func := "loop.example/g00882/laws.FnExactKeysOf", spec := "fnExactKeysOf", apart := false }
def FnExactKeysOfSaid : Prop := fnExactKeysOfRow.holds Try.pinned (OpenSpec.ofChange fnExactKeysOfSpec)

/-- ITS FALSE NEIGHBOUR: 'it returns false'. Refute it at one input. -/
def fnExactKeysOfWrong : ChangeSpec := { name := "fnExactKeysOf", fn := fun _ => fun
  | [d] => { results := [.lit (.bool false)], args := [d] }
  | _ => none }
def FnExactKeysOfWrongFalsely : Prop := fnExactKeysOfRow.holds Try.pinned (OpenSpec.ofChange fnExactKeysOfWrong)

/-- 'laws.FnExactNewStroke': WHATEVER THE INPUT: true; the input reads as it did. -/
def fnExactNewStrokeSpec : ChangeSpec := { name := "fnExactNewStroke", fn := fun _ => fun
  | [d] => { results := [.lit (.bool true)], args := [d] }
  | _ => none }
def fnExactNewStrokeRow : OpenClaim := { program := "ytinpolcmofdojaa", sum := "004b00721c32d134cae8c661f7bb9fb118092ffbcb6aa74966866ff4ca659095", func := "loop.example/g00882/laws.FnExactNewStroke", spec := "fnExactNewStroke", apart := false }
def FnExactNewStrokeSaid : Prop := fnExactNewStrokeRow.holds Try.pinned (OpenSpec.ofChange fnExactNewStrokeSpec)

/-- ITS FALSE NEIGHBOUR: 'it returns false'. Refute it at one input. -/
def fnExactNewStrokeWrong : ChangeSpec := { name := "fnExactNewStroke", fn := fun _ => fun
  | [d] => { results := [.lit (.bool false)], args := [d] }
  | _ => none }
def FnExactNewStrokeWrongFalsely : Prop := fnExactNewStrokeRow.holds Try.pinned (OpenSpec.ofChange fnExactNewStrokeWrong)

/-- 'laws.FnExactHasKey': WHATEVER THE INPUT: true; the input reads as it did. -/
def fnExactHasKeySpec : ChangeSpec := { name := "fnExactHasKey", fn := fun _ => fun
  | [d1, d2] => { results := [.lit (.bool true)], args := [d1, d2] }
  | _ => none }
def fnExactHasKeyRow : OpenClaim := { program := "ytinpolcmofdojaa", sum := "004b00721c32d134cae8c661f7bb9fb118092ffbcb6aa74966866ff4ca659095", func := "loop.example/g00882/laws.FnExactHasKey", spec := "fnExactHasKey", apart := false }
def FnExactHasKeySaid : Prop := fnExactHasKeyRow.holds Try.pinned (OpenSpec.ofChange fnExactHasKeySpec)

/-- ITS FALSE NEIGHBOUR: 'it returns false'. Refute it at one input. -/
def fnExactHasKeyWrong : ChangeSpec := { name := "fnExactHasKey", fn := fun _ => fun
  | [d1, d2] => { results := [.lit (.bool false)], args := [d1, d2] }
  | _ => none }
def FnExactHasKeyWrongFalsely : Prop := fnExactHasKeyRow.holds Try.pinned (OpenSpec.ofChange fnExactHasKeyWrong)

/-- 'laws.FnExactMergeStrokes': WHATEVER THE INPUT: true; the input reads as it did. -/
def fnExactMergeStrokesSpec : ChangeSpec := { name := "fnExactMergeStrokes", fn := fun _ => fun
  | [d1, d2] => { results := [.lit (.bool true)], args := [d1, d2] }
  | _ => none }
def fnExactMergeStrokesRow : OpenClaim := { program := "ytinpolcmofdojaa", sum := "004b00721c32d134cae8c661f7bb9fb118092ffbcb6aa74966866ff4ca659095", func := "loop.example/g00882/laws.FnExactMergeStrokes", spec := "fnExactMergeStrokes", apart := false }
def FnExactMergeStrokesSaid : Prop := fnExactMergeStrokesRow.holds Try.pinned (OpenSpec.ofChange fnExactMergeStrokesSpec)

/-- ITS FALSE NEIGHBOUR: 'it returns false'. Refute it at one input. -/
def fnExactMergeStrokesWrong : ChangeSpec := { name := "fnExactMergeStrokes", fn := fun _ => fun
  | [d1, d2] => { results := [.lit (.bool false)], args := [d1, d2] }
  | _ => none }
def FnExactMergeStrokesWrongFalsely : Prop := fnExactMergeStrokesRow.holds Try.pinned (OpenSpec.ofChange fnExactMergeStrokesWrong)

/- THE SECOND FORM. 'bulk': how many values and letters a reading holds, each counted each time it is reached (what is shared counts as often as it is met; a slice's spare places count too). A statement '..UptoSaid' is the law's where the arguments, and the package variables that the reading takes, are together of bulk at most 1048576: NARROWER than '..Said'. Prove '..Said' where nothing that the law and all that it calls make is longer than what came in: it says more and counts as full. Else prove '..UptoSaid'. A law counts once. -/
mutual
def uptoBulk {H : Type} : DataW H → Nat
  | .lit (.string bytes) => bytes.length + 1
  | .lit _ => 1
  | .nil => 1
  | .ptr d => uptoBulk d + 1
  | .slice elems spare => uptoBulkAll elems + uptoBulkAll spare + 1
  | .agg parts => uptoBulkAll parts + 1
  | .iface _ d => uptoBulk d + 1
  | .map entries => uptoBulkEntries entries + 1
  | .held _ => 1
def uptoBulkAll {H : Type} : List (DataW H) → Nat
  | [] => 0
  | d :: r => uptoBulk d + uptoBulkAll r
def uptoBulkEntries {H : Type} : List (Lit × DataW H) → Nat
  | [] => 0
  | x :: r => uptoBulkEntry x + uptoBulkEntries r
def uptoBulkEntry {H : Type} : Lit × DataW H → Nat
  | (.string bytes, d) => bytes.length + uptoBulk d + 1
  | (_, d) => uptoBulk d + 1
 end
def uptoSmall : (H : Type) → List (DataW H) → Bool := fun _ ds => decide (uptoBulkAll ds ≤ 1048576)
def OpenSpec.upto (s : _root_.Go.ChangeSpec) : _root_.Go.OpenSpec := { _root_.Go.OpenSpec.ofChange s with cond := some uptoSmall }

/-- 'laws.FnStrokes', WHERE WHAT IT READS IS OF BULK AT MOST 1048576: true; the input reads as it did. -/
def fnStrokesUptoRow : OpenClaim := { program := "ytinpolcmofdojaa", sum := "004b00721c32d134cae8c661f7bb9fb118092ffbcb6aa74966866ff4ca659095", func := "loop.example/g00882/laws.FnStrokes", spec := "fnStrokes", inPlace := ["internal/abi.NoEscape", "internal/bytealg.IndexByteString"], apart := false, narrowed := true }
def FnStrokesUptoSaid : Prop := fnStrokesUptoRow.holds Try.pinned (OpenSpec.upto fnStrokesSpec)

/-- 'laws.FnLooseStrokes', WHERE WHAT IT READS IS OF BULK AT MOST 1048576: true; the input reads as it did. -/
def fnLooseStrokesUptoRow : OpenClaim := { program := "ytinpolcmofdojaa", sum := "004b00721c32d134cae8c661f7bb9fb118092ffbcb6aa74966866ff4ca659095", func := "loop.example/g00882/laws.FnLooseStrokes", spec := "fnLooseStrokes", inPlace := ["internal/bytealg.IndexByteString", "internal/abi.NoEscape"], apart := false, narrowed := true }
def FnLooseStrokesUptoSaid : Prop := fnLooseStrokesUptoRow.holds Try.pinned (OpenSpec.upto fnLooseStrokesSpec)

/-- 'laws.FnKeys', WHERE WHAT IT READS IS OF BULK AT MOST 1048576: true; the input reads as it did. -/
def fnKeysUptoRow : OpenClaim := { program := "ytinpolcmofdojaa", sum := "004b00721c32d134cae8c661f7bb9fb118092ffbcb6aa74966866ff4ca659095", func := "loop.example/g00882/laws.FnKeys", spec := "fnKeys", apart := false, narrowed := true }
def FnKeysUptoSaid : Prop := fnKeysUptoRow.holds Try.pinned (OpenSpec.upto fnKeysSpec)

/-- 'laws.FnExactIsValidStroke', WHERE WHAT IT READS IS OF BULK AT MOST 1048576: true; the input reads as it did. -/
def fnExactIsValidStrokeUptoRow : OpenClaim := { program := "ytinpolcmofdojaa", sum := "004b00721c32d134cae8c661f7bb9fb118092ffbcb6aa74966866ff4ca659095", func := "loop.example/g00882/laws.FnExactIsValidStroke", spec := "fnExactIsValidStroke", apart := false, narrowed := true }
def FnExactIsValidStrokeUptoSaid : Prop := fnExactIsValidStrokeUptoRow.holds Try.pinned (OpenSpec.upto fnExactIsValidStrokeSpec)

/-- 'laws.FnExactFormatStroke', WHERE WHAT IT READS IS OF BULK AT MOST 1048576: true; the input reads as it did. -/
def fnExactFormatStrokeUptoRow : OpenClaim := { program := "ytinpolcmofdojaa", sum := "004b00721c32d134cae8c661f7bb9fb118092ffbcb6aa74966866ff4ca659095", func := "loop.example/g00882/laws.FnExactFormatStroke", spec := "fnExactFormatStroke", inPlace := ["internal/abi.NoEscape"], apart := false, narrowed := true }
def FnExactFormatStrokeUptoSaid : Prop := fnExactFormatStrokeUptoRow.holds Try.pinned (OpenSpec.upto fnExactFormatStrokeSpec)

/-- 'laws.FnExactParseStroke', WHERE WHAT IT READS IS OF BULK AT MOST 1048576: true; the input reads as it did. -/
def fnExactParseStrokeUptoRow : OpenClaim := { program := "ytinpolcmofdojaa", sum := "004b00721c32d134cae8c661f7bb9fb118092ffbcb6aa74966866ff4ca659095", func := "loop.example/g00882/laws.FnExactParseStroke", spec := "fnExactParseStroke", inPlace := ["internal/bytealg.IndexByteString", "internal/abi.NoEscape"], apart := false, narrowed := true }
def FnExactParseStrokeUptoSaid : Prop := fnExactParseStrokeUptoRow.holds Try.pinned (OpenSpec.upto fnExactParseStrokeSpec)

/-- 'laws.FnExactParseLooseStroke', WHERE WHAT IT READS IS OF BULK AT MOST 1048576: true; the input reads as it did. -/
def fnExactParseLooseStrokeUptoRow : OpenClaim := { program := "ytinpolcmofdojaa", sum := "004b00721c32d134cae8c661f7bb9fb118092ffbcb6aa74966866ff4ca659095", func := "loop.example/g00882/laws.FnExactParseLooseStroke", spec := "fnExactParseLooseStroke", inPlace := ["internal/bytealg.IndexByteString"], apart := false, narrowed := true }
def FnExactParseLooseStrokeUptoSaid : Prop := fnExactParseLooseStrokeUptoRow.holds Try.pinned (OpenSpec.upto fnExactParseLooseStrokeSpec)

/-- 'laws.FnExactKeysOf', WHERE WHAT IT READS IS OF BULK AT MOST 1048576: true; the input reads as it did. -/
def fnExactKeysOfUptoRow : OpenClaim := { program := "ytinpolcmofdojaa", sum := "004b00721c32d134cae8c661f7bb9fb118092ffbcb6aa74966866ff4ca659095", func := "loop.example/g00882/laws.FnExactKeysOf", spec := "fnExactKeysOf", apart := false, narrowed := true }
def FnExactKeysOfUptoSaid : Prop := fnExactKeysOfUptoRow.holds Try.pinned (OpenSpec.upto fnExactKeysOfSpec)

/-- 'laws.FnExactNewStroke', WHERE WHAT IT READS IS OF BULK AT MOST 1048576: true; the input reads as it did. -/
def fnExactNewStrokeUptoRow : OpenClaim := { program := "ytinpolcmofdojaa", sum := "004b00721c32d134cae8c661f7bb9fb118092ffbcb6aa74966866ff4ca659095", func := "loop.example/g00882/laws.FnExactNewStroke", spec := "fnExactNewStroke", apart := false, narrowed := true }
def FnExactNewStrokeUptoSaid : Prop := fnExactNewStrokeUptoRow.holds Try.pinned (OpenSpec.upto fnExactNewStrokeSpec)

/-- 'laws.FnExactHasKey', WHERE WHAT IT READS IS OF BULK AT MOST 1048576: true; the input reads as it did. -/
def fnExactHasKeyUptoRow : OpenClaim := { program := "ytinpolcmofdojaa", sum := "004b00721c32d134cae8c661f7bb9fb118092ffbcb6aa74966866ff4ca659095", func := "loop.example/g00882/laws.FnExactHasKey", spec := "fnExactHasKey", apart := false, narrowed := true }
def FnExactHasKeyUptoSaid : Prop := fnExactHasKeyUptoRow.holds Try.pinned (OpenSpec.upto fnExactHasKeySpec)

/-- 'laws.FnExactMergeStrokes', WHERE WHAT IT READS IS OF BULK AT MOST 1048576: true; the input reads as it did. -/
def fnExactMergeStrokesUptoRow : OpenClaim := { program := "ytinpolcmofdojaa", sum := "004b00721c32d134cae8c661f7bb9fb118092ffbcb6aa74966866ff4ca659095", func := "loop.example/g00882/laws.FnExactMergeStrokes", spec := "fnExactMergeStrokes", apart := false, narrowed := true }
def FnExactMergeStrokesUptoSaid : Prop := fnExactMergeStrokesUptoRow.holds Try.pinned (OpenSpec.upto fnExactMergeStrokesSpec)

end Rows
end Go.Proofs.Ytinpolcmofdojaa
