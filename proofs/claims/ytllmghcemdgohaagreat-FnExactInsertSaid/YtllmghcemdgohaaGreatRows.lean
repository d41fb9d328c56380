/-
  No cell of these rows narrows 'for every input' (looked for: loops, veiled, ifaces, maps, wideKeys, modest, calm, conditions, laid).
  DERIVED. THE GIVEN ROWS OF THIS SEAT. 4 by the template 'for every input the law returns true; each argument reads behind the call as it read before'; 0 by the template 'total and deterministic' (their statements: YtllmghcemdgohaaGreatTotals.lean).
  GIVEN WITH THE SEED: the statements are not yours to turn. If you find one false, say at which input.
  Laid BY PROGRAM, IN A SANDBOX (cutbox-rows.mjs): the forced cells as the released guide's own fill.sh prints them over the translation 7583cffc04f89423… (all of the seat's roots in one cut). By AI agents, Wed Nov 11 2026. No macro, syntax, notation, axiom, sorry.
-/
import Derived.Test.YtllmghcemdgohaaGreatChecked
import GoSem.Claim
import GoSem.ClaimJoined
import GoSem.ClaimMapViews
import Derived.JoinedTies
import Derived.KernelRfl
namespace Go.Proofs.YtllmghcemdgohaaGreat
/- THE CELL 'sum', in the pinned program and in every row, IS THE sha256 OF THE DUMP (.gsa) THAT YtllmghcemdgohaaGreatProg.lean LOADS. Nothing in Lean hashes anything: it is a label: what it is worth is what the hold of that sum in a sandbox is worth. -/
noncomputable def Tryz.pinned : Pinned := { name := "ytllmghcemdgohaagreat", sum := "7583cffc04f89423658341b07e2865fc1e7c26b8910fbd8a48e16513359044bd", checked := Tryz.checked }
namespace Rows
def none {H : Type} : Left H := { results := [], args := [] }

/-- 'laws.FnDictionary': WHATEVER THE INPUT: true; the input reads as it did. -/
def fnDictionarySpec : ChangeSpec := { name := "fnDictionary", fn := fun _ => fun
  | [d] => { results := [.lit (.bool true)], args := [d] }
  | _ => none }
def fnDictionaryRow : OpenClaim := { program := "ytllmghcemdgohaagreat", sum := "7583cffc04f89423658341b07e2865fc1e7c26b8910fbd8a48e16513359044bd", func := "loop.example/g00882/laws.FnDictionary", spec := "fnDictionary", unfollowed := true, recurses := true, plainKeys := false, apart := false }
def FnDictionarySaid : Prop := fnDictionaryRow.holds Tryz.pinned (OpenSpec.ofChange fnDictionarySpec)

/-- ITS FALSE NEIGHBOUR: 'it returns false'. Refute it at one input. -/
def fnDictionaryWrong : ChangeSpec := { name := "fnDictionary", fn := fun _ => fun
  | [d] => { results := [.lit (.bool false)], args := [d] }
  | _ => none }
def FnDictionaryWrongFalsely : Prop := fnDictionaryRow.holds Tryz.pinned (OpenSpec.ofChange fnDictionaryWrong)

/-- 'laws.FnDictionaryText': WHATEVER THE INPUT: true; the input reads as it did. -/
def fnDictionaryTextSpec : ChangeSpec := { name := "fnDictionaryText", fn := fun _ => fun
  | [d] => { results := [.lit (.bool true)], args := [d] }
  | _ => none }
def fnDictionaryTextRow : OpenClaim := { program := "ytllmghcemdgohaagreat", sum := "7583cffc04f89423658341b07e2865fc1e7c26b8910fbd8a48e16513359044bd", func := "loop.example/g00882/laws.FnDictionaryText", spec := "fnDictionaryText", inPlace := ["internal/abi.NoEscape", "internal/bytealg.IndexByteString", "internal/bytealg.IndexString", "internal/bytealg.MakeNoZero"], unfollowed := true, recurses := true, named := ["internal/bytealg.MaxLen"], plainKeys := false, apart := false }
def FnDictionaryTextSaid : Prop := fnDictionaryTextRow.holds Tryz.pinned (OpenSpec.ofChange fnDictionaryTextSpec)

/-- ITS FALSE NEIGHBOUR: 'it returns false'. Refute it at one input. -/
def fnDictionaryTextWrong : ChangeSpec := { name := "fnDictionaryText", fn := fun _ => fun
  | [d] => { results := [.lit (.bool false)], args := [d] }
  | _ => none }
def FnDictionaryTextWrongFalsely : Prop := fnDictionaryTextRow.holds Tryz.pinned (OpenSpec.ofChange fnDictionaryTextWrong)

/-- 'laws.FnExactInsert': WHATEVER THE INPUT: true; the input reads as it did. -/
def fnExactInsertSpec : ChangeSpec := { name := "fnExactInsert", fn := fun _ => fun
  | [d1, d2] => { results := [.lit (.bool true)], args := [d1, d2] }
  | _ => none }
def fnExactInsertRow : OpenClaim := { program := "ytllmghcemdgohaagreat", sum := "7583cffc04f89423658341b07e2865fc1e7c26b8910fbd8a48e16513359044bd", func := "loop.example/g00882/laws.FnExactInsert", spec := "fnExactInsert", unfollowed := true, recurses := true, plainKeys := false, apart := false }
def FnExactInsertSaid : Prop := fnExactInsertRow.holds Tryz.pinned (OpenSpec.ofChange fnExactInsertSpec)

/-- ITS FALSE NEIGHBOUR: 'it returns false'. Refute it at one input. -/
def fnExactInsertWrong : ChangeSpec := { name := "fnExactInsert", fn := fun _ => fun
  | [d1, d2] => { results := [.lit (.bool false)], args := [d1, d2] }
  | _ => none }
def FnExactInsertWrongFalsely : Prop := fnExactInsertRow.holds Tryz.pinned (OpenSpec.ofChange fnExactInsertWrong)

/-- 'laws.FnExactDelete': WHATEVER THE INPUT: true; the input reads as it did. -/
def fnExactDeleteSpec : ChangeSpec := { name := "fnExactDelete", fn := fun _ => fun
  | [d1, d2] => { results := [.lit (.bool true)], args := [d1, d2] }
  | _ => none }
def fnExactDeleteRow : OpenClaim := { program := "ytllmghcemdgohaagreat", sum := "7583cffc04f89423658341b07e2865fc1e7c26b8910fbd8a48e16513359044bd", func := "loop.example/g00882/laws.FnExactDelete", spec := "fnExactDelete", unfollowed := true, recurses := true, plainKeys := false, apart := false }
def FnExactDeleteSaid : Prop := fnExactDeleteRow.holds Tryz.pinned (OpenSpec.ofChange fnExactDeleteSpec)

/-- ITS FALSE NEIGHBOUR: 'it returns false'. Refute it at one input. -/
def fnExactDeleteWrong : ChangeSpec := { name := "fnExactDelete", fn := fun _ => fun
  | [d1, d2] => { results := [.lit (.bool false)], args := [d1, d2] }
  | _ => none }
def FnExactDeleteWrongFalsely : Prop := fnExactDeleteRow.holds Tryz.pinned (OpenSpec.ofChange fnExactDeleteWrong)

/- THE SECOND FORM. 'bulk': how many values and letters a reading holds, each counted each time it is reached (what is shared counts as often as it is met; a slice's spare places count too). A statement '..UptoSaid' is the law's where the arguments, and the package variables that the reading takes, are together of bulk at most 1048576: NARROWER than '..Said'. Prove '..Said' where nothing that the law and all that it calls make is longer than what came in: it says more and counts as full. Else prove '..UptoSaid'. A law counts once. -/
mutual
def uptoBulk {H : Type} : DataW H → Nat
  | .lit (.string bytes) => bytes.length + 1
  | .lit _ => 1
  | .nil => 1
  | .ptr d => uptoBulk d + 1
  | .slice elems spare => uptoBulkAll elems + uptoBulkAll spare + 1
  | .agg parts => uptoBulkAll parts + 1
  | .iface _ d => uptoBulk d + 1
  | .map entries => uptoBulkEntries entries + 1
  | .held _ => 1
def uptoBulkAll {H : Type} : List (DataW H) → Nat
  | [] => 0
  | d :: r => uptoBulk d + uptoBulkAll r
def uptoBulkEntries {H : Type} : List (Lit × DataW H) → Nat
  | [] => 0
  | x :: r => uptoBulkEntry x + uptoBulkEntries r
def uptoBulkEntry {H : Type} : Lit × DataW H → Nat
  | (.string bytes, d) => bytes.length + uptoBulk d + 1
  | (_, d) => uptoBulk d + 1
 end
def uptoSmall : (H : Type) → List (DataW H) → Bool := fun _ ds => decide (uptoBulkAll ds ≤ 1048576)
def OpenSpec.upto (s : _root_.Go.ChangeSpec) : _root_.Go.OpenSpec := { _root_.Go.OpenSpec.ofChange s with cond := some uptoSmall }

/-- 'laws.FnDictionary', WHERE WHAT IT READS IS OF BULK AT MOST 1048576: true; the input reads as it did. -/
def fnDictionaryUptoRow : OpenClaim := { program := "ytllmghcemdgohaagreat", sum := "7583cffc04f89423658341b07e2865fc1e7c26b8910fbd8a48e16513359044bd", func := "loop.example/g00882/laws.FnDictionary", spec := "fnDictionary", unfollowed := true, recurses := true, plainKeys := false, apart := false, narrowed := true }
def FnDictionaryUptoSaid : Prop := fnDictionaryUptoRow.holds Tryz.pinned (OpenSpec.upto fnDictionarySpec)

/-- 'laws.FnDictionaryText', WHERE WHAT IT READS IS OF BULK AT MOST 1048576: true; the input reads as it did. -/
def fnDictionaryTextUptoRow : OpenClaim := { program := "ytllmghcemdgohaagreat", sum := "7583cffc04f89423658341b07e2865fc1e7c26b8910fbd8a48e16513359044bd", func := "loop.example/g00882/laws.FnDictionaryText", spec := "fnDictionaryText", inPlace := ["internal/abi.NoEscape", "internal/bytealg.IndexByteString", "internal/bytealg.IndexString", "internal/bytealg.MakeNoZero"], unfollowed := true, recurses := true, named := ["internal/bytealg.MaxLen"], plainKeys := false, apart := false, narrowed := true }
def FnDictionaryTextUptoSaid : Prop := fnDictionaryTextUptoRow.holds Tryz.pinned (OpenSpec.upto fnDictionaryTextSpec)

/-- 'laws.FnExactInsert', WHERE WHAT IT READS IS OF BULK AT MOST 1048576: true; the input reads as it did. -/
def fnExactInsertUptoRow : OpenClaim := { program := "ytllmghcemdgohaagreat", sum := "7583cffc04f89423658341b07e2865fc1e7c26b8910fbd8a48e16513359044bd", func := "loop.example/g00882/laws.FnExactInsert", spec := "fnExactInsert", unfollowed := true, recurses := true, plainKeys := false, apart := false, narrowed := true }
def FnExactInsertUptoSaid : Prop := fnExactInsertUptoRow.holds Tryz.pinned (OpenSpec.upto fnExactInsertSpec)

/-- 'laws.FnExactDelete', WHERE WHAT IT READS IS OF BULK AT MOST 1048576: true; the input reads as it did. -/
def fnExactDeleteUptoRow : OpenClaim := { program := "ytllmghcemdgohaagreat", sum := "7583cffc04f89423658341b07e2865fc1e7c26b8910fbd8a48e16513359044bd", func := "loop.example/g00882/laws.FnExactDelete", spec := "fnExactDelete", unfollowed := true, recurses := true, plainKeys := false, apart := false, narrowed := true }
def FnExactDeleteUptoSaid : Prop := fnExactDeleteUptoRow.holds Tryz.pinned (OpenSpec.upto fnExactDeleteSpec)

end Rows
end Go.Proofs.YtllmghcemdgohaaGreat
