/-
  No cell of these rows narrows 'for every input' (looked for: loops, veiled, ifaces, maps, wideKeys, modest, calm, conditions, laid).
  DERIVED. THE GIVEN ROWS OF THIS SEAT. 5 by the template 'for every input the law returns true; each argument reads behind the call as it read before'; 0 by the template 'total and deterministic' (their statements: YtjmiackiikbodaaGreatTotals.lean).
  GIVEN WITH THE SEED: the statements are not yours to turn. If you find one false, say at which input.
  Laid BY PROGRAM, IN A SANDBOX (cutbox-rows.mjs): the forced cells as the released guide's own fill.sh prints them over the translation d2aa4500095e8d7d… (all of the seat's roots in one cut). By AI agents, Wed Nov 11 2026. No macro, syntax, notation, axiom, sorry.
-/
import Derived.Test.YtjmiackiikbodaaGreatChecked
import GoSem.Claim
import GoSem.ClaimJoined
import GoSem.ClaimMapViews
import Derived.JoinedTies
import Derived.KernelRfl
namespace Go.Proofs.YtjmiackiikbodaaGreat
/- THE CELL 'sum', in the pinned program and in every row, IS THE sha256 OF THE DUMP (.gsa) THAT YtjmiackiikbodaaGreatProg.lean LOADS. Nothing in Lean hashes anything: it is a label: what it is worth is what the hold of that sum in a sandbox is worth. -/
noncomputable def Tryz.pinned : Pinned := { name := "ytjmiackiikbodaagreat", sum := "d2aa4500095e8d7df863dc8d87ef63f37fa06a1f20e0bddb8c6c2c913ea3f280", checked := Tryz.checked }
namespace Rows
def none {H : Type} : Left H := { results := [], args := [] }

/-- 'laws.FnExactLookupFolded': WHATEVER THE INPUT: true; the input reads as it did. -/
def fnExactLookupFoldedSpec : ChangeSpec := { name := "fnExactLookupFolded", fn := fun _ => fun
  | [d1, d2, d3] => { results := [.lit (.bool true)], args := [d1, d2, d3] }
  | _ => none }
def fnExactLookupFoldedRow : OpenClaim := { program := "ytjmiackiikbodaagreat", sum := "d2aa4500095e8d7df863dc8d87ef63f37fa06a1f20e0bddb8c6c2c913ea3f280", func := "loop.example/g00882/laws.FnExactLookupFolded", spec := "fnExactLookupFolded", inPlace := ["internal/bytealg.IndexByteString", "internal/bytealg.IndexString", "internal/abi.NoEscape", "internal/bytealg.MakeNoZero"], unfollowed := true, recurses := true, named := ["internal/bytealg.MaxLen"], plainKeys := false, apart := false }
def FnExactLookupFoldedSaid : Prop := fnExactLookupFoldedRow.holds Tryz.pinned (OpenSpec.ofChange fnExactLookupFoldedSpec)

/-- ITS FALSE NEIGHBOUR: 'it returns false'. Refute it at one input. -/
def fnExactLookupFoldedWrong : ChangeSpec := { name := "fnExactLookupFolded", fn := fun _ => fun
  | [d1, d2, d3] => { results := [.lit (.bool false)], args := [d1, d2, d3] }
  | _ => none }
def FnExactLookupFoldedWrongFalsely : Prop := fnExactLookupFoldedRow.holds Tryz.pinned (OpenSpec.ofChange fnExactLookupFoldedWrong)

/-- 'laws.FnExactFoldOverrides': WHATEVER THE INPUT: true; the input reads as it did. -/
def fnExactFoldOverridesSpec : ChangeSpec := { name := "fnExactFoldOverrides", fn := fun _ => fun
  | [d1, d2] => { results := [.lit (.bool true)], args := [d1, d2] }
  | _ => none }
def fnExactFoldOverridesRow : OpenClaim := { program := "ytjmiackiikbodaagreat", sum := "d2aa4500095e8d7df863dc8d87ef63f37fa06a1f20e0bddb8c6c2c913ea3f280", func := "loop.example/g00882/laws.FnExactFoldOverrides", spec := "fnExactFoldOverrides", unfollowed := true, recurses := true, plainKeys := false, apart := false }
def FnExactFoldOverridesSaid : Prop := fnExactFoldOverridesRow.holds Tryz.pinned (OpenSpec.ofChange fnExactFoldOverridesSpec)

/-- ITS FALSE NEIGHBOUR: 'it returns false'. Refute it at one input. -/
def fnExactFoldOverridesWrong : ChangeSpec := { name := "fnExactFoldOverrides", fn := fun _ => fun
  | [d1, d2] => { results := [.lit (.bool false)], args := [d1, d2] }
  | _ => none }
def FnExactFoldOverridesWrongFalsely : Prop := fnExactFoldOverridesRow.holds Tryz.pinned (OpenSpec.ofChange fnExactFoldOverridesWrong)

/-- 'laws.FnExactExpandFolds': WHATEVER THE INPUT: true; the input reads as it did. -/
def fnExactExpandFoldsSpec : ChangeSpec := { name := "fnExactExpandFolds", fn := fun _ => fun
  | [d1, d2] => { results := [.lit (.bool true)], args := [d1, d2] }
  | _ => none }
def fnExactExpandFoldsRow : OpenClaim := { program := "ytjmiackiikbodaagreat", sum := "d2aa4500095e8d7df863dc8d87ef63f37fa06a1f20e0bddb8c6c2c913ea3f280", func := "loop.example/g00882/laws.FnExactExpandFolds", spec := "fnExactExpandFolds", inPlace := ["maps.clone", "internal/bytealg.IndexByteString", "internal/bytealg.IndexString", "internal/abi.NoEscape", "internal/bytealg.MakeNoZero"], unfollowed := true, recurses := true, named := ["internal/bytealg.MaxLen"], plainKeys := false, apart := false }
def FnExactExpandFoldsSaid : Prop := fnExactExpandFoldsRow.holds Tryz.pinned (OpenSpec.ofChange fnExactExpandFoldsSpec)

/-- ITS FALSE NEIGHBOUR: 'it returns false'. Refute it at one input. -/
def fnExactExpandFoldsWrong : ChangeSpec := { name := "fnExactExpandFolds", fn := fun _ => fun
  | [d1, d2] => { results := [.lit (.bool false)], args := [d1, d2] }
  | _ => none }
def FnExactExpandFoldsWrongFalsely : Prop := fnExactExpandFoldsRow.holds Tryz.pinned (OpenSpec.ofChange fnExactExpandFoldsWrong)

/-- 'laws.FnFoldLookup': WHATEVER THE INPUT: true; the input reads as it did. -/
def fnFoldLookupSpec : ChangeSpec := { name := "fnFoldLookup", fn := fun _ => fun
  | [d] => { results := [.lit (.bool true)], args := [d] }
  | _ => none }
def fnFoldLookupRow : OpenClaim := { program := "ytjmiackiikbodaagreat", sum := "d2aa4500095e8d7df863dc8d87ef63f37fa06a1f20e0bddb8c6c2c913ea3f280", func := "loop.example/g00882/laws.FnFoldLookup", spec := "fnFoldLookup", inPlace := ["internal/bytealg.IndexByteString", "internal/bytealg.IndexString", "internal/abi.NoEscape", "internal/bytealg.MakeNoZero"], unfollowed := true, recurses := true, named := ["internal/bytealg.MaxLen"], plainKeys := false, apart := false }
def FnFoldLookupSaid : Prop := fnFoldLookupRow.holds Tryz.pinned (OpenSpec.ofChange fnFoldLookupSpec)

/-- ITS FALSE NEIGHBOUR: 'it returns false'. Refute it at one input. -/
def fnFoldLookupWrong : ChangeSpec := { name := "fnFoldLookup", fn := fun _ => fun
  | [d] => { results := [.lit (.bool false)], args := [d] }
  | _ => none }
def FnFoldLookupWrongFalsely : Prop := fnFoldLookupRow.holds Tryz.pinned (OpenSpec.ofChange fnFoldLookupWrong)

/-- 'laws.FnFoldExpand': WHATEVER THE INPUT: true; the input reads as it did. -/
def fnFoldExpandSpec : ChangeSpec := { name := "fnFoldExpand", fn := fun _ => fun
  | [d] => { results := [.lit (.bool true)], args := [d] }
  | _ => none }
def fnFoldExpandRow : OpenClaim := { program := "ytjmiackiikbodaagreat", sum := "d2aa4500095e8d7df863dc8d87ef63f37fa06a1f20e0bddb8c6c2c913ea3f280", func := "loop.example/g00882/laws.FnFoldExpand", spec := "fnFoldExpand", inPlace := ["maps.clone", "internal/bytealg.IndexByteString", "internal/bytealg.IndexString", "internal/abi.NoEscape", "internal/bytealg.MakeNoZero"], unfollowed := true, recurses := true, named := ["internal/bytealg.MaxLen"], plainKeys := false, apart := false }
def FnFoldExpandSaid : Prop := fnFoldExpandRow.holds Tryz.pinned (OpenSpec.ofChange fnFoldExpandSpec)

/-- ITS FALSE NEIGHBOUR: 'it returns false'. Refute it at one input. -/
def fnFoldExpandWrong : ChangeSpec := { name := "fnFoldExpand", fn := fun _ => fun
  | [d] => { results := [.lit (.bool false)], args := [d] }
  | _ => none }
def FnFoldExpandWrongFalsely : Prop := fnFoldExpandRow.holds Tryz.pinned (OpenSpec.ofChange fnFoldExpandWrong)

/- THE SECOND FORM. 'bulk': how many values and letters a reading holds, each counted each time it is reached (what is shared counts as often as it is met; a slice's spare places count too). A statement '..UptoSaid' is the law's where the arguments, and the package variables that the reading takes, are together of bulk at most 1048576: NARROWER than '..Said'. Prove '..Said' where nothing that the law and all that it calls make is longer than what came in: it says more and counts as full. Else prove '..UptoSaid'. A law counts once. -/
mutual
def uptoBulk {H : Type} : DataW H → Nat
  | .lit (.string bytes) => bytes.length + 1
  | .lit _ => 1
  | .nil => 1
  | .ptr d => uptoBulk d + 1
  | .slice elems spare => uptoBulkAll elems + uptoBulkAll spare + 1
  | .agg parts => uptoBulkAll parts + 1
  | .iface _ d => uptoBulk d + 1
  | .map entries => uptoBulkEntries entries + 1
  | .held _ => 1
def uptoBulkAll {H : Type} : List (DataW H) → Nat
  | [] => 0
  | d :: r => uptoBulk d + uptoBulkAll r
def uptoBulkEntries {H : Type} : List (Lit × DataW H) → Nat
  | [] => 0
  | x :: r => uptoBulkEntry x + uptoBulkEntries r
def uptoBulkEntry {H : Type} : Lit × DataW H → Nat
  | (.string bytes, d) => bytes.length + uptoBulk d + 1
  | (_, d) => uptoBulk d + 1
 end
def uptoSmall : (H : Type) → List (DataW H) → Bool := fun _ ds => decide (uptoBulkAll ds ≤ 1048576)
def OpenSpec.upto (s : _root_.Go.ChangeSpec) : _root_.Go.OpenSpec := { _root_.Go.OpenSpec.ofChange s with cond := some uptoSmall }

/-- 'laws.FnExactLookupFolded', WHERE WHAT IT READS IS OF BULK AT MOST 1048576: true; the input reads as it did. -/
def fnExactLookupFoldedUptoRow : OpenClaim := { program := "ytjmiackiikbodaagreat", sum := "d2aa4500095e8d7df863dc8d87ef63f37fa06a1f20e0bddb8c6c2c913ea3f280", func := "loop.example/g00882/laws.FnExactLookupFolded", spec := "fnExactLookupFolded", inPlace := ["internal/bytealg.IndexByteString", "internal/bytealg.IndexString", "internal/abi.NoEscape", "internal/bytealg.MakeNoZero"], unfollowed := true, recurses := true, named := ["internal/bytealg.MaxLen"], plainKeys := false, apart := false, narrowed := true }
def FnExactLookupFoldedUptoSaid : Prop := fnExactLookupFoldedUptoRow.holds Tryz.pinned (OpenSpec.upto fnExactLookupFoldedSpec)

/-- 'laws.FnExactFoldOverrides', WHERE WHAT IT READS IS OF BULK AT MOST 1048576: true; the input reads as it did. -/
def fnExactFoldOverridesUptoRow : OpenClaim := { program := "ytjmiackiikbodaagreat", sum := "d2aa4500095e8d7df863dc8d87ef63f37fa06a1f20e0bddb8c6c2c913ea3f280", func := "loop.example/g00882/laws.FnExactFoldOverrides", spec := "fnExactFoldOverrides", unfollowed := true, recurses := true, plainKeys := false, apart := false, narrowed := true }
def FnExactFoldOverridesUptoSaid : Prop := fnExactFoldOverridesUptoRow.holds Tryz.pinned (OpenSpec.upto fnExactFoldOverridesSpec)

/-- 'laws.FnExactExpandFolds', WHERE WHAT IT READS IS OF BULK AT MOST 1048576: true; the input reads as it did. -/
def fnExactExpandFoldsUptoRow : OpenClaim := { program := "ytjmiackiikbodaagreat", sum := "d2aa4500095e8d7df863dc8d87ef63f37fa06a1f20e0bddb8c6c2c913ea3f280", func := "loop.example/g00882/laws.FnExactExpandFolds", spec := "fnExactExpandFolds", inPlace := ["maps.clone", "internal/bytealg.IndexByteString", "internal/bytealg.IndexString", "internal/abi.NoEscape", "internal/bytealg.MakeNoZero"], unfollowed := true, recurses := true, named := ["internal/bytealg.MaxLen"], plainKeys := false, apart := false, narrowed := true }
def FnExactExpandFoldsUptoSaid : Prop := fnExactExpandFoldsUptoRow.holds Tryz.pinned (OpenSpec.upto fnExactExpandFoldsSpec)

/-- 'laws.FnFoldLookup', WHERE WHAT IT READS IS OF BULK AT MOST 1048576: true; the input reads as it did. -/
def fnFoldLookupUptoRow : OpenClaim := { program := "ytjmiackiikbodaagreat", sum := "d2aa4500095e8d7df863dc8d87ef63f37fa06a1f20e0bddb8c6c2c913ea3f280", func := "loop.example/g00882/laws.FnFoldLookup", spec := "fnFoldLookup", inPlace := ["internal/bytealg.IndexByteString", "internal/bytealg.IndexString", "internal/abi.NoEscape", "internal/bytealg.MakeNoZero"], unfollowed := true, recurses := true, named := ["internal/bytealg.MaxLen"], plainKeys := false, apart := false, narrowed := true }
def FnFoldLookupUptoSaid : Prop := fnFoldLookupUptoRow.holds Tryz.pinned (OpenSpec.upto fnFoldLookupSpec)

/-- 'laws.FnFoldExpand', WHERE WHAT IT READS IS OF BULK AT MOST 1048576: true; the input reads as it did. -/
def fnFoldExpandUptoRow : OpenClaim := { program := "ytjmiackiikbodaagreat", sum := "d2aa4500095e8d7df863dc8d87ef63f37fa06a1f20e0bddb8c6c2c913ea3f280", func := "loop.example/g00882/laws.FnFoldExpand", spec := "fnFoldExpand", inPlace := ["maps.clone", "internal/bytealg.IndexByteString", "internal/bytealg.IndexString", "internal/abi.NoEscape", "internal/bytealg.MakeNoZero"], unfollowed := true, recurses := true, named := ["internal/bytealg.MaxLen"], plainKeys := false, apart := false, narrowed := true }
def FnFoldExpandUptoSaid : Prop := fnFoldExpandUptoRow.holds Tryz.pinned (OpenSpec.upto fnFoldExpandSpec)

end Rows
end Go.Proofs.YtjmiackiikbodaaGreat
