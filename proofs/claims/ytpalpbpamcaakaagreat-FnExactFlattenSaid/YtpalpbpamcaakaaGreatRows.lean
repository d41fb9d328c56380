/-
  No cell of these rows narrows 'for every input' (looked for: loops, veiled, ifaces, maps, wideKeys, modest, calm, conditions, laid).
  DERIVED. THE GIVEN ROWS OF THIS SEAT. 9 by the template 'for every input the law returns true; each argument reads behind the call as it read before'; 0 by the template 'total and deterministic' (their statements: YtpalpbpamcaakaaGreatTotals.lean).
  GIVEN WITH THE SEED: the statements are not yours to turn. If you find one false, say at which input.
  Laid BY PROGRAM, IN A SANDBOX (cutbox-rows.mjs): the forced cells as the released guide's own fill.sh prints them over the translation 8590b40dfc4bf452… (all of the seat's roots in one cut). By AI agents, Wed Nov 11 2026. No macro, syntax, notation, axiom, sorry.
-/
import Derived.Test.YtpalpbpamcaakaaGreatChecked
import GoSem.Claim
import GoSem.ClaimJoined
import GoSem.ClaimMapViews
import Derived.JoinedTies
import Derived.KernelRfl
namespace Go.Proofs.YtpalpbpamcaakaaGreat
/- THE CELL 'sum', in the pinned program and in every row, IS THE sha256 OF THE DUMP (.gsa) THAT YtpalpbpamcaakaaGreatProg.lean LOADS. Nothing in Lean hashes anything: it is a label: what it is worth is what the hold of that sum in a sandbox is worth. -/
noncomputable def Tryz.pinned : Pinned := { name := "ytpalpbpamcaakaagreat", sum := "8590b40dfc4bf452df723cd6a0f85200d8a5fd072794dffe922deb59adc30084", checked := Tryz.checked }
namespace Rows
def none {H : Type} : Left H := { results := [], args := [] }

/-- 'laws.FnStackLookup': WHATEVER THE INPUT: true; the input reads as it did. -/
def fnStackLookupSpec : ChangeSpec := { name := "fnStackLookup", fn := fun _ => fun
  | [d] => { results := [.lit (.bool true)], args := [d] }
  | _ => none }
def fnStackLookupRow : OpenClaim := { program := "ytpalpbpamcaakaagreat", sum := "8590b40dfc4bf452df723cd6a0f85200d8a5fd072794dffe922deb59adc30084", func := "loop.example/g00882/laws.FnStackLookup", spec := "fnStackLookup", unfollowed := true, recurses := true, plainKeys := false, apart := false }
def FnStackLookupSaid : Prop := fnStackLookupRow.holds Tryz.pinned (OpenSpec.ofChange fnStackLookupSpec)

/-- ITS FALSE NEIGHBOUR: 'it returns false'. Refute it at one input. -/
def fnStackLookupWrong : ChangeSpec := { name := "fnStackLookup", fn := fun _ => fun
  | [d] => { results := [.lit (.bool false)], args := [d] }
  | _ => none }
def FnStackLookupWrongFalsely : Prop := fnStackLookupRow.holds Tryz.pinned (OpenSpec.ofChange fnStackLookupWrong)

/-- 'laws.FnStackShadowed': WHATEVER THE INPUT: true; the input reads as it did. -/
def fnStackShadowedSpec : ChangeSpec := { name := "fnStackShadowed", fn := fun _ => fun
  | [d] => { results := [.lit (.bool true)], args := [d] }
  | _ => none }
def fnStackShadowedRow : OpenClaim := { program := "ytpalpbpamcaakaagreat", sum := "8590b40dfc4bf452df723cd6a0f85200d8a5fd072794dffe922deb59adc30084", func := "loop.example/g00882/laws.FnStackShadowed", spec := "fnStackShadowed", unfollowed := true, recurses := true, plainKeys := false, apart := false }
def FnStackShadowedSaid : Prop := fnStackShadowedRow.holds Tryz.pinned (OpenSpec.ofChange fnStackShadowedSpec)

/-- ITS FALSE NEIGHBOUR: 'it returns false'. Refute it at one input. -/
def fnStackShadowedWrong : ChangeSpec := { name := "fnStackShadowed", fn := fun _ => fun
  | [d] => { results := [.lit (.bool false)], args := [d] }
  | _ => none }
def FnStackShadowedWrongFalsely : Prop := fnStackShadowedRow.holds Tryz.pinned (OpenSpec.ofChange fnStackShadowedWrong)

/-- 'laws.FnStackEdits': WHATEVER THE INPUT: true; the input reads as it did. -/
def fnStackEditsSpec : ChangeSpec := { name := "fnStackEdits", fn := fun _ => fun
  | [d] => { results := [.lit (.bool true)], args := [d] }
  | _ => none }
def fnStackEditsRow : OpenClaim := { program := "ytpalpbpamcaakaagreat", sum := "8590b40dfc4bf452df723cd6a0f85200d8a5fd072794dffe922deb59adc30084", func := "loop.example/g00882/laws.FnStackEdits", spec := "fnStackEdits", inPlace := ["slices.overlaps[loop.example/g00882/impl.Layer]"], unfollowed := true, recurses := true, plainKeys := false, apart := false }
def FnStackEditsSaid : Prop := fnStackEditsRow.holds Tryz.pinned (OpenSpec.ofChange fnStackEditsSpec)

/-- ITS FALSE NEIGHBOUR: 'it returns false'. Refute it at one input. -/
def fnStackEditsWrong : ChangeSpec := { name := "fnStackEdits", fn := fun _ => fun
  | [d] => { results := [.lit (.bool false)], args := [d] }
  | _ => none }
def FnStackEditsWrongFalsely : Prop := fnStackEditsRow.holds Tryz.pinned (OpenSpec.ofChange fnStackEditsWrong)

/-- 'laws.FnStackReverse': WHATEVER THE INPUT: true; the input reads as it did. -/
def fnStackReverseSpec : ChangeSpec := { name := "fnStackReverse", fn := fun _ => fun
  | [d] => { results := [.lit (.bool true)], args := [d] }
  | _ => none }
def fnStackReverseRow : OpenClaim := { program := "ytpalpbpamcaakaagreat", sum := "8590b40dfc4bf452df723cd6a0f85200d8a5fd072794dffe922deb59adc30084", func := "loop.example/g00882/laws.FnStackReverse", spec := "fnStackReverse", unfollowed := true, recurses := true, plainKeys := false, apart := false }
def FnStackReverseSaid : Prop := fnStackReverseRow.holds Tryz.pinned (OpenSpec.ofChange fnStackReverseSpec)

/-- ITS FALSE NEIGHBOUR: 'it returns false'. Refute it at one input. -/
def fnStackReverseWrong : ChangeSpec := { name := "fnStackReverse", fn := fun _ => fun
  | [d] => { results := [.lit (.bool false)], args := [d] }
  | _ => none }
def FnStackReverseWrongFalsely : Prop := fnStackReverseRow.holds Tryz.pinned (OpenSpec.ofChange fnStackReverseWrong)

/-- 'laws.FnExactFlatten': WHATEVER THE INPUT: true; the input reads as it did. -/
def fnExactFlattenSpec : ChangeSpec := { name := "fnExactFlatten", fn := fun _ => fun
  | [d] => { results := [.lit (.bool true)], args := [d] }
  | _ => none }
def fnExactFlattenRow : OpenClaim := { program := "ytpalpbpamcaakaagreat", sum := "8590b40dfc4bf452df723cd6a0f85200d8a5fd072794dffe922deb59adc30084", func := "loop.example/g00882/laws.FnExactFlatten", spec := "fnExactFlatten", unfollowed := true, recurses := true, plainKeys := false, apart := false }
def FnExactFlattenSaid : Prop := fnExactFlattenRow.holds Tryz.pinned (OpenSpec.ofChange fnExactFlattenSpec)

/-- ITS FALSE NEIGHBOUR: 'it returns false'. Refute it at one input. -/
def fnExactFlattenWrong : ChangeSpec := { name := "fnExactFlatten", fn := fun _ => fun
  | [d] => { results := [.lit (.bool false)], args := [d] }
  | _ => none }
def FnExactFlattenWrongFalsely : Prop := fnExactFlattenRow.holds Tryz.pinned (OpenSpec.ofChange fnExactFlattenWrong)

/-- 'laws.FnExactMoveLayer': WHATEVER THE INPUT: true; the input reads as it did. -/
def fnExactMoveLayerSpec : ChangeSpec := { name := "fnExactMoveLayer", fn := fun _ => fun
  | [d1, d2, d3] => { results := [.lit (.bool true)], args := [d1, d2, d3] }
  | _ => none }
def fnExactMoveLayerRow : OpenClaim := { program := "ytpalpbpamcaakaagreat", sum := "8590b40dfc4bf452df723cd6a0f85200d8a5fd072794dffe922deb59adc30084", func := "loop.example/g00882/laws.FnExactMoveLayer", spec := "fnExactMoveLayer", inPlace := ["slices.overlaps[loop.example/g00882/impl.Layer]"], unfollowed := true, recurses := true, plainKeys := false, apart := false }
def FnExactMoveLayerSaid : Prop := fnExactMoveLayerRow.holds Tryz.pinned (OpenSpec.ofChange fnExactMoveLayerSpec)

/-- ITS FALSE NEIGHBOUR: 'it returns false'. Refute it at one input. -/
def fnExactMoveLayerWrong : ChangeSpec := { name := "fnExactMoveLayer", fn := fun _ => fun
  | [d1, d2, d3] => { results := [.lit (.bool false)], args := [d1, d2, d3] }
  | _ => none }
def FnExactMoveLayerWrongFalsely : Prop := fnExactMoveLayerRow.holds Tryz.pinned (OpenSpec.ofChange fnExactMoveLayerWrong)

/-- 'laws.FnExactPushLayer': WHATEVER THE INPUT: true; the input reads as it did. -/
def fnExactPushLayerSpec : ChangeSpec := { name := "fnExactPushLayer", fn := fun _ => fun
  | [d1, d2] => { results := [.lit (.bool true)], args := [d1, d2] }
  | _ => none }
def fnExactPushLayerRow : OpenClaim := { program := "ytpalpbpamcaakaagreat", sum := "8590b40dfc4bf452df723cd6a0f85200d8a5fd072794dffe922deb59adc30084", func := "loop.example/g00882/laws.FnExactPushLayer", spec := "fnExactPushLayer", inPlace := ["slices.overlaps[loop.example/g00882/impl.Layer]"], unfollowed := true, recurses := true, plainKeys := false, apart := false }
def FnExactPushLayerSaid : Prop := fnExactPushLayerRow.holds Tryz.pinned (OpenSpec.ofChange fnExactPushLayerSpec)

/-- ITS FALSE NEIGHBOUR: 'it returns false'. Refute it at one input. -/
def fnExactPushLayerWrong : ChangeSpec := { name := "fnExactPushLayer", fn := fun _ => fun
  | [d1, d2] => { results := [.lit (.bool false)], args := [d1, d2] }
  | _ => none }
def FnExactPushLayerWrongFalsely : Prop := fnExactPushLayerRow.holds Tryz.pinned (OpenSpec.ofChange fnExactPushLayerWrong)

/-- 'laws.FnExactRemoveLayer': WHATEVER THE INPUT: true; the input reads as it did. -/
def fnExactRemoveLayerSpec : ChangeSpec := { name := "fnExactRemoveLayer", fn := fun _ => fun
  | [d1, d2] => { results := [.lit (.bool true)], args := [d1, d2] }
  | _ => none }
def fnExactRemoveLayerRow : OpenClaim := { program := "ytpalpbpamcaakaagreat", sum := "8590b40dfc4bf452df723cd6a0f85200d8a5fd072794dffe922deb59adc30084", func := "loop.example/g00882/laws.FnExactRemoveLayer", spec := "fnExactRemoveLayer", unfollowed := true, recurses := true, plainKeys := false, apart := false }
def FnExactRemoveLayerSaid : Prop := fnExactRemoveLayerRow.holds Tryz.pinned (OpenSpec.ofChange fnExactRemoveLayerSpec)

/-- ITS FALSE NEIGHBOUR: 'it returns false'. Refute it at one input. -/
def fnExactRemoveLayerWrong : ChangeSpec := { name := "fnExactRemoveLayer", fn := fun _ => fun
  | [d1, d2] => { results := [.lit (.bool false)], args := [d1, d2] }
  | _ => none }
def FnExactRemoveLayerWrongFalsely : Prop := fnExactRemoveLayerRow.holds Tryz.pinned (OpenSpec.ofChange fnExactRemoveLayerWrong)

/-- 'laws.FnExactOutlinesFor': WHATEVER THE INPUT: true; the input reads as it did. -/
def fnExactOutlinesForSpec : ChangeSpec := { name := "fnExactOutlinesFor", fn := fun _ => fun
  | [d1, d2] => { results := [.lit (.bool true)], args := [d1, d2] }
  | _ => none }
def fnExactOutlinesForRow : OpenClaim := { program := "ytpalpbpamcaakaagreat", sum := "8590b40dfc4bf452df723cd6a0f85200d8a5fd072794dffe922deb59adc30084", func := "loop.example/g00882/laws.FnExactOutlinesFor", spec := "fnExactOutlinesFor", unfollowed := true, recurses := true, plainKeys := false, apart := false }
def FnExactOutlinesForSaid : Prop := fnExactOutlinesForRow.holds Tryz.pinned (OpenSpec.ofChange fnExactOutlinesForSpec)

/-- ITS FALSE NEIGHBOUR: 'it returns false'. Refute it at one input. -/
def fnExactOutlinesForWrong : ChangeSpec := { name := "fnExactOutlinesFor", fn := fun _ => fun
  | [d1, d2] => { results := [.lit (.bool false)], args := [d1, d2] }
  | _ => none }
def FnExactOutlinesForWrongFalsely : Prop := fnExactOutlinesForRow.holds Tryz.pinned (OpenSpec.ofChange fnExactOutlinesForWrong)

/- THE SECOND FORM. 'bulk': how many values and letters a reading holds, each counted each time it is reached (what is shared counts as often as it is met; a slice's spare places count too). A statement '..UptoSaid' is the law's where the arguments, and the package variables that the reading takes, are together of bulk at most 1048576: NARROWER than '..Said'. Prove '..Said' where nothing that the law and all that it calls make is longer than what came in: it says more and counts as full. Else prove '..UptoSaid'. A law counts once. -/
mutual
def uptoBulk {H : Type} : DataW H → Nat
  | .lit (.string bytes) => bytes.length + 1
  | .lit _ => 1
  | .nil => 1
  | .ptr d => uptoBulk d + 1
  | .slice elems spare => uptoBulkAll elems + uptoBulkAll spare + 1
  | .agg parts => uptoBulkAll parts + 1
  | .iface _ d => uptoBulk d + 1
  | .map entries => uptoBulkEntries entries + 1
  | .held _ => 1
def uptoBulkAll {H : Type} : List (DataW H) → Nat
  | [] => 0
  | d :: r => uptoBulk d + uptoBulkAll r
def uptoBulkEntries {H : Type} : List (Lit × DataW H) → Nat
  | [] => 0
  | x :: r => uptoBulkEntry x + uptoBulkEntries r
def uptoBulkEntry {H : Type} : Lit × DataW H → Nat
  | (.string bytes, d) => bytes.length + uptoBulk d + 1
  | (_, d) => uptoBulk d + 1
 end
def uptoSmall : (H : Type) → List (DataW H) → Bool := fun _ ds => decide (uptoBulkAll ds ≤ 1048576)
def OpenSpec.upto (s : _root_.Go.ChangeSpec) : _root_.Go.OpenSpec := { _root_.Go.OpenSpec.ofChange s with cond := some uptoSmall }

/-- 'laws.FnStackLookup', WHERE WHAT IT READS IS OF BULK AT MOST 1048576: true; the input reads as it did. -/
def fnStackLookupUptoRow : OpenClaim := { program := "ytpalpbpamcaakaagreat", sum := "8590b40dfc4bf452df723cd6a0f85200d8a5fd072794dffe922deb59adc30084", func := "loop.example/g00882/laws.FnStackLookup", spec := "fnStackLookup", unfollowed := true, recurses := true, plainKeys := false, apart := false, narrowed := true }
def FnStackLookupUptoSaid : Prop := fnStackLookupUptoRow.holds Tryz.pinned (OpenSpec.upto fnStackLookupSpec)

/-- 'laws.FnStackShadowed', WHERE WHAT IT READS IS OF BULK AT MOST 1048576: true; the input reads as it did. -/
def fnStackShadowedUptoRow : OpenClaim := { program := "ytpalpbpamcaakaagreat", sum := "8590b40dfc4bf452df723cd6a0f85200d8a5fd072794dffe922deb59adc30084", func := "loop.example/g00882/laws.FnStackShadowed", spec := "fnStackShadowed", unfollowed := true, recurses := true, plainKeys := false, apart := false, narrowed := true }
def FnStackShadowedUptoSaid : Prop := fnStackShadowedUptoRow.holds Tryz.pinned (OpenSpec.upto fnStackShadowedSpec)

/-- 'laws.FnStackEdits', WHERE WHAT IT READS IS OF BULK AT MOST 1048576: true; the input reads as it did. -/
def fnStackEditsUptoRow : OpenClaim := { program := "ytpalpbpamcaakaagreat", sum := "8590b40dfc4bf452df723cd6a0f85200d8a5fd072794dffe922deb59adc30084", func := "loop.example/g00882/laws.FnStackEdits", spec := "fnStackEdits", inPlace := ["slices.overlaps[loop.example/g00882/impl.Layer]"], unfollowed := true, recurses := true, plainKeys := false, apart := false, narrowed := true }
def FnStackEditsUptoSaid : Prop := fnStackEditsUptoRow.holds Tryz.pinned (OpenSpec.upto fnStackEditsSpec)

/-- 'laws.FnStackReverse', WHERE WHAT IT READS IS OF BULK AT MOST 1048576: true; the input reads as it did. -/
def fnStackReverseUptoRow : OpenClaim := { program := "ytpalpbpamcaakaagreat", sum := "8590b40dfc4bf452df723cd6a0f85200d8a5fd072794dffe922deb59adc30084", func := "loop.example/g00882/laws.FnStackReverse", spec := "fnStackReverse", unfollowed := true, recurses := true, plainKeys := false, apart := false, narrowed := true }
def FnStackReverseUptoSaid : Prop := fnStackReverseUptoRow.holds Tryz.pinned (OpenSpec.upto fnStackReverseSpec)

/-- 'laws.FnExactFlatten', WHERE WHAT IT READS IS OF BULK AT MOST 1048576: true; the input reads as it did. -/
def fnExactFlattenUptoRow : OpenClaim := { program := "ytpalpbpamcaakaagreat", sum := "8590b40dfc4bf452df723cd6a0f85200d8a5fd072794dffe922deb59adc30084", func := "loop.example/g00882/laws.FnExactFlatten", spec := "fnExactFlatten", unfollowed := true, recurses := true, plainKeys := false, apart := false, narrowed := true }
def FnExactFlattenUptoSaid : Prop := fnExactFlattenUptoRow.holds Tryz.pinned (OpenSpec.upto fnExactFlattenSpec)

/-- 'laws.FnExactMoveLayer', WHERE WHAT IT READS IS OF BULK AT MOST 1048576: true; the input reads as it did. -/
def fnExactMoveLayerUptoRow : OpenClaim := { program := "ytpalpbpamcaakaagreat", sum := "8590b40dfc4bf452df723cd6a0f85200d8a5fd072794dffe922deb59adc30084", func := "loop.example/g00882/laws.FnExactMoveLayer", spec := "fnExactMoveLayer", inPlace := ["slices.overlaps[loop.example/g00882/impl.Layer]"], unfollowed := true, recurses := true, plainKeys := false, apart := false, narrowed := true }
def FnExactMoveLayerUptoSaid : Prop := fnExactMoveLayerUptoRow.holds Tryz.pinned (OpenSpec.upto fnExactMoveLayerSpec)

/-- 'laws.FnExactPushLayer', WHERE WHAT IT READS IS OF BULK AT MOST 1048576: true; the input reads as it did. -/
def fnExactPushLayerUptoRow : OpenClaim := { program := "ytpalpbpamcaakaagreat", sum := "8590b40dfc4bf452df723cd6a0f85200d8a5fd072794dffe922deb59adc30084", func := "loop.example/g00882/laws.FnExactPushLayer", spec := "fnExactPushLayer", inPlace := ["slices.overlaps[loop.example/g00882/impl.Layer]"], unfollowed := true, recurses := true, plainKeys := false, apart := false, narrowed := true }
def FnExactPushLayerUptoSaid : Prop := fnExactPushLayerUptoRow.holds Tryz.pinned (OpenSpec.upto fnExactPushLayerSpec)

/-- 'laws.FnExactRemoveLayer', WHERE WHAT IT READS IS OF BULK AT MOST 1048576: true; the input reads as it did. -/
def fnExactRemoveLayerUptoRow : OpenClaim := { program := "ytpalpbpamcaakaagreat", sum := "8590b40dfc4bf452df723cd6a0f85200d8a5fd072794dffe922deb59adc30084", func := "loop.example/g00882/laws.FnExactRemoveLayer", spec := "fnExactRemoveLayer", unfollowed := true, recurses := true, plainKeys := false, apart := false, narrowed := true }
def FnExactRemoveLayerUptoSaid : Prop := fnExactRemoveLayerUptoRow.holds Tryz.pinned (OpenSpec.upto fnExactRemoveLayerSpec)

/-- 'laws.FnExactOutlinesFor', WHERE WHAT IT READS IS OF BULK AT MOST 1048576: true; the input reads as it did. -/
def fnExactOutlinesForUptoRow : OpenClaim := { program := "ytpalpbpamcaakaagreat", sum := "8590b40dfc4bf452df723cd6a0f85200d8a5fd072794dffe922deb59adc30084", func := "loop.example/g00882/laws.FnExactOutlinesFor", spec := "fnExactOutlinesFor", unfollowed := true, recurses := true, plainKeys := false, apart := false, narrowed := true }
def FnExactOutlinesForUptoSaid : Prop := fnExactOutlinesForUptoRow.holds Tryz.pinned (OpenSpec.upto fnExactOutlinesForSpec)

end Rows
end Go.Proofs.YtpalpbpamcaakaaGreat
