/-
  DERIVED. GIVEN WITH THE SEED: THE CARDS: each row of YtnpiphkglhcifaaDoorRows.lean that lists a variable, with what it lists TIED to the program's text (the seventh form; the later family's looks); each row that meets fmt, with fmt's text TOLD by the authors' own Lean function (tested against real Go, not proved from fmt's source: count such statements apart). THE CARD IS WHAT COUNTS. Prove the row's statement (the work); the ties are given (YtnpiphkglhcifaaDoorTie.lean); close each card by the builder's one call (the guide's Derived/Test/ToyasCard.lean, 'card_holds'). Laid BY PROGRAM, IN A SANDBOX (cutbox-door.mjs). By AI agents, Wed Nov 11 2026. No macro, syntax, notation, axiom, sorry.
-/
import Derived.Test.YtnpiphkglhcifaaDoorRows
import GoSem.ClaimSeven
namespace Go.Proofs.YtnpiphkglhcifaaDoor
namespace Rows

/-- THE TIED CARD OF 'laws.FnCapital'. -/
def fnCapitalCard : Claim7 := { stood := { row := fnCapitalRow, standIns := [], harness := (true, "00f5d6d11069b166e57d97cecd0281f969af32868160df3cf8437e39b40e8b84"), looks := false }, kinds := [], alts := [], laidByText := true, laidKinds := [.data, .pinned, .pinned], laidTests := true, laidLooks := .later }
def FnCapitalCardSaid : Prop := Claim7.holds Tryd.pinned (.plain (OpenSpec.ofChange fnCapitalSpec)) fnCapitalCard

/-- THE TIED CARD OF 'laws.FnExactApplyAtom'. -/
def fnExactApplyAtomCard : Claim7 := { stood := { row := fnExactApplyAtomRow, standIns := [], harness := (true, "00f5d6d11069b166e57d97cecd0281f969af32868160df3cf8437e39b40e8b84"), looks := false }, kinds := [], alts := [], laidByText := true, laidKinds := [.data, .pinned, .pinned], laidTests := true, laidLooks := .later }
def FnExactApplyAtomCardSaid : Prop := Claim7.holds Tryd.pinned (.plain (OpenSpec.ofChange fnExactApplyAtomSpec)) fnExactApplyAtomCard

/-- THE TIED CARD OF 'laws.FnExactApplyAtoms'. -/
def fnExactApplyAtomsCard : Claim7 := { stood := { row := fnExactApplyAtomsRow, standIns := [], harness := (true, "00f5d6d11069b166e57d97cecd0281f969af32868160df3cf8437e39b40e8b84"), looks := false }, kinds := [], alts := [], laidByText := true, laidKinds := [.data, .pinned, .pinned], laidTests := true, laidLooks := .later }
def FnExactApplyAtomsCardSaid : Prop := Claim7.holds Tryd.pinned (.plain (OpenSpec.ofChange fnExactApplyAtomsSpec)) fnExactApplyAtomsCard

/-- THE TIED CARD OF 'laws.FnExactRender'. -/
def fnExactRenderCard : Claim7 := { stood := { row := fnExactRenderRow, standIns := [], harness := (true, "00f5d6d11069b166e57d97cecd0281f969af32868160df3cf8437e39b40e8b84"), looks := false }, kinds := [], alts := [], laidByText := true, laidKinds := [.data, .pinned, .pinned], laidTests := true, laidLooks := .later }
def FnExactRenderCardSaid : Prop := Claim7.holds Tryd.pinned (.plain (OpenSpec.ofChange fnExactRenderSpec)) fnExactRenderCard

/-- THE SECOND FORM's CARD OF 'laws.FnCapital'. -/
def fnCapitalUptoCard : Claim7 := { stood := { row := fnCapitalUptoRow, standIns := [], harness := (true, "00f5d6d11069b166e57d97cecd0281f969af32868160df3cf8437e39b40e8b84"), looks := false }, kinds := [], alts := [], laidByText := true, laidKinds := [.data, .pinned, .pinned], laidTests := true, laidLooks := .later }
def FnCapitalUptoCardSaid : Prop := Claim7.holds Tryd.pinned (.plain (OpenSpec.upto fnCapitalSpec)) fnCapitalUptoCard

/-- THE SECOND FORM's CARD OF 'laws.FnExactApplyAtom'. -/
def fnExactApplyAtomUptoCard : Claim7 := { stood := { row := fnExactApplyAtomUptoRow, standIns := [], harness := (true, "00f5d6d11069b166e57d97cecd0281f969af32868160df3cf8437e39b40e8b84"), looks := false }, kinds := [], alts := [], laidByText := true, laidKinds := [.data, .pinned, .pinned], laidTests := true, laidLooks := .later }
def FnExactApplyAtomUptoCardSaid : Prop := Claim7.holds Tryd.pinned (.plain (OpenSpec.upto fnExactApplyAtomSpec)) fnExactApplyAtomUptoCard

/-- THE SECOND FORM's CARD OF 'laws.FnExactApplyAtoms'. -/
def fnExactApplyAtomsUptoCard : Claim7 := { stood := { row := fnExactApplyAtomsUptoRow, standIns := [], harness := (true, "00f5d6d11069b166e57d97cecd0281f969af32868160df3cf8437e39b40e8b84"), looks := false }, kinds := [], alts := [], laidByText := true, laidKinds := [.data, .pinned, .pinned], laidTests := true, laidLooks := .later }
def FnExactApplyAtomsUptoCardSaid : Prop := Claim7.holds Tryd.pinned (.plain (OpenSpec.upto fnExactApplyAtomsSpec)) fnExactApplyAtomsUptoCard

/-- THE SECOND FORM's CARD OF 'laws.FnExactRender'. -/
def fnExactRenderUptoCard : Claim7 := { stood := { row := fnExactRenderUptoRow, standIns := [], harness := (true, "00f5d6d11069b166e57d97cecd0281f969af32868160df3cf8437e39b40e8b84"), looks := false }, kinds := [], alts := [], laidByText := true, laidKinds := [.data, .pinned, .pinned], laidTests := true, laidLooks := .later }
def FnExactRenderUptoCardSaid : Prop := Claim7.holds Tryd.pinned (.plain (OpenSpec.upto fnExactRenderSpec)) fnExactRenderUptoCard
end Rows
end Go.Proofs.YtnpiphkglhcifaaDoor
