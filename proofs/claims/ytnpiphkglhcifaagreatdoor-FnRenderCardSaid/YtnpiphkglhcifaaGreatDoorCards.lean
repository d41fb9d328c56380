/-
  DERIVED. GIVEN WITH THE SEED: THE CARDS: each row of YtnpiphkglhcifaaGreatDoorRows.lean that lists a variable, with what it lists TIED to the program's text (the seventh form; the later family's looks); each row that meets fmt, with fmt's text TOLD by the authors' own Lean function (tested against real Go, not proved from fmt's source: count such statements apart). THE CARD IS WHAT COUNTS. Prove the row's statement (the work); the ties are given (YtnpiphkglhcifaaGreatDoorTie.lean); close each card by the builder's one call (the guide's Derived/Test/ToyasCard.lean, 'card_holds'). Laid BY PROGRAM, IN A SANDBOX (cutbox-door.mjs). By AI agents, Wed Nov 11 2026. No macro, syntax, notation, axiom, sorry.
-/
import Derived.Test.YtnpiphkglhcifaaGreatDoorRows
import GoSem.ClaimSeven
namespace Go.Proofs.YtnpiphkglhcifaaGreatDoor
namespace Rows

/-- THE TIED CARD OF 'laws.FnFormat'. -/
def fnFormatCard : Claim7 := { stood := { row := fnFormatRow, standIns := [], harness := (true, "419432d17b3891f12305b0263e1786ab71647af77c9140878c27f14075d65c0c"), looks := false }, kinds := [], alts := [], laidByText := true, laidKinds := [.data, .pinned, .pinned], laidTests := true, laidLooks := .later }
def FnFormatCardSaid : Prop := Claim7.holds Tryz.pinned (.plain (OpenSpec.ofChange fnFormatSpec)) fnFormatCard

/-- THE TIED CARD OF 'laws.FnRender'. -/
def fnRenderCard : Claim7 := { stood := { row := fnRenderRow, standIns := [], harness := (true, "419432d17b3891f12305b0263e1786ab71647af77c9140878c27f14075d65c0c"), looks := false }, kinds := [], alts := [], laidByText := true, laidKinds := [.data, .pinned, .pinned], laidTests := true, laidLooks := .later }
def FnRenderCardSaid : Prop := Claim7.holds Tryz.pinned (.plain (OpenSpec.ofChange fnRenderSpec)) fnRenderCard

/-- THE SECOND FORM's CARD OF 'laws.FnFormat'. -/
def fnFormatUptoCard : Claim7 := { stood := { row := fnFormatUptoRow, standIns := [], harness := (true, "419432d17b3891f12305b0263e1786ab71647af77c9140878c27f14075d65c0c"), looks := false }, kinds := [], alts := [], laidByText := true, laidKinds := [.data, .pinned, .pinned], laidTests := true, laidLooks := .later }
def FnFormatUptoCardSaid : Prop := Claim7.holds Tryz.pinned (.plain (OpenSpec.upto fnFormatSpec)) fnFormatUptoCard

/-- THE SECOND FORM's CARD OF 'laws.FnRender'. -/
def fnRenderUptoCard : Claim7 := { stood := { row := fnRenderUptoRow, standIns := [], harness := (true, "419432d17b3891f12305b0263e1786ab71647af77c9140878c27f14075d65c0c"), looks := false }, kinds := [], alts := [], laidByText := true, laidKinds := [.data, .pinned, .pinned], laidTests := true, laidLooks := .later }
def FnRenderUptoCardSaid : Prop := Claim7.holds Tryz.pinned (.plain (OpenSpec.upto fnRenderSpec)) fnRenderUptoCard
end Rows
end Go.Proofs.YtnpiphkglhcifaaGreatDoor
