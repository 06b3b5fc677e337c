/-
  DERIVED. GIVEN WITH THE SEED: THE CARDS: each row of YtjadnfnpbacfdaaGreatDoorRows.lean that lists a variable, with what it lists TIED to the program's text (the seventh form; the later family's looks); each row that meets fmt, with fmt's text TOLD by the authors' own Lean function (tested against real Go, not proved from fmt's source: count such statements apart). THE CARD IS WHAT COUNTS. Prove the row's statement (the work); the ties are given (YtjadnfnpbacfdaaGreatDoorTie.lean); close each card by the builder's one call (the guide's Derived/Test/ToyasCard.lean, 'card_holds'). Laid BY PROGRAM, IN A SANDBOX (cutbox-door.mjs). By AI agents, Wed Nov 11 2026. No macro, syntax, notation, axiom, sorry.
-/
import Derived.Test.YtjadnfnpbacfdaaGreatDoorRows
import GoSem.ClaimSeven
namespace Go.Proofs.YtjadnfnpbacfdaaGreatDoor
namespace Rows

/-- THE TIED CARD OF 'laws.FnExactLinesHalfway'. -/
def fnExactLinesHalfwayCard : Claim7 := { stood := { row := fnExactLinesHalfwayRow, standIns := [], harness := (true, "fde2b5e4a61dcbf2dfb1df7bb547451c2871aee5cf000e61ebe004e1f18c362a"), looks := false }, kinds := [], alts := [], laidByText := true, laidKinds := [.data, .pinned], laidTests := true, laidLooks := .later }
def FnExactLinesHalfwayCardSaid : Prop := Claim7.holds Tryz.pinned (.plain (OpenSpec.ofChange fnExactLinesHalfwaySpec)) fnExactLinesHalfwayCard

/-- THE SECOND FORM's CARD OF 'laws.FnExactLinesHalfway'. -/
def fnExactLinesHalfwayUptoCard : Claim7 := { stood := { row := fnExactLinesHalfwayUptoRow, standIns := [], harness := (true, "fde2b5e4a61dcbf2dfb1df7bb547451c2871aee5cf000e61ebe004e1f18c362a"), looks := false }, kinds := [], alts := [], laidByText := true, laidKinds := [.data, .pinned], laidTests := true, laidLooks := .later }
def FnExactLinesHalfwayUptoCardSaid : Prop := Claim7.holds Tryz.pinned (.plain (OpenSpec.upto fnExactLinesHalfwaySpec)) fnExactLinesHalfwayUptoCard
end Rows
end Go.Proofs.YtjadnfnpbacfdaaGreatDoor
