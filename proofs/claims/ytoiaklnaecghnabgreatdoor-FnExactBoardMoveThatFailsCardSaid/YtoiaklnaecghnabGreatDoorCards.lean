/-
  DERIVED. GIVEN WITH THE SEED: THE CARDS: each row of YtoiaklnaecghnabGreatDoorRows.lean that lists a variable, with what it lists TIED to the program's text (the seventh form; the later family's looks); each row that meets fmt, with fmt's text TOLD by the authors' own Lean function (tested against real Go, not proved from fmt's source: count such statements apart). THE CARD IS WHAT COUNTS. Prove the row's statement (the work); the ties are given (YtoiaklnaecghnabGreatDoorTie.lean); close each card by the builder's one call (the guide's Derived/Test/ToyasCard.lean, 'card_holds'). Laid BY PROGRAM, IN A SANDBOX (cutbox-door.mjs). By AI agents, Wed Nov 11 2026. No macro, syntax, notation, axiom, sorry.
-/
import Derived.Test.YtoiaklnaecghnabGreatDoorRows
import GoSem.ClaimSeven
namespace Go.Proofs.YtoiaklnaecghnabGreatDoor
namespace Rows

/-- THE TIED CARD OF 'laws.FnExactPlayOnBoard'. -/
def fnExactPlayOnBoardCard : Claim7 := { stood := { row := fnExactPlayOnBoardRow, standIns := [], harness := (true, "3896cbc52b938af396ecff8a3ea4dacf305f2ae124cf8e51cafea34e9e78ffab"), looks := false }, kinds := [], alts := [], laidByText := true, laidKinds := [.data, .pinned], laidTests := true, laidLooks := .later }
def FnExactPlayOnBoardCardSaid : Prop := Claim7.holds Tryz.pinned (.plain (OpenSpec.ofChange fnExactPlayOnBoardSpec)) fnExactPlayOnBoardCard

/-- THE TIED CARD OF 'laws.FnExactBoardMoveThatFails'. -/
def fnExactBoardMoveThatFailsCard : Claim7 := { stood := { row := fnExactBoardMoveThatFailsRow, standIns := [], harness := (true, "3896cbc52b938af396ecff8a3ea4dacf305f2ae124cf8e51cafea34e9e78ffab"), looks := false }, kinds := [], alts := [], laidByText := true, laidKinds := [.data, .pinned], laidTests := true, laidLooks := .later }
def FnExactBoardMoveThatFailsCardSaid : Prop := Claim7.holds Tryz.pinned (.plain (OpenSpec.ofChange fnExactBoardMoveThatFailsSpec)) fnExactBoardMoveThatFailsCard

/-- THE SECOND FORM's CARD OF 'laws.FnExactPlayOnBoard'. -/
def fnExactPlayOnBoardUptoCard : Claim7 := { stood := { row := fnExactPlayOnBoardUptoRow, standIns := [], harness := (true, "3896cbc52b938af396ecff8a3ea4dacf305f2ae124cf8e51cafea34e9e78ffab"), looks := false }, kinds := [], alts := [], laidByText := true, laidKinds := [.data, .pinned], laidTests := true, laidLooks := .later }
def FnExactPlayOnBoardUptoCardSaid : Prop := Claim7.holds Tryz.pinned (.plain (OpenSpec.upto fnExactPlayOnBoardSpec)) fnExactPlayOnBoardUptoCard

/-- THE SECOND FORM's CARD OF 'laws.FnExactBoardMoveThatFails'. -/
def fnExactBoardMoveThatFailsUptoCard : Claim7 := { stood := { row := fnExactBoardMoveThatFailsUptoRow, standIns := [], harness := (true, "3896cbc52b938af396ecff8a3ea4dacf305f2ae124cf8e51cafea34e9e78ffab"), looks := false }, kinds := [], alts := [], laidByText := true, laidKinds := [.data, .pinned], laidTests := true, laidLooks := .later }
def FnExactBoardMoveThatFailsUptoCardSaid : Prop := Claim7.holds Tryz.pinned (.plain (OpenSpec.upto fnExactBoardMoveThatFailsSpec)) fnExactBoardMoveThatFailsUptoCard
end Rows
end Go.Proofs.YtoiaklnaecghnabGreatDoor
