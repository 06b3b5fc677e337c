/-
  DERIVED. GIVEN WITH THE SEED: THE CARDS: each row of YtmlffocbcfediaaDoorRows.lean that lists a variable, with what it lists TIED to the program's text (the seventh form; the later family's looks); each row that meets fmt, with fmt's text TOLD by the authors' own Lean function (tested against real Go, not proved from fmt's source: count such statements apart). THE CARD IS WHAT COUNTS. Prove the row's statement (the work); the ties are given (YtmlffocbcfediaaDoorTie.lean); close each card by the builder's one call (the guide's Derived/Test/ToyasCard.lean, 'card_holds'). Laid BY PROGRAM, IN A SANDBOX (cutbox-door.mjs). By AI agents, Wed Nov 11 2026. No macro, syntax, notation, axiom, sorry.
-/
import Derived.Test.YtmlffocbcfediaaDoorRows
import GoSem.ClaimSeven
namespace Go.Proofs.YtmlffocbcfediaaDoor
namespace Rows

/-- THE TIED CARD OF 'laws.FnExactIsBoard'. -/
def fnExactIsBoardCard : Claim7 := { stood := { row := fnExactIsBoardRow, standIns := [], harness := (true, "2d37550661559b0dea3b2ef4f2a0cef7768fe66e4bbc64c4102299cf917b5fa5"), looks := false }, kinds := [], alts := [], laidByText := true, laidKinds := [.data, .pinned], laidTests := true, laidLooks := .later }
def FnExactIsBoardCardSaid : Prop := Claim7.holds Tryd.pinned (.plain (OpenSpec.ofChange fnExactIsBoardSpec)) fnExactIsBoardCard

/-- THE TIED CARD OF 'laws.FnExactSizeOfBoard'. -/
def fnExactSizeOfBoardCard : Claim7 := { stood := { row := fnExactSizeOfBoardRow, standIns := [], harness := (true, "2d37550661559b0dea3b2ef4f2a0cef7768fe66e4bbc64c4102299cf917b5fa5"), looks := false }, kinds := [], alts := [], laidByText := true, laidKinds := [.data, .pinned], laidTests := true, laidLooks := .later }
def FnExactSizeOfBoardCardSaid : Prop := Claim7.holds Tryd.pinned (.plain (OpenSpec.ofChange fnExactSizeOfBoardSpec)) fnExactSizeOfBoardCard

/-- THE TIED CARD OF 'laws.FnExactBoardMoves'. -/
def fnExactBoardMovesCard : Claim7 := { stood := { row := fnExactBoardMovesRow, standIns := [], harness := (true, "2d37550661559b0dea3b2ef4f2a0cef7768fe66e4bbc64c4102299cf917b5fa5"), looks := false }, kinds := [], alts := [], laidByText := true, laidKinds := [.data, .pinned], laidTests := true, laidLooks := .later }
def FnExactBoardMovesCardSaid : Prop := Claim7.holds Tryd.pinned (.plain (OpenSpec.ofChange fnExactBoardMovesSpec)) fnExactBoardMovesCard

/-- THE TIED CARD OF 'laws.FnExactMakeOnBoard'. -/
def fnExactMakeOnBoardCard : Claim7 := { stood := { row := fnExactMakeOnBoardRow, standIns := [], harness := (true, "2d37550661559b0dea3b2ef4f2a0cef7768fe66e4bbc64c4102299cf917b5fa5"), looks := false }, kinds := [], alts := [], laidByText := true, laidKinds := [.data, .pinned], laidTests := true, laidLooks := .later }
def FnExactMakeOnBoardCardSaid : Prop := Claim7.holds Tryd.pinned (.plain (OpenSpec.ofChange fnExactMakeOnBoardSpec)) fnExactMakeOnBoardCard

/-- THE TIED CARD OF 'laws.FnExactExchangeBoard'. -/
def fnExactExchangeBoardCard : Claim7 := { stood := { row := fnExactExchangeBoardRow, standIns := [], harness := (true, "2d37550661559b0dea3b2ef4f2a0cef7768fe66e4bbc64c4102299cf917b5fa5"), looks := false }, kinds := [], alts := [], laidByText := true, laidKinds := [.data, .pinned], laidTests := true, laidLooks := .later }
def FnExactExchangeBoardCardSaid : Prop := Claim7.holds Tryd.pinned (.plain (OpenSpec.ofChange fnExactExchangeBoardSpec)) fnExactExchangeBoardCard

/-- THE TIED CARD OF 'laws.FnExactRowOfBoard'. -/
def fnExactRowOfBoardCard : Claim7 := { stood := { row := fnExactRowOfBoardRow, standIns := [], harness := (true, "2d37550661559b0dea3b2ef4f2a0cef7768fe66e4bbc64c4102299cf917b5fa5"), looks := false }, kinds := [], alts := [], laidByText := true, laidKinds := [.data, .pinned], laidTests := true, laidLooks := .later }
def FnExactRowOfBoardCardSaid : Prop := Claim7.holds Tryd.pinned (.plain (OpenSpec.ofChange fnExactRowOfBoardSpec)) fnExactRowOfBoardCard

/-- THE TIED CARD OF 'laws.FnExactColumnOfBoard'. -/
def fnExactColumnOfBoardCard : Claim7 := { stood := { row := fnExactColumnOfBoardRow, standIns := [], harness := (true, "2d37550661559b0dea3b2ef4f2a0cef7768fe66e4bbc64c4102299cf917b5fa5"), looks := false }, kinds := [], alts := [], laidByText := true, laidKinds := [.data, .pinned], laidTests := true, laidLooks := .later }
def FnExactColumnOfBoardCardSaid : Prop := Claim7.holds Tryd.pinned (.plain (OpenSpec.ofChange fnExactColumnOfBoardSpec)) fnExactColumnOfBoardCard

/-- THE TIED CARD OF 'laws.FnExactCrossBoard'. -/
def fnExactCrossBoardCard : Claim7 := { stood := { row := fnExactCrossBoardRow, standIns := [], harness := (true, "2d37550661559b0dea3b2ef4f2a0cef7768fe66e4bbc64c4102299cf917b5fa5"), looks := false }, kinds := [], alts := [], laidByText := true, laidKinds := [.data, .pinned], laidTests := true, laidLooks := .later }
def FnExactCrossBoardCardSaid : Prop := Claim7.holds Tryd.pinned (.plain (OpenSpec.ofChange fnExactCrossBoardSpec)) fnExactCrossBoardCard

/-- THE TIED CARD OF 'laws.FnExactOtherBoard'. -/
def fnExactOtherBoardCard : Claim7 := { stood := { row := fnExactOtherBoardRow, standIns := [], harness := (true, "2d37550661559b0dea3b2ef4f2a0cef7768fe66e4bbc64c4102299cf917b5fa5"), looks := false }, kinds := [], alts := [], laidByText := true, laidKinds := [.data, .pinned], laidTests := true, laidLooks := .later }
def FnExactOtherBoardCardSaid : Prop := Claim7.holds Tryd.pinned (.plain (OpenSpec.ofChange fnExactOtherBoardSpec)) fnExactOtherBoardCard

/-- THE TIED CARD OF 'laws.FnExactIsBoardBlocked'. -/
def fnExactIsBoardBlockedCard : Claim7 := { stood := { row := fnExactIsBoardBlockedRow, standIns := [], harness := (true, "2d37550661559b0dea3b2ef4f2a0cef7768fe66e4bbc64c4102299cf917b5fa5"), looks := false }, kinds := [], alts := [], laidByText := true, laidKinds := [.data, .pinned], laidTests := true, laidLooks := .later }
def FnExactIsBoardBlockedCardSaid : Prop := Claim7.holds Tryd.pinned (.plain (OpenSpec.ofChange fnExactIsBoardBlockedSpec)) fnExactIsBoardBlockedCard

/-- THE TIED CARD OF 'laws.FnExactWayOnBoard'. -/
def fnExactWayOnBoardCard : Claim7 := { stood := { row := fnExactWayOnBoardRow, standIns := [], harness := (true, "2d37550661559b0dea3b2ef4f2a0cef7768fe66e4bbc64c4102299cf917b5fa5"), looks := false }, kinds := [], alts := [], laidByText := true, laidKinds := [.data, .pinned], laidTests := true, laidLooks := .later }
def FnExactWayOnBoardCardSaid : Prop := Claim7.holds Tryd.pinned (.plain (OpenSpec.ofChange fnExactWayOnBoardSpec)) fnExactWayOnBoardCard

/-- THE SECOND FORM's CARD OF 'laws.FnExactIsBoard'. -/
def fnExactIsBoardUptoCard : Claim7 := { stood := { row := fnExactIsBoardUptoRow, standIns := [], harness := (true, "2d37550661559b0dea3b2ef4f2a0cef7768fe66e4bbc64c4102299cf917b5fa5"), looks := false }, kinds := [], alts := [], laidByText := true, laidKinds := [.data, .pinned], laidTests := true, laidLooks := .later }
def FnExactIsBoardUptoCardSaid : Prop := Claim7.holds Tryd.pinned (.plain (OpenSpec.upto fnExactIsBoardSpec)) fnExactIsBoardUptoCard

/-- THE SECOND FORM's CARD OF 'laws.FnExactSizeOfBoard'. -/
def fnExactSizeOfBoardUptoCard : Claim7 := { stood := { row := fnExactSizeOfBoardUptoRow, standIns := [], harness := (true, "2d37550661559b0dea3b2ef4f2a0cef7768fe66e4bbc64c4102299cf917b5fa5"), looks := false }, kinds := [], alts := [], laidByText := true, laidKinds := [.data, .pinned], laidTests := true, laidLooks := .later }
def FnExactSizeOfBoardUptoCardSaid : Prop := Claim7.holds Tryd.pinned (.plain (OpenSpec.upto fnExactSizeOfBoardSpec)) fnExactSizeOfBoardUptoCard

/-- THE SECOND FORM's CARD OF 'laws.FnExactBoardMoves'. -/
def fnExactBoardMovesUptoCard : Claim7 := { stood := { row := fnExactBoardMovesUptoRow, standIns := [], harness := (true, "2d37550661559b0dea3b2ef4f2a0cef7768fe66e4bbc64c4102299cf917b5fa5"), looks := false }, kinds := [], alts := [], laidByText := true, laidKinds := [.data, .pinned], laidTests := true, laidLooks := .later }
def FnExactBoardMovesUptoCardSaid : Prop := Claim7.holds Tryd.pinned (.plain (OpenSpec.upto fnExactBoardMovesSpec)) fnExactBoardMovesUptoCard

/-- THE SECOND FORM's CARD OF 'laws.FnExactMakeOnBoard'. -/
def fnExactMakeOnBoardUptoCard : Claim7 := { stood := { row := fnExactMakeOnBoardUptoRow, standIns := [], harness := (true, "2d37550661559b0dea3b2ef4f2a0cef7768fe66e4bbc64c4102299cf917b5fa5"), looks := false }, kinds := [], alts := [], laidByText := true, laidKinds := [.data, .pinned], laidTests := true, laidLooks := .later }
def FnExactMakeOnBoardUptoCardSaid : Prop := Claim7.holds Tryd.pinned (.plain (OpenSpec.upto fnExactMakeOnBoardSpec)) fnExactMakeOnBoardUptoCard

/-- THE SECOND FORM's CARD OF 'laws.FnExactExchangeBoard'. -/
def fnExactExchangeBoardUptoCard : Claim7 := { stood := { row := fnExactExchangeBoardUptoRow, standIns := [], harness := (true, "2d37550661559b0dea3b2ef4f2a0cef7768fe66e4bbc64c4102299cf917b5fa5"), looks := false }, kinds := [], alts := [], laidByText := true, laidKinds := [.data, .pinned], laidTests := true, laidLooks := .later }
def FnExactExchangeBoardUptoCardSaid : Prop := Claim7.holds Tryd.pinned (.plain (OpenSpec.upto fnExactExchangeBoardSpec)) fnExactExchangeBoardUptoCard

/-- THE SECOND FORM's CARD OF 'laws.FnExactRowOfBoard'. -/
def fnExactRowOfBoardUptoCard : Claim7 := { stood := { row := fnExactRowOfBoardUptoRow, standIns := [], harness := (true, "2d37550661559b0dea3b2ef4f2a0cef7768fe66e4bbc64c4102299cf917b5fa5"), looks := false }, kinds := [], alts := [], laidByText := true, laidKinds := [.data, .pinned], laidTests := true, laidLooks := .later }
def FnExactRowOfBoardUptoCardSaid : Prop := Claim7.holds Tryd.pinned (.plain (OpenSpec.upto fnExactRowOfBoardSpec)) fnExactRowOfBoardUptoCard

/-- THE SECOND FORM's CARD OF 'laws.FnExactColumnOfBoard'. -/
def fnExactColumnOfBoardUptoCard : Claim7 := { stood := { row := fnExactColumnOfBoardUptoRow, standIns := [], harness := (true, "2d37550661559b0dea3b2ef4f2a0cef7768fe66e4bbc64c4102299cf917b5fa5"), looks := false }, kinds := [], alts := [], laidByText := true, laidKinds := [.data, .pinned], laidTests := true, laidLooks := .later }
def FnExactColumnOfBoardUptoCardSaid : Prop := Claim7.holds Tryd.pinned (.plain (OpenSpec.upto fnExactColumnOfBoardSpec)) fnExactColumnOfBoardUptoCard

/-- THE SECOND FORM's CARD OF 'laws.FnExactCrossBoard'. -/
def fnExactCrossBoardUptoCard : Claim7 := { stood := { row := fnExactCrossBoardUptoRow, standIns := [], harness := (true, "2d37550661559b0dea3b2ef4f2a0cef7768fe66e4bbc64c4102299cf917b5fa5"), looks := false }, kinds := [], alts := [], laidByText := true, laidKinds := [.data, .pinned], laidTests := true, laidLooks := .later }
def FnExactCrossBoardUptoCardSaid : Prop := Claim7.holds Tryd.pinned (.plain (OpenSpec.upto fnExactCrossBoardSpec)) fnExactCrossBoardUptoCard

/-- THE SECOND FORM's CARD OF 'laws.FnExactOtherBoard'. -/
def fnExactOtherBoardUptoCard : Claim7 := { stood := { row := fnExactOtherBoardUptoRow, standIns := [], harness := (true, "2d37550661559b0dea3b2ef4f2a0cef7768fe66e4bbc64c4102299cf917b5fa5"), looks := false }, kinds := [], alts := [], laidByText := true, laidKinds := [.data, .pinned], laidTests := true, laidLooks := .later }
def FnExactOtherBoardUptoCardSaid : Prop := Claim7.holds Tryd.pinned (.plain (OpenSpec.upto fnExactOtherBoardSpec)) fnExactOtherBoardUptoCard

/-- THE SECOND FORM's CARD OF 'laws.FnExactIsBoardBlocked'. -/
def fnExactIsBoardBlockedUptoCard : Claim7 := { stood := { row := fnExactIsBoardBlockedUptoRow, standIns := [], harness := (true, "2d37550661559b0dea3b2ef4f2a0cef7768fe66e4bbc64c4102299cf917b5fa5"), looks := false }, kinds := [], alts := [], laidByText := true, laidKinds := [.data, .pinned], laidTests := true, laidLooks := .later }
def FnExactIsBoardBlockedUptoCardSaid : Prop := Claim7.holds Tryd.pinned (.plain (OpenSpec.upto fnExactIsBoardBlockedSpec)) fnExactIsBoardBlockedUptoCard

/-- THE SECOND FORM's CARD OF 'laws.FnExactWayOnBoard'. -/
def fnExactWayOnBoardUptoCard : Claim7 := { stood := { row := fnExactWayOnBoardUptoRow, standIns := [], harness := (true, "2d37550661559b0dea3b2ef4f2a0cef7768fe66e4bbc64c4102299cf917b5fa5"), looks := false }, kinds := [], alts := [], laidByText := true, laidKinds := [.data, .pinned], laidTests := true, laidLooks := .later }
def FnExactWayOnBoardUptoCardSaid : Prop := Claim7.holds Tryd.pinned (.plain (OpenSpec.upto fnExactWayOnBoardSpec)) fnExactWayOnBoardUptoCard
end Rows
end Go.Proofs.YtmlffocbcfediaaDoor
