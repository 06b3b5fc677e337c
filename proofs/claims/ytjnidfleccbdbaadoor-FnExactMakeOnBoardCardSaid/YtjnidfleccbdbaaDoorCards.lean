/-
  DERIVED. GIVEN WITH THE SEED: THE CARDS: each row of YtjnidfleccbdbaaDoorRows.lean that lists a variable, with what it lists TIED to the program's text (the seventh form; the later family's looks); each row that meets fmt, with fmt's text TOLD by the authors' own Lean function (tested against real Go, not proved from fmt's source: count such statements apart). THE CARD IS WHAT COUNTS. Prove the row's statement (the work); the ties are given (YtjnidfleccbdbaaDoorTie.lean); close each card by the builder's one call (the guide's Derived/Test/ToyasCard.lean, 'card_holds'). Laid BY PROGRAM, IN A SANDBOX (cutbox-door.mjs). By AI agents, Wed Nov 11 2026. No macro, syntax, notation, axiom, sorry.
-/
import Derived.Test.YtjnidfleccbdbaaDoorRows
import GoSem.ClaimSeven
namespace Go.Proofs.YtjnidfleccbdbaaDoor
namespace Rows

/-- THE TIED CARD OF 'laws.FnExactPuzzleText'. -/
def fnExactPuzzleTextCard : Claim7 := { stood := { row := fnExactPuzzleTextRow, standIns := [], harness := (true, "1631db681d5cff32fcfcd8371df8a71c4d9898aff874ab84411358b038ea84da"), looks := true }, kinds := [], alts := [], laidByText := true, laidKinds := [.data, .data, .data], laidTests := true, laidLooks := .later }
def FnExactPuzzleTextCardSaid : Prop := Claim7.holds Tryd.pinned (.plain (OpenSpec.ofChange fnExactPuzzleTextSpec)) fnExactPuzzleTextCard

/-- THE TIED CARD OF 'laws.FnExactParsePuzzle'. -/
def fnExactParsePuzzleCard : Claim7 := { stood := { row := fnExactParsePuzzleRow, standIns := [], harness := (true, "1631db681d5cff32fcfcd8371df8a71c4d9898aff874ab84411358b038ea84da"), looks := true }, kinds := [], alts := [], laidByText := true, laidKinds := [.data, .data, .data, .data, .sentinel, .sentinel, .pinned], laidTests := true, laidLooks := .later }
def FnExactParsePuzzleCardSaid : Prop := Claim7.holds Tryd.pinned (.plain (OpenSpec.ofChange fnExactParsePuzzleSpec)) fnExactParsePuzzleCard

/-- THE TIED CARD OF 'laws.FnExactBoardMoves'. -/
def fnExactBoardMovesCard : Claim7 := { stood := { row := fnExactBoardMovesRow, standIns := [], harness := (true, "1631db681d5cff32fcfcd8371df8a71c4d9898aff874ab84411358b038ea84da"), looks := true }, kinds := [], alts := [], laidByText := true, laidKinds := [.data, .pinned], laidTests := true, laidLooks := .later }
def FnExactBoardMovesCardSaid : Prop := Claim7.holds Tryd.pinned (.plain (OpenSpec.ofChange fnExactBoardMovesSpec)) fnExactBoardMovesCard

/-- THE TIED CARD OF 'laws.FnExactMakeOnBoard'. -/
def fnExactMakeOnBoardCard : Claim7 := { stood := { row := fnExactMakeOnBoardRow, standIns := [], harness := (true, "1631db681d5cff32fcfcd8371df8a71c4d9898aff874ab84411358b038ea84da"), looks := true }, kinds := [], alts := [], laidByText := true, laidKinds := [.data, .pinned], laidTests := true, laidLooks := .later }
def FnExactMakeOnBoardCardSaid : Prop := Claim7.holds Tryd.pinned (.plain (OpenSpec.ofChange fnExactMakeOnBoardSpec)) fnExactMakeOnBoardCard

/-- THE TIED CARD OF 'laws.FnExactExchangeBoard'. -/
def fnExactExchangeBoardCard : Claim7 := { stood := { row := fnExactExchangeBoardRow, standIns := [], harness := (true, "1631db681d5cff32fcfcd8371df8a71c4d9898aff874ab84411358b038ea84da"), looks := true }, kinds := [], alts := [], laidByText := true, laidKinds := [.data, .pinned], laidTests := true, laidLooks := .later }
def FnExactExchangeBoardCardSaid : Prop := Claim7.holds Tryd.pinned (.plain (OpenSpec.ofChange fnExactExchangeBoardSpec)) fnExactExchangeBoardCard

/-- THE TIED CARD OF 'laws.FnExactIsBoardBlocked'. -/
def fnExactIsBoardBlockedCard : Claim7 := { stood := { row := fnExactIsBoardBlockedRow, standIns := [], harness := (true, "1631db681d5cff32fcfcd8371df8a71c4d9898aff874ab84411358b038ea84da"), looks := true }, kinds := [], alts := [], laidByText := true, laidKinds := [.data, .pinned], laidTests := true, laidLooks := .later }
def FnExactIsBoardBlockedCardSaid : Prop := Claim7.holds Tryd.pinned (.plain (OpenSpec.ofChange fnExactIsBoardBlockedSpec)) fnExactIsBoardBlockedCard

/-- THE SECOND FORM's CARD OF 'laws.FnExactPuzzleText'. -/
def fnExactPuzzleTextUptoCard : Claim7 := { stood := { row := fnExactPuzzleTextUptoRow, standIns := [], harness := (true, "1631db681d5cff32fcfcd8371df8a71c4d9898aff874ab84411358b038ea84da"), looks := true }, kinds := [], alts := [], laidByText := true, laidKinds := [.data, .data, .data], laidTests := true, laidLooks := .later }
def FnExactPuzzleTextUptoCardSaid : Prop := Claim7.holds Tryd.pinned (.plain (OpenSpec.upto fnExactPuzzleTextSpec)) fnExactPuzzleTextUptoCard

/-- THE SECOND FORM's CARD OF 'laws.FnExactParsePuzzle'. -/
def fnExactParsePuzzleUptoCard : Claim7 := { stood := { row := fnExactParsePuzzleUptoRow, standIns := [], harness := (true, "1631db681d5cff32fcfcd8371df8a71c4d9898aff874ab84411358b038ea84da"), looks := true }, kinds := [], alts := [], laidByText := true, laidKinds := [.data, .data, .data, .data, .sentinel, .sentinel, .pinned], laidTests := true, laidLooks := .later }
def FnExactParsePuzzleUptoCardSaid : Prop := Claim7.holds Tryd.pinned (.plain (OpenSpec.upto fnExactParsePuzzleSpec)) fnExactParsePuzzleUptoCard

/-- THE SECOND FORM's CARD OF 'laws.FnExactBoardMoves'. -/
def fnExactBoardMovesUptoCard : Claim7 := { stood := { row := fnExactBoardMovesUptoRow, standIns := [], harness := (true, "1631db681d5cff32fcfcd8371df8a71c4d9898aff874ab84411358b038ea84da"), looks := true }, kinds := [], alts := [], laidByText := true, laidKinds := [.data, .pinned], laidTests := true, laidLooks := .later }
def FnExactBoardMovesUptoCardSaid : Prop := Claim7.holds Tryd.pinned (.plain (OpenSpec.upto fnExactBoardMovesSpec)) fnExactBoardMovesUptoCard

/-- THE SECOND FORM's CARD OF 'laws.FnExactMakeOnBoard'. -/
def fnExactMakeOnBoardUptoCard : Claim7 := { stood := { row := fnExactMakeOnBoardUptoRow, standIns := [], harness := (true, "1631db681d5cff32fcfcd8371df8a71c4d9898aff874ab84411358b038ea84da"), looks := true }, kinds := [], alts := [], laidByText := true, laidKinds := [.data, .pinned], laidTests := true, laidLooks := .later }
def FnExactMakeOnBoardUptoCardSaid : Prop := Claim7.holds Tryd.pinned (.plain (OpenSpec.upto fnExactMakeOnBoardSpec)) fnExactMakeOnBoardUptoCard

/-- THE SECOND FORM's CARD OF 'laws.FnExactExchangeBoard'. -/
def fnExactExchangeBoardUptoCard : Claim7 := { stood := { row := fnExactExchangeBoardUptoRow, standIns := [], harness := (true, "1631db681d5cff32fcfcd8371df8a71c4d9898aff874ab84411358b038ea84da"), looks := true }, kinds := [], alts := [], laidByText := true, laidKinds := [.data, .pinned], laidTests := true, laidLooks := .later }
def FnExactExchangeBoardUptoCardSaid : Prop := Claim7.holds Tryd.pinned (.plain (OpenSpec.upto fnExactExchangeBoardSpec)) fnExactExchangeBoardUptoCard

/-- THE SECOND FORM's CARD OF 'laws.FnExactIsBoardBlocked'. -/
def fnExactIsBoardBlockedUptoCard : Claim7 := { stood := { row := fnExactIsBoardBlockedUptoRow, standIns := [], harness := (true, "1631db681d5cff32fcfcd8371df8a71c4d9898aff874ab84411358b038ea84da"), looks := true }, kinds := [], alts := [], laidByText := true, laidKinds := [.data, .pinned], laidTests := true, laidLooks := .later }
def FnExactIsBoardBlockedUptoCardSaid : Prop := Claim7.holds Tryd.pinned (.plain (OpenSpec.upto fnExactIsBoardBlockedSpec)) fnExactIsBoardBlockedUptoCard
end Rows
end Go.Proofs.YtjnidfleccbdbaaDoor
