/-
  DERIVED. GIVEN WITH THE SEED: THE CARDS: each row of YtjadnfnpbacfdaaDoorRows.lean that lists a variable, with what it lists TIED to the program's text (the seventh form; the later family's looks); each row that meets fmt, with fmt's text TOLD by the authors' own Lean function (tested against real Go, not proved from fmt's source: count such statements apart). THE CARD IS WHAT COUNTS. Prove the row's statement (the work); the ties are given (YtjadnfnpbacfdaaDoorTie.lean); close each card by the builder's one call (the guide's Derived/Test/ToyasCard.lean, 'card_holds'). Laid BY PROGRAM, IN A SANDBOX (cutbox-door.mjs). By AI agents, Wed Nov 11 2026. No macro, syntax, notation, axiom, sorry.
-/
import Derived.Test.YtjadnfnpbacfdaaDoorRows
import GoSem.ClaimSeven
namespace Go.Proofs.YtjadnfnpbacfdaaDoor
namespace Rows

/-- THE TIED CARD OF 'laws.FnExactFirstExchange'. -/
def fnExactFirstExchangeCard : Claim7 := { stood := { row := fnExactFirstExchangeRow, standIns := [], harness := (true, "2ad7360f3c21db1abeefe56cc861b7a9308fa9928f582983a28b290b95553a9d"), looks := false }, kinds := [], alts := [], laidByText := true, laidKinds := [.data, .pinned], laidTests := true, laidLooks := .later }
def FnExactFirstExchangeCardSaid : Prop := Claim7.holds Tryd.pinned (.plain (OpenSpec.ofChange fnExactFirstExchangeSpec)) fnExactFirstExchangeCard

/-- THE TIED CARD OF 'laws.FnExactLastExchange'. -/
def fnExactLastExchangeCard : Claim7 := { stood := { row := fnExactLastExchangeRow, standIns := [], harness := (true, "2ad7360f3c21db1abeefe56cc861b7a9308fa9928f582983a28b290b95553a9d"), looks := false }, kinds := [], alts := [], laidByText := true, laidKinds := [.data, .pinned], laidTests := true, laidLooks := .later }
def FnExactLastExchangeCardSaid : Prop := Claim7.holds Tryd.pinned (.plain (OpenSpec.ofChange fnExactLastExchangeSpec)) fnExactLastExchangeCard

/-- THE TIED CARD OF 'laws.FnExactCountExchanges'. -/
def fnExactCountExchangesCard : Claim7 := { stood := { row := fnExactCountExchangesRow, standIns := [], harness := (true, "2ad7360f3c21db1abeefe56cc861b7a9308fa9928f582983a28b290b95553a9d"), looks := false }, kinds := [], alts := [], laidByText := true, laidKinds := [.data, .pinned], laidTests := true, laidLooks := .later }
def FnExactCountExchangesCardSaid : Prop := Claim7.holds Tryd.pinned (.plain (OpenSpec.ofChange fnExactCountExchangesSpec)) fnExactCountExchangesCard

/-- THE TIED CARD OF 'laws.FnExactAllExchanges'. -/
def fnExactAllExchangesCard : Claim7 := { stood := { row := fnExactAllExchangesRow, standIns := [], harness := (true, "2ad7360f3c21db1abeefe56cc861b7a9308fa9928f582983a28b290b95553a9d"), looks := false }, kinds := [], alts := [], laidByText := true, laidKinds := [.data, .pinned], laidTests := true, laidLooks := .later }
def FnExactAllExchangesCardSaid : Prop := Claim7.holds Tryd.pinned (.plain (OpenSpec.ofChange fnExactAllExchangesSpec)) fnExactAllExchangesCard

/-- THE TIED CARD OF 'laws.FnExactLineInExchange'. -/
def fnExactLineInExchangeCard : Claim7 := { stood := { row := fnExactLineInExchangeRow, standIns := [], harness := (true, "2ad7360f3c21db1abeefe56cc861b7a9308fa9928f582983a28b290b95553a9d"), looks := false }, kinds := [], alts := [], laidByText := true, laidKinds := [.data, .pinned], laidTests := true, laidLooks := .later }
def FnExactLineInExchangeCardSaid : Prop := Claim7.holds Tryd.pinned (.plain (OpenSpec.ofChange fnExactLineInExchangeSpec)) fnExactLineInExchangeCard

/-- THE TIED CARD OF 'laws.FnExactIsLive'. -/
def fnExactIsLiveCard : Claim7 := { stood := { row := fnExactIsLiveRow, standIns := [], harness := (true, "2ad7360f3c21db1abeefe56cc861b7a9308fa9928f582983a28b290b95553a9d"), looks := false }, kinds := [], alts := [], laidByText := true, laidKinds := [.data, .pinned], laidTests := true, laidLooks := .later }
def FnExactIsLiveCardSaid : Prop := Claim7.holds Tryd.pinned (.plain (OpenSpec.ofChange fnExactIsLiveSpec)) fnExactIsLiveCard

/-- THE TIED CARD OF 'laws.FnExactCountLive'. -/
def fnExactCountLiveCard : Claim7 := { stood := { row := fnExactCountLiveRow, standIns := [], harness := (true, "2ad7360f3c21db1abeefe56cc861b7a9308fa9928f582983a28b290b95553a9d"), looks := false }, kinds := [], alts := [], laidByText := true, laidKinds := [.data, .pinned], laidTests := true, laidLooks := .later }
def FnExactCountLiveCardSaid : Prop := Claim7.holds Tryd.pinned (.plain (OpenSpec.ofChange fnExactCountLiveSpec)) fnExactCountLiveCard

/-- THE TIED CARD OF 'laws.FnExactLiveMoves'. -/
def fnExactLiveMovesCard : Claim7 := { stood := { row := fnExactLiveMovesRow, standIns := [], harness := (true, "2ad7360f3c21db1abeefe56cc861b7a9308fa9928f582983a28b290b95553a9d"), looks := false }, kinds := [], alts := [], laidByText := true, laidKinds := [.data, .pinned], laidTests := true, laidLooks := .later }
def FnExactLiveMovesCardSaid : Prop := Claim7.holds Tryd.pinned (.plain (OpenSpec.ofChange fnExactLiveMovesSpec)) fnExactLiveMovesCard

/-- THE TIED CARD OF 'laws.FnExactForcedIn'. -/
def fnExactForcedInCard : Claim7 := { stood := { row := fnExactForcedInRow, standIns := [], harness := (true, "2ad7360f3c21db1abeefe56cc861b7a9308fa9928f582983a28b290b95553a9d"), looks := false }, kinds := [], alts := [], laidByText := true, laidKinds := [.data, .pinned], laidTests := true, laidLooks := .later }
def FnExactForcedInCardSaid : Prop := Claim7.holds Tryd.pinned (.plain (OpenSpec.ofChange fnExactForcedInSpec)) fnExactForcedInCard

/-- THE TIED CARD OF 'laws.FnExactExchangeBoard'. -/
def fnExactExchangeBoardCard : Claim7 := { stood := { row := fnExactExchangeBoardRow, standIns := [], harness := (true, "2ad7360f3c21db1abeefe56cc861b7a9308fa9928f582983a28b290b95553a9d"), looks := false }, kinds := [], alts := [], laidByText := true, laidKinds := [.data, .pinned], laidTests := true, laidLooks := .later }
def FnExactExchangeBoardCardSaid : Prop := Claim7.holds Tryd.pinned (.plain (OpenSpec.ofChange fnExactExchangeBoardSpec)) fnExactExchangeBoardCard

/-- THE TIED CARD OF 'laws.FnExactPlayOnRing'. -/
def fnExactPlayOnRingCard : Claim7 := { stood := { row := fnExactPlayOnRingRow, standIns := [], harness := (true, "2ad7360f3c21db1abeefe56cc861b7a9308fa9928f582983a28b290b95553a9d"), looks := false }, kinds := [], alts := [], laidByText := true, laidKinds := [.data, .pinned], laidTests := true, laidLooks := .later }
def FnExactPlayOnRingCardSaid : Prop := Claim7.holds Tryd.pinned (.plain (OpenSpec.ofChange fnExactPlayOnRingSpec)) fnExactPlayOnRingCard

/-- THE SECOND FORM's CARD OF 'laws.FnExactFirstExchange'. -/
def fnExactFirstExchangeUptoCard : Claim7 := { stood := { row := fnExactFirstExchangeUptoRow, standIns := [], harness := (true, "2ad7360f3c21db1abeefe56cc861b7a9308fa9928f582983a28b290b95553a9d"), looks := false }, kinds := [], alts := [], laidByText := true, laidKinds := [.data, .pinned], laidTests := true, laidLooks := .later }
def FnExactFirstExchangeUptoCardSaid : Prop := Claim7.holds Tryd.pinned (.plain (OpenSpec.upto fnExactFirstExchangeSpec)) fnExactFirstExchangeUptoCard

/-- THE SECOND FORM's CARD OF 'laws.FnExactLastExchange'. -/
def fnExactLastExchangeUptoCard : Claim7 := { stood := { row := fnExactLastExchangeUptoRow, standIns := [], harness := (true, "2ad7360f3c21db1abeefe56cc861b7a9308fa9928f582983a28b290b95553a9d"), looks := false }, kinds := [], alts := [], laidByText := true, laidKinds := [.data, .pinned], laidTests := true, laidLooks := .later }
def FnExactLastExchangeUptoCardSaid : Prop := Claim7.holds Tryd.pinned (.plain (OpenSpec.upto fnExactLastExchangeSpec)) fnExactLastExchangeUptoCard

/-- THE SECOND FORM's CARD OF 'laws.FnExactCountExchanges'. -/
def fnExactCountExchangesUptoCard : Claim7 := { stood := { row := fnExactCountExchangesUptoRow, standIns := [], harness := (true, "2ad7360f3c21db1abeefe56cc861b7a9308fa9928f582983a28b290b95553a9d"), looks := false }, kinds := [], alts := [], laidByText := true, laidKinds := [.data, .pinned], laidTests := true, laidLooks := .later }
def FnExactCountExchangesUptoCardSaid : Prop := Claim7.holds Tryd.pinned (.plain (OpenSpec.upto fnExactCountExchangesSpec)) fnExactCountExchangesUptoCard

/-- THE SECOND FORM's CARD OF 'laws.FnExactAllExchanges'. -/
def fnExactAllExchangesUptoCard : Claim7 := { stood := { row := fnExactAllExchangesUptoRow, standIns := [], harness := (true, "2ad7360f3c21db1abeefe56cc861b7a9308fa9928f582983a28b290b95553a9d"), looks := false }, kinds := [], alts := [], laidByText := true, laidKinds := [.data, .pinned], laidTests := true, laidLooks := .later }
def FnExactAllExchangesUptoCardSaid : Prop := Claim7.holds Tryd.pinned (.plain (OpenSpec.upto fnExactAllExchangesSpec)) fnExactAllExchangesUptoCard

/-- THE SECOND FORM's CARD OF 'laws.FnExactLineInExchange'. -/
def fnExactLineInExchangeUptoCard : Claim7 := { stood := { row := fnExactLineInExchangeUptoRow, standIns := [], harness := (true, "2ad7360f3c21db1abeefe56cc861b7a9308fa9928f582983a28b290b95553a9d"), looks := false }, kinds := [], alts := [], laidByText := true, laidKinds := [.data, .pinned], laidTests := true, laidLooks := .later }
def FnExactLineInExchangeUptoCardSaid : Prop := Claim7.holds Tryd.pinned (.plain (OpenSpec.upto fnExactLineInExchangeSpec)) fnExactLineInExchangeUptoCard

/-- THE SECOND FORM's CARD OF 'laws.FnExactIsLive'. -/
def fnExactIsLiveUptoCard : Claim7 := { stood := { row := fnExactIsLiveUptoRow, standIns := [], harness := (true, "2ad7360f3c21db1abeefe56cc861b7a9308fa9928f582983a28b290b95553a9d"), looks := false }, kinds := [], alts := [], laidByText := true, laidKinds := [.data, .pinned], laidTests := true, laidLooks := .later }
def FnExactIsLiveUptoCardSaid : Prop := Claim7.holds Tryd.pinned (.plain (OpenSpec.upto fnExactIsLiveSpec)) fnExactIsLiveUptoCard

/-- THE SECOND FORM's CARD OF 'laws.FnExactCountLive'. -/
def fnExactCountLiveUptoCard : Claim7 := { stood := { row := fnExactCountLiveUptoRow, standIns := [], harness := (true, "2ad7360f3c21db1abeefe56cc861b7a9308fa9928f582983a28b290b95553a9d"), looks := false }, kinds := [], alts := [], laidByText := true, laidKinds := [.data, .pinned], laidTests := true, laidLooks := .later }
def FnExactCountLiveUptoCardSaid : Prop := Claim7.holds Tryd.pinned (.plain (OpenSpec.upto fnExactCountLiveSpec)) fnExactCountLiveUptoCard

/-- THE SECOND FORM's CARD OF 'laws.FnExactLiveMoves'. -/
def fnExactLiveMovesUptoCard : Claim7 := { stood := { row := fnExactLiveMovesUptoRow, standIns := [], harness := (true, "2ad7360f3c21db1abeefe56cc861b7a9308fa9928f582983a28b290b95553a9d"), looks := false }, kinds := [], alts := [], laidByText := true, laidKinds := [.data, .pinned], laidTests := true, laidLooks := .later }
def FnExactLiveMovesUptoCardSaid : Prop := Claim7.holds Tryd.pinned (.plain (OpenSpec.upto fnExactLiveMovesSpec)) fnExactLiveMovesUptoCard

/-- THE SECOND FORM's CARD OF 'laws.FnExactForcedIn'. -/
def fnExactForcedInUptoCard : Claim7 := { stood := { row := fnExactForcedInUptoRow, standIns := [], harness := (true, "2ad7360f3c21db1abeefe56cc861b7a9308fa9928f582983a28b290b95553a9d"), looks := false }, kinds := [], alts := [], laidByText := true, laidKinds := [.data, .pinned], laidTests := true, laidLooks := .later }
def FnExactForcedInUptoCardSaid : Prop := Claim7.holds Tryd.pinned (.plain (OpenSpec.upto fnExactForcedInSpec)) fnExactForcedInUptoCard

/-- THE SECOND FORM's CARD OF 'laws.FnExactExchangeBoard'. -/
def fnExactExchangeBoardUptoCard : Claim7 := { stood := { row := fnExactExchangeBoardUptoRow, standIns := [], harness := (true, "2ad7360f3c21db1abeefe56cc861b7a9308fa9928f582983a28b290b95553a9d"), looks := false }, kinds := [], alts := [], laidByText := true, laidKinds := [.data, .pinned], laidTests := true, laidLooks := .later }
def FnExactExchangeBoardUptoCardSaid : Prop := Claim7.holds Tryd.pinned (.plain (OpenSpec.upto fnExactExchangeBoardSpec)) fnExactExchangeBoardUptoCard

/-- THE SECOND FORM's CARD OF 'laws.FnExactPlayOnRing'. -/
def fnExactPlayOnRingUptoCard : Claim7 := { stood := { row := fnExactPlayOnRingUptoRow, standIns := [], harness := (true, "2ad7360f3c21db1abeefe56cc861b7a9308fa9928f582983a28b290b95553a9d"), looks := false }, kinds := [], alts := [], laidByText := true, laidKinds := [.data, .pinned], laidTests := true, laidLooks := .later }
def FnExactPlayOnRingUptoCardSaid : Prop := Claim7.holds Tryd.pinned (.plain (OpenSpec.upto fnExactPlayOnRingSpec)) fnExactPlayOnRingUptoCard
end Rows
end Go.Proofs.YtjadnfnpbacfdaaDoor
