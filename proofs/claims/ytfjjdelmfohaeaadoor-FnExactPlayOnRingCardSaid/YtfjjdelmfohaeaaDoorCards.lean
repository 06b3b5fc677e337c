/-
  DERIVED. GIVEN WITH THE SEED: THE CARDS: each row of YtfjjdelmfohaeaaDoorRows.lean that lists a variable, with what it lists TIED to the program's text (the seventh form; the later family's looks); each row that meets fmt, with fmt's text TOLD by the authors' own Lean function (tested against real Go, not proved from fmt's source: count such statements apart). THE CARD IS WHAT COUNTS. Prove the row's statement (the work); the ties are given (YtfjjdelmfohaeaaDoorTie.lean); close each card by the builder's one call (the guide's Derived/Test/ToyasCard.lean, 'card_holds'). Laid BY PROGRAM, IN A SANDBOX (cutbox-door.mjs). By AI agents, Wed Nov 11 2026. No macro, syntax, notation, axiom, sorry.
-/
import Derived.Test.YtfjjdelmfohaeaaDoorRows
import GoSem.ClaimSeven
namespace Go.Proofs.YtfjjdelmfohaeaaDoor
namespace Rows

/-- THE TIED CARD OF 'laws.FnExactRingMoves'. -/
def fnExactRingMovesCard : Claim7 := { stood := { row := fnExactRingMovesRow, standIns := [], harness := (true, "24f30483dc698fe9c8cd3ebd9e26b7c5d09c398c8c8bbd293a1a2935ad40c45e"), looks := false }, kinds := [], alts := [], laidByText := true, laidKinds := [.data, .pinned], laidTests := true, laidLooks := .later }
def FnExactRingMovesCardSaid : Prop := Claim7.holds Tryd.pinned (.plain (OpenSpec.ofChange fnExactRingMovesSpec)) fnExactRingMovesCard

/-- THE TIED CARD OF 'laws.FnExactCanOnRing'. -/
def fnExactCanOnRingCard : Claim7 := { stood := { row := fnExactCanOnRingRow, standIns := [], harness := (true, "24f30483dc698fe9c8cd3ebd9e26b7c5d09c398c8c8bbd293a1a2935ad40c45e"), looks := false }, kinds := [], alts := [], laidByText := true, laidKinds := [.data, .pinned], laidTests := true, laidLooks := .later }
def FnExactCanOnRingCardSaid : Prop := Claim7.holds Tryd.pinned (.plain (OpenSpec.ofChange fnExactCanOnRingSpec)) fnExactCanOnRingCard

/-- THE TIED CARD OF 'laws.FnExactMakeOnRing'. -/
def fnExactMakeOnRingCard : Claim7 := { stood := { row := fnExactMakeOnRingRow, standIns := [], harness := (true, "24f30483dc698fe9c8cd3ebd9e26b7c5d09c398c8c8bbd293a1a2935ad40c45e"), looks := false }, kinds := [], alts := [], laidByText := true, laidKinds := [.data, .pinned], laidTests := true, laidLooks := .later }
def FnExactMakeOnRingCardSaid : Prop := Claim7.holds Tryd.pinned (.plain (OpenSpec.ofChange fnExactMakeOnRingSpec)) fnExactMakeOnRingCard

/-- THE TIED CARD OF 'laws.FnExactPlayOnRing'. -/
def fnExactPlayOnRingCard : Claim7 := { stood := { row := fnExactPlayOnRingRow, standIns := [], harness := (true, "24f30483dc698fe9c8cd3ebd9e26b7c5d09c398c8c8bbd293a1a2935ad40c45e"), looks := false }, kinds := [], alts := [], laidByText := true, laidKinds := [.data, .pinned], laidTests := true, laidLooks := .later }
def FnExactPlayOnRingCardSaid : Prop := Claim7.holds Tryd.pinned (.plain (OpenSpec.ofChange fnExactPlayOnRingSpec)) fnExactPlayOnRingCard

/-- THE TIED CARD OF 'laws.FnExactRingReached'. -/
def fnExactRingReachedCard : Claim7 := { stood := { row := fnExactRingReachedRow, standIns := [], harness := (true, "24f30483dc698fe9c8cd3ebd9e26b7c5d09c398c8c8bbd293a1a2935ad40c45e"), looks := false }, kinds := [], alts := [], laidByText := true, laidKinds := [.data, .pinned], laidTests := true, laidLooks := .later }
def FnExactRingReachedCardSaid : Prop := Claim7.holds Tryd.pinned (.plain (OpenSpec.ofChange fnExactRingReachedSpec)) fnExactRingReachedCard

/-- THE TIED CARD OF 'laws.FnExactReachOnRing'. -/
def fnExactReachOnRingCard : Claim7 := { stood := { row := fnExactReachOnRingRow, standIns := [], harness := (true, "24f30483dc698fe9c8cd3ebd9e26b7c5d09c398c8c8bbd293a1a2935ad40c45e"), looks := false }, kinds := [], alts := [], laidByText := true, laidKinds := [.data, .pinned], laidTests := true, laidLooks := .later }
def FnExactReachOnRingCardSaid : Prop := Claim7.holds Tryd.pinned (.plain (OpenSpec.ofChange fnExactReachOnRingSpec)) fnExactReachOnRingCard

/-- THE TIED CARD OF 'laws.FnExactShortestOnRing'. -/
def fnExactShortestOnRingCard : Claim7 := { stood := { row := fnExactShortestOnRingRow, standIns := [], harness := (true, "24f30483dc698fe9c8cd3ebd9e26b7c5d09c398c8c8bbd293a1a2935ad40c45e"), looks := false }, kinds := [], alts := [], laidByText := true, laidKinds := [.data, .pinned], laidTests := true, laidLooks := .later }
def FnExactShortestOnRingCardSaid : Prop := Claim7.holds Tryd.pinned (.plain (OpenSpec.ofChange fnExactShortestOnRingSpec)) fnExactShortestOnRingCard

/-- THE TIED CARD OF 'laws.FnExactPathOnRing'. -/
def fnExactPathOnRingCard : Claim7 := { stood := { row := fnExactPathOnRingRow, standIns := [], harness := (true, "24f30483dc698fe9c8cd3ebd9e26b7c5d09c398c8c8bbd293a1a2935ad40c45e"), looks := false }, kinds := [], alts := [], laidByText := true, laidKinds := [.data, .pinned], laidTests := true, laidLooks := .later }
def FnExactPathOnRingCardSaid : Prop := Claim7.holds Tryd.pinned (.plain (OpenSpec.ofChange fnExactPathOnRingSpec)) fnExactPathOnRingCard

/-- THE TIED CARD OF 'laws.FnExactComesAround'. -/
def fnExactComesAroundCard : Claim7 := { stood := { row := fnExactComesAroundRow, standIns := [], harness := (true, "24f30483dc698fe9c8cd3ebd9e26b7c5d09c398c8c8bbd293a1a2935ad40c45e"), looks := false }, kinds := [], alts := [], laidByText := true, laidKinds := [.data, .pinned], laidTests := true, laidLooks := .later }
def FnExactComesAroundCardSaid : Prop := Claim7.holds Tryd.pinned (.plain (OpenSpec.ofChange fnExactComesAroundSpec)) fnExactComesAroundCard

/-- THE TIED CARD OF 'laws.FnExactRingBlocked'. -/
def fnExactRingBlockedCard : Claim7 := { stood := { row := fnExactRingBlockedRow, standIns := [], harness := (true, "24f30483dc698fe9c8cd3ebd9e26b7c5d09c398c8c8bbd293a1a2935ad40c45e"), looks := false }, kinds := [], alts := [], laidByText := true, laidKinds := [.data, .pinned], laidTests := true, laidLooks := .later }
def FnExactRingBlockedCardSaid : Prop := Claim7.holds Tryd.pinned (.plain (OpenSpec.ofChange fnExactRingBlockedSpec)) fnExactRingBlockedCard

/-- THE TIED CARD OF 'laws.FnExactCountBlockedRings'. -/
def fnExactCountBlockedRingsCard : Claim7 := { stood := { row := fnExactCountBlockedRingsRow, standIns := [], harness := (true, "24f30483dc698fe9c8cd3ebd9e26b7c5d09c398c8c8bbd293a1a2935ad40c45e"), looks := false }, kinds := [], alts := [], laidByText := true, laidKinds := [.data, .pinned], laidTests := true, laidLooks := .later }
def FnExactCountBlockedRingsCardSaid : Prop := Claim7.holds Tryd.pinned (.plain (OpenSpec.ofChange fnExactCountBlockedRingsSpec)) fnExactCountBlockedRingsCard

/-- THE SECOND FORM's CARD OF 'laws.FnExactRingMoves'. -/
def fnExactRingMovesUptoCard : Claim7 := { stood := { row := fnExactRingMovesUptoRow, standIns := [], harness := (true, "24f30483dc698fe9c8cd3ebd9e26b7c5d09c398c8c8bbd293a1a2935ad40c45e"), looks := false }, kinds := [], alts := [], laidByText := true, laidKinds := [.data, .pinned], laidTests := true, laidLooks := .later }
def FnExactRingMovesUptoCardSaid : Prop := Claim7.holds Tryd.pinned (.plain (OpenSpec.upto fnExactRingMovesSpec)) fnExactRingMovesUptoCard

/-- THE SECOND FORM's CARD OF 'laws.FnExactCanOnRing'. -/
def fnExactCanOnRingUptoCard : Claim7 := { stood := { row := fnExactCanOnRingUptoRow, standIns := [], harness := (true, "24f30483dc698fe9c8cd3ebd9e26b7c5d09c398c8c8bbd293a1a2935ad40c45e"), looks := false }, kinds := [], alts := [], laidByText := true, laidKinds := [.data, .pinned], laidTests := true, laidLooks := .later }
def FnExactCanOnRingUptoCardSaid : Prop := Claim7.holds Tryd.pinned (.plain (OpenSpec.upto fnExactCanOnRingSpec)) fnExactCanOnRingUptoCard

/-- THE SECOND FORM's CARD OF 'laws.FnExactMakeOnRing'. -/
def fnExactMakeOnRingUptoCard : Claim7 := { stood := { row := fnExactMakeOnRingUptoRow, standIns := [], harness := (true, "24f30483dc698fe9c8cd3ebd9e26b7c5d09c398c8c8bbd293a1a2935ad40c45e"), looks := false }, kinds := [], alts := [], laidByText := true, laidKinds := [.data, .pinned], laidTests := true, laidLooks := .later }
def FnExactMakeOnRingUptoCardSaid : Prop := Claim7.holds Tryd.pinned (.plain (OpenSpec.upto fnExactMakeOnRingSpec)) fnExactMakeOnRingUptoCard

/-- THE SECOND FORM's CARD OF 'laws.FnExactPlayOnRing'. -/
def fnExactPlayOnRingUptoCard : Claim7 := { stood := { row := fnExactPlayOnRingUptoRow, standIns := [], harness := (true, "24f30483dc698fe9c8cd3ebd9e26b7c5d09c398c8c8bbd293a1a2935ad40c45e"), looks := false }, kinds := [], alts := [], laidByText := true, laidKinds := [.data, .pinned], laidTests := true, laidLooks := .later }
def FnExactPlayOnRingUptoCardSaid : Prop := Claim7.holds Tryd.pinned (.plain (OpenSpec.upto fnExactPlayOnRingSpec)) fnExactPlayOnRingUptoCard

/-- THE SECOND FORM's CARD OF 'laws.FnExactRingReached'. -/
def fnExactRingReachedUptoCard : Claim7 := { stood := { row := fnExactRingReachedUptoRow, standIns := [], harness := (true, "24f30483dc698fe9c8cd3ebd9e26b7c5d09c398c8c8bbd293a1a2935ad40c45e"), looks := false }, kinds := [], alts := [], laidByText := true, laidKinds := [.data, .pinned], laidTests := true, laidLooks := .later }
def FnExactRingReachedUptoCardSaid : Prop := Claim7.holds Tryd.pinned (.plain (OpenSpec.upto fnExactRingReachedSpec)) fnExactRingReachedUptoCard

/-- THE SECOND FORM's CARD OF 'laws.FnExactReachOnRing'. -/
def fnExactReachOnRingUptoCard : Claim7 := { stood := { row := fnExactReachOnRingUptoRow, standIns := [], harness := (true, "24f30483dc698fe9c8cd3ebd9e26b7c5d09c398c8c8bbd293a1a2935ad40c45e"), looks := false }, kinds := [], alts := [], laidByText := true, laidKinds := [.data, .pinned], laidTests := true, laidLooks := .later }
def FnExactReachOnRingUptoCardSaid : Prop := Claim7.holds Tryd.pinned (.plain (OpenSpec.upto fnExactReachOnRingSpec)) fnExactReachOnRingUptoCard

/-- THE SECOND FORM's CARD OF 'laws.FnExactShortestOnRing'. -/
def fnExactShortestOnRingUptoCard : Claim7 := { stood := { row := fnExactShortestOnRingUptoRow, standIns := [], harness := (true, "24f30483dc698fe9c8cd3ebd9e26b7c5d09c398c8c8bbd293a1a2935ad40c45e"), looks := false }, kinds := [], alts := [], laidByText := true, laidKinds := [.data, .pinned], laidTests := true, laidLooks := .later }
def FnExactShortestOnRingUptoCardSaid : Prop := Claim7.holds Tryd.pinned (.plain (OpenSpec.upto fnExactShortestOnRingSpec)) fnExactShortestOnRingUptoCard

/-- THE SECOND FORM's CARD OF 'laws.FnExactPathOnRing'. -/
def fnExactPathOnRingUptoCard : Claim7 := { stood := { row := fnExactPathOnRingUptoRow, standIns := [], harness := (true, "24f30483dc698fe9c8cd3ebd9e26b7c5d09c398c8c8bbd293a1a2935ad40c45e"), looks := false }, kinds := [], alts := [], laidByText := true, laidKinds := [.data, .pinned], laidTests := true, laidLooks := .later }
def FnExactPathOnRingUptoCardSaid : Prop := Claim7.holds Tryd.pinned (.plain (OpenSpec.upto fnExactPathOnRingSpec)) fnExactPathOnRingUptoCard

/-- THE SECOND FORM's CARD OF 'laws.FnExactComesAround'. -/
def fnExactComesAroundUptoCard : Claim7 := { stood := { row := fnExactComesAroundUptoRow, standIns := [], harness := (true, "24f30483dc698fe9c8cd3ebd9e26b7c5d09c398c8c8bbd293a1a2935ad40c45e"), looks := false }, kinds := [], alts := [], laidByText := true, laidKinds := [.data, .pinned], laidTests := true, laidLooks := .later }
def FnExactComesAroundUptoCardSaid : Prop := Claim7.holds Tryd.pinned (.plain (OpenSpec.upto fnExactComesAroundSpec)) fnExactComesAroundUptoCard

/-- THE SECOND FORM's CARD OF 'laws.FnExactRingBlocked'. -/
def fnExactRingBlockedUptoCard : Claim7 := { stood := { row := fnExactRingBlockedUptoRow, standIns := [], harness := (true, "24f30483dc698fe9c8cd3ebd9e26b7c5d09c398c8c8bbd293a1a2935ad40c45e"), looks := false }, kinds := [], alts := [], laidByText := true, laidKinds := [.data, .pinned], laidTests := true, laidLooks := .later }
def FnExactRingBlockedUptoCardSaid : Prop := Claim7.holds Tryd.pinned (.plain (OpenSpec.upto fnExactRingBlockedSpec)) fnExactRingBlockedUptoCard

/-- THE SECOND FORM's CARD OF 'laws.FnExactCountBlockedRings'. -/
def fnExactCountBlockedRingsUptoCard : Claim7 := { stood := { row := fnExactCountBlockedRingsUptoRow, standIns := [], harness := (true, "24f30483dc698fe9c8cd3ebd9e26b7c5d09c398c8c8bbd293a1a2935ad40c45e"), looks := false }, kinds := [], alts := [], laidByText := true, laidKinds := [.data, .pinned], laidTests := true, laidLooks := .later }
def FnExactCountBlockedRingsUptoCardSaid : Prop := Claim7.holds Tryd.pinned (.plain (OpenSpec.upto fnExactCountBlockedRingsSpec)) fnExactCountBlockedRingsUptoCard
end Rows
end Go.Proofs.YtfjjdelmfohaeaaDoor
