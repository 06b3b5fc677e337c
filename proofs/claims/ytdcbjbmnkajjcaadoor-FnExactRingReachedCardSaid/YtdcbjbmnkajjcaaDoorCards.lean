/-
  DERIVED. GIVEN WITH THE SEED: THE CARDS: each row of YtdcbjbmnkajjcaaDoorRows.lean that lists a variable, with what it lists TIED to the program's text (the seventh form; the later family's looks); each row that meets fmt, with fmt's text TOLD by the authors' own Lean function (tested against real Go, not proved from fmt's source: count such statements apart). THE CARD IS WHAT COUNTS. Prove the row's statement (the work); the ties are given (YtdcbjbmnkajjcaaDoorTie.lean); close each card by the builder's one call (the guide's Derived/Test/ToyasCard.lean, 'card_holds'). Laid BY PROGRAM, IN A SANDBOX (cutbox-door.mjs). By AI agents, Wed Nov 11 2026. No macro, syntax, notation, axiom, sorry.
-/
import Derived.Test.YtdcbjbmnkajjcaaDoorRows
import GoSem.ClaimSeven
namespace Go.Proofs.YtdcbjbmnkajjcaaDoor
namespace Rows

/-- THE TIED CARD OF 'laws.FnExactRingReached'. -/
def fnExactRingReachedCard : Claim7 := { stood := { row := fnExactRingReachedRow, standIns := [], harness := (true, "007d74f5289a16e46259843161f4e05b72a670edf0b34cb501567ad94c2e21ab"), looks := false }, kinds := [], alts := [], laidByText := true, laidKinds := [.data, .pinned], laidTests := true, laidLooks := .later }
def FnExactRingReachedCardSaid : Prop := Claim7.holds Tryd.pinned (.plain (OpenSpec.ofChange fnExactRingReachedSpec)) fnExactRingReachedCard

/-- THE TIED CARD OF 'laws.FnExactReachOnRing'. -/
def fnExactReachOnRingCard : Claim7 := { stood := { row := fnExactReachOnRingRow, standIns := [], harness := (true, "007d74f5289a16e46259843161f4e05b72a670edf0b34cb501567ad94c2e21ab"), looks := false }, kinds := [], alts := [], laidByText := true, laidKinds := [.data, .pinned], laidTests := true, laidLooks := .later }
def FnExactReachOnRingCardSaid : Prop := Claim7.holds Tryd.pinned (.plain (OpenSpec.ofChange fnExactReachOnRingSpec)) fnExactReachOnRingCard

/-- THE TIED CARD OF 'laws.FnExactShortestOnRing'. -/
def fnExactShortestOnRingCard : Claim7 := { stood := { row := fnExactShortestOnRingRow, standIns := [], harness := (true, "007d74f5289a16e46259843161f4e05b72a670edf0b34cb501567ad94c2e21ab"), looks := false }, kinds := [], alts := [], laidByText := true, laidKinds := [.data, .pinned], laidTests := true, laidLooks := .later }
def FnExactShortestOnRingCardSaid : Prop := Claim7.holds Tryd.pinned (.plain (OpenSpec.ofChange fnExactShortestOnRingSpec)) fnExactShortestOnRingCard

/-- THE TIED CARD OF 'laws.FnExactPathOnRing'. -/
def fnExactPathOnRingCard : Claim7 := { stood := { row := fnExactPathOnRingRow, standIns := [], harness := (true, "007d74f5289a16e46259843161f4e05b72a670edf0b34cb501567ad94c2e21ab"), looks := false }, kinds := [], alts := [], laidByText := true, laidKinds := [.data, .pinned], laidTests := true, laidLooks := .later }
def FnExactPathOnRingCardSaid : Prop := Claim7.holds Tryd.pinned (.plain (OpenSpec.ofChange fnExactPathOnRingSpec)) fnExactPathOnRingCard

/-- THE TIED CARD OF 'laws.FnExactComesAround'. -/
def fnExactComesAroundCard : Claim7 := { stood := { row := fnExactComesAroundRow, standIns := [], harness := (true, "007d74f5289a16e46259843161f4e05b72a670edf0b34cb501567ad94c2e21ab"), looks := false }, kinds := [], alts := [], laidByText := true, laidKinds := [.data, .pinned], laidTests := true, laidLooks := .later }
def FnExactComesAroundCardSaid : Prop := Claim7.holds Tryd.pinned (.plain (OpenSpec.ofChange fnExactComesAroundSpec)) fnExactComesAroundCard

/-- THE SECOND FORM's CARD OF 'laws.FnExactRingReached'. -/
def fnExactRingReachedUptoCard : Claim7 := { stood := { row := fnExactRingReachedUptoRow, standIns := [], harness := (true, "007d74f5289a16e46259843161f4e05b72a670edf0b34cb501567ad94c2e21ab"), looks := false }, kinds := [], alts := [], laidByText := true, laidKinds := [.data, .pinned], laidTests := true, laidLooks := .later }
def FnExactRingReachedUptoCardSaid : Prop := Claim7.holds Tryd.pinned (.plain (OpenSpec.upto fnExactRingReachedSpec)) fnExactRingReachedUptoCard

/-- THE SECOND FORM's CARD OF 'laws.FnExactReachOnRing'. -/
def fnExactReachOnRingUptoCard : Claim7 := { stood := { row := fnExactReachOnRingUptoRow, standIns := [], harness := (true, "007d74f5289a16e46259843161f4e05b72a670edf0b34cb501567ad94c2e21ab"), looks := false }, kinds := [], alts := [], laidByText := true, laidKinds := [.data, .pinned], laidTests := true, laidLooks := .later }
def FnExactReachOnRingUptoCardSaid : Prop := Claim7.holds Tryd.pinned (.plain (OpenSpec.upto fnExactReachOnRingSpec)) fnExactReachOnRingUptoCard

/-- THE SECOND FORM's CARD OF 'laws.FnExactShortestOnRing'. -/
def fnExactShortestOnRingUptoCard : Claim7 := { stood := { row := fnExactShortestOnRingUptoRow, standIns := [], harness := (true, "007d74f5289a16e46259843161f4e05b72a670edf0b34cb501567ad94c2e21ab"), looks := false }, kinds := [], alts := [], laidByText := true, laidKinds := [.data, .pinned], laidTests := true, laidLooks := .later }
def FnExactShortestOnRingUptoCardSaid : Prop := Claim7.holds Tryd.pinned (.plain (OpenSpec.upto fnExactShortestOnRingSpec)) fnExactShortestOnRingUptoCard

/-- THE SECOND FORM's CARD OF 'laws.FnExactPathOnRing'. -/
def fnExactPathOnRingUptoCard : Claim7 := { stood := { row := fnExactPathOnRingUptoRow, standIns := [], harness := (true, "007d74f5289a16e46259843161f4e05b72a670edf0b34cb501567ad94c2e21ab"), looks := false }, kinds := [], alts := [], laidByText := true, laidKinds := [.data, .pinned], laidTests := true, laidLooks := .later }
def FnExactPathOnRingUptoCardSaid : Prop := Claim7.holds Tryd.pinned (.plain (OpenSpec.upto fnExactPathOnRingSpec)) fnExactPathOnRingUptoCard

/-- THE SECOND FORM's CARD OF 'laws.FnExactComesAround'. -/
def fnExactComesAroundUptoCard : Claim7 := { stood := { row := fnExactComesAroundUptoRow, standIns := [], harness := (true, "007d74f5289a16e46259843161f4e05b72a670edf0b34cb501567ad94c2e21ab"), looks := false }, kinds := [], alts := [], laidByText := true, laidKinds := [.data, .pinned], laidTests := true, laidLooks := .later }
def FnExactComesAroundUptoCardSaid : Prop := Claim7.holds Tryd.pinned (.plain (OpenSpec.upto fnExactComesAroundSpec)) fnExactComesAroundUptoCard
end Rows
end Go.Proofs.YtdcbjbmnkajjcaaDoor
