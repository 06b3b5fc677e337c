/-
  DERIVED. GIVEN WITH THE SEED: THE CARDS: each row of YticdhapbkfbhjaaDoorRows.lean that lists a variable, with what it lists TIED to the program's text (the seventh form; the later family's looks); each row that meets fmt, with fmt's text TOLD by the authors' own Lean function (tested against real Go, not proved from fmt's source: count such statements apart). THE CARD IS WHAT COUNTS. Prove the row's statement (the work); the ties are given (YticdhapbkfbhjaaDoorTie.lean); close each card by the builder's one call (the guide's Derived/Test/ToyasCard.lean, 'card_holds'). Laid BY PROGRAM, IN A SANDBOX (cutbox-door.mjs). By AI agents, Wed Nov 11 2026. No macro, syntax, notation, axiom, sorry.
-/
import Derived.Test.YticdhapbkfbhjaaDoorRows
import GoSem.ClaimSeven
namespace Go.Proofs.YticdhapbkfbhjaaDoor
namespace Rows

/-- THE TIED CARD OF 'laws.FnExactWordOfRuns'. -/
def fnExactWordOfRunsCard : Claim7 := { stood := { row := fnExactWordOfRunsRow, standIns := [], harness := (true, "7f76951b5e915340faefa0d5a4c72199b45bd7c6c4756f0c2e29a0ecb424d899"), looks := false }, kinds := [], alts := [], laidByText := true, laidKinds := [.data, .pinned], laidTests := true, laidLooks := .later }
def FnExactWordOfRunsCardSaid : Prop := Claim7.holds Tryd.pinned (.plain (OpenSpec.ofChange fnExactWordOfRunsSpec)) fnExactWordOfRunsCard

/-- THE TIED CARD OF 'laws.FnExactOtherWord'. -/
def fnExactOtherWordCard : Claim7 := { stood := { row := fnExactOtherWordRow, standIns := [], harness := (true, "7f76951b5e915340faefa0d5a4c72199b45bd7c6c4756f0c2e29a0ecb424d899"), looks := false }, kinds := [], alts := [], laidByText := true, laidKinds := [.data, .pinned], laidTests := true, laidLooks := .later }
def FnExactOtherWordCardSaid : Prop := Claim7.holds Tryd.pinned (.plain (OpenSpec.ofChange fnExactOtherWordSpec)) fnExactOtherWordCard

/-- THE SECOND FORM's CARD OF 'laws.FnExactWordOfRuns'. -/
def fnExactWordOfRunsUptoCard : Claim7 := { stood := { row := fnExactWordOfRunsUptoRow, standIns := [], harness := (true, "7f76951b5e915340faefa0d5a4c72199b45bd7c6c4756f0c2e29a0ecb424d899"), looks := false }, kinds := [], alts := [], laidByText := true, laidKinds := [.data, .pinned], laidTests := true, laidLooks := .later }
def FnExactWordOfRunsUptoCardSaid : Prop := Claim7.holds Tryd.pinned (.plain (OpenSpec.upto fnExactWordOfRunsSpec)) fnExactWordOfRunsUptoCard

/-- THE SECOND FORM's CARD OF 'laws.FnExactOtherWord'. -/
def fnExactOtherWordUptoCard : Claim7 := { stood := { row := fnExactOtherWordUptoRow, standIns := [], harness := (true, "7f76951b5e915340faefa0d5a4c72199b45bd7c6c4756f0c2e29a0ecb424d899"), looks := false }, kinds := [], alts := [], laidByText := true, laidKinds := [.data, .pinned], laidTests := true, laidLooks := .later }
def FnExactOtherWordUptoCardSaid : Prop := Claim7.holds Tryd.pinned (.plain (OpenSpec.upto fnExactOtherWordSpec)) fnExactOtherWordUptoCard
end Rows
end Go.Proofs.YticdhapbkfbhjaaDoor
