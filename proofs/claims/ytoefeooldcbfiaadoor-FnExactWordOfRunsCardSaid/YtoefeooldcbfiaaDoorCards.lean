/-
  DERIVED. GIVEN WITH THE SEED: THE CARDS: each row of YtoefeooldcbfiaaDoorRows.lean that lists a variable, with what it lists TIED to the program's text (the seventh form; the later family's looks); each row that meets fmt, with fmt's text TOLD by the authors' own Lean function (tested against real Go, not proved from fmt's source: count such statements apart). THE CARD IS WHAT COUNTS. Prove the row's statement (the work); the ties are given (YtoefeooldcbfiaaDoorTie.lean); close each card by the builder's one call (the guide's Derived/Test/ToyasCard.lean, 'card_holds'). Laid BY PROGRAM, IN A SANDBOX (cutbox-door.mjs). By AI agents, Wed Nov 11 2026. No macro, syntax, notation, axiom, sorry.
-/
import Derived.Test.YtoefeooldcbfiaaDoorRows
import GoSem.ClaimSeven
namespace Go.Proofs.YtoefeooldcbfiaaDoor
namespace Rows

/-- THE TIED CARD OF 'laws.FnExactIsWord'. -/
def fnExactIsWordCard : Claim7 := { stood := { row := fnExactIsWordRow, standIns := [], harness := (true, "eb8963fa428430c80230bb5b76499c82ce86353692f942828b0297dec391db06"), looks := false }, kinds := [], alts := [], laidByText := true, laidKinds := [.data, .pinned], laidTests := true, laidLooks := .later }
def FnExactIsWordCardSaid : Prop := Claim7.holds Tryd.pinned (.plain (OpenSpec.ofChange fnExactIsWordSpec)) fnExactIsWordCard

/-- THE TIED CARD OF 'laws.FnExactMovesOfWord'. -/
def fnExactMovesOfWordCard : Claim7 := { stood := { row := fnExactMovesOfWordRow, standIns := [], harness := (true, "eb8963fa428430c80230bb5b76499c82ce86353692f942828b0297dec391db06"), looks := false }, kinds := [], alts := [], goes := true, laidByText := true, laidKinds := [.data, .pinned], laidTests := true, laidLooks := .later }
def FnExactMovesOfWordCardSaid : Prop := Claim7.holds Tryd.pinned (.plain (OpenSpec.ofChange fnExactMovesOfWordSpec)) fnExactMovesOfWordCard

/-- THE TIED CARD OF 'laws.FnExactPlayWord'. -/
def fnExactPlayWordCard : Claim7 := { stood := { row := fnExactPlayWordRow, standIns := [], harness := (true, "eb8963fa428430c80230bb5b76499c82ce86353692f942828b0297dec391db06"), looks := false }, kinds := [], alts := [], goes := true, laidByText := true, laidKinds := [.data, .pinned], laidTests := true, laidLooks := .later }
def FnExactPlayWordCardSaid : Prop := Claim7.holds Tryd.pinned (.plain (OpenSpec.ofChange fnExactPlayWordSpec)) fnExactPlayWordCard

/-- THE TIED CARD OF 'laws.FnExactSignThatFails'. -/
def fnExactSignThatFailsCard : Claim7 := { stood := { row := fnExactSignThatFailsRow, standIns := [], harness := (true, "eb8963fa428430c80230bb5b76499c82ce86353692f942828b0297dec391db06"), looks := false }, kinds := [], alts := [], goes := true, laidByText := true, laidKinds := [.data, .pinned], laidTests := true, laidLooks := .later }
def FnExactSignThatFailsCardSaid : Prop := Claim7.holds Tryd.pinned (.plain (OpenSpec.ofChange fnExactSignThatFailsSpec)) fnExactSignThatFailsCard

/-- THE TIED CARD OF 'laws.FnExactKindsOfWord'. -/
def fnExactKindsOfWordCard : Claim7 := { stood := { row := fnExactKindsOfWordRow, standIns := [], harness := (true, "eb8963fa428430c80230bb5b76499c82ce86353692f942828b0297dec391db06"), looks := false }, kinds := [], alts := [], goes := true, laidByText := true, laidKinds := [.data, .pinned], laidTests := true, laidLooks := .later }
def FnExactKindsOfWordCardSaid : Prop := Claim7.holds Tryd.pinned (.plain (OpenSpec.ofChange fnExactKindsOfWordSpec)) fnExactKindsOfWordCard

/-- THE TIED CARD OF 'laws.FnExactCanPlay'. -/
def fnExactCanPlayCard : Claim7 := { stood := { row := fnExactCanPlayRow, standIns := [], harness := (true, "eb8963fa428430c80230bb5b76499c82ce86353692f942828b0297dec391db06"), looks := false }, kinds := [], alts := [], goes := true, laidByText := true, laidKinds := [.data, .pinned], laidTests := true, laidLooks := .later }
def FnExactCanPlayCardSaid : Prop := Claim7.holds Tryd.pinned (.plain (OpenSpec.ofChange fnExactCanPlaySpec)) fnExactCanPlayCard

/-- THE TIED CARD OF 'laws.FnExactRunsOfWord'. -/
def fnExactRunsOfWordCard : Claim7 := { stood := { row := fnExactRunsOfWordRow, standIns := [], harness := (true, "eb8963fa428430c80230bb5b76499c82ce86353692f942828b0297dec391db06"), looks := false }, kinds := [], alts := [], laidByText := true, laidKinds := [.data, .pinned], laidTests := true, laidLooks := .later }
def FnExactRunsOfWordCardSaid : Prop := Claim7.holds Tryd.pinned (.plain (OpenSpec.ofChange fnExactRunsOfWordSpec)) fnExactRunsOfWordCard

/-- THE TIED CARD OF 'laws.FnExactWordOfRuns'. -/
def fnExactWordOfRunsCard : Claim7 := { stood := { row := fnExactWordOfRunsRow, standIns := [], harness := (true, "eb8963fa428430c80230bb5b76499c82ce86353692f942828b0297dec391db06"), looks := false }, kinds := [], alts := [], laidByText := true, laidKinds := [.data, .pinned], laidTests := true, laidLooks := .later }
def FnExactWordOfRunsCardSaid : Prop := Claim7.holds Tryd.pinned (.plain (OpenSpec.ofChange fnExactWordOfRunsSpec)) fnExactWordOfRunsCard

/-- THE TIED CARD OF 'laws.FnExactOtherWord'. -/
def fnExactOtherWordCard : Claim7 := { stood := { row := fnExactOtherWordRow, standIns := [], harness := (true, "eb8963fa428430c80230bb5b76499c82ce86353692f942828b0297dec391db06"), looks := false }, kinds := [], alts := [], laidByText := true, laidKinds := [.data, .pinned], laidTests := true, laidLooks := .later }
def FnExactOtherWordCardSaid : Prop := Claim7.holds Tryd.pinned (.plain (OpenSpec.ofChange fnExactOtherWordSpec)) fnExactOtherWordCard

/-- THE SECOND FORM's CARD OF 'laws.FnExactIsWord'. -/
def fnExactIsWordUptoCard : Claim7 := { stood := { row := fnExactIsWordUptoRow, standIns := [], harness := (true, "eb8963fa428430c80230bb5b76499c82ce86353692f942828b0297dec391db06"), looks := false }, kinds := [], alts := [], laidByText := true, laidKinds := [.data, .pinned], laidTests := true, laidLooks := .later }
def FnExactIsWordUptoCardSaid : Prop := Claim7.holds Tryd.pinned (.plain (OpenSpec.upto fnExactIsWordSpec)) fnExactIsWordUptoCard

/-- THE SECOND FORM's CARD OF 'laws.FnExactMovesOfWord'. -/
def fnExactMovesOfWordUptoCard : Claim7 := { stood := { row := fnExactMovesOfWordUptoRow, standIns := [], harness := (true, "eb8963fa428430c80230bb5b76499c82ce86353692f942828b0297dec391db06"), looks := false }, kinds := [], alts := [], goes := true, laidByText := true, laidKinds := [.data, .pinned], laidTests := true, laidLooks := .later }
def FnExactMovesOfWordUptoCardSaid : Prop := Claim7.holds Tryd.pinned (.plain (OpenSpec.upto fnExactMovesOfWordSpec)) fnExactMovesOfWordUptoCard

/-- THE SECOND FORM's CARD OF 'laws.FnExactPlayWord'. -/
def fnExactPlayWordUptoCard : Claim7 := { stood := { row := fnExactPlayWordUptoRow, standIns := [], harness := (true, "eb8963fa428430c80230bb5b76499c82ce86353692f942828b0297dec391db06"), looks := false }, kinds := [], alts := [], goes := true, laidByText := true, laidKinds := [.data, .pinned], laidTests := true, laidLooks := .later }
def FnExactPlayWordUptoCardSaid : Prop := Claim7.holds Tryd.pinned (.plain (OpenSpec.upto fnExactPlayWordSpec)) fnExactPlayWordUptoCard

/-- THE SECOND FORM's CARD OF 'laws.FnExactSignThatFails'. -/
def fnExactSignThatFailsUptoCard : Claim7 := { stood := { row := fnExactSignThatFailsUptoRow, standIns := [], harness := (true, "eb8963fa428430c80230bb5b76499c82ce86353692f942828b0297dec391db06"), looks := false }, kinds := [], alts := [], goes := true, laidByText := true, laidKinds := [.data, .pinned], laidTests := true, laidLooks := .later }
def FnExactSignThatFailsUptoCardSaid : Prop := Claim7.holds Tryd.pinned (.plain (OpenSpec.upto fnExactSignThatFailsSpec)) fnExactSignThatFailsUptoCard

/-- THE SECOND FORM's CARD OF 'laws.FnExactKindsOfWord'. -/
def fnExactKindsOfWordUptoCard : Claim7 := { stood := { row := fnExactKindsOfWordUptoRow, standIns := [], harness := (true, "eb8963fa428430c80230bb5b76499c82ce86353692f942828b0297dec391db06"), looks := false }, kinds := [], alts := [], goes := true, laidByText := true, laidKinds := [.data, .pinned], laidTests := true, laidLooks := .later }
def FnExactKindsOfWordUptoCardSaid : Prop := Claim7.holds Tryd.pinned (.plain (OpenSpec.upto fnExactKindsOfWordSpec)) fnExactKindsOfWordUptoCard

/-- THE SECOND FORM's CARD OF 'laws.FnExactCanPlay'. -/
def fnExactCanPlayUptoCard : Claim7 := { stood := { row := fnExactCanPlayUptoRow, standIns := [], harness := (true, "eb8963fa428430c80230bb5b76499c82ce86353692f942828b0297dec391db06"), looks := false }, kinds := [], alts := [], goes := true, laidByText := true, laidKinds := [.data, .pinned], laidTests := true, laidLooks := .later }
def FnExactCanPlayUptoCardSaid : Prop := Claim7.holds Tryd.pinned (.plain (OpenSpec.upto fnExactCanPlaySpec)) fnExactCanPlayUptoCard

/-- THE SECOND FORM's CARD OF 'laws.FnExactRunsOfWord'. -/
def fnExactRunsOfWordUptoCard : Claim7 := { stood := { row := fnExactRunsOfWordUptoRow, standIns := [], harness := (true, "eb8963fa428430c80230bb5b76499c82ce86353692f942828b0297dec391db06"), looks := false }, kinds := [], alts := [], laidByText := true, laidKinds := [.data, .pinned], laidTests := true, laidLooks := .later }
def FnExactRunsOfWordUptoCardSaid : Prop := Claim7.holds Tryd.pinned (.plain (OpenSpec.upto fnExactRunsOfWordSpec)) fnExactRunsOfWordUptoCard

/-- THE SECOND FORM's CARD OF 'laws.FnExactWordOfRuns'. -/
def fnExactWordOfRunsUptoCard : Claim7 := { stood := { row := fnExactWordOfRunsUptoRow, standIns := [], harness := (true, "eb8963fa428430c80230bb5b76499c82ce86353692f942828b0297dec391db06"), looks := false }, kinds := [], alts := [], laidByText := true, laidKinds := [.data, .pinned], laidTests := true, laidLooks := .later }
def FnExactWordOfRunsUptoCardSaid : Prop := Claim7.holds Tryd.pinned (.plain (OpenSpec.upto fnExactWordOfRunsSpec)) fnExactWordOfRunsUptoCard

/-- THE SECOND FORM's CARD OF 'laws.FnExactOtherWord'. -/
def fnExactOtherWordUptoCard : Claim7 := { stood := { row := fnExactOtherWordUptoRow, standIns := [], harness := (true, "eb8963fa428430c80230bb5b76499c82ce86353692f942828b0297dec391db06"), looks := false }, kinds := [], alts := [], laidByText := true, laidKinds := [.data, .pinned], laidTests := true, laidLooks := .later }
def FnExactOtherWordUptoCardSaid : Prop := Claim7.holds Tryd.pinned (.plain (OpenSpec.upto fnExactOtherWordSpec)) fnExactOtherWordUptoCard
end Rows
end Go.Proofs.YtoefeooldcbfiaaDoor
