/-
  DERIVED. GIVEN WITH THE SEED: THE CARDS: each row of YtfiifjcjmnhbnaaDoorRows.lean that lists a variable, with what it lists TIED to the program's text (the seventh form; the later family's looks); each row that meets fmt, with fmt's text TOLD by the authors' own Lean function (tested against real Go, not proved from fmt's source: count such statements apart). THE CARD IS WHAT COUNTS. Prove the row's statement (the work); the ties are given (YtfiifjcjmnhbnaaDoorTie.lean); close each card by the builder's one call (the guide's Derived/Test/ToyasCard.lean, 'card_holds'). Laid BY PROGRAM, IN A SANDBOX (cutbox-door.mjs). By AI agents, Wed Nov 11 2026. No macro, syntax, notation, axiom, sorry.
-/
import Derived.Test.YtfiifjcjmnhbnaaDoorRows
import GoSem.ClaimSeven
namespace Go.Proofs.YtfiifjcjmnhbnaaDoor
namespace Rows

/-- THE TIED CARD OF 'laws.FnExactAllExchanges'. -/
def fnExactAllExchangesCard : Claim7 := { stood := { row := fnExactAllExchangesRow, standIns := [], harness := (true, "ef1976f0dade76908d9c8ac19d38f6aa587bf29f44c3831264112b356110295f"), looks := false }, kinds := [], alts := [], laidByText := true, laidKinds := [.data, .pinned], laidTests := true, laidLooks := .later }
def FnExactAllExchangesCardSaid : Prop := Claim7.holds Tryd.pinned (.plain (OpenSpec.ofChange fnExactAllExchangesSpec)) fnExactAllExchangesCard

/-- THE SECOND FORM's CARD OF 'laws.FnExactAllExchanges'. -/
def fnExactAllExchangesUptoCard : Claim7 := { stood := { row := fnExactAllExchangesUptoRow, standIns := [], harness := (true, "ef1976f0dade76908d9c8ac19d38f6aa587bf29f44c3831264112b356110295f"), looks := false }, kinds := [], alts := [], laidByText := true, laidKinds := [.data, .pinned], laidTests := true, laidLooks := .later }
def FnExactAllExchangesUptoCardSaid : Prop := Claim7.holds Tryd.pinned (.plain (OpenSpec.upto fnExactAllExchangesSpec)) fnExactAllExchangesUptoCard
end Rows
end Go.Proofs.YtfiifjcjmnhbnaaDoor
