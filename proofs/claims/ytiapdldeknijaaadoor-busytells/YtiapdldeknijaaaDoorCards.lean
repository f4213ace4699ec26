/-
  DERIVED. GIVEN WITH THE SEED: THE CARDS: each row of YtiapdldeknijaaaDoorRows.lean that lists a variable, with what it lists TIED to the program's text (the seventh form; the later family's looks); each row that meets fmt, with fmt's text TOLD by the authors' own Lean function (tested against real Go, not proved from fmt's source: count such statements apart). THE CARD IS WHAT COUNTS. Prove the row's statement (the work); the ties are given (YtiapdldeknijaaaDoorTie.lean); close each card by the builder's one call (the guide's Derived/Test/ToyasCard.lean, 'card_holds'). Laid BY PROGRAM, IN A SANDBOX (cutbox-door.mjs). By AI agents, Wed Nov 11 2026. No macro, syntax, notation, axiom, sorry.
-/
import Derived.Test.YtiapdldeknijaaaDoorRows
import GoSem.ClaimSeven
namespace Go.Proofs.YtiapdldeknijaaaDoor
namespace Rows

/-- THE TIED CARD OF 'chimelaw2.BusyTells'. -/
def busyTellsCard : Claim7 := { stood := { row := busyTellsRow, standIns := [], harness := (true, "3aa351dca55f8662edd8927c2e236965a818de523932f898ac4dc39cf96768d4"), looks := true }, kinds := [], alts := [], laidByText := true, laidKinds := [.handle], laidTests := true, laidLooks := .later }
def BusyTellsCardSaid : Prop := Claim7.holds Tryd.pinned (.plain (OpenSpec.ofChange busyTellsSpec)) busyTellsCard

/-- THE SECOND FORM's CARD OF 'chimelaw2.BusyTells'. -/
def busyTellsUptoCard : Claim7 := { stood := { row := busyTellsUptoRow, standIns := [], harness := (true, "3aa351dca55f8662edd8927c2e236965a818de523932f898ac4dc39cf96768d4"), looks := true }, kinds := [], alts := [], laidByText := true, laidKinds := [.handle], laidTests := true, laidLooks := .later }
def BusyTellsUptoCardSaid : Prop := Claim7.holds Tryd.pinned (.plain (OpenSpec.upto busyTellsSpec)) busyTellsUptoCard
end Rows
end Go.Proofs.YtiapdldeknijaaaDoor
