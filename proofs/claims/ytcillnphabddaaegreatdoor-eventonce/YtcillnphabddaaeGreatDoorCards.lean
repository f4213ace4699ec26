/-
  DERIVED. GIVEN WITH THE SEED: THE CARDS: each row of YtcillnphabddaaeGreatDoorRows.lean that lists a variable, with what it lists TIED to the program's text (the seventh form; the later family's looks); each row that meets fmt, with fmt's text TOLD by the authors' own Lean function (tested against real Go, not proved from fmt's source: count such statements apart). THE CARD IS WHAT COUNTS. Prove the row's statement (the work); the ties are given (YtcillnphabddaaeGreatDoorTie.lean); close each card by the builder's one call (the guide's Derived/Test/ToyasCard.lean, 'card_holds'). Laid BY PROGRAM, IN A SANDBOX (cutbox-door.mjs). By AI agents, Wed Nov 11 2026. No macro, syntax, notation, axiom, sorry.
-/
import Derived.Test.YtcillnphabddaaeGreatDoorRows
import GoSem.ClaimSeven
namespace Go.Proofs.YtcillnphabddaaeGreatDoor
namespace Rows

/-- THE TIED CARD OF 'chimelaw4.EventOnce'. -/
def eventOnceCard : Claim7 := { stood := { row := eventOnceRow, standIns := [], harness := (true, "4aa9eb9c11abab5c5add3c1067aa6c1dbc72975027930d2d178be140127ea562"), looks := false }, kinds := [], alts := [], laidByText := true, laidKinds := [.data], laidTests := true, laidLooks := .later }
def EventOnceCardSaid : Prop := Claim7.holds Tryz.pinned (.plain (OpenSpec.ofChange eventOnceSpec)) eventOnceCard

/-- THE SECOND FORM's CARD OF 'chimelaw4.EventOnce'. -/
def eventOnceUptoCard : Claim7 := { stood := { row := eventOnceUptoRow, standIns := [], harness := (true, "4aa9eb9c11abab5c5add3c1067aa6c1dbc72975027930d2d178be140127ea562"), looks := false }, kinds := [], alts := [], laidByText := true, laidKinds := [.data], laidTests := true, laidLooks := .later }
def EventOnceUptoCardSaid : Prop := Claim7.holds Tryz.pinned (.plain (OpenSpec.upto eventOnceSpec)) eventOnceUptoCard
end Rows
end Go.Proofs.YtcillnphabddaaeGreatDoor
