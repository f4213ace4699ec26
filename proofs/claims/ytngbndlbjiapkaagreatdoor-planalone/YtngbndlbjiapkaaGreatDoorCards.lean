/-
  DERIVED. GIVEN WITH THE SEED: THE CARDS: each row of YtngbndlbjiapkaaGreatDoorRows.lean that lists a variable, with what it lists TIED to the program's text (the seventh form; the later family's looks); each row that meets fmt, with fmt's text TOLD by the authors' own Lean function (tested against real Go, not proved from fmt's source: count such statements apart). THE CARD IS WHAT COUNTS. Prove the row's statement (the work); the ties are given (YtngbndlbjiapkaaGreatDoorTie.lean); close each card by the builder's one call (the guide's Derived/Test/ToyasCard.lean, 'card_holds'). Laid BY PROGRAM, IN A SANDBOX (cutbox-door.mjs). By AI agents, Wed Nov 11 2026. No macro, syntax, notation, axiom, sorry.
-/
import Derived.Test.YtngbndlbjiapkaaGreatDoorRows
import GoSem.ClaimSeven
namespace Go.Proofs.YtngbndlbjiapkaaGreatDoor
namespace Rows

/-- THE TIED CARD OF 'chimelaw4.PlanAlone'. -/
def planAloneCard : Claim7 := { stood := { row := planAloneRow, standIns := [], harness := (true, "feda54ec88c3a6b81a628f07e2b9c3e0623226faa6ad617bd1964a60081f3cf8"), looks := false }, kinds := [], alts := [], laidByText := true, laidKinds := [.data], laidTests := true, laidLooks := .later }
def PlanAloneCardSaid : Prop := Claim7.holds Tryz.pinned (.plain (OpenSpec.ofChange planAloneSpec)) planAloneCard

/-- THE SECOND FORM's CARD OF 'chimelaw4.PlanAlone'. -/
def planAloneUptoCard : Claim7 := { stood := { row := planAloneUptoRow, standIns := [], harness := (true, "feda54ec88c3a6b81a628f07e2b9c3e0623226faa6ad617bd1964a60081f3cf8"), looks := false }, kinds := [], alts := [], laidByText := true, laidKinds := [.data], laidTests := true, laidLooks := .later }
def PlanAloneUptoCardSaid : Prop := Claim7.holds Tryz.pinned (.plain (OpenSpec.upto planAloneSpec)) planAloneUptoCard
end Rows
end Go.Proofs.YtngbndlbjiapkaaGreatDoor
