/-
  DERIVED. GIVEN WITH THE SEED: THE CARDS: each row of YtbpcggiibiamlabDoorRows.lean that lists a variable, with what it lists TIED to the program's text (the seventh form; the later family's looks); each row that meets fmt, with fmt's text TOLD by the authors' own Lean function (tested against real Go, not proved from fmt's source: count such statements apart). THE CARD IS WHAT COUNTS. Prove the row's statement (the work); the ties are given (YtbpcggiibiamlabDoorTie.lean); close each card by the builder's one call (the guide's Derived/Test/ToyasCard.lean, 'card_holds'). Laid BY PROGRAM, IN A SANDBOX (cutbox-door.mjs). By AI agents, Wed Nov 11 2026. No macro, syntax, notation, axiom, sorry.
-/
import Derived.Test.YtbpcggiibiamlabDoorRows
import GoSem.ClaimSeven
namespace Go.Proofs.YtbpcggiibiamlabDoor
namespace Rows

/-- THE TIED CARD OF 'chimelaw1.WeekTells'. -/
def weekTellsCard : Claim7 := { stood := { row := weekTellsRow, standIns := [], harness := (true, "16a83febe5626f0c28f98838754dda88fe7fe01d794a5912b87918c5bbb4efe1"), looks := true }, kinds := [], alts := [], laidByText := true, laidKinds := [.data, .handle], laidTests := true, laidLooks := .later }
def WeekTellsCardSaid : Prop := Claim7.holds Tryd.pinned (.plain (OpenSpec.ofChange weekTellsSpec)) weekTellsCard

/-- THE TIED CARD OF 'chimelaw1.WeekHolds'. -/
def weekHoldsCard : Claim7 := { stood := { row := weekHoldsRow, standIns := [], harness := (true, "16a83febe5626f0c28f98838754dda88fe7fe01d794a5912b87918c5bbb4efe1"), looks := true }, kinds := [], alts := [], laidByText := true, laidKinds := [.data], laidTests := true, laidLooks := .later }
def WeekHoldsCardSaid : Prop := Claim7.holds Tryd.pinned (.plain (OpenSpec.ofChange weekHoldsSpec)) weekHoldsCard

/-- THE TIED CARD OF 'chimelaw4.WeekYears'. -/
def weekYearsCard : Claim7 := { stood := { row := weekYearsRow, standIns := [], harness := (true, "16a83febe5626f0c28f98838754dda88fe7fe01d794a5912b87918c5bbb4efe1"), looks := true }, kinds := [], alts := [], laidByText := true, laidKinds := [.data], laidTests := true, laidLooks := .later }
def WeekYearsCardSaid : Prop := Claim7.holds Tryd.pinned (.plain (OpenSpec.ofChange weekYearsSpec)) weekYearsCard

/-- THE SECOND FORM's CARD OF 'chimelaw1.WeekTells'. -/
def weekTellsUptoCard : Claim7 := { stood := { row := weekTellsUptoRow, standIns := [], harness := (true, "16a83febe5626f0c28f98838754dda88fe7fe01d794a5912b87918c5bbb4efe1"), looks := true }, kinds := [], alts := [], laidByText := true, laidKinds := [.data, .handle], laidTests := true, laidLooks := .later }
def WeekTellsUptoCardSaid : Prop := Claim7.holds Tryd.pinned (.plain (OpenSpec.upto weekTellsSpec)) weekTellsUptoCard

/-- THE SECOND FORM's CARD OF 'chimelaw1.WeekHolds'. -/
def weekHoldsUptoCard : Claim7 := { stood := { row := weekHoldsUptoRow, standIns := [], harness := (true, "16a83febe5626f0c28f98838754dda88fe7fe01d794a5912b87918c5bbb4efe1"), looks := true }, kinds := [], alts := [], laidByText := true, laidKinds := [.data], laidTests := true, laidLooks := .later }
def WeekHoldsUptoCardSaid : Prop := Claim7.holds Tryd.pinned (.plain (OpenSpec.upto weekHoldsSpec)) weekHoldsUptoCard

/-- THE SECOND FORM's CARD OF 'chimelaw4.WeekYears'. -/
def weekYearsUptoCard : Claim7 := { stood := { row := weekYearsUptoRow, standIns := [], harness := (true, "16a83febe5626f0c28f98838754dda88fe7fe01d794a5912b87918c5bbb4efe1"), looks := true }, kinds := [], alts := [], laidByText := true, laidKinds := [.data], laidTests := true, laidLooks := .later }
def WeekYearsUptoCardSaid : Prop := Claim7.holds Tryd.pinned (.plain (OpenSpec.upto weekYearsSpec)) weekYearsUptoCard
end Rows
end Go.Proofs.YtbpcggiibiamlabDoor
