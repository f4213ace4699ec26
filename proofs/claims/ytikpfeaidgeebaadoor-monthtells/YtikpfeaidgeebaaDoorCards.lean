/-
  DERIVED. GIVEN WITH THE SEED: THE CARDS: each row of YtikpfeaidgeebaaDoorRows.lean that lists a variable, with what it lists TIED to the program's text (the seventh form; the later family's looks); each row that meets fmt, with fmt's text TOLD by the authors' own Lean function (tested against real Go, not proved from fmt's source: count such statements apart). THE CARD IS WHAT COUNTS. Prove the row's statement (the work); the ties are given (YtikpfeaidgeebaaDoorTie.lean); close each card by the builder's one call (the guide's Derived/Test/ToyasCard.lean, 'card_holds'). Laid BY PROGRAM, IN A SANDBOX (cutbox-door.mjs). By AI agents, Wed Nov 11 2026. No macro, syntax, notation, axiom, sorry.
-/
import Derived.Test.YtikpfeaidgeebaaDoorRows
import GoSem.ClaimSeven
namespace Go.Proofs.YtikpfeaidgeebaaDoor
namespace Rows

/-- THE TIED CARD OF 'chimelaw3.MonthTells'. -/
def monthTellsCard : Claim7 := { stood := { row := monthTellsRow, standIns := [], harness := (true, "83089e881d9008f1ada496ef64f531ac6e3aaf4b4ff7e12986155f2b0c57dd94"), looks := true }, kinds := [], alts := [], laidByText := true, laidKinds := [.data, .data, .data, .data, .handle], laidTests := true, laidLooks := .later }
def MonthTellsCardSaid : Prop := Claim7.holds Tryd.pinned (.plain (OpenSpec.ofChange monthTellsSpec)) monthTellsCard

/-- THE TIED CARD OF 'chimelaw3.MonthHolds'. -/
def monthHoldsCard : Claim7 := { stood := { row := monthHoldsRow, standIns := [], harness := (true, "83089e881d9008f1ada496ef64f531ac6e3aaf4b4ff7e12986155f2b0c57dd94"), looks := true }, kinds := [], alts := [], laidByText := true, laidKinds := [.data, .data, .data, .data, .handle], laidTests := true, laidLooks := .later }
def MonthHoldsCardSaid : Prop := Claim7.holds Tryd.pinned (.plain (OpenSpec.ofChange monthHoldsSpec)) monthHoldsCard

/-- THE TIED CARD OF 'chimelaw4.MonthRows'. -/
def monthRowsCard : Claim7 := { stood := { row := monthRowsRow, standIns := [], harness := (true, "83089e881d9008f1ada496ef64f531ac6e3aaf4b4ff7e12986155f2b0c57dd94"), looks := true }, kinds := [], alts := [], laidByText := true, laidKinds := [.data, .data, .data, .data], laidTests := true, laidLooks := .later }
def MonthRowsCardSaid : Prop := Claim7.holds Tryd.pinned (.plain (OpenSpec.ofChange monthRowsSpec)) monthRowsCard

/-- THE SECOND FORM's CARD OF 'chimelaw3.MonthTells'. -/
def monthTellsUptoCard : Claim7 := { stood := { row := monthTellsUptoRow, standIns := [], harness := (true, "83089e881d9008f1ada496ef64f531ac6e3aaf4b4ff7e12986155f2b0c57dd94"), looks := true }, kinds := [], alts := [], laidByText := true, laidKinds := [.data, .data, .data, .data, .handle], laidTests := true, laidLooks := .later }
def MonthTellsUptoCardSaid : Prop := Claim7.holds Tryd.pinned (.plain (OpenSpec.upto monthTellsSpec)) monthTellsUptoCard

/-- THE SECOND FORM's CARD OF 'chimelaw3.MonthHolds'. -/
def monthHoldsUptoCard : Claim7 := { stood := { row := monthHoldsUptoRow, standIns := [], harness := (true, "83089e881d9008f1ada496ef64f531ac6e3aaf4b4ff7e12986155f2b0c57dd94"), looks := true }, kinds := [], alts := [], laidByText := true, laidKinds := [.data, .data, .data, .data, .handle], laidTests := true, laidLooks := .later }
def MonthHoldsUptoCardSaid : Prop := Claim7.holds Tryd.pinned (.plain (OpenSpec.upto monthHoldsSpec)) monthHoldsUptoCard

/-- THE SECOND FORM's CARD OF 'chimelaw4.MonthRows'. -/
def monthRowsUptoCard : Claim7 := { stood := { row := monthRowsUptoRow, standIns := [], harness := (true, "83089e881d9008f1ada496ef64f531ac6e3aaf4b4ff7e12986155f2b0c57dd94"), looks := true }, kinds := [], alts := [], laidByText := true, laidKinds := [.data, .data, .data, .data], laidTests := true, laidLooks := .later }
def MonthRowsUptoCardSaid : Prop := Claim7.holds Tryd.pinned (.plain (OpenSpec.upto monthRowsSpec)) monthRowsUptoCard
end Rows
end Go.Proofs.YtikpfeaidgeebaaDoor
