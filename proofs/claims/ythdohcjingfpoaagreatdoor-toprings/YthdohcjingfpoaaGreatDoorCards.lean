/-
  DERIVED. GIVEN WITH THE SEED: THE CARDS: each row of YthdohcjingfpoaaGreatDoorRows.lean that lists a variable, with what it lists TIED to the program's text (the seventh form; the later family's looks); each row that meets fmt, with fmt's text TOLD by the authors' own Lean function (tested against real Go, not proved from fmt's source: count such statements apart). THE CARD IS WHAT COUNTS. Prove the row's statement (the work); the ties are given (YthdohcjingfpoaaGreatDoorTie.lean); close each card by the builder's one call (the guide's Derived/Test/ToyasCard.lean, 'card_holds'). Laid BY PROGRAM, IN A SANDBOX (cutbox-door.mjs). By AI agents, Wed Nov 11 2026. No macro, syntax, notation, axiom, sorry.
-/
import Derived.Test.YthdohcjingfpoaaGreatDoorRows
import GoSem.ClaimSeven
namespace Go.Proofs.YthdohcjingfpoaaGreatDoor
namespace Rows

/-- THE TIED CARD OF 'chimelaw3.DeskHolds'. -/
def deskHoldsCard : Claim7 := { stood := { row := deskHoldsRow, standIns := [], harness := (true, "3a40abc1b35242d9c8d0f96277543c45133edf8ceeb5c0620348a5213ee92cdf"), looks := true }, kinds := [], alts := [], laidByText := true, laidKinds := [.data], laidTests := true, laidLooks := .later }
def DeskHoldsCardSaid : Prop := Claim7.holds Tryz.pinned (.plain (OpenSpec.ofChange deskHoldsSpec)) deskHoldsCard

/-- THE TIED CARD OF 'chimelaw3.DeskSnoozes'. -/
def deskSnoozesCard : Claim7 := { stood := { row := deskSnoozesRow, standIns := [], harness := (true, "3a40abc1b35242d9c8d0f96277543c45133edf8ceeb5c0620348a5213ee92cdf"), looks := true }, kinds := [], alts := [], laidByText := true, laidKinds := [.data, .handle], laidTests := true, laidLooks := .later }
def DeskSnoozesCardSaid : Prop := Claim7.holds Tryz.pinned (.plain (OpenSpec.ofChange deskSnoozesSpec)) deskSnoozesCard

/-- THE TIED CARD OF 'chimelaw3.DeskPlays'. -/
def deskPlaysCard : Claim7 := { stood := { row := deskPlaysRow, standIns := [], harness := (true, "3a40abc1b35242d9c8d0f96277543c45133edf8ceeb5c0620348a5213ee92cdf"), looks := true }, kinds := [], alts := [], laidByText := true, laidKinds := [.data, .handle], laidTests := true, laidLooks := .later }
def DeskPlaysCardSaid : Prop := Claim7.holds Tryz.pinned (.plain (OpenSpec.ofChange deskPlaysSpec)) deskPlaysCard

/-- THE TIED CARD OF 'chimetop.TopRings'. -/
def topRingsCard : Claim7 := { stood := { row := topRingsRow, standIns := [], harness := (true, "3a40abc1b35242d9c8d0f96277543c45133edf8ceeb5c0620348a5213ee92cdf"), looks := true }, kinds := [], alts := [], laidByText := true, laidKinds := [.data], laidTests := true, laidLooks := .later }
def TopRingsCardSaid : Prop := Claim7.holds Tryz.pinned (.plain (OpenSpec.ofChange topRingsSpec)) topRingsCard

/-- THE SECOND FORM's CARD OF 'chimelaw3.DeskHolds'. -/
def deskHoldsUptoCard : Claim7 := { stood := { row := deskHoldsUptoRow, standIns := [], harness := (true, "3a40abc1b35242d9c8d0f96277543c45133edf8ceeb5c0620348a5213ee92cdf"), looks := true }, kinds := [], alts := [], laidByText := true, laidKinds := [.data], laidTests := true, laidLooks := .later }
def DeskHoldsUptoCardSaid : Prop := Claim7.holds Tryz.pinned (.plain (OpenSpec.upto deskHoldsSpec)) deskHoldsUptoCard

/-- THE SECOND FORM's CARD OF 'chimelaw3.DeskSnoozes'. -/
def deskSnoozesUptoCard : Claim7 := { stood := { row := deskSnoozesUptoRow, standIns := [], harness := (true, "3a40abc1b35242d9c8d0f96277543c45133edf8ceeb5c0620348a5213ee92cdf"), looks := true }, kinds := [], alts := [], laidByText := true, laidKinds := [.data, .handle], laidTests := true, laidLooks := .later }
def DeskSnoozesUptoCardSaid : Prop := Claim7.holds Tryz.pinned (.plain (OpenSpec.upto deskSnoozesSpec)) deskSnoozesUptoCard

/-- THE SECOND FORM's CARD OF 'chimelaw3.DeskPlays'. -/
def deskPlaysUptoCard : Claim7 := { stood := { row := deskPlaysUptoRow, standIns := [], harness := (true, "3a40abc1b35242d9c8d0f96277543c45133edf8ceeb5c0620348a5213ee92cdf"), looks := true }, kinds := [], alts := [], laidByText := true, laidKinds := [.data, .handle], laidTests := true, laidLooks := .later }
def DeskPlaysUptoCardSaid : Prop := Claim7.holds Tryz.pinned (.plain (OpenSpec.upto deskPlaysSpec)) deskPlaysUptoCard

/-- THE SECOND FORM's CARD OF 'chimetop.TopRings'. -/
def topRingsUptoCard : Claim7 := { stood := { row := topRingsUptoRow, standIns := [], harness := (true, "3a40abc1b35242d9c8d0f96277543c45133edf8ceeb5c0620348a5213ee92cdf"), looks := true }, kinds := [], alts := [], laidByText := true, laidKinds := [.data], laidTests := true, laidLooks := .later }
def TopRingsUptoCardSaid : Prop := Claim7.holds Tryz.pinned (.plain (OpenSpec.upto topRingsSpec)) topRingsUptoCard
end Rows
end Go.Proofs.YthdohcjingfpoaaGreatDoor
