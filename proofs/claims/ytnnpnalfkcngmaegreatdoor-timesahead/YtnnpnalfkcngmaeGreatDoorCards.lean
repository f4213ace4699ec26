/-
  DERIVED. GIVEN WITH THE SEED: THE CARDS: each row of YtnnpnalfkcngmaeGreatDoorRows.lean that lists a variable, with what it lists TIED to the program's text (the seventh form; the later family's looks); each row that meets fmt, with fmt's text TOLD by the authors' own Lean function (tested against real Go, not proved from fmt's source: count such statements apart). THE CARD IS WHAT COUNTS. Prove the row's statement (the work); the ties are given (YtnnpnalfkcngmaeGreatDoorTie.lean); close each card by the builder's one call (the guide's Derived/Test/ToyasCard.lean, 'card_holds'). Laid BY PROGRAM, IN A SANDBOX (cutbox-door.mjs). By AI agents, Wed Nov 11 2026. No macro, syntax, notation, axiom, sorry.
-/
import Derived.Test.YtnnpnalfkcngmaeGreatDoorRows
import GoSem.ClaimSeven
namespace Go.Proofs.YtnnpnalfkcngmaeGreatDoor
namespace Rows

/-- THE TIED CARD OF 'chimelaw4.EventOnce'. -/
def eventOnceCard : Claim7 := { stood := { row := eventOnceRow, standIns := [], harness := (true, "a47100d90368f5bdfc7d3da0d999a7cc7e5a7e8e0b353e3a98e0e861b3edb1e0"), looks := true }, kinds := [], alts := [], laidByText := true, laidKinds := [.data], laidTests := true, laidLooks := .later }
def EventOnceCardSaid : Prop := Claim7.holds Tryz.pinned (.plain (OpenSpec.ofChange eventOnceSpec)) eventOnceCard

/-- THE TIED CARD OF 'chimelaw2.TimesTells'. -/
def timesTellsCard : Claim7 := { stood := { row := timesTellsRow, standIns := [], harness := (true, "a47100d90368f5bdfc7d3da0d999a7cc7e5a7e8e0b353e3a98e0e861b3edb1e0"), looks := true }, kinds := [], alts := [], laidByText := true, laidKinds := [.data, .handle], laidTests := true, laidLooks := .later }
def TimesTellsCardSaid : Prop := Claim7.holds Tryz.pinned (.plain (OpenSpec.ofChange timesTellsSpec)) timesTellsCard

/-- THE TIED CARD OF 'chimelaw2.TimesHold'. -/
def timesHoldCard : Claim7 := { stood := { row := timesHoldRow, standIns := [], harness := (true, "a47100d90368f5bdfc7d3da0d999a7cc7e5a7e8e0b353e3a98e0e861b3edb1e0"), looks := true }, kinds := [], alts := [], laidByText := true, laidKinds := [.data], laidTests := true, laidLooks := .later }
def TimesHoldCardSaid : Prop := Claim7.holds Tryz.pinned (.plain (OpenSpec.ofChange timesHoldSpec)) timesHoldCard

/-- THE TIED CARD OF 'chimelaw4.TimesAhead'. -/
def timesAheadCard : Claim7 := { stood := { row := timesAheadRow, standIns := [], harness := (true, "a47100d90368f5bdfc7d3da0d999a7cc7e5a7e8e0b353e3a98e0e861b3edb1e0"), looks := true }, kinds := [], alts := [], laidByText := true, laidKinds := [.data], laidTests := true, laidLooks := .later }
def TimesAheadCardSaid : Prop := Claim7.holds Tryz.pinned (.plain (OpenSpec.ofChange timesAheadSpec)) timesAheadCard

/-- THE SECOND FORM's CARD OF 'chimelaw4.EventOnce'. -/
def eventOnceUptoCard : Claim7 := { stood := { row := eventOnceUptoRow, standIns := [], harness := (true, "a47100d90368f5bdfc7d3da0d999a7cc7e5a7e8e0b353e3a98e0e861b3edb1e0"), looks := true }, kinds := [], alts := [], laidByText := true, laidKinds := [.data], laidTests := true, laidLooks := .later }
def EventOnceUptoCardSaid : Prop := Claim7.holds Tryz.pinned (.plain (OpenSpec.upto eventOnceSpec)) eventOnceUptoCard

/-- THE SECOND FORM's CARD OF 'chimelaw2.TimesTells'. -/
def timesTellsUptoCard : Claim7 := { stood := { row := timesTellsUptoRow, standIns := [], harness := (true, "a47100d90368f5bdfc7d3da0d999a7cc7e5a7e8e0b353e3a98e0e861b3edb1e0"), looks := true }, kinds := [], alts := [], laidByText := true, laidKinds := [.data, .handle], laidTests := true, laidLooks := .later }
def TimesTellsUptoCardSaid : Prop := Claim7.holds Tryz.pinned (.plain (OpenSpec.upto timesTellsSpec)) timesTellsUptoCard

/-- THE SECOND FORM's CARD OF 'chimelaw2.TimesHold'. -/
def timesHoldUptoCard : Claim7 := { stood := { row := timesHoldUptoRow, standIns := [], harness := (true, "a47100d90368f5bdfc7d3da0d999a7cc7e5a7e8e0b353e3a98e0e861b3edb1e0"), looks := true }, kinds := [], alts := [], laidByText := true, laidKinds := [.data], laidTests := true, laidLooks := .later }
def TimesHoldUptoCardSaid : Prop := Claim7.holds Tryz.pinned (.plain (OpenSpec.upto timesHoldSpec)) timesHoldUptoCard

/-- THE SECOND FORM's CARD OF 'chimelaw4.TimesAhead'. -/
def timesAheadUptoCard : Claim7 := { stood := { row := timesAheadUptoRow, standIns := [], harness := (true, "a47100d90368f5bdfc7d3da0d999a7cc7e5a7e8e0b353e3a98e0e861b3edb1e0"), looks := true }, kinds := [], alts := [], laidByText := true, laidKinds := [.data], laidTests := true, laidLooks := .later }
def TimesAheadUptoCardSaid : Prop := Claim7.holds Tryz.pinned (.plain (OpenSpec.upto timesAheadSpec)) timesAheadUptoCard
end Rows
end Go.Proofs.YtnnpnalfkcngmaeGreatDoor
