/-
  DERIVED. GIVEN WITH THE SEED: THE CARDS: each row of YtoafdacgekmomaeGreatDoorRows.lean that lists a variable, with what it lists TIED to the program's text (the seventh form; the later family's looks); each row that meets fmt, with fmt's text TOLD by the authors' own Lean function (tested against real Go, not proved from fmt's source: count such statements apart). THE CARD IS WHAT COUNTS. Prove the row's statement (the work); the ties are given (YtoafdacgekmomaeGreatDoorTie.lean); close each card by the builder's one call (the guide's Derived/Test/ToyasCard.lean, 'card_holds'). Laid BY PROGRAM, IN A SANDBOX (cutbox-door.mjs). By AI agents, Wed Nov 11 2026. No macro, syntax, notation, axiom, sorry.
-/
import Derived.Test.YtoafdacgekmomaeGreatDoorRows
import GoSem.ClaimSeven
namespace Go.Proofs.YtoafdacgekmomaeGreatDoor
namespace Rows

/-- THE TIED CARD OF 'chimelaw4.EventOnce'. -/
def eventOnceCard : Claim7 := { stood := { row := eventOnceRow, standIns := [], harness := (true, "3fd3a299a12219e9d1a1667fef15667e5554440043e0d11d1d82b7b0447e8f09"), looks := true }, kinds := [], alts := [], laidByText := true, laidKinds := [.data], laidTests := true, laidLooks := .later }
def EventOnceCardSaid : Prop := Claim7.holds Tryz.pinned (.plain (OpenSpec.ofChange eventOnceSpec)) eventOnceCard

/-- THE TIED CARD OF 'chimelaw2.TimesTells'. -/
def timesTellsCard : Claim7 := { stood := { row := timesTellsRow, standIns := [], harness := (true, "3fd3a299a12219e9d1a1667fef15667e5554440043e0d11d1d82b7b0447e8f09"), looks := true }, kinds := [], alts := [], laidByText := true, laidKinds := [.data, .handle], laidTests := true, laidLooks := .later }
def TimesTellsCardSaid : Prop := Claim7.holds Tryz.pinned (.plain (OpenSpec.ofChange timesTellsSpec)) timesTellsCard

/-- THE TIED CARD OF 'chimelaw2.TimesHold'. -/
def timesHoldCard : Claim7 := { stood := { row := timesHoldRow, standIns := [], harness := (true, "3fd3a299a12219e9d1a1667fef15667e5554440043e0d11d1d82b7b0447e8f09"), looks := true }, kinds := [], alts := [], laidByText := true, laidKinds := [.data], laidTests := true, laidLooks := .later }
def TimesHoldCardSaid : Prop := Claim7.holds Tryz.pinned (.plain (OpenSpec.ofChange timesHoldSpec)) timesHoldCard

/-- THE TIED CARD OF 'chimelaw4.TimesAhead'. -/
def timesAheadCard : Claim7 := { stood := { row := timesAheadRow, standIns := [], harness := (true, "3fd3a299a12219e9d1a1667fef15667e5554440043e0d11d1d82b7b0447e8f09"), looks := true }, kinds := [], alts := [], laidByText := true, laidKinds := [.data], laidTests := true, laidLooks := .later }
def TimesAheadCardSaid : Prop := Claim7.holds Tryz.pinned (.plain (OpenSpec.ofChange timesAheadSpec)) timesAheadCard

/-- THE TIED CARD OF 'chimelaw2.AlarmTells'. -/
def alarmTellsCard : Claim7 := { stood := { row := alarmTellsRow, standIns := [], harness := (true, "3fd3a299a12219e9d1a1667fef15667e5554440043e0d11d1d82b7b0447e8f09"), looks := true }, kinds := [], alts := [], laidByText := true, laidKinds := [.data, .handle], laidTests := true, laidLooks := .later }
def AlarmTellsCardSaid : Prop := Claim7.holds Tryz.pinned (.plain (OpenSpec.ofChange alarmTellsSpec)) alarmTellsCard

/-- THE TIED CARD OF 'chimelaw2.AlarmHolds'. -/
def alarmHoldsCard : Claim7 := { stood := { row := alarmHoldsRow, standIns := [], harness := (true, "3fd3a299a12219e9d1a1667fef15667e5554440043e0d11d1d82b7b0447e8f09"), looks := true }, kinds := [], alts := [], laidByText := true, laidKinds := [.data], laidTests := true, laidLooks := .later }
def AlarmHoldsCardSaid : Prop := Claim7.holds Tryz.pinned (.plain (OpenSpec.ofChange alarmHoldsSpec)) alarmHoldsCard

/-- THE SECOND FORM's CARD OF 'chimelaw4.EventOnce'. -/
def eventOnceUptoCard : Claim7 := { stood := { row := eventOnceUptoRow, standIns := [], harness := (true, "3fd3a299a12219e9d1a1667fef15667e5554440043e0d11d1d82b7b0447e8f09"), looks := true }, kinds := [], alts := [], laidByText := true, laidKinds := [.data], laidTests := true, laidLooks := .later }
def EventOnceUptoCardSaid : Prop := Claim7.holds Tryz.pinned (.plain (OpenSpec.upto eventOnceSpec)) eventOnceUptoCard

/-- THE SECOND FORM's CARD OF 'chimelaw2.TimesTells'. -/
def timesTellsUptoCard : Claim7 := { stood := { row := timesTellsUptoRow, standIns := [], harness := (true, "3fd3a299a12219e9d1a1667fef15667e5554440043e0d11d1d82b7b0447e8f09"), looks := true }, kinds := [], alts := [], laidByText := true, laidKinds := [.data, .handle], laidTests := true, laidLooks := .later }
def TimesTellsUptoCardSaid : Prop := Claim7.holds Tryz.pinned (.plain (OpenSpec.upto timesTellsSpec)) timesTellsUptoCard

/-- THE SECOND FORM's CARD OF 'chimelaw2.TimesHold'. -/
def timesHoldUptoCard : Claim7 := { stood := { row := timesHoldUptoRow, standIns := [], harness := (true, "3fd3a299a12219e9d1a1667fef15667e5554440043e0d11d1d82b7b0447e8f09"), looks := true }, kinds := [], alts := [], laidByText := true, laidKinds := [.data], laidTests := true, laidLooks := .later }
def TimesHoldUptoCardSaid : Prop := Claim7.holds Tryz.pinned (.plain (OpenSpec.upto timesHoldSpec)) timesHoldUptoCard

/-- THE SECOND FORM's CARD OF 'chimelaw4.TimesAhead'. -/
def timesAheadUptoCard : Claim7 := { stood := { row := timesAheadUptoRow, standIns := [], harness := (true, "3fd3a299a12219e9d1a1667fef15667e5554440043e0d11d1d82b7b0447e8f09"), looks := true }, kinds := [], alts := [], laidByText := true, laidKinds := [.data], laidTests := true, laidLooks := .later }
def TimesAheadUptoCardSaid : Prop := Claim7.holds Tryz.pinned (.plain (OpenSpec.upto timesAheadSpec)) timesAheadUptoCard

/-- THE SECOND FORM's CARD OF 'chimelaw2.AlarmTells'. -/
def alarmTellsUptoCard : Claim7 := { stood := { row := alarmTellsUptoRow, standIns := [], harness := (true, "3fd3a299a12219e9d1a1667fef15667e5554440043e0d11d1d82b7b0447e8f09"), looks := true }, kinds := [], alts := [], laidByText := true, laidKinds := [.data, .handle], laidTests := true, laidLooks := .later }
def AlarmTellsUptoCardSaid : Prop := Claim7.holds Tryz.pinned (.plain (OpenSpec.upto alarmTellsSpec)) alarmTellsUptoCard

/-- THE SECOND FORM's CARD OF 'chimelaw2.AlarmHolds'. -/
def alarmHoldsUptoCard : Claim7 := { stood := { row := alarmHoldsUptoRow, standIns := [], harness := (true, "3fd3a299a12219e9d1a1667fef15667e5554440043e0d11d1d82b7b0447e8f09"), looks := true }, kinds := [], alts := [], laidByText := true, laidKinds := [.data], laidTests := true, laidLooks := .later }
def AlarmHoldsUptoCardSaid : Prop := Claim7.holds Tryz.pinned (.plain (OpenSpec.upto alarmHoldsSpec)) alarmHoldsUptoCard
end Rows
end Go.Proofs.YtoafdacgekmomaeGreatDoor
