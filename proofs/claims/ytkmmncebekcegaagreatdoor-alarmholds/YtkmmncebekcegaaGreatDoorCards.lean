/-
  DERIVED. GIVEN WITH THE SEED: THE CARDS: each row of YtkmmncebekcegaaGreatDoorRows.lean that lists a variable, with what it lists TIED to the program's text (the seventh form; the later family's looks); each row that meets fmt, with fmt's text TOLD by the authors' own Lean function (tested against real Go, not proved from fmt's source: count such statements apart). THE CARD IS WHAT COUNTS. Prove the row's statement (the work); the ties are given (YtkmmncebekcegaaGreatDoorTie.lean); close each card by the builder's one call (the guide's Derived/Test/ToyasCard.lean, 'card_holds'). Laid BY PROGRAM, IN A SANDBOX (cutbox-door.mjs). By AI agents, Wed Nov 11 2026. No macro, syntax, notation, axiom, sorry.
-/
import Derived.Test.YtkmmncebekcegaaGreatDoorRows
import GoSem.ClaimSeven
namespace Go.Proofs.YtkmmncebekcegaaGreatDoor
namespace Rows

/-- THE TIED CARD OF 'chimelaw2.AlarmTells'. -/
def alarmTellsCard : Claim7 := { stood := { row := alarmTellsRow, standIns := [], harness := (true, "b503a9044fb287ee71c46f58894085ef9543d9a7e139d2fa76e62c2e47a71c96"), looks := true }, kinds := [], alts := [], laidByText := true, laidKinds := [.data, .handle], laidTests := true, laidLooks := .later }
def AlarmTellsCardSaid : Prop := Claim7.holds Tryz.pinned (.plain (OpenSpec.ofChange alarmTellsSpec)) alarmTellsCard

/-- THE TIED CARD OF 'chimelaw2.AlarmHolds'. -/
def alarmHoldsCard : Claim7 := { stood := { row := alarmHoldsRow, standIns := [], harness := (true, "b503a9044fb287ee71c46f58894085ef9543d9a7e139d2fa76e62c2e47a71c96"), looks := true }, kinds := [], alts := [], laidByText := true, laidKinds := [.data], laidTests := true, laidLooks := .later }
def AlarmHoldsCardSaid : Prop := Claim7.holds Tryz.pinned (.plain (OpenSpec.ofChange alarmHoldsSpec)) alarmHoldsCard

/-- THE TIED CARD OF 'chimelaw4.AlarmCounts'. -/
def alarmCountsCard : Claim7 := { stood := { row := alarmCountsRow, standIns := [], harness := (true, "b503a9044fb287ee71c46f58894085ef9543d9a7e139d2fa76e62c2e47a71c96"), looks := true }, kinds := [], alts := [], laidByText := true, laidKinds := [.data], laidTests := true, laidLooks := .later }
def AlarmCountsCardSaid : Prop := Claim7.holds Tryz.pinned (.plain (OpenSpec.ofChange alarmCountsSpec)) alarmCountsCard

/-- THE SECOND FORM's CARD OF 'chimelaw2.AlarmTells'. -/
def alarmTellsUptoCard : Claim7 := { stood := { row := alarmTellsUptoRow, standIns := [], harness := (true, "b503a9044fb287ee71c46f58894085ef9543d9a7e139d2fa76e62c2e47a71c96"), looks := true }, kinds := [], alts := [], laidByText := true, laidKinds := [.data, .handle], laidTests := true, laidLooks := .later }
def AlarmTellsUptoCardSaid : Prop := Claim7.holds Tryz.pinned (.plain (OpenSpec.upto alarmTellsSpec)) alarmTellsUptoCard

/-- THE SECOND FORM's CARD OF 'chimelaw2.AlarmHolds'. -/
def alarmHoldsUptoCard : Claim7 := { stood := { row := alarmHoldsUptoRow, standIns := [], harness := (true, "b503a9044fb287ee71c46f58894085ef9543d9a7e139d2fa76e62c2e47a71c96"), looks := true }, kinds := [], alts := [], laidByText := true, laidKinds := [.data], laidTests := true, laidLooks := .later }
def AlarmHoldsUptoCardSaid : Prop := Claim7.holds Tryz.pinned (.plain (OpenSpec.upto alarmHoldsSpec)) alarmHoldsUptoCard

/-- THE SECOND FORM's CARD OF 'chimelaw4.AlarmCounts'. -/
def alarmCountsUptoCard : Claim7 := { stood := { row := alarmCountsUptoRow, standIns := [], harness := (true, "b503a9044fb287ee71c46f58894085ef9543d9a7e139d2fa76e62c2e47a71c96"), looks := true }, kinds := [], alts := [], laidByText := true, laidKinds := [.data], laidTests := true, laidLooks := .later }
def AlarmCountsUptoCardSaid : Prop := Claim7.holds Tryz.pinned (.plain (OpenSpec.upto alarmCountsSpec)) alarmCountsUptoCard
end Rows
end Go.Proofs.YtkmmncebekcegaaGreatDoor
