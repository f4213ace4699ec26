/-
  DERIVED. GIVEN WITH THE SEED: THE CARDS: each row of YtdiijpjfkgnjkafGreatDoorRows.lean that lists a variable, with what it lists TIED to the program's text (the seventh form; the later family's looks); each row that meets fmt, with fmt's text TOLD by the authors' own Lean function (tested against real Go, not proved from fmt's source: count such statements apart). THE CARD IS WHAT COUNTS. Prove the row's statement (the work); the ties are given (YtdiijpjfkgnjkafGreatDoorTie.lean); close each card by the builder's one call (the guide's Derived/Test/ToyasCard.lean, 'card_holds'). Laid BY PROGRAM, IN A SANDBOX (cutbox-door.mjs). By AI agents, Wed Nov 11 2026. No macro, syntax, notation, axiom, sorry.
-/
import Derived.Test.YtdiijpjfkgnjkafGreatDoorRows
import GoSem.ClaimSeven
namespace Go.Proofs.YtdiijpjfkgnjkafGreatDoor
namespace Rows

/-- THE TIED CARD OF 'chimelaw4.AlarmCounts'. -/
def alarmCountsCard : Claim7 := { stood := { row := alarmCountsRow, standIns := [], harness := (true, "593d46ece3c56557b645f88b0960a9db5bf741d168565649e67a77aad9d4e31a"), looks := false }, kinds := [], alts := [], laidByText := true, laidKinds := [.data], laidTests := true, laidLooks := .later }
def AlarmCountsCardSaid : Prop := Claim7.holds Tryz.pinned (.plain (OpenSpec.ofChange alarmCountsSpec)) alarmCountsCard

/-- THE SECOND FORM's CARD OF 'chimelaw4.AlarmCounts'. -/
def alarmCountsUptoCard : Claim7 := { stood := { row := alarmCountsUptoRow, standIns := [], harness := (true, "593d46ece3c56557b645f88b0960a9db5bf741d168565649e67a77aad9d4e31a"), looks := false }, kinds := [], alts := [], laidByText := true, laidKinds := [.data], laidTests := true, laidLooks := .later }
def AlarmCountsUptoCardSaid : Prop := Claim7.holds Tryz.pinned (.plain (OpenSpec.upto alarmCountsSpec)) alarmCountsUptoCard
end Rows
end Go.Proofs.YtdiijpjfkgnjkafGreatDoor
