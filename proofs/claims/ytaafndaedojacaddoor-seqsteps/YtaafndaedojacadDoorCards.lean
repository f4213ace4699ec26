/-
  DERIVED. GIVEN WITH THE SEED: THE CARDS: each row of YtaafndaedojacadDoorRows.lean that lists a variable, with what it lists TIED to the program's text (the seventh form; the later family's looks); each row that meets fmt, with fmt's text TOLD by the authors' own Lean function (tested against real Go, not proved from fmt's source: count such statements apart). THE CARD IS WHAT COUNTS. Prove the row's statement (the work); the ties are given (YtaafndaedojacadDoorTie.lean); close each card by the builder's one call (the guide's Derived/Test/ToyasCard.lean, 'card_holds'). Laid BY PROGRAM, IN A SANDBOX (cutbox-door.mjs). By AI agents, Wed Nov 11 2026. No macro, syntax, notation, axiom, sorry.
-/
import Derived.Test.YtaafndaedojacadDoorRows
import GoSem.ClaimSeven
namespace Go.Proofs.YtaafndaedojacadDoor
namespace Rows

/-- THE TIED CARD OF 'chimelaw4.SeqSteps'. -/
def seqStepsCard : Claim7 := { stood := { row := seqStepsRow, standIns := [], harness := (true, "e4733a483a800f8059800ecca2d51d295139735ba029f44b64396b0cdce4aecb"), looks := false }, kinds := [], alts := [], laidByText := true, laidKinds := [.data], laidTests := true, laidLooks := .later }
def SeqStepsCardSaid : Prop := Claim7.holds Tryd.pinned (.plain (OpenSpec.ofChange seqStepsSpec)) seqStepsCard

/-- THE SECOND FORM's CARD OF 'chimelaw4.SeqSteps'. -/
def seqStepsUptoCard : Claim7 := { stood := { row := seqStepsUptoRow, standIns := [], harness := (true, "e4733a483a800f8059800ecca2d51d295139735ba029f44b64396b0cdce4aecb"), looks := false }, kinds := [], alts := [], laidByText := true, laidKinds := [.data], laidTests := true, laidLooks := .later }
def SeqStepsUptoCardSaid : Prop := Claim7.holds Tryd.pinned (.plain (OpenSpec.upto seqStepsSpec)) seqStepsUptoCard
end Rows
end Go.Proofs.YtaafndaedojacadDoor
