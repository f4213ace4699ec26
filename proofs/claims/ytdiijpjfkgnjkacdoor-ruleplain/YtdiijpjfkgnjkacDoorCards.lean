/-
  DERIVED. GIVEN WITH THE SEED: THE CARDS: each row of YtdiijpjfkgnjkacDoorRows.lean that lists a variable, with what it lists TIED to the program's text (the seventh form; the later family's looks); each row that meets fmt, with fmt's text TOLD by the authors' own Lean function (tested against real Go, not proved from fmt's source: count such statements apart). THE CARD IS WHAT COUNTS. Prove the row's statement (the work); the ties are given (YtdiijpjfkgnjkacDoorTie.lean); close each card by the builder's one call (the guide's Derived/Test/ToyasCard.lean, 'card_holds'). Laid BY PROGRAM, IN A SANDBOX (cutbox-door.mjs). By AI agents, Wed Nov 11 2026. No macro, syntax, notation, axiom, sorry.
-/
import Derived.Test.YtdiijpjfkgnjkacDoorRows
import GoSem.ClaimSeven
namespace Go.Proofs.YtdiijpjfkgnjkacDoor
namespace Rows

/-- THE TIED CARD OF 'chimelaw4.RulePlain'. -/
def rulePlainCard : Claim7 := { stood := { row := rulePlainRow, standIns := [], harness := (true, "575d4d99001a21d38c791d94cd3e63d0f968f89d1698331e1a5f24972ab01ec6"), looks := true }, kinds := [], alts := [], laidByText := true, laidKinds := [.data, .data, .data, .data, .handle, .data, .data, .data], laidTests := true, laidLooks := .later }
def RulePlainCardSaid : Prop := Claim7.holds Tryd.pinned (.plain (OpenSpec.ofChange rulePlainSpec)) rulePlainCard

/-- THE TIED CARD OF 'chimelaw1.PeriodHolds'. -/
def periodHoldsCard : Claim7 := { stood := { row := periodHoldsRow, standIns := [], harness := (true, "575d4d99001a21d38c791d94cd3e63d0f968f89d1698331e1a5f24972ab01ec6"), looks := true }, kinds := [], alts := [], laidByText := true, laidKinds := [.data], laidTests := true, laidLooks := .later }
def PeriodHoldsCardSaid : Prop := Claim7.holds Tryd.pinned (.plain (OpenSpec.ofChange periodHoldsSpec)) periodHoldsCard

/-- THE TIED CARD OF 'chimelaw4.PeriodSteps'. -/
def periodStepsCard : Claim7 := { stood := { row := periodStepsRow, standIns := [], harness := (true, "575d4d99001a21d38c791d94cd3e63d0f968f89d1698331e1a5f24972ab01ec6"), looks := true }, kinds := [], alts := [], laidByText := true, laidKinds := [.data], laidTests := true, laidLooks := .later }
def PeriodStepsCardSaid : Prop := Claim7.holds Tryd.pinned (.plain (OpenSpec.ofChange periodStepsSpec)) periodStepsCard

/-- THE TIED CARD OF 'chimelaw1.SeqHolds'. -/
def seqHoldsCard : Claim7 := { stood := { row := seqHoldsRow, standIns := [], harness := (true, "575d4d99001a21d38c791d94cd3e63d0f968f89d1698331e1a5f24972ab01ec6"), looks := true }, kinds := [], alts := [], laidByText := true, laidKinds := [.data], laidTests := true, laidLooks := .later }
def SeqHoldsCardSaid : Prop := Claim7.holds Tryd.pinned (.plain (OpenSpec.ofChange seqHoldsSpec)) seqHoldsCard

/-- THE SECOND FORM's CARD OF 'chimelaw4.RulePlain'. -/
def rulePlainUptoCard : Claim7 := { stood := { row := rulePlainUptoRow, standIns := [], harness := (true, "575d4d99001a21d38c791d94cd3e63d0f968f89d1698331e1a5f24972ab01ec6"), looks := true }, kinds := [], alts := [], laidByText := true, laidKinds := [.data, .data, .data, .data, .handle, .data, .data, .data], laidTests := true, laidLooks := .later }
def RulePlainUptoCardSaid : Prop := Claim7.holds Tryd.pinned (.plain (OpenSpec.upto rulePlainSpec)) rulePlainUptoCard

/-- THE SECOND FORM's CARD OF 'chimelaw1.PeriodHolds'. -/
def periodHoldsUptoCard : Claim7 := { stood := { row := periodHoldsUptoRow, standIns := [], harness := (true, "575d4d99001a21d38c791d94cd3e63d0f968f89d1698331e1a5f24972ab01ec6"), looks := true }, kinds := [], alts := [], laidByText := true, laidKinds := [.data], laidTests := true, laidLooks := .later }
def PeriodHoldsUptoCardSaid : Prop := Claim7.holds Tryd.pinned (.plain (OpenSpec.upto periodHoldsSpec)) periodHoldsUptoCard

/-- THE SECOND FORM's CARD OF 'chimelaw4.PeriodSteps'. -/
def periodStepsUptoCard : Claim7 := { stood := { row := periodStepsUptoRow, standIns := [], harness := (true, "575d4d99001a21d38c791d94cd3e63d0f968f89d1698331e1a5f24972ab01ec6"), looks := true }, kinds := [], alts := [], laidByText := true, laidKinds := [.data], laidTests := true, laidLooks := .later }
def PeriodStepsUptoCardSaid : Prop := Claim7.holds Tryd.pinned (.plain (OpenSpec.upto periodStepsSpec)) periodStepsUptoCard

/-- THE SECOND FORM's CARD OF 'chimelaw1.SeqHolds'. -/
def seqHoldsUptoCard : Claim7 := { stood := { row := seqHoldsUptoRow, standIns := [], harness := (true, "575d4d99001a21d38c791d94cd3e63d0f968f89d1698331e1a5f24972ab01ec6"), looks := true }, kinds := [], alts := [], laidByText := true, laidKinds := [.data], laidTests := true, laidLooks := .later }
def SeqHoldsUptoCardSaid : Prop := Claim7.holds Tryd.pinned (.plain (OpenSpec.upto seqHoldsSpec)) seqHoldsUptoCard
end Rows
end Go.Proofs.YtdiijpjfkgnjkacDoor
