/-
  NARROWER THAN 'FOR EVERY INPUT', by the rows' own cells (each row's printed sentence says how): DeskHolds: laid · DeskSnoozes: laid · DeskPlays: laid · TopRings: laid.
  DERIVED. THE GIVEN ROWS OF THIS SEAT. 4 by the template 'for every input the law returns true; each argument reads behind the call as it read before'; 0 by the template 'total and deterministic' (their statements: YthdohcjingfpoaaGreatDoorTotals.lean).
  GIVEN WITH THE SEED: the statements are not yours to turn. If you find one false, say at which input.
  Laid BY PROGRAM, IN A SANDBOX (cutbox-rows.mjs): the forced cells as the released guide's own fill.sh prints them over the translation 291f009ac4b31c21… (all of the seat's roots in one cut). By AI agents, Wed Nov 11 2026. No macro, syntax, notation, axiom, sorry.
-/
import Derived.Test.YthdohcjingfpoaaGreatDoorChecked
import GoSem.Claim
import GoSem.ClaimJoined
import GoSem.ClaimMapViews
import Derived.JoinedTies
import Derived.KernelRfl
namespace Go.Proofs.YthdohcjingfpoaaGreatDoor
/- THE CELL 'sum', in the pinned program and in every row, IS THE sha256 OF THE DUMP (.gsa) THAT YthdohcjingfpoaaGreatDoorProg.lean LOADS. Nothing in Lean hashes anything: it is a label: what it is worth is what the hold of that sum in a sandbox is worth. -/
noncomputable def Tryz.pinned : Pinned := { name := "ythdohcjingfpoaagreatdoor", sum := "291f009ac4b31c2150e258ce370d05b03e363bd69936e86a7292df5330386e40", checked := Tryz.checked }
namespace Rows
def none {H : Type} : Left H := { results := [], args := [] }

/- WHAT THE LISTED PACKAGE-LEVEL VARIABLES READ AS WHEN THE CALL BEGINS. Each datum BY PROGRAM (the guide's laid-datum.mjs) off the statement by which the dump's own 'gosem.cut.vars' lays the variable. In a bare row this is a premise. The card (YthdohcjingfpoaaGreatDoorCards.lean) ties it to the program's text. -/
def laid_chimework_day_monthDays {H : Type} : DataW H := .agg [.lit (.int .i64 31), .lit (.int .i64 28), .lit (.int .i64 31), .lit (.int .i64 30), .lit (.int .i64 31), .lit (.int .i64 30), .lit (.int .i64 31), .lit (.int .i64 31), .lit (.int .i64 30), .lit (.int .i64 31), .lit (.int .i64 30), .lit (.int .i64 31)]
def laid_errors_errorType {H : Type} : DataW H := .iface "internal/reflectlite.rtype" (.agg [.ptr (.lit (.string [101, 114, 114, 111, 114]))])

/-- 'chimelaw3.DeskHolds': WHATEVER THE INPUT: true; the input reads as it did. -/
def deskHoldsSpec : ChangeSpec := { name := "deskHolds", fn := fun _ => fun
  | [d1, d2, d3, d4, d5] => { results := [.lit (.bool true)], args := [d1, d2, d3, d4, d5] }
  | _ => none }
def deskHoldsRow : OpenClaim := { program := "ythdohcjingfpoaagreatdoor", sum := "291f009ac4b31c2150e258ce370d05b03e363bd69936e86a7292df5330386e40", func := "chimework/chimelaw3.DeskHolds", spec := "deskHolds", inPlace := ["slices.overlaps[chimework/api.Ring]"], unfollowed := true, recurses := true, named := ["chimework/day.monthDays"], apart := false, laid := [("chimework/day.monthDays", laid_chimework_day_monthDays)] }
def DeskHoldsSaid : Prop := deskHoldsRow.holds Tryz.pinned (OpenSpec.ofChange deskHoldsSpec)

/-- ITS FALSE NEIGHBOUR: 'it returns false'. Refute it at one input. -/
def deskHoldsWrong : ChangeSpec := { name := "deskHolds", fn := fun _ => fun
  | [d1, d2, d3, d4, d5] => { results := [.lit (.bool false)], args := [d1, d2, d3, d4, d5] }
  | _ => none }
def DeskHoldsWrongFalsely : Prop := deskHoldsRow.holds Tryz.pinned (OpenSpec.ofChange deskHoldsWrong)

/-- 'chimelaw3.DeskSnoozes': WHATEVER THE INPUT: true; the input reads as it did. -/
def deskSnoozesSpec : ChangeSpec := { name := "deskSnoozes", fn := fun _ => fun
  | [d1, d2, d3, d4, d5] => { results := [.lit (.bool true)], args := [d1, d2, d3, d4, d5] }
  | _ => none }
def deskSnoozesRow : OpenClaim := { program := "ythdohcjingfpoaagreatdoor", sum := "291f009ac4b31c2150e258ce370d05b03e363bd69936e86a7292df5330386e40", func := "chimework/chimelaw3.DeskSnoozes", spec := "deskSnoozes", inPlace := ["slices.overlaps[chimework/api.Ring]", "internal/reflectlite.ValueOf", "(internal/reflectlite.Value).Type", "(internal/reflectlite.Value).IsNil", "internal/reflectlite.TypeOf", "(internal/reflectlite.Value).Elem", "(internal/reflectlite.Value).Set"], unfollowed := true, recurses := true, named := ["chimework/day.monthDays", "errors.errorType"], apart := false, laid := [("chimework/day.monthDays", laid_chimework_day_monthDays), ("errors.errorType", laid_errors_errorType)] }
def DeskSnoozesSaid : Prop := deskSnoozesRow.holds Tryz.pinned (OpenSpec.ofChange deskSnoozesSpec)

/-- ITS FALSE NEIGHBOUR: 'it returns false'. Refute it at one input. -/
def deskSnoozesWrong : ChangeSpec := { name := "deskSnoozes", fn := fun _ => fun
  | [d1, d2, d3, d4, d5] => { results := [.lit (.bool false)], args := [d1, d2, d3, d4, d5] }
  | _ => none }
def DeskSnoozesWrongFalsely : Prop := deskSnoozesRow.holds Tryz.pinned (OpenSpec.ofChange deskSnoozesWrong)

/-- 'chimelaw3.DeskPlays': WHATEVER THE INPUT: true; the input reads as it did. -/
def deskPlaysSpec : ChangeSpec := { name := "deskPlays", fn := fun _ => fun
  | [d1, d2, d3] => { results := [.lit (.bool true)], args := [d1, d2, d3] }
  | _ => none }
def deskPlaysRow : OpenClaim := { program := "ythdohcjingfpoaagreatdoor", sum := "291f009ac4b31c2150e258ce370d05b03e363bd69936e86a7292df5330386e40", func := "chimework/chimelaw3.DeskPlays", spec := "deskPlays", inPlace := ["internal/reflectlite.ValueOf", "(internal/reflectlite.Value).Type", "(internal/reflectlite.Value).IsNil", "internal/reflectlite.TypeOf", "(internal/reflectlite.Value).Elem", "(internal/reflectlite.Value).Set", "slices.overlaps[chimework/api.Ring]"], unfollowed := true, recurses := true, named := ["errors.errorType", "chimework/day.monthDays"], apart := false, laid := [("chimework/day.monthDays", laid_chimework_day_monthDays), ("errors.errorType", laid_errors_errorType)] }
def DeskPlaysSaid : Prop := deskPlaysRow.holds Tryz.pinned (OpenSpec.ofChange deskPlaysSpec)

/-- ITS FALSE NEIGHBOUR: 'it returns false'. Refute it at one input. -/
def deskPlaysWrong : ChangeSpec := { name := "deskPlays", fn := fun _ => fun
  | [d1, d2, d3] => { results := [.lit (.bool false)], args := [d1, d2, d3] }
  | _ => none }
def DeskPlaysWrongFalsely : Prop := deskPlaysRow.holds Tryz.pinned (OpenSpec.ofChange deskPlaysWrong)

/-- 'chimetop.TopRings': WHATEVER THE INPUT: true; the input reads as it did. -/
def topRingsSpec : ChangeSpec := { name := "topRings", fn := fun _ => fun
  | [d1, d2, d3, d4] => { results := [.lit (.bool true)], args := [d1, d2, d3, d4] }
  | _ => none }
def topRingsRow : OpenClaim := { program := "ythdohcjingfpoaagreatdoor", sum := "291f009ac4b31c2150e258ce370d05b03e363bd69936e86a7292df5330386e40", func := "chimework/chimetop.TopRings", spec := "topRings", inPlace := ["slices.overlaps[chimework/api.Ring]"], unfollowed := true, recurses := true, named := ["chimework/day.monthDays"], apart := false, laid := [("chimework/day.monthDays", laid_chimework_day_monthDays)] }
def TopRingsSaid : Prop := topRingsRow.holds Tryz.pinned (OpenSpec.ofChange topRingsSpec)

/-- ITS FALSE NEIGHBOUR: 'it returns false'. Refute it at one input. -/
def topRingsWrong : ChangeSpec := { name := "topRings", fn := fun _ => fun
  | [d1, d2, d3, d4] => { results := [.lit (.bool false)], args := [d1, d2, d3, d4] }
  | _ => none }
def TopRingsWrongFalsely : Prop := topRingsRow.holds Tryz.pinned (OpenSpec.ofChange topRingsWrong)

/- THE SECOND FORM. 'bulk': how many values and letters a reading holds, each counted each time it is reached (what is shared counts as often as it is met; a slice's spare places count too). A statement '..UptoSaid' is the law's where the arguments, and the package variables that the reading takes, are together of bulk at most 1048576: NARROWER than '..Said'. Prove '..Said' where nothing that the law and all that it calls make is longer than what came in: it says more and counts as full. Else prove '..UptoSaid'. A law counts once. -/
mutual
def uptoBulk {H : Type} : DataW H → Nat
  | .lit (.string bytes) => bytes.length + 1
  | .lit _ => 1
  | .nil => 1
  | .ptr d => uptoBulk d + 1
  | .slice elems spare => uptoBulkAll elems + uptoBulkAll spare + 1
  | .agg parts => uptoBulkAll parts + 1
  | .iface _ d => uptoBulk d + 1
  | .map entries => uptoBulkEntries entries + 1
  | .held _ => 1
def uptoBulkAll {H : Type} : List (DataW H) → Nat
  | [] => 0
  | d :: r => uptoBulk d + uptoBulkAll r
def uptoBulkEntries {H : Type} : List (Lit × DataW H) → Nat
  | [] => 0
  | x :: r => uptoBulkEntry x + uptoBulkEntries r
def uptoBulkEntry {H : Type} : Lit × DataW H → Nat
  | (.string bytes, d) => bytes.length + uptoBulk d + 1
  | (_, d) => uptoBulk d + 1
 end
def uptoSmall : (H : Type) → List (DataW H) → Bool := fun _ ds => decide (uptoBulkAll ds ≤ 1048576)
def OpenSpec.upto (s : _root_.Go.ChangeSpec) : _root_.Go.OpenSpec := { _root_.Go.OpenSpec.ofChange s with cond := some uptoSmall }

/-- 'chimelaw3.DeskHolds', WHERE WHAT IT READS IS OF BULK AT MOST 1048576: true; the input reads as it did. -/
def deskHoldsUptoRow : OpenClaim := { program := "ythdohcjingfpoaagreatdoor", sum := "291f009ac4b31c2150e258ce370d05b03e363bd69936e86a7292df5330386e40", func := "chimework/chimelaw3.DeskHolds", spec := "deskHolds", inPlace := ["slices.overlaps[chimework/api.Ring]"], unfollowed := true, recurses := true, named := ["chimework/day.monthDays"], apart := false, laid := [("chimework/day.monthDays", laid_chimework_day_monthDays)], narrowed := true }
def DeskHoldsUptoSaid : Prop := deskHoldsUptoRow.holds Tryz.pinned (OpenSpec.upto deskHoldsSpec)

/-- 'chimelaw3.DeskSnoozes', WHERE WHAT IT READS IS OF BULK AT MOST 1048576: true; the input reads as it did. -/
def deskSnoozesUptoRow : OpenClaim := { program := "ythdohcjingfpoaagreatdoor", sum := "291f009ac4b31c2150e258ce370d05b03e363bd69936e86a7292df5330386e40", func := "chimework/chimelaw3.DeskSnoozes", spec := "deskSnoozes", inPlace := ["slices.overlaps[chimework/api.Ring]", "internal/reflectlite.ValueOf", "(internal/reflectlite.Value).Type", "(internal/reflectlite.Value).IsNil", "internal/reflectlite.TypeOf", "(internal/reflectlite.Value).Elem", "(internal/reflectlite.Value).Set"], unfollowed := true, recurses := true, named := ["chimework/day.monthDays", "errors.errorType"], apart := false, laid := [("chimework/day.monthDays", laid_chimework_day_monthDays), ("errors.errorType", laid_errors_errorType)], narrowed := true }
def DeskSnoozesUptoSaid : Prop := deskSnoozesUptoRow.holds Tryz.pinned (OpenSpec.upto deskSnoozesSpec)

/-- 'chimelaw3.DeskPlays', WHERE WHAT IT READS IS OF BULK AT MOST 1048576: true; the input reads as it did. -/
def deskPlaysUptoRow : OpenClaim := { program := "ythdohcjingfpoaagreatdoor", sum := "291f009ac4b31c2150e258ce370d05b03e363bd69936e86a7292df5330386e40", func := "chimework/chimelaw3.DeskPlays", spec := "deskPlays", inPlace := ["internal/reflectlite.ValueOf", "(internal/reflectlite.Value).Type", "(internal/reflectlite.Value).IsNil", "internal/reflectlite.TypeOf", "(internal/reflectlite.Value).Elem", "(internal/reflectlite.Value).Set", "slices.overlaps[chimework/api.Ring]"], unfollowed := true, recurses := true, named := ["errors.errorType", "chimework/day.monthDays"], apart := false, laid := [("chimework/day.monthDays", laid_chimework_day_monthDays), ("errors.errorType", laid_errors_errorType)], narrowed := true }
def DeskPlaysUptoSaid : Prop := deskPlaysUptoRow.holds Tryz.pinned (OpenSpec.upto deskPlaysSpec)

/-- 'chimetop.TopRings', WHERE WHAT IT READS IS OF BULK AT MOST 1048576: true; the input reads as it did. -/
def topRingsUptoRow : OpenClaim := { program := "ythdohcjingfpoaagreatdoor", sum := "291f009ac4b31c2150e258ce370d05b03e363bd69936e86a7292df5330386e40", func := "chimework/chimetop.TopRings", spec := "topRings", inPlace := ["slices.overlaps[chimework/api.Ring]"], unfollowed := true, recurses := true, named := ["chimework/day.monthDays"], apart := false, laid := [("chimework/day.monthDays", laid_chimework_day_monthDays)], narrowed := true }
def TopRingsUptoSaid : Prop := topRingsUptoRow.holds Tryz.pinned (OpenSpec.upto topRingsSpec)

end Rows
end Go.Proofs.YthdohcjingfpoaaGreatDoor
