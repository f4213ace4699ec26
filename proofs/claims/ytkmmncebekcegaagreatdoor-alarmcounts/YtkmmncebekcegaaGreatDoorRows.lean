/-
  NARROWER THAN 'FOR EVERY INPUT', by the rows' own cells (each row's printed sentence says how): AlarmTells: laid · AlarmHolds: laid · AlarmCounts: laid.
  DERIVED. THE GIVEN ROWS OF THIS SEAT. 3 by the template 'for every input the law returns true; each argument reads behind the call as it read before'; 0 by the template 'total and deterministic' (their statements: YtkmmncebekcegaaGreatDoorTotals.lean).
  GIVEN WITH THE SEED: the statements are not yours to turn. If you find one false, say at which input.
  Laid BY PROGRAM, IN A SANDBOX (cutbox-rows.mjs): the forced cells as the released guide's own fill.sh prints them over the translation d031c9755a8278a1… (all of the seat's roots in one cut). By AI agents, Wed Nov 11 2026. No macro, syntax, notation, axiom, sorry.
-/
import Derived.Test.YtkmmncebekcegaaGreatDoorChecked
import GoSem.Claim
import GoSem.ClaimJoined
import GoSem.ClaimMapViews
import Derived.JoinedTies
import Derived.KernelRfl
namespace Go.Proofs.YtkmmncebekcegaaGreatDoor
/- THE CELL 'sum', in the pinned program and in every row, IS THE sha256 OF THE DUMP (.gsa) THAT YtkmmncebekcegaaGreatDoorProg.lean LOADS. Nothing in Lean hashes anything: it is a label: what it is worth is what the hold of that sum in a sandbox is worth. -/
noncomputable def Tryz.pinned : Pinned := { name := "ytkmmncebekcegaagreatdoor", sum := "d031c9755a8278a16721b9362d5f579af2884a77cb382ea5a1bcc7268571adf7", checked := Tryz.checked }
namespace Rows
def none {H : Type} : Left H := { results := [], args := [] }

/- WHAT THE LISTED PACKAGE-LEVEL VARIABLES READ AS WHEN THE CALL BEGINS. Each datum BY PROGRAM (the guide's laid-datum.mjs) off the statement by which the dump's own 'gosem.cut.vars' lays the variable. In a bare row this is a premise. The card (YtkmmncebekcegaaGreatDoorCards.lean) ties it to the program's text. -/
def laid_chimework_day_monthDays {H : Type} : DataW H := .agg [.lit (.int .i64 31), .lit (.int .i64 28), .lit (.int .i64 31), .lit (.int .i64 30), .lit (.int .i64 31), .lit (.int .i64 30), .lit (.int .i64 31), .lit (.int .i64 31), .lit (.int .i64 30), .lit (.int .i64 31), .lit (.int .i64 30), .lit (.int .i64 31)]
def laid_errors_errorType {H : Type} : DataW H := .iface "internal/reflectlite.rtype" (.agg [.ptr (.lit (.string [101, 114, 114, 111, 114]))])

/-- 'chimelaw2.AlarmTells': WHATEVER THE INPUT: true; the input reads as it did. -/
def alarmTellsSpec : ChangeSpec := { name := "alarmTells", fn := fun _ => fun
  | [d1, d2, d3, d4, d5, d6] => { results := [.lit (.bool true)], args := [d1, d2, d3, d4, d5, d6] }
  | _ => none }
def alarmTellsRow : OpenClaim := { program := "ytkmmncebekcegaagreatdoor", sum := "d031c9755a8278a16721b9362d5f579af2884a77cb382ea5a1bcc7268571adf7", func := "chimework/chimelaw2.AlarmTells", spec := "alarmTells", inPlace := ["internal/reflectlite.ValueOf", "(internal/reflectlite.Value).Type", "(internal/reflectlite.Value).IsNil", "internal/reflectlite.TypeOf", "(internal/reflectlite.Value).Elem", "(internal/reflectlite.Value).Set"], unfollowed := true, recurses := true, named := ["chimework/day.monthDays", "errors.errorType"], apart := false, laid := [("chimework/day.monthDays", laid_chimework_day_monthDays), ("errors.errorType", laid_errors_errorType)] }
def AlarmTellsSaid : Prop := alarmTellsRow.holds Tryz.pinned (OpenSpec.ofChange alarmTellsSpec)

/-- ITS FALSE NEIGHBOUR: 'it returns false'. Refute it at one input. -/
def alarmTellsWrong : ChangeSpec := { name := "alarmTells", fn := fun _ => fun
  | [d1, d2, d3, d4, d5, d6] => { results := [.lit (.bool false)], args := [d1, d2, d3, d4, d5, d6] }
  | _ => none }
def AlarmTellsWrongFalsely : Prop := alarmTellsRow.holds Tryz.pinned (OpenSpec.ofChange alarmTellsWrong)

/-- 'chimelaw2.AlarmHolds': WHATEVER THE INPUT: true; the input reads as it did. -/
def alarmHoldsSpec : ChangeSpec := { name := "alarmHolds", fn := fun _ => fun
  | [d1, d2, d3, d4, d5] => { results := [.lit (.bool true)], args := [d1, d2, d3, d4, d5] }
  | _ => none }
def alarmHoldsRow : OpenClaim := { program := "ytkmmncebekcegaagreatdoor", sum := "d031c9755a8278a16721b9362d5f579af2884a77cb382ea5a1bcc7268571adf7", func := "chimework/chimelaw2.AlarmHolds", spec := "alarmHolds", unfollowed := true, recurses := true, named := ["chimework/day.monthDays"], apart := false, laid := [("chimework/day.monthDays", laid_chimework_day_monthDays)] }
def AlarmHoldsSaid : Prop := alarmHoldsRow.holds Tryz.pinned (OpenSpec.ofChange alarmHoldsSpec)

/-- ITS FALSE NEIGHBOUR: 'it returns false'. Refute it at one input. -/
def alarmHoldsWrong : ChangeSpec := { name := "alarmHolds", fn := fun _ => fun
  | [d1, d2, d3, d4, d5] => { results := [.lit (.bool false)], args := [d1, d2, d3, d4, d5] }
  | _ => none }
def AlarmHoldsWrongFalsely : Prop := alarmHoldsRow.holds Tryz.pinned (OpenSpec.ofChange alarmHoldsWrong)

/-- 'chimelaw4.AlarmCounts': WHATEVER THE INPUT: true; the input reads as it did. -/
def alarmCountsSpec : ChangeSpec := { name := "alarmCounts", fn := fun _ => fun
  | [d1, d2] => { results := [.lit (.bool true)], args := [d1, d2] }
  | _ => none }
def alarmCountsRow : OpenClaim := { program := "ytkmmncebekcegaagreatdoor", sum := "d031c9755a8278a16721b9362d5f579af2884a77cb382ea5a1bcc7268571adf7", func := "chimework/chimelaw4.AlarmCounts", spec := "alarmCounts", unfollowed := true, recurses := true, named := ["chimework/day.monthDays"], apart := false, laid := [("chimework/day.monthDays", laid_chimework_day_monthDays)] }
def AlarmCountsSaid : Prop := alarmCountsRow.holds Tryz.pinned (OpenSpec.ofChange alarmCountsSpec)

/-- ITS FALSE NEIGHBOUR: 'it returns false'. Refute it at one input. -/
def alarmCountsWrong : ChangeSpec := { name := "alarmCounts", fn := fun _ => fun
  | [d1, d2] => { results := [.lit (.bool false)], args := [d1, d2] }
  | _ => none }
def AlarmCountsWrongFalsely : Prop := alarmCountsRow.holds Tryz.pinned (OpenSpec.ofChange alarmCountsWrong)

/- THE SECOND FORM. 'bulk': how many values and letters a reading holds, each counted each time it is reached (what is shared counts as often as it is met; a slice's spare places count too). A statement '..UptoSaid' is the law's where the arguments, and the package variables that the reading takes, are together of bulk at most 1048576: NARROWER than '..Said'. Prove '..Said' where nothing that the law and all that it calls make is longer than what came in: it says more and counts as full. Else prove '..UptoSaid'. A law counts once. -/
mutual
def uptoBulk {H : Type} : DataW H → Nat
  | .lit (.string bytes) => bytes.length + 1
  | .lit _ => 1
  | .nil => 1
  | .ptr d => uptoBulk d + 1
  | .slice elems spare => uptoBulkAll elems + uptoBulkAll spare + 1
  | .agg parts => uptoBulkAll parts + 1
  | .iface _ d => uptoBulk d + 1
  | .map entries => uptoBulkEntries entries + 1
  | .held _ => 1
def uptoBulkAll {H : Type} : List (DataW H) → Nat
  | [] => 0
  | d :: r => uptoBulk d + uptoBulkAll r
def uptoBulkEntries {H : Type} : List (Lit × DataW H) → Nat
  | [] => 0
  | x :: r => uptoBulkEntry x + uptoBulkEntries r
def uptoBulkEntry {H : Type} : Lit × DataW H → Nat
  | (.string bytes, d) => bytes.length + uptoBulk d + 1
  | (_, d) => uptoBulk d + 1
 end
def uptoSmall : (H : Type) → List (DataW H) → Bool := fun _ ds => decide (uptoBulkAll ds ≤ 1048576)
def OpenSpec.upto (s : _root_.Go.ChangeSpec) : _root_.Go.OpenSpec := { _root_.Go.OpenSpec.ofChange s with cond := some uptoSmall }

/-- 'chimelaw2.AlarmTells', WHERE WHAT IT READS IS OF BULK AT MOST 1048576: true; the input reads as it did. -/
def alarmTellsUptoRow : OpenClaim := { program := "ytkmmncebekcegaagreatdoor", sum := "d031c9755a8278a16721b9362d5f579af2884a77cb382ea5a1bcc7268571adf7", func := "chimework/chimelaw2.AlarmTells", spec := "alarmTells", inPlace := ["internal/reflectlite.ValueOf", "(internal/reflectlite.Value).Type", "(internal/reflectlite.Value).IsNil", "internal/reflectlite.TypeOf", "(internal/reflectlite.Value).Elem", "(internal/reflectlite.Value).Set"], unfollowed := true, recurses := true, named := ["chimework/day.monthDays", "errors.errorType"], apart := false, laid := [("chimework/day.monthDays", laid_chimework_day_monthDays), ("errors.errorType", laid_errors_errorType)], narrowed := true }
def AlarmTellsUptoSaid : Prop := alarmTellsUptoRow.holds Tryz.pinned (OpenSpec.upto alarmTellsSpec)

/-- 'chimelaw2.AlarmHolds', WHERE WHAT IT READS IS OF BULK AT MOST 1048576: true; the input reads as it did. -/
def alarmHoldsUptoRow : OpenClaim := { program := "ytkmmncebekcegaagreatdoor", sum := "d031c9755a8278a16721b9362d5f579af2884a77cb382ea5a1bcc7268571adf7", func := "chimework/chimelaw2.AlarmHolds", spec := "alarmHolds", unfollowed := true, recurses := true, named := ["chimework/day.monthDays"], apart := false, laid := [("chimework/day.monthDays", laid_chimework_day_monthDays)], narrowed := true }
def AlarmHoldsUptoSaid : Prop := alarmHoldsUptoRow.holds Tryz.pinned (OpenSpec.upto alarmHoldsSpec)

/-- 'chimelaw4.AlarmCounts', WHERE WHAT IT READS IS OF BULK AT MOST 1048576: true; the input reads as it did. -/
def alarmCountsUptoRow : OpenClaim := { program := "ytkmmncebekcegaagreatdoor", sum := "d031c9755a8278a16721b9362d5f579af2884a77cb382ea5a1bcc7268571adf7", func := "chimework/chimelaw4.AlarmCounts", spec := "alarmCounts", unfollowed := true, recurses := true, named := ["chimework/day.monthDays"], apart := false, laid := [("chimework/day.monthDays", laid_chimework_day_monthDays)], narrowed := true }
def AlarmCountsUptoSaid : Prop := alarmCountsUptoRow.holds Tryz.pinned (OpenSpec.upto alarmCountsSpec)

end Rows
end Go.Proofs.YtkmmncebekcegaaGreatDoor
