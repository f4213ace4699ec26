/-
  NARROWER THAN 'FOR EVERY INPUT', by the rows' own cells (each row's printed sentence says how): EventOnce: laid · TimesTells: laid · TimesHold: laid · TimesAhead: laid · AlarmTells: laid · AlarmHolds: laid.
  DERIVED. THE GIVEN ROWS OF THIS SEAT. 6 by the template 'for every input the law returns true; each argument reads behind the call as it read before'; 0 by the template 'total and deterministic' (their statements: YtoafdacgekmomaeGreatDoorTotals.lean).
  GIVEN WITH THE SEED: the statements are not yours to turn. If you find one false, say at which input.
  Laid BY PROGRAM, IN A SANDBOX (cutbox-rows.mjs): the forced cells as the released guide's own fill.sh prints them over the translation ae37defa0b19cbb0… (all of the seat's roots in one cut). By AI agents, Wed Nov 11 2026. No macro, syntax, notation, axiom, sorry.
-/
import Derived.Test.YtoafdacgekmomaeGreatDoorChecked
import GoSem.Claim
import GoSem.ClaimJoined
import GoSem.ClaimMapViews
import Derived.JoinedTies
import Derived.KernelRfl
namespace Go.Proofs.YtoafdacgekmomaeGreatDoor
/- THE CELL 'sum', in the pinned program and in every row, IS THE sha256 OF THE DUMP (.gsa) THAT YtoafdacgekmomaeGreatDoorProg.lean LOADS. Nothing in Lean hashes anything: it is a label: what it is worth is what the hold of that sum in a sandbox is worth. -/
noncomputable def Tryz.pinned : Pinned := { name := "ytoafdacgekmomaegreatdoor", sum := "ae37defa0b19cbb005e51d856bbaec94cd8937ce40788e86d03e40cb6cfbd5cb", checked := Tryz.checked }
namespace Rows
def none {H : Type} : Left H := { results := [], args := [] }

/- WHAT THE LISTED PACKAGE-LEVEL VARIABLES READ AS WHEN THE CALL BEGINS. Each datum BY PROGRAM (the guide's laid-datum.mjs) off the statement by which the dump's own 'gosem.cut.vars' lays the variable. In a bare row this is a premise. The card (YtoafdacgekmomaeGreatDoorCards.lean) ties it to the program's text. -/
def laid_chimework_day_monthDays {H : Type} : DataW H := .agg [.lit (.int .i64 31), .lit (.int .i64 28), .lit (.int .i64 31), .lit (.int .i64 30), .lit (.int .i64 31), .lit (.int .i64 30), .lit (.int .i64 31), .lit (.int .i64 31), .lit (.int .i64 30), .lit (.int .i64 31), .lit (.int .i64 30), .lit (.int .i64 31)]
def laid_errors_errorType {H : Type} : DataW H := .iface "internal/reflectlite.rtype" (.agg [.ptr (.lit (.string [101, 114, 114, 111, 114]))])

/-- 'chimelaw4.EventOnce': WHATEVER THE INPUT: true; the input reads as it did. -/
def eventOnceSpec : ChangeSpec := { name := "eventOnce", fn := fun _ => fun
  | [d1, d2, d3] => { results := [.lit (.bool true)], args := [d1, d2, d3] }
  | _ => none }
def eventOnceRow : OpenClaim := { program := "ytoafdacgekmomaegreatdoor", sum := "ae37defa0b19cbb005e51d856bbaec94cd8937ce40788e86d03e40cb6cfbd5cb", func := "chimework/chimelaw4.EventOnce", spec := "eventOnce", unfollowed := true, recurses := true, named := ["chimework/day.monthDays"], apart := false, laid := [("chimework/day.monthDays", laid_chimework_day_monthDays)] }
def EventOnceSaid : Prop := eventOnceRow.holds Tryz.pinned (OpenSpec.ofChange eventOnceSpec)

/-- ITS FALSE NEIGHBOUR: 'it returns false'. Refute it at one input. -/
def eventOnceWrong : ChangeSpec := { name := "eventOnce", fn := fun _ => fun
  | [d1, d2, d3] => { results := [.lit (.bool false)], args := [d1, d2, d3] }
  | _ => none }
def EventOnceWrongFalsely : Prop := eventOnceRow.holds Tryz.pinned (OpenSpec.ofChange eventOnceWrong)

/-- 'chimelaw2.TimesTells': WHATEVER THE INPUT: true; the input reads as it did. -/
def timesTellsSpec : ChangeSpec := { name := "timesTells", fn := fun _ => fun
  | [d1, d2, d3, d4] => { results := [.lit (.bool true)], args := [d1, d2, d3, d4] }
  | _ => none }
def timesTellsRow : OpenClaim := { program := "ytoafdacgekmomaegreatdoor", sum := "ae37defa0b19cbb005e51d856bbaec94cd8937ce40788e86d03e40cb6cfbd5cb", func := "chimework/chimelaw2.TimesTells", spec := "timesTells", inPlace := ["internal/reflectlite.ValueOf", "(internal/reflectlite.Value).Type", "(internal/reflectlite.Value).IsNil", "internal/reflectlite.TypeOf", "(internal/reflectlite.Value).Elem", "(internal/reflectlite.Value).Set"], unfollowed := true, recurses := true, named := ["chimework/day.monthDays", "errors.errorType"], apart := false, laid := [("chimework/day.monthDays", laid_chimework_day_monthDays), ("errors.errorType", laid_errors_errorType)] }
def TimesTellsSaid : Prop := timesTellsRow.holds Tryz.pinned (OpenSpec.ofChange timesTellsSpec)

/-- ITS FALSE NEIGHBOUR: 'it returns false'. Refute it at one input. -/
def timesTellsWrong : ChangeSpec := { name := "timesTells", fn := fun _ => fun
  | [d1, d2, d3, d4] => { results := [.lit (.bool false)], args := [d1, d2, d3, d4] }
  | _ => none }
def TimesTellsWrongFalsely : Prop := timesTellsRow.holds Tryz.pinned (OpenSpec.ofChange timesTellsWrong)

/-- 'chimelaw2.TimesHold': WHATEVER THE INPUT: true; the input reads as it did. -/
def timesHoldSpec : ChangeSpec := { name := "timesHold", fn := fun _ => fun
  | [d1, d2, d3, d4, d5] => { results := [.lit (.bool true)], args := [d1, d2, d3, d4, d5] }
  | _ => none }
def timesHoldRow : OpenClaim := { program := "ytoafdacgekmomaegreatdoor", sum := "ae37defa0b19cbb005e51d856bbaec94cd8937ce40788e86d03e40cb6cfbd5cb", func := "chimework/chimelaw2.TimesHold", spec := "timesHold", unfollowed := true, recurses := true, named := ["chimework/day.monthDays"], apart := false, laid := [("chimework/day.monthDays", laid_chimework_day_monthDays)] }
def TimesHoldSaid : Prop := timesHoldRow.holds Tryz.pinned (OpenSpec.ofChange timesHoldSpec)

/-- ITS FALSE NEIGHBOUR: 'it returns false'. Refute it at one input. -/
def timesHoldWrong : ChangeSpec := { name := "timesHold", fn := fun _ => fun
  | [d1, d2, d3, d4, d5] => { results := [.lit (.bool false)], args := [d1, d2, d3, d4, d5] }
  | _ => none }
def TimesHoldWrongFalsely : Prop := timesHoldRow.holds Tryz.pinned (OpenSpec.ofChange timesHoldWrong)

/-- 'chimelaw4.TimesAhead': WHATEVER THE INPUT: true; the input reads as it did. -/
def timesAheadSpec : ChangeSpec := { name := "timesAhead", fn := fun _ => fun
  | [d1, d2, d3, d4, d5] => { results := [.lit (.bool true)], args := [d1, d2, d3, d4, d5] }
  | _ => none }
def timesAheadRow : OpenClaim := { program := "ytoafdacgekmomaegreatdoor", sum := "ae37defa0b19cbb005e51d856bbaec94cd8937ce40788e86d03e40cb6cfbd5cb", func := "chimework/chimelaw4.TimesAhead", spec := "timesAhead", unfollowed := true, recurses := true, named := ["chimework/day.monthDays"], apart := false, laid := [("chimework/day.monthDays", laid_chimework_day_monthDays)] }
def TimesAheadSaid : Prop := timesAheadRow.holds Tryz.pinned (OpenSpec.ofChange timesAheadSpec)

/-- ITS FALSE NEIGHBOUR: 'it returns false'. Refute it at one input. -/
def timesAheadWrong : ChangeSpec := { name := "timesAhead", fn := fun _ => fun
  | [d1, d2, d3, d4, d5] => { results := [.lit (.bool false)], args := [d1, d2, d3, d4, d5] }
  | _ => none }
def TimesAheadWrongFalsely : Prop := timesAheadRow.holds Tryz.pinned (OpenSpec.ofChange timesAheadWrong)

/-- 'chimelaw2.AlarmTells': WHATEVER THE INPUT: true; the input reads as it did. -/
def alarmTellsSpec : ChangeSpec := { name := "alarmTells", fn := fun _ => fun
  | [d1, d2, d3, d4, d5, d6] => { results := [.lit (.bool true)], args := [d1, d2, d3, d4, d5, d6] }
  | _ => none }
def alarmTellsRow : OpenClaim := { program := "ytoafdacgekmomaegreatdoor", sum := "ae37defa0b19cbb005e51d856bbaec94cd8937ce40788e86d03e40cb6cfbd5cb", func := "chimework/chimelaw2.AlarmTells", spec := "alarmTells", inPlace := ["internal/reflectlite.ValueOf", "(internal/reflectlite.Value).Type", "(internal/reflectlite.Value).IsNil", "internal/reflectlite.TypeOf", "(internal/reflectlite.Value).Elem", "(internal/reflectlite.Value).Set"], unfollowed := true, recurses := true, named := ["chimework/day.monthDays", "errors.errorType"], apart := false, laid := [("chimework/day.monthDays", laid_chimework_day_monthDays), ("errors.errorType", laid_errors_errorType)] }
def AlarmTellsSaid : Prop := alarmTellsRow.holds Tryz.pinned (OpenSpec.ofChange alarmTellsSpec)

/-- ITS FALSE NEIGHBOUR: 'it returns false'. Refute it at one input. -/
def alarmTellsWrong : ChangeSpec := { name := "alarmTells", fn := fun _ => fun
  | [d1, d2, d3, d4, d5, d6] => { results := [.lit (.bool false)], args := [d1, d2, d3, d4, d5, d6] }
  | _ => none }
def AlarmTellsWrongFalsely : Prop := alarmTellsRow.holds Tryz.pinned (OpenSpec.ofChange alarmTellsWrong)

/-- 'chimelaw2.AlarmHolds': WHATEVER THE INPUT: true; the input reads as it did. -/
def alarmHoldsSpec : ChangeSpec := { name := "alarmHolds", fn := fun _ => fun
  | [d1, d2, d3, d4, d5] => { results := [.lit (.bool true)], args := [d1, d2, d3, d4, d5] }
  | _ => none }
def alarmHoldsRow : OpenClaim := { program := "ytoafdacgekmomaegreatdoor", sum := "ae37defa0b19cbb005e51d856bbaec94cd8937ce40788e86d03e40cb6cfbd5cb", func := "chimework/chimelaw2.AlarmHolds", spec := "alarmHolds", unfollowed := true, recurses := true, named := ["chimework/day.monthDays"], apart := false, laid := [("chimework/day.monthDays", laid_chimework_day_monthDays)] }
def AlarmHoldsSaid : Prop := alarmHoldsRow.holds Tryz.pinned (OpenSpec.ofChange alarmHoldsSpec)

/-- ITS FALSE NEIGHBOUR: 'it returns false'. Refute it at one input. -/
def alarmHoldsWrong : ChangeSpec := { name := "alarmHolds", fn := fun _ => fun
  | [d1, d2, d3, d4, d5] => { results := [.lit (.bool false)], args := [d1, d2, d3, d4, d5] }
  | _ => none }
def AlarmHoldsWrongFalsely : Prop := alarmHoldsRow.holds Tryz.pinned (OpenSpec.ofChange alarmHoldsWrong)

/- THE SECOND FORM. 'bulk': how many values and letters a reading holds, each counted each time it is reached (what is shared counts as often as it is met; a slice's spare places count too). A statement '..UptoSaid' is the law's where the arguments, and the package variables that the reading takes, are together of bulk at most 1048576: NARROWER than '..Said'. Prove '..Said' where nothing that the law and all that it calls make is longer than what came in: it says more and counts as full. Else prove '..UptoSaid'. A law counts once. -/
mutual
def uptoBulk {H : Type} : DataW H → Nat
  | .lit (.string bytes) => bytes.length + 1
  | .lit _ => 1
  | .nil => 1
  | .ptr d => uptoBulk d + 1
  | .slice elems spare => uptoBulkAll elems + uptoBulkAll spare + 1
  | .agg parts => uptoBulkAll parts + 1
  | .iface _ d => uptoBulk d + 1
  | .map entries => uptoBulkEntries entries + 1
  | .held _ => 1
def uptoBulkAll {H : Type} : List (DataW H) → Nat
  | [] => 0
  | d :: r => uptoBulk d + uptoBulkAll r
def uptoBulkEntries {H : Type} : List (Lit × DataW H) → Nat
  | [] => 0
  | x :: r => uptoBulkEntry x + uptoBulkEntries r
def uptoBulkEntry {H : Type} : Lit × DataW H → Nat
  | (.string bytes, d) => bytes.length + uptoBulk d + 1
  | (_, d) => uptoBulk d + 1
 end
def uptoSmall : (H : Type) → List (DataW H) → Bool := fun _ ds => decide (uptoBulkAll ds ≤ 1048576)
def OpenSpec.upto (s : _root_.Go.ChangeSpec) : _root_.Go.OpenSpec := { _root_.Go.OpenSpec.ofChange s with cond := some uptoSmall }

/-- 'chimelaw4.EventOnce', WHERE WHAT IT READS IS OF BULK AT MOST 1048576: true; the input reads as it did. -/
def eventOnceUptoRow : OpenClaim := { program := "ytoafdacgekmomaegreatdoor", sum := "ae37defa0b19cbb005e51d856bbaec94cd8937ce40788e86d03e40cb6cfbd5cb", func := "chimework/chimelaw4.EventOnce", spec := "eventOnce", unfollowed := true, recurses := true, named := ["chimework/day.monthDays"], apart := false, laid := [("chimework/day.monthDays", laid_chimework_day_monthDays)], narrowed := true }
def EventOnceUptoSaid : Prop := eventOnceUptoRow.holds Tryz.pinned (OpenSpec.upto eventOnceSpec)

/-- 'chimelaw2.TimesTells', WHERE WHAT IT READS IS OF BULK AT MOST 1048576: true; the input reads as it did. -/
def timesTellsUptoRow : OpenClaim := { program := "ytoafdacgekmomaegreatdoor", sum := "ae37defa0b19cbb005e51d856bbaec94cd8937ce40788e86d03e40cb6cfbd5cb", func := "chimework/chimelaw2.TimesTells", spec := "timesTells", inPlace := ["internal/reflectlite.ValueOf", "(internal/reflectlite.Value).Type", "(internal/reflectlite.Value).IsNil", "internal/reflectlite.TypeOf", "(internal/reflectlite.Value).Elem", "(internal/reflectlite.Value).Set"], unfollowed := true, recurses := true, named := ["chimework/day.monthDays", "errors.errorType"], apart := false, laid := [("chimework/day.monthDays", laid_chimework_day_monthDays), ("errors.errorType", laid_errors_errorType)], narrowed := true }
def TimesTellsUptoSaid : Prop := timesTellsUptoRow.holds Tryz.pinned (OpenSpec.upto timesTellsSpec)

/-- 'chimelaw2.TimesHold', WHERE WHAT IT READS IS OF BULK AT MOST 1048576: true; the input reads as it did. -/
def timesHoldUptoRow : OpenClaim := { program := "ytoafdacgekmomaegreatdoor", sum := "ae37defa0b19cbb005e51d856bbaec94cd8937ce40788e86d03e40cb6cfbd5cb", func := "chimework/chimelaw2.TimesHold", spec := "timesHold", unfollowed := true, recurses := true, named := ["chimework/day.monthDays"], apart := false, laid := [("chimework/day.monthDays", laid_chimework_day_monthDays)], narrowed := true }
def TimesHoldUptoSaid : Prop := timesHoldUptoRow.holds Tryz.pinned (OpenSpec.upto timesHoldSpec)

/-- 'chimelaw4.TimesAhead', WHERE WHAT IT READS IS OF BULK AT MOST 1048576: true; the input reads as it did. -/
def timesAheadUptoRow : OpenClaim := { program := "ytoafdacgekmomaegreatdoor", sum := "ae37defa0b19cbb005e51d856bbaec94cd8937ce40788e86d03e40cb6cfbd5cb", func := "chimework/chimelaw4.TimesAhead", spec := "timesAhead", unfollowed := true, recurses := true, named := ["chimework/day.monthDays"], apart := false, laid := [("chimework/day.monthDays", laid_chimework_day_monthDays)], narrowed := true }
def TimesAheadUptoSaid : Prop := timesAheadUptoRow.holds Tryz.pinned (OpenSpec.upto timesAheadSpec)

/-- 'chimelaw2.AlarmTells', WHERE WHAT IT READS IS OF BULK AT MOST 1048576: true; the input reads as it did. -/
def alarmTellsUptoRow : OpenClaim := { program := "ytoafdacgekmomaegreatdoor", sum := "ae37defa0b19cbb005e51d856bbaec94cd8937ce40788e86d03e40cb6cfbd5cb", func := "chimework/chimelaw2.AlarmTells", spec := "alarmTells", inPlace := ["internal/reflectlite.ValueOf", "(internal/reflectlite.Value).Type", "(internal/reflectlite.Value).IsNil", "internal/reflectlite.TypeOf", "(internal/reflectlite.Value).Elem", "(internal/reflectlite.Value).Set"], unfollowed := true, recurses := true, named := ["chimework/day.monthDays", "errors.errorType"], apart := false, laid := [("chimework/day.monthDays", laid_chimework_day_monthDays), ("errors.errorType", laid_errors_errorType)], narrowed := true }
def AlarmTellsUptoSaid : Prop := alarmTellsUptoRow.holds Tryz.pinned (OpenSpec.upto alarmTellsSpec)

/-- 'chimelaw2.AlarmHolds', WHERE WHAT IT READS IS OF BULK AT MOST 1048576: true; the input reads as it did. -/
def alarmHoldsUptoRow : OpenClaim := { program := "ytoafdacgekmomaegreatdoor", sum := "ae37defa0b19cbb005e51d856bbaec94cd8937ce40788e86d03e40cb6cfbd5cb", func := "chimework/chimelaw2.AlarmHolds", spec := "alarmHolds", unfollowed := true, recurses := true, named := ["chimework/day.monthDays"], apart := false, laid := [("chimework/day.monthDays", laid_chimework_day_monthDays)], narrowed := true }
def AlarmHoldsUptoSaid : Prop := alarmHoldsUptoRow.holds Tryz.pinned (OpenSpec.upto alarmHoldsSpec)

end Rows
end Go.Proofs.YtoafdacgekmomaeGreatDoor
