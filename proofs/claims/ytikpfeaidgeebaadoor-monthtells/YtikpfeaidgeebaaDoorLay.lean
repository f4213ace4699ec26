/-
  What is proved here: what the listed table of months gives a walk, wherever it stands on a row's list.
-/
import Derived.Test.YtikpfeaidgeebaaDoorBase
import Derived.ChangeMaps5
namespace Go.Proofs.YtikpfeaidgeebaaDoor
open Go.ChangeShapes Go.WideShapes Go.ChangeAt Go.RowKit Cal

theorem tab_of_reads {W : World} (h : Reads Tryd.prog W "chimework/day.monthDays" Rows.laid_chimework_day_monthDays) : Tab W :=
  tab_of (tabIs_of_reads gTab gTabType Tryd.underlying62 Tryd.underlying3 cellsInt cellsTab h)
end Go.Proofs.YtikpfeaidgeebaaDoor
