/-
  What is proved here: what a card of this seat asks of the program besides its walk: what the laid table of months gives a walk, and a world that meets it.
-/
import Derived.Test.YtikpfeaidgeebaaDoorLayG
import Derived.Test.YtikpfeaidgeebaaDoorDayOf
import Derived.WalkKit
import Derived.ProofKit
import Derived.OpenShut
import Derived.Deep.DeepHandedRow
import Derived.Lib.LaidTab
import Derived.Lib.SmallJoins
namespace Go.Proofs.YtikpfeaidgeebaaDoor
open Go.ChangeShapes Go.WideShapes Go.ChangeAt Go.RowKit Cal

theorem gTab : Tryd.prog.globalNamed "chimework/day.monthDays" = some 0 := by kernel_rfl
theorem gTabType : (Tryd.prog.globals[0]?).map (·.type) = some 62 := by kernel_rfl
theorem cellsTab : Tryd.prog.cellsOf 62 = 12 := by kernel_rfl
theorem cellsDate : Tryd.prog.cellsOf 34 = 3 := by kernel_rfl
theorem tab_of {W : World} (h : Lib.TabIs Tryd.prog W "chimework/day.monthDays" .i64 [31, 28, 31, 30, 31, 30, 31, 31, 30, 31, 30, 31]) : Tab W := by
  intro i hi
  have hc := h.cell gTab i (by simpa using hi)
  rw [hc]
  have hcs : i = 0 ∨ i = 1 ∨ i = 2 ∨ i = 3 ∨ i = 4 ∨ i = 5 ∨ i = 6 ∨ i = 7 ∨ i = 8 ∨ i = 9 ∨ i = 10 ∨ i = 11 := by omega
  rcases hcs with rfl | rfl | rfl | rfl | rfl | rfl | rfl | rfl | rfl | rfl | rfl | rfl <;> rfl
end Go.Proofs.YtikpfeaidgeebaaDoor
