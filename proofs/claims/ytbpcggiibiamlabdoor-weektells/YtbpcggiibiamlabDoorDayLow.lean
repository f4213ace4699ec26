/-
  What is proved here: what the smallest functions of package day answer (contracts over the translation), without the table of months.
-/
import Derived.Test.YtbpcggiibiamlabDoorProg
import Derived.Test.YtbpcggiibiamlabDoorCal
import Derived.WalkKit
import Derived.WalkSpells
import Derived.RowKit3
import Derived.Deep.QuietTactic
import Derived.BigQuiet
import Derived.WalkSmall
namespace Go.Proofs.YtbpcggiibiamlabDoor
open Go.RowKit Cal

theorem ret_bool {a b : Bool} (h : a = b) : Ending.returned (.bool a) = .returned (.bool b) := by rw [h]
theorem ret_int {k : IntKind} {a b : Int} (h : a = b) : Ending.returned (.int k a) = .returned (.int k b) := by rw [h]

theorem leapsTo_any (y : Int) (w : World) (h0 : 0 ≤ y) (h1 : y ≤ 100000) :
    Calls Tryd.prog 36 #[.int .i64 y] w fun e w' => e = .returned (.int .i64 (y / 4 - y / 100 + y / 400)) ∧ w' = w := by
  go_enter Tryd.func36, Tryd.ntmps36
  go_wp2
  go_ret
  exact ⟨rfl, rfl⟩
theorem bef_raw (y : Int) : (y - 1900) * 365 + ((y - 1) / 4 - (y - 1) / 100 + (y - 1) / 400 - (1899 / 4 - 1899 / 100 + 1899 / 400)) = bef y := by unfold bef; omega
theorem beforeYear_any (y : Int) (w : World) (h0 : 1 ≤ y) (h1 : y ≤ 10000) :
    Calls Tryd.prog 30 #[.int .i64 y] w fun e w' => e = .returned (.int .i64 (bef y)) ∧ w' = w := by
  go_enter Tryd.func30, Tryd.ntmps30
  go_wp2_with (go_at_call 36; refine (leapsTo_any _ _ (by omega) (by omega)).mono ?_; rintro e w' ⟨rfl, rfl⟩)
  go_ret
  exact ⟨ret_int (bef_raw y), rfl⟩
theorem last_any (w : World) :
    Calls Tryd.prog 20 #[] w fun e w' => e = .returned (.int .i64 109573) ∧ w' = w := by
  go_enter Tryd.func20, Tryd.ntmps20
  go_wp2_with (go_at_call 30; refine (beforeYear_any _ _ (by omega) (by omega)).mono ?_; rintro e w' ⟨rfl, rfl⟩)
  go_ret
  exact ⟨ret_int bef_last, rfl⟩
/-- What is told of a number that is none. -/
abbrev errRange : Value := .iface 52 (.int .i64 1)
/-- The error of a fault. -/
def fault (k : Int) : Value := if k = 0 then .nilIface else .iface 52 (.int .i64 k)
end Go.Proofs.YtbpcggiibiamlabDoor
