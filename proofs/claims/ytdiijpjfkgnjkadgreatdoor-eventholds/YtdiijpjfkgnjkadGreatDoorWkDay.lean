/-
  What is proved here: what week.mondayOf, Week, Weeks and First answer, for every input (contracts over the translation); the table of months is asked as a premise.
-/
import Derived.Test.YtdiijpjfkgnjkadGreatDoorBA
import Derived.Test.YtdiijpjfkgnjkadGreatDoorWk
namespace Go.Proofs.YtdiijpjfkgnjkadGreatDoor
open Go.RowKit Cal

theorem mon_raw (n : Int) : n - ((n - 1) % 7 + 1) + 1 = mon n := by unfold mon; omega
theorem ret_pair {a b : Int} {v : Value} (h : a = b) : Ending.returned (.tuple #[.int .i64 a, v]) = .returned (.tuple #[.int .i64 b, v]) := by rw [h]
theorem of_jan (y : Int) (w : World) (hT : Tab w) (h1 : 1900 ≤ y) (h2 : y ≤ 2199) :
    Calls Tryz.prog 153 #[.agg #[.int .i64 y, .int .i64 1, .int .i64 1]] w fun e w' => e = .returned (.tuple #[.int .i64 (bef y + 1), .nilIface]) ∧ Below w.heap.size w w' := by
  have := of_yes y 1 1 w hT (ok_first h1 h2 (by omega) (by omega))
  rwa [num_first] at this
theorem of_four (y : Int) (w : World) (hT : Tab w) (h1 : 1900 ≤ y) (h2 : y ≤ 2199) :
    Calls Tryz.prog 153 #[.agg #[.int .i64 y, .int .i64 1, .int .i64 4]] w fun e w' => e = .returned (.tuple #[.int .i64 (bef y + 4), .nilIface]) ∧ Below w.heap.size w w' := by
  have := of_yes y 1 4 w hT (ok_four h1 h2)
  rwa [num_four] at this
end Go.Proofs.YtdiijpjfkgnjkadGreatDoor
