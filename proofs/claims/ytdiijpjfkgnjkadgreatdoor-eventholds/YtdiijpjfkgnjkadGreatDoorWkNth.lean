/-
  What is proved here: what week.isNth, Nth and Which answer, for every input (contracts over the translation); the table of months is asked as a premise.
-/
import Derived.Test.YtdiijpjfkgnjkadGreatDoorWkDay
namespace Go.Proofs.YtdiijpjfkgnjkadGreatDoor
open Go.RowKit Cal

/-- May a weekday be asked for so? -/
def isN (N k : Int) : Prop := 1 ≤ k ∧ k ≤ 7 ∧ ¬ N = 0 ∧ -5 ≤ N ∧ N ≤ 5
theorem weekday_wd (n : Int) (w : World) (h1 : 1 ≤ n) (h2 : n ≤ 109573) :
    Calls Tryz.prog 152 #[.int .i64 n] w fun e w' => e = .returned (.tuple #[.int .i64 (wd n), .nilIface]) ∧ w' = w := weekday_yes n w h1 h2
end Go.Proofs.YtdiijpjfkgnjkadGreatDoor
