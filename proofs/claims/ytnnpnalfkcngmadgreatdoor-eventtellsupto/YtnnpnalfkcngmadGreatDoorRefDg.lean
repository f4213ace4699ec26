/-
  What is proved here: what the document's Digits answers (contracts over the translation).
-/
import Derived.Test.YtnnpnalfkcngmadGreatDoorRefTwo
import Derived.Test.YtnnpnalfkcngmadGreatDoorBT
namespace Go.Proofs.YtnnpnalfkcngmadGreatDoor
open Go.RowKit Cal Txt

theorem dec_big {n : Nat} (h : ¬ n < 10) : Lib.decDigits n = Lib.decDigits (n / 10) ++ Lib.decDigits (n % 10) := by
  rw [Lib.decDigits_one (i := n % 10) (by omega), Lib.decDigits, dif_neg h]
theorem dec_app {u : Nat} (h : ¬ u < 10) : 45 :: Lib.decDigits (u / 10) ++ Lib.decDigits (u % 10) = 45 :: Lib.decDigits u := by
  rw [dec_big h]; rfl
end Go.Proofs.YtnnpnalfkcngmadGreatDoor
