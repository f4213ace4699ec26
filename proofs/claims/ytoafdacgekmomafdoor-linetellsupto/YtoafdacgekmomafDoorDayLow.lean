/-
  What is proved here: what the smallest functions of package day answer (contracts over the translation), without the table of months.
-/
import Derived.Test.YtoafdacgekmomafDoorLow
namespace Go.Proofs.YtoafdacgekmomafDoor
open Go.RowKit Cal


theorem bef_raw (y : Int) : (y - 1900) * 365 + ((y - 1) / 4 - (y - 1) / 100 + (y - 1) / 400 - (1899 / 4 - 1899 / 100 + 1899 / 400)) = bef y := by unfold bef; omega
end Go.Proofs.YtoafdacgekmomafDoor
