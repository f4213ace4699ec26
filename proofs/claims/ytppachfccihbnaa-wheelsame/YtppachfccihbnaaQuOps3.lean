/-
  What is proved here: what package queue's Drop and Push answer, and what they keep (contracts over the translation).
-/
import Derived.Test.YtppachfccihbnaaQuOps2
namespace Go.Proofs.Ytppachfccihbnaa.Qu
open Go.RowKit

/-- What a change of the rings leaves. -/
def PsA (b : Nat) (v : Value) (w : World) (f : Int) (N : List Rq) (e : Ending) (w' : World) : Prop := e = .returned (fault f) ∧ ∃ v' M', Qs w' b v' M' ∧ Kp b v v' w w' ∧ M' = N
end Go.Proofs.Ytppachfccihbnaa.Qu
