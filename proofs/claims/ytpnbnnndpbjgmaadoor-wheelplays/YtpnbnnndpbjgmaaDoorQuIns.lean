/-
  What is proved here: what slices.Insert answers at a row of rings that a call owns and one ring that lies elsewhere (a contract over the translation).
-/
import Derived.Test.YtpnbnnndpbjgmaaDoorQuDel
import Derived.Lib.Overlaps
import Derived.Laws.Externs
import Derived.Laws.NewBlocks
namespace Go.Proofs.YtpnbnnndpbjgmaaDoor.Qu
open Go.RowKit

theorem cut_flat {M : List Rq} {L : List Value} {n p : Nat} (ht : L.take (n * 5) = M.flatMap encQ) (hp : p ≤ n) : L.take (p * 5) = (M.take p).flatMap encQ := by
  rw [← flatQ_take, ← ht, List.take_take, Nat.min_eq_left (by omega)]
/-- What is put in, at a place and in any way. -/
def InsA (M : List Rq) (r : Rq) (p n0 : Nat) (v : Value) (w : World) (e : Ending) (w' : World) : Prop :=
  ∃ v', e = .returned v' ∧ Ow w' n0 v' (ins M p r) ∧ (v'.ownBlock = v.ownBlock ∨ v'.ownBlock = some w.heap.size) ∧ w.grownBy w' v.ownBlock
end Go.Proofs.YtpnbnnndpbjgmaaDoor.Qu
