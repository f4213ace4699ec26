/-
  What is proved here: small words on what package queue's calls keep of rings that lie in blocks of their own.
-/
import Derived.Test.YtppachfccihbnaaQuPop
namespace Go.Proofs.Ytppachfccihbnaa.Qu
open Go.RowKit

theorem Kp.box {b k : Nat} {v v' : Value} {w w' : World} {x : Rq} (h : Kp b v v' w w') (q : QBx w k x) (h1 : k ≠ b) (h2 : v.ownBlock ≠ some k) : QBx w' k x := by
  have e := h.block k q.lt h1 (fun e => h2 e.symm)
  exact ⟨(World.cell?_of_block (a := ⟨k, 0, none⟩) e).trans q.1, (World.cell?_of_block (a := ⟨k, 1, none⟩) e).trans q.2.1, (World.cell?_of_block (a := ⟨k, 2, none⟩) e).trans q.2.2.1, (World.cell?_of_block (a := ⟨k, 3, none⟩) e).trans q.2.2.2.1, (World.cell?_of_block (a := ⟨k, 4, none⟩) e).trans q.2.2.2.2⟩
theorem Kp.lies {b k : Nat} {v v' : Value} {w w' : World} {L : List Value} (h : Kp b v v' w w') (q : Lies w k L) (h1 : k ≠ b) (h2 : v.ownBlock ≠ some k) : Lies w' k L := (h.block k q.lt h1 (fun e => h2 e.symm)).trans q
theorem Kp.apart {b k : Nat} {v v' : Value} {w w' : World} (h : Kp b v v' w w') (hk : k < w.heap.size) (h2 : v.ownBlock ≠ some k) : v'.ownBlock ≠ some k := fun e => by
  rcases h.own k e with q | q
  · exact h2 q
  · omega
end Go.Proofs.Ytppachfccihbnaa.Qu
