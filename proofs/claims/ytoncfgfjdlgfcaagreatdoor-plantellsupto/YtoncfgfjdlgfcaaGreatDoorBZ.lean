/-
  What is proved here: plain facts on an event that is once.
  What is proved here: plain facts on Times in a zone without shifts.
-/
import Derived.Test.YtoncfgfjdlgfcaaGreatDoorBV
import Derived.Test.YtoncfgfjdlgfcaaGreatDoorDA
namespace Go.Proofs.YtoncfgfjdlgfcaaGreatDoor
open Go.RowKit Cal Txt
end Go.Proofs.YtoncfgfjdlgfcaaGreatDoor
namespace Go.Proofs.YtoncfgfjdlgfcaaGreatDoor
open Go.RowKit Cal Txt
def Dra (w w':World):Prop:=∃ q,w'=w.drewN q
theorem Dra.refl (w:World):Dra w w:=⟨0,rfl⟩
theorem Dra.step {w w':World} (h:Dra w w') (n:Nat):Dra w (w'.drewN n):=by
 obtain ⟨q,rfl⟩:=h
 exact ⟨q + n,World.drewN_drewN _ _ _⟩
theorem Dra.cell {w w':World} (h:Dra w w') (a:Addr):w'.cell? a=w.cell? a:=by
 obtain ⟨q,rfl⟩:=h
 rfl
theorem Dra.size {w w':World} (h:Dra w w'):w'.heap.size=w.heap.size:=by
 obtain ⟨q,rfl⟩:=h
 rfl
theorem Dra.below {w w':World} (h:Dra w w') (n0:Nat):Below n0 w w':=by
 obtain ⟨q,rfl⟩:=h
 exact blw_drewN _ _ _
theorem tb_good {a:Int} {l:List (Int × Int)} {e:Evt} {fr t:Int} (h:tbF a l e fr t=0):(evF e=0∧Zo.zf a l=0)∧strB fr t=true∧tbL a l e fr t=tmL a l e fr t∧(tmL a l e fr t).length≤200:=by
 have h':=h
 unfold tbF at h
 split at h
 ·rename_i q;exact absurd h q
 ·rename_i q
  split at h
  ·cases h
  ·rename_i q2
   split at h
   ·cases h
   ·rename_i q3
    exact ⟨ez_good (Decidable.byContradiction q),by simpa using q2,if_pos h',by omega⟩
end Go.Proofs.YtoncfgfjdlgfcaaGreatDoor
