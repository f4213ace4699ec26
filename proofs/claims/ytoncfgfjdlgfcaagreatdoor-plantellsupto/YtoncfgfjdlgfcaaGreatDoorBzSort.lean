/-
  What is proved here: what slices.SortFunc answers at stretches, by their begin (a contract over the translation).
-/
import Derived.Test.YtoncfgfjdlgfcaaGreatDoorBZO
import Derived.Test.YtoncfgfjdlgfcaaGreatDoorShelfB
import Derived.Shelf.SlSortCmp.WholeK
import Derived.Shelf.SlSortCmp.NoneTotal
namespace Go.Proofs.YtoncfgfjdlgfcaaGreatDoor.Bz
open Go.RowKit
theorem cmB_lt (x y:Bz):ltOf cmB x y=decide (x.1<y.1):=by
 unfold ltOf cmB cmi
 rw [Bool.eq_iff_iff]
 simp only [decide_eq_true_iff]
 split <;> (try split) <;> omega
theorem cmB_swo:Sort.SWO (ltOf cmB) where
 irrefl x:=by rw [cmB_lt];simp
 trans x y z h1 h2:=by rw [cmB_lt] at *;simp at *;omega
 ntrans x y z h1 h2:=by rw [cmB_lt] at *;simp at *;omega
theorem srtH:SrtH:=fun l n0 v w h hn hl=>by
 rcases (own_openK encB 2 encB_len (by decide) h).2 with ⟨rfl,rfl⟩ | ⟨g,cap,rfl,hg,hgl,_,hh⟩
 ·refine (AnyF.slices_SortFunc_none Tryz.sortBz none 0 (.func (.func 146) #[] #[]) w).mono ?_
  rintro e w' ⟨rfl,rfl⟩
  exact ⟨rfl,[],List.Perm.refl _,by simp,World.ownsRow_nil _ _ _ _,Below.refl _ _⟩
 ·have eg:∀ args w,(callFunc 146 args).run Tryz.prog w=.ok (.enter 146 args) w:=enters_of Tryz.func146 (by kernel_rfl) rfl
  have hcon:=AnyQ.slices_SortFunc Tryz.sortBz 2 Tryz.isAgg99 Tryz.sizeOf99 encB encB_len encB_one cmB cmB_swo 146 #[] g 0 cap l.toArray w eg (fun _ _ _ _ x y=>cmB_any x y _) hh hgl (by simp;omega)
  refine hcon.mono ?_
  rintro e w' ⟨rfl,d',n,os,hp,hs,rfl⟩
  have hsz:d'.size=l.toArray.size:=hp.1
  have hperm:l.Perm d'.toList:=by
   have:=hp.2.2
   rw [← hsz,Array.extract_size,hsz,Array.extract_size] at this
   simpa using this.symm
  refine ⟨rfl,d'.toList,hperm,?_,?_,?_⟩
  ·rw [List.pairwise_iff_getElem]
   intro i j hi hj hij
   have:=hs i j (Nat.zero_le _) hij (by rw [← hsz];simpa using hj)
   rw [cmB_lt,getElem!_pos _ i (by simpa using hi),getElem!_pos _ j (by simpa using hj)] at this
   simpa using this
  ·have:=ow_below (own_putK encB 2 encB_len (by decide) (q:=n) h d' (by simpa using hsz)) (belowG os (Nat.le_refl _))
   rw [hperm.length_eq] at this ⊢
   exact this
  ·exact ((show Below n0 w (Sort.ahead w n) from ⟨rfl,rfl,rfl,Nat.le_refl _,fun _ _=>rfl⟩).trans (belowK hg)).trans (belowG os (by simpa [Sort.putRowK,Sort.putRow,Sort.mapBlock] using hn))
end Go.Proofs.YtoncfgfjdlgfcaaGreatDoor.Bz
