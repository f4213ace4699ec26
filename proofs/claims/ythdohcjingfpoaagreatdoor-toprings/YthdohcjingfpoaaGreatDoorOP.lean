/-
  What is proved here: what a zone that is handed in gives a walk.
  What is proved here: a list of numbers that is handed in, as a law's walk asks it.
-/
import Derived.Test.YthdohcjingfpoaaGreatDoorRE
import Derived.ChangeMaps5
import Derived.Carry
import Derived.LaidLaws
import Derived.ProofKit
import Derived.OpenShut
import Derived.Test.YthdohcjingfpoaaGreatDoorBM
import Derived.Test.YthdohcjingfpoaaGreatDoorRM
import Derived.ChangeSlices
namespace Go.Proofs.YthdohcjingfpoaaGreatDoor
namespace Zo
open Go.ChangeShapes Go.WideShapes Go.ChangeAt Go.RowKit Cal Txt
theorem array2 {a:Array Value} (h:a.size=2):∃ a0 a1,a=#[a0,a1]:=by
 obtain ⟨l⟩:=a
 match l,h with
 | [a0,a1],_=>exact ⟨_,_,rfl⟩
theorem add_none {a:Addr} (h:a.spot=none) (i:Nat):a.add i=⟨a.block,a.off + i,none⟩:=by
 obtain ⟨b,o,s⟩:=a
 dsimp only at h
 subst h
 unfold Addr.add
 split <;> simp_all
theorem spot_none {W:World} {a:Addr} {v:Value} (h:W.cell? (a.add 0)=some v):a.spot=none:=by
 have e:a.add 0=a:=by
  obtain ⟨b,o,s⟩:=a
  unfold Addr.add
  simp
 rw [e] at h
 unfold World.cell? at h
 split at h
 ·rcases hs:a.spot with _ | s
  ·rfl
  ·rw [hs] at h
   simp at h
 ·cases h
theorem cellsShift:Tryz.prog.cellsOf 79=2:=by kernel_rfl
theorem cellsZone:Tryz.prog.cellsOf 24=2:=by kernel_rfl
section
variable {H:Type} {enc:TypeId × Value→H} {W:World}
set_option maxRecDepth 100000 in
theorem shift_of {n:Nat} {cs:List Value} {x:DataW H × List MemPlace} (h:DataW.trod enc Tryz.prog W 0 (fun _=>true) true n 79 cs=some x):∃ y:Int × Int,cs=[.int .i64 y.1,.int .i64 y.2]:=by
 obtain ⟨xs,m,rfl,_,hl,hxl,hall⟩:=DataW.trod_struct Tryz.underlying79 h
 rw [cellsShift] at hl
 obtain ⟨c0,c1,rfl⟩:∃ c0 c1,cs=[c0,c1]:=by
  match cs,hl with
  | [a,b],_=>exact ⟨a,b,rfl⟩
 have h0:=hall 0 _ rfl
 have h1:=hall 1 _ rfl
 have hxl':xs.length=2:=hxl
 rw [List.getElem?_eq_getElem (by omega)] at h0 h1
 obtain ⟨a,e0,_⟩:=DataW.trod_int Tryz.underlying3 h0
 obtain ⟨b,e1,_⟩:=DataW.trod_int Tryz.underlying3 h1
 refine ⟨(a,b),?_⟩
 have e0':[c0]=[Value.int .i64 a]:=e0
 have e1':[c1]=[Value.int .i64 b]:=e1
 simp at e0' e1'
 rw [e0',e1']
set_option maxRecDepth 100000 in
theorem shifts_of {n:Nat} {c:Value} {x:DataW H × List MemPlace} (h:DataW.trod enc Tryz.prog W 0 (fun _=>true) true n 22 [c]=some x):∃ l,Nths W c l:=by
 rcases DataW.trod_slice Tryz.underlying22 h with ⟨hc,_⟩ | ⟨a,len,cap,elems,rest,m,_,hc,_,_,_,_,hlen,hel,_⟩
 ·obtain rfl:c=.slice none 0 0:=by simpa using hc
  exact ⟨[],none,0,rfl,Or.inl rfl⟩
 ·obtain rfl:c=.slice (some a) len cap:=by simpa using hc
  have each:∀ i,i<len→∃ y:Int × Int,W.cell? (a.add (i * 2))=some (.int .i64 y.1)∧W.cell? ((a.add (i * 2)).add 1)=some (.int .i64 y.2):=fun i hi=>by
   have:=hel i hi
   rw [cellsShift,List.getElem?_eq_getElem (by omega),Option.bind_eq_some_iff] at this
   obtain ⟨cs,hcs,ht⟩:=this
   obtain ⟨y,rfl⟩:=shift_of ht
   have hc:=(World.cells?_some hcs).2.2
   refine ⟨y,?_,?_⟩
   ·have:=hc 0 (by decide)
    have e:(a.add (i * 2)).add 0=a.add (i * 2):=by
     obtain ⟨b,o,s⟩:=a
     unfold Addr.add
     cases s <;> simp
    rw [e] at this
    simpa using this
   ·simpa using hc 1 (by decide)
  have choose:∃ l:List (Int × Int),l.length=len∧∀ i,i<len→W.cell? (a.add (i * 2))=some (.int .i64 (l.getD i (0,0)).1)∧W.cell? ((a.add (i * 2)).add 1)=some (.int .i64 (l.getD i (0,0)).2):=by
   have:∀ k,k≤len→∃ l:List (Int × Int),l.length=k∧∀ i,i<k→W.cell? (a.add (i * 2))=some (.int .i64 (l.getD i (0,0)).1)∧W.cell? ((a.add (i * 2)).add 1)=some (.int .i64 (l.getD i (0,0)).2):=by
    intro k
    induction k with
    | zero=>intro _;exact ⟨[],rfl,fun i hi=>by omega⟩
    | succ k ih=>
      intro hk
      obtain ⟨l,hl,hc⟩:=ih (by omega)
      obtain ⟨y,y1,y2⟩:=each k (by omega)
      refine ⟨l++[y],by simp [hl],fun i hi=>?_⟩
      rcases Nat.lt_or_ge i k with g | g
      ·have:=hc i g
       rw [List.getD_eq_getElem?_getD,List.getElem?_append_left (by omega),← List.getD_eq_getElem?_getD]
       exact this
      ·obtain rfl:i=k:=by omega
       rw [List.getD_eq_getElem?_getD,List.getElem?_append_right (by omega),hl,Nat.sub_self]
       exact ⟨y1,y2⟩
   exact this len (Nat.le_refl _)
  obtain ⟨l,hl,hcell⟩:=choose
  refine ⟨l,some a,cap,by rw [hl],?_⟩
  rcases Nat.eq_zero_or_pos len with h0 | h0
  ·exact Or.inl (List.eq_nil_of_length_eq_zero (by omega))
  ·have hs:=spot_none (by have:=(hcell 0 h0).1;rwa [Nat.zero_mul] at this)
   refine Or.inr ⟨a.block,a.off,by obtain ⟨b,o,s⟩:=a;dsimp only at hs;subst hs;rfl,fun i hi=>?_⟩
   have:=hcell i (by omega)
   rw [add_none hs,add_none (a:=⟨a.block,a.off + i * 2,none⟩) rfl] at this
   exact this
set_option maxRecDepth 100000 in
theorem zone_open {r0:Reach} {b0:Nat} {v:Value} {d:DataW H} {p:List MemPlace} (hv:Value.okWide Tryz.prog W r0 b0 24 v) (h:DataW.Trod enc Tryz.prog W 0 (fun _=>true) true 24 v d p):∃ a l,ZoneIn W v a l:=by
 obtain ⟨cs,rfl,hsz⟩:=okWide_struct Tryz.underlying24 hv
 obtain ⟨c0,c1,rfl⟩:=array2 (hsz.trans cellsZone)
 obtain ⟨fuel,hf⟩:=h
 obtain ⟨xs,m,rfl,_,_,hxl,hall⟩:=DataW.trod_struct Tryz.underlying24 hf
 have hxl':xs.length=2:=hxl
 have h0:=hall 0 _ rfl
 have h1:=hall 1 _ rfl
 rw [List.getElem?_eq_getElem (by omega)] at h0 h1
 obtain ⟨a,e0,_⟩:=DataW.trod_int Tryz.underlying3 h0
 have e0':[c0]=[Value.int .i64 a]:=e0
 simp at e0'
 subst e0'
 obtain ⟨l,hl⟩:=shifts_of (c:=c1) h1
 exact ⟨a,l,c1,rfl,hl⟩
end
end Zo
end Go.Proofs.YthdohcjingfpoaaGreatDoor
namespace Go.Proofs.YthdohcjingfpoaaGreatDoor.Mo
open Go.ChangeShapes Go.WideShapes Go.ChangeAt Go.RowKit Cal
theorem madd_none {a:Addr} (h:a.spot=none) (i:Nat):a.add i=⟨a.block,a.off + i,none⟩:=by
 obtain ⟨b,o,s⟩:=a
 dsimp only at h
 subst h
 unfold Addr.add
 split <;> simp_all
theorem mspot_none {W:World} {a:Addr} {v:Value} (h:W.cell? (a.add 0)=some v):a.spot=none:=by
 have e:a.add 0=a:=by
  obtain ⟨b,o,s⟩:=a
  unfold Addr.add
  simp
 rw [e] at h
 unfold World.cell? at h
 split at h
 ·rcases hs:a.spot with _ | s
  ·rfl
  ·rw [hs] at h
   simp at h
 ·cases h
section
variable {H:Type} {enc:TypeId × Value→H} {W:World}
set_option maxRecDepth 100000 in
theorem mints_open {r0:Reach} {b0:Nat} {v:Value} {d:DataW H} {p:List MemPlace} (hv:Value.okWide Tryz.prog W r0 b0 34 v) (h:DataW.Trod enc Tryz.prog W 0 (fun _=>true) true 34 v d p):∃ l,Ints W v l∧l.length≤9223372036854775807:=by
 obtain ⟨a0,len0,cap0,rfl⟩:=okWide_slice Tryz.underlying34 hv
 obtain ⟨fuel,hf⟩:=h
 rcases open_ints Tryz.underlying34 Tryz.underlying3 cellsInt hf with ⟨hc,_⟩ | ⟨a,len,cap,zs,hc,_,hle,hm,hz,_,hcell,_⟩
 ·have hc':[Value.slice a0 len0 cap0]=[.slice none 0 0]:=hc
  simp only [List.cons.injEq,Value.slice.injEq,and_true] at hc'
  obtain ⟨rfl,rfl,rfl⟩:=hc'
  exact ⟨[],⟨none,0,rfl,Or.inl rfl⟩,by simp⟩
 ·have hc':[Value.slice a0 len0 cap0]=[.slice (some a) len cap]:=hc
  simp only [List.cons.injEq,Value.slice.injEq,and_true] at hc'
  obtain ⟨rfl,rfl,rfl⟩:=hc'
  rw [if_pos rfl] at hz
  have hl:(zs.take len0).length=len0:=by rw [List.length_take];omega
  refine ⟨zs.take len0,⟨some a,cap0,by rw [hl],?_⟩,by rw [hl];unfold maxLen at hm;omega⟩
  rcases Nat.eq_zero_or_pos len0 with h0 | h0
  ·exact Or.inl (List.eq_nil_of_length_eq_zero (by omega))
  ·have hs:=mspot_none (hcell 0 (by omega))
   refine Or.inr ⟨a.block,a.off,by obtain ⟨b,o,s⟩:=a;dsimp only at hs;subst hs;rfl,fun i hi=>?_⟩
   rw [hl] at hi
   have:=hcell i (by omega)
   rw [madd_none hs] at this
   rw [this,List.getD_eq_getElem?_getD,List.getD_eq_getElem?_getD,List.getElem?_take,if_pos hi]
end
end Go.Proofs.YthdohcjingfpoaaGreatDoor.Mo
