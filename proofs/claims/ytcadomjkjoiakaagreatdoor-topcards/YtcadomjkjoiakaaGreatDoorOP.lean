/-
  Texts of our own that serve the card of this claim, joined into one.
-/
import Derived.Test.YtcadomjkjoiakaaGreatDoorRE
import Derived.ChangeMaps5
import Derived.Carry
import Derived.LaidLaws
import Derived.ProofKit
import Derived.OpenShut
import Derived.Test.YtcadomjkjoiakaaGreatDoorQE
import Derived.Test.YtcadomjkjoiakaaGreatDoorQU
import Derived.Lib.LaidU8
import Derived.Test.YtcadomjkjoiakaaGreatDoorRM
import Derived.Test.YtcadomjkjoiakaaGreatDoorRL
import Derived.Test.YtcadomjkjoiakaaGreatDoorCbVal
namespace Go.Proofs.YtcadomjkjoiakaaGreatDoor
namespace Zo
open Go.ChangeShapes Go.WideShapes Go.ChangeAt Go.RowKit Cal Txt
theorem array2 {a:Array Value} (h:a.size=2):∃ a0 a1,a=#[a0,a1]:=by
 obtain ⟨l⟩:=a
 match l,h with
 | [a0,a1],_=>exact ⟨_,_,rfl⟩
theorem add_none {a:Addr} (h:a.spot=none) (i:Nat):a.add i=⟨a.block,a.off + i,none⟩:=by
 obtain ⟨b,o,s⟩:=a
 dsimp only at h
 subst h
 unfold Addr.add
 split <;> simp_all
theorem spot_none {W:World} {a:Addr} {v:Value} (h:W.cell? (a.add 0)=some v):a.spot=none:=by
 have e:a.add 0=a:=by
  obtain ⟨b,o,s⟩:=a
  unfold Addr.add
  simp
 rw [e] at h
 unfold World.cell? at h
 split at h
 ·rcases hs:a.spot with _ | s
  ·rfl
  ·rw [hs] at h
   simp at h
 ·cases h
theorem cellsShift:Tryz.prog.cellsOf 163=2:=by kernel_rfl
theorem cellsZone:Tryz.prog.cellsOf 24=2:=by kernel_rfl
section
variable {H:Type} {enc:TypeId × Value→H} {W:World}
set_option maxRecDepth 100000 in
theorem shift_of {n:Nat} {cs:List Value} {x:DataW H × List MemPlace} (h:DataW.trod enc Tryz.prog W 0 (fun _=>true) true n 163 cs=some x):∃ y:Int × Int,cs=[.int .i64 y.1,.int .i64 y.2]:=by
 obtain ⟨xs,m,rfl,_,hl,hxl,hall⟩:=DataW.trod_struct Tryz.underlying163 h
 rw [cellsShift] at hl
 obtain ⟨c0,c1,rfl⟩:∃ c0 c1,cs=[c0,c1]:=by
  match cs,hl with
  | [a,b],_=>exact ⟨a,b,rfl⟩
 have h0:=hall 0 _ rfl
 have h1:=hall 1 _ rfl
 have hxl':xs.length=2:=hxl
 rw [List.getElem?_eq_getElem (by omega)] at h0 h1
 obtain ⟨a,e0,_⟩:=DataW.trod_int Tryz.underlying3 h0
 obtain ⟨b,e1,_⟩:=DataW.trod_int Tryz.underlying3 h1
 refine ⟨(a,b),?_⟩
 have e0':[c0]=[Value.int .i64 a]:=e0
 have e1':[c1]=[Value.int .i64 b]:=e1
 simp at e0' e1'
 rw [e0',e1']
set_option maxRecDepth 100000 in
theorem shifts_of {n:Nat} {c:Value} {x:DataW H × List MemPlace} (h:DataW.trod enc Tryz.prog W 0 (fun _=>true) true n 22 [c]=some x):∃ l,Nths W c l:=by
 rcases DataW.trod_slice Tryz.underlying22 h with ⟨hc,_⟩ | ⟨a,len,cap,elems,rest,m,_,hc,_,_,_,_,hlen,hel,_⟩
 ·obtain rfl:c=.slice none 0 0:=by simpa using hc
  exact ⟨[],none,0,rfl,Or.inl rfl⟩
 ·obtain rfl:c=.slice (some a) len cap:=by simpa using hc
  have each:∀ i,i<len→∃ y:Int × Int,W.cell? (a.add (i * 2))=some (.int .i64 y.1)∧W.cell? ((a.add (i * 2)).add 1)=some (.int .i64 y.2):=fun i hi=>by
   have:=hel i hi
   rw [cellsShift,List.getElem?_eq_getElem (by omega),Option.bind_eq_some_iff] at this
   obtain ⟨cs,hcs,ht⟩:=this
   obtain ⟨y,rfl⟩:=shift_of ht
   have hc:=(World.cells?_some hcs).2.2
   refine ⟨y,?_,?_⟩
   ·have:=hc 0 (by decide)
    have e:(a.add (i * 2)).add 0=a.add (i * 2):=by
     obtain ⟨b,o,s⟩:=a
     unfold Addr.add
     cases s <;> simp
    rw [e] at this
    simpa using this
   ·simpa using hc 1 (by decide)
  have choose:∃ l:List (Int × Int),l.length=len∧∀ i,i<len→W.cell? (a.add (i * 2))=some (.int .i64 (l.getD i (0,0)).1)∧W.cell? ((a.add (i * 2)).add 1)=some (.int .i64 (l.getD i (0,0)).2):=by
   have:∀ k,k≤len→∃ l:List (Int × Int),l.length=k∧∀ i,i<k→W.cell? (a.add (i * 2))=some (.int .i64 (l.getD i (0,0)).1)∧W.cell? ((a.add (i * 2)).add 1)=some (.int .i64 (l.getD i (0,0)).2):=by
    intro k
    induction k with
    | zero=>intro _;exact ⟨[],rfl,fun i hi=>by omega⟩
    | succ k ih=>
      intro hk
      obtain ⟨l,hl,hc⟩:=ih (by omega)
      obtain ⟨y,y1,y2⟩:=each k (by omega)
      refine ⟨l++[y],by simp [hl],fun i hi=>?_⟩
      rcases Nat.lt_or_ge i k with g | g
      ·have:=hc i g
       rw [List.getD_eq_getElem?_getD,List.getElem?_append_left (by omega),← List.getD_eq_getElem?_getD]
       exact this
      ·obtain rfl:i=k:=by omega
       rw [List.getD_eq_getElem?_getD,List.getElem?_append_right (by omega),hl,Nat.sub_self]
       exact ⟨y1,y2⟩
   exact this len (Nat.le_refl _)
  obtain ⟨l,hl,hcell⟩:=choose
  refine ⟨l,some a,cap,by rw [hl],?_⟩
  rcases Nat.eq_zero_or_pos len with h0 | h0
  ·exact Or.inl (List.eq_nil_of_length_eq_zero (by omega))
  ·have hs:=spot_none (by have:=(hcell 0 h0).1;rwa [Nat.zero_mul] at this)
   refine Or.inr ⟨a.block,a.off,by obtain ⟨b,o,s⟩:=a;dsimp only at hs;subst hs;rfl,fun i hi=>?_⟩
   have:=hcell i (by omega)
   rw [add_none hs,add_none (a:=⟨a.block,a.off + i * 2,none⟩) rfl] at this
   exact this
set_option maxRecDepth 100000 in
theorem zone_open {r0:Reach} {b0:Nat} {v:Value} {d:DataW H} {p:List MemPlace} (hv:Value.okWide Tryz.prog W r0 b0 24 v) (h:DataW.Trod enc Tryz.prog W 0 (fun _=>true) true 24 v d p):∃ a l,ZoneIn W v a l:=by
 obtain ⟨cs,rfl,hsz⟩:=okWide_struct Tryz.underlying24 hv
 obtain ⟨c0,c1,rfl⟩:=array2 (hsz.trans cellsZone)
 obtain ⟨fuel,hf⟩:=h
 obtain ⟨xs,m,rfl,_,_,hxl,hall⟩:=DataW.trod_struct Tryz.underlying24 hf
 have hxl':xs.length=2:=hxl
 have h0:=hall 0 _ rfl
 have h1:=hall 1 _ rfl
 rw [List.getElem?_eq_getElem (by omega)] at h0 h1
 obtain ⟨a,e0,_⟩:=DataW.trod_int Tryz.underlying3 h0
 have e0':[c0]=[Value.int .i64 a]:=e0
 simp at e0'
 subst e0'
 obtain ⟨l,hl⟩:=shifts_of (c:=c1) h1
 exact ⟨a,l,c1,rfl,hl⟩
end
end Zo
end Go.Proofs.YtcadomjkjoiakaaGreatDoor
namespace Go.Proofs.YtcadomjkjoiakaaGreatDoor
open Go.ChangeShapes Go.WideShapes Go.ChangeAt Go.RowKit Cal Txt
theorem gPow : Tryz.prog.globalNamed "internal/strconv.uint64pow10" = some 8 := by kernel_rfl
theorem gPowType:(Tryz.prog.globals[8]?).map (·.type)=some 279:=by kernel_rfl
theorem cellsPow:Tryz.prog.cellsOf 279=20:=by kernel_rfl
theorem cellsU64:Tryz.prog.cellsOf 185=1:=by kernel_rfl
theorem cellsStr:Tryz.prog.cellsOf 9=1:=by kernel_rfl
theorem pow_of {W : World} (h : Reads Tryz.prog W "internal/strconv.uint64pow10" Rows.laid_internal_strconv_uint64pow10) : Pow W :=
 tabIs_of_reads gPow gPowType Tryz.underlying279 Tryz.underlying185 cellsU64 cellsPow h
theorem words_of {W:World} {name:String} {g:Nat} {t:TypeId} {n:Nat} {ds:List (DataW Unit)} (hg:Tryz.prog.globalNamed name=some g) (hty:(Tryz.prog.globals[g]?).map (·.type)=some t) (ht:Tryz.prog.underlying t=some (.array n 9))
 (h:Reads Tryz.prog W name (.agg ds)) (i:Nat) (hi:i<n) (s:List UInt8) (hs:ds[i]?=some (.lit (.string s))):W.cell? ⟨g,i,none⟩=some (.string (tb s)):=by
 obtain ⟨g',t',cs,fuel,p,hg',ht',hvar,hd⟩:=h
 obtain rfl:=Option.some.inj (hg.symm.trans hg')
 obtain rfl:=Option.some.inj (hty.symm.trans ht')
 obtain ⟨fuel',d,q,hdi,he⟩:=Lib.array_elem ht hd i hi
 obtain rfl:=Option.some.inj (hs.symm.trans hdi)
 rw [cellsStr,Nat.mul_one] at he
 obtain ⟨b,hc,hx,_⟩:=DataW.trod_string Tryz.underlying9 he
 have e1:s=b.data.toList:=by
  have:=congrArg Prod.fst hx
  simpa using this
 have e2:cs[i]?=some (.string b):=by
  have:=congrArg (·[0]?) hc
  simp only [List.getElem?_take,List.getElem?_drop] at this
  simpa using this
 rw [World.var?_cell hg hvar,e2,e1]
 show some (Value.string b)=some (Value.string (tb b.data.toList))
 congr 2
theorem gFr : Tryz.prog.globalNamed "chimework/rule.freqWords" = some 3 := by kernel_rfl
theorem gFrT:(Tryz.prog.globals[3]?).map (·.type)=some 206:=by kernel_rfl
theorem gPa : Tryz.prog.globalNamed "chimework/rule.partWords" = some 4 := by kernel_rfl
theorem gPaT:(Tryz.prog.globals[4]?).map (·.type)=some 207:=by kernel_rfl
theorem gWd : Tryz.prog.globalNamed "chimework/rule.weekdayWords" = some 7 := by kernel_rfl
theorem gWdT:(Tryz.prog.globals[7]?).map (·.type)=some 207:=by kernel_rfl
theorem frw_of {W : World} (h : Reads Tryz.prog W "chimework/rule.freqWords" Rows.laid_chimework_rule_freqWords) : FrW W := fun k hk => by
 refine words_of gFr gFrT Tryz.underlying206 h k hk _ ?_
 rcases (by omega:k=0∨k=1∨k=2∨k=3) with rfl | rfl | rfl | rfl <;> rfl
theorem paw_of {W : World} (h : Reads Tryz.prog W "chimework/rule.partWords" Rows.laid_chimework_rule_partWords) : PaW W := fun k hk => by
 refine words_of gPa gPaT Tryz.underlying207 h k hk _ ?_
 rcases seven hk with rfl | rfl | rfl | rfl | rfl | rfl | rfl <;> rfl
theorem wdw_of {W : World} (h : Reads Tryz.prog W "chimework/rule.weekdayWords" Rows.laid_chimework_rule_weekdayWords) : WdW W := fun k hk => by
 refine words_of gWd gWdT Tryz.underlying207 h k hk _ ?_
 rcases seven hk with rfl | rfl | rfl | rfl | rfl | rfl | rfl <;> rfl
end Go.Proofs.YtcadomjkjoiakaaGreatDoor
namespace Go.Proofs.YtcadomjkjoiakaaGreatDoor
open Go.ChangeShapes Go.WideShapes Go.ChangeAt Go.RowKit Cal Txt
theorem add_none {a:Addr} (h:a.spot=none) (i:Nat):a.add i=⟨a.block,a.off + i,none⟩:=by
 obtain ⟨b,o,s⟩:=a
 dsimp only at h
 subst h
 unfold Addr.add
 split <;> simp_all
theorem spot_none {W:World} {a:Addr} {v:Value} (h:W.cell? (a.add 0)=some v):a.spot=none:=by
 have e:a.add 0=a:=by
  obtain ⟨b,o,s⟩:=a
  unfold Addr.add
  simp
 rw [e] at h
 unfold World.cell? at h
 split at h
 ·rcases hs:a.spot with _ | s
  ·rfl
  ·rw [hs] at h
   simp at h
 ·cases h
theorem cellsNth2:Tryz.prog.cellsOf 192=2:=by kernel_rfl
section
variable {H:Type} {enc:TypeId × Value→H} {W:World}
set_option maxRecDepth 100000 in
theorem ints_of {n:Nat} {c:Value} {x:DataW H × List MemPlace} (h:DataW.trod enc Tryz.prog W 0 (fun _=>true) true n 25 [c]=some x):∃ l,Ints W c l:=by
 rcases open_ints Tryz.underlying25 Tryz.underlying3 cellsInt h with ⟨hc,_⟩ | ⟨a,len,cap,zs,hc,_,hle,_,hz,_,hcell,_⟩
 ·obtain rfl:c=.slice none 0 0:=by simpa using hc
  exact ⟨[],none,0,rfl,Or.inl rfl⟩
 ·obtain rfl:c=.slice (some a) len cap:=by simpa using hc
  rw [if_pos rfl] at hz
  have hl:(zs.take len).length=len:=by rw [List.length_take];omega
  refine ⟨zs.take len,some a,cap,by rw [hl],?_⟩
  rcases Nat.eq_zero_or_pos len with h0 | h0
  ·exact Or.inl (List.eq_nil_of_length_eq_zero (by omega))
  ·have hs:=spot_none (hcell 0 (by omega))
   refine Or.inr ⟨a.block,a.off,by obtain ⟨b,o,s⟩:=a;dsimp only at hs;subst hs;rfl,fun i hi=>?_⟩
   rw [hl] at hi
   have:=hcell i (by omega)
   rw [add_none hs] at this
   rw [this,List.getD_eq_getElem?_getD,List.getD_eq_getElem?_getD,List.getElem?_take,if_pos hi]
set_option maxRecDepth 100000 in
theorem nth_of {n:Nat} {cs:List Value} {x:DataW H × List MemPlace} (h:DataW.trod enc Tryz.prog W 0 (fun _=>true) true n 192 cs=some x):∃ y:Int × Int,cs=[.int .i64 y.1,.int .i64 y.2]:=by
 obtain ⟨xs,m,rfl,_,hl,hxl,hall⟩:=DataW.trod_struct Tryz.underlying192 h
 rw [cellsNth2] at hl
 obtain ⟨c0,c1,rfl⟩:∃ c0 c1,cs=[c0,c1]:=by
  match cs,hl with
  | [a,b],_=>exact ⟨a,b,rfl⟩
 have h0:=hall 0 _ rfl
 have h1:=hall 1 _ rfl
 have hxl':xs.length=2:=hxl
 rw [List.getElem?_eq_getElem (by omega)] at h0 h1
 obtain ⟨a,e0,_⟩:=DataW.trod_int Tryz.underlying3 h0
 obtain ⟨b,e1,_⟩:=DataW.trod_int Tryz.underlying3 h1
 refine ⟨(a,b),?_⟩
 have e0':[c0]=[Value.int .i64 a]:=e0
 have e1':[c1]=[Value.int .i64 b]:=e1
 simp at e0' e1'
 rw [e0',e1']
set_option maxRecDepth 100000 in
theorem nths_of {n:Nat} {c:Value} {x:DataW H × List MemPlace} (h:DataW.trod enc Tryz.prog W 0 (fun _=>true) true n 26 [c]=some x):∃ l,Nths W c l:=by
 rcases DataW.trod_slice Tryz.underlying26 h with ⟨hc,_⟩ | ⟨a,len,cap,elems,rest,m,_,hc,_,_,_,_,hlen,hel,_⟩
 ·obtain rfl:c=.slice none 0 0:=by simpa using hc
  exact ⟨[],none,0,rfl,Or.inl rfl⟩
 ·obtain rfl:c=.slice (some a) len cap:=by simpa using hc
  have each:∀ i,i<len→∃ y:Int × Int,W.cell? (a.add (i * 2))=some (.int .i64 y.1)∧W.cell? ((a.add (i * 2)).add 1)=some (.int .i64 y.2):=fun i hi=>by
   have:=hel i hi
   rw [cellsNth2,List.getElem?_eq_getElem (by omega),Option.bind_eq_some_iff] at this
   obtain ⟨cs,hcs,ht⟩:=this
   obtain ⟨y,rfl⟩:=nth_of ht
   have hc:=(World.cells?_some hcs).2.2
   refine ⟨y,?_,?_⟩
   ·have:=hc 0 (by decide)
    have e:(a.add (i * 2)).add 0=a.add (i * 2):=by
     obtain ⟨b,o,s⟩:=a
     unfold Addr.add
     cases s <;> simp
    rw [e] at this
    simpa using this
   ·simpa using hc 1 (by decide)
  have choose:∃ l:List (Int × Int),l.length=len∧∀ i,i<len→W.cell? (a.add (i * 2))=some (.int .i64 (l.getD i (0,0)).1)∧W.cell? ((a.add (i * 2)).add 1)=some (.int .i64 (l.getD i (0,0)).2):=by
   have:∀ k,k≤len→∃ l:List (Int × Int),l.length=k∧∀ i,i<k→W.cell? (a.add (i * 2))=some (.int .i64 (l.getD i (0,0)).1)∧W.cell? ((a.add (i * 2)).add 1)=some (.int .i64 (l.getD i (0,0)).2):=by
    intro k
    induction k with
    | zero=>intro _;exact ⟨[],rfl,fun i hi=>by omega⟩
    | succ k ih=>
      intro hk
      obtain ⟨l,hl,hc⟩:=ih (by omega)
      obtain ⟨y,y1,y2⟩:=each k (by omega)
      refine ⟨l++[y],by simp [hl],fun i hi=>?_⟩
      rcases Nat.lt_or_ge i k with g | g
      ·have:=hc i g
       rw [List.getD_eq_getElem?_getD,List.getElem?_append_left (by omega),← List.getD_eq_getElem?_getD]
       exact this
      ·obtain rfl:i=k:=by omega
       rw [List.getD_eq_getElem?_getD,List.getElem?_append_right (by omega),hl,Nat.sub_self]
       exact ⟨y1,y2⟩
   exact this len (Nat.le_refl _)
  obtain ⟨l,hl,hcell⟩:=choose
  refine ⟨l,some a,cap,by rw [hl],?_⟩
  rcases Nat.eq_zero_or_pos len with h0 | h0
  ·exact Or.inl (List.eq_nil_of_length_eq_zero (by omega))
  ·have hs:=spot_none (by have:=(hcell 0 h0).1;rwa [Nat.zero_mul] at this)
   refine Or.inr ⟨a.block,a.off,by obtain ⟨b,o,s⟩:=a;dsimp only at hs;subst hs;rfl,fun i hi=>?_⟩
   have:=hcell i (by omega)
   rw [add_none hs,add_none (a:=⟨a.block,a.off + i * 2,none⟩) rfl] at this
   exact this
end
end Go.Proofs.YtcadomjkjoiakaaGreatDoor
namespace Go.Proofs.YtcadomjkjoiakaaGreatDoor
open Go.ChangeShapes Go.WideShapes Go.ChangeAt Go.RowKit Cal Txt
theorem cellsChg:Tryz.prog.cellsOf 97=2:=by kernel_rfl
theorem cellsAlm:Tryz.prog.cellsOf 50=4:=by kernel_rfl
theorem cellsEvt:Tryz.prog.cellsOf 32=17:=by kernel_rfl
section
variable {H:Type} {enc:TypeId × Value→H} {W:World}
set_option maxRecDepth 100000 in
theorem chg_of {n:Nat} {cs:List Value} {x:DataW H × List MemPlace} (h:DataW.trod enc Tryz.prog W 0 (fun _=>true) true n 97 cs=some x):∃ y:Int × Int,cs=[.int .i64 y.1,.int .i64 y.2]:=by
 obtain ⟨xs,m,rfl,_,hl,hxl,hall⟩:=DataW.trod_struct Tryz.underlying97 h
 rw [cellsChg] at hl
 obtain ⟨c0,c1,rfl⟩:∃ c0 c1,cs=[c0,c1]:=by
  match cs,hl with
  | [a,b],_=>exact ⟨a,b,rfl⟩
 have h0:=hall 0 _ rfl
 have h1:=hall 1 _ rfl
 have hxl':xs.length=2:=hxl
 rw [List.getElem?_eq_getElem (by omega)] at h0 h1
 obtain ⟨a,e0,_⟩:=DataW.trod_int Tryz.underlying3 h0
 obtain ⟨b,e1,_⟩:=DataW.trod_int Tryz.underlying3 h1
 refine ⟨(a,b),?_⟩
 have e0':[c0]=[Value.int .i64 a]:=e0
 have e1':[c1]=[Value.int .i64 b]:=e1
 simp at e0' e1'
 rw [e0',e1']
set_option maxRecDepth 100000 in
theorem chgs_of {n:Nat} {c:Value} {x:DataW H × List MemPlace} (h:DataW.trod enc Tryz.prog W 0 (fun _=>true) true n 29 [c]=some x):∃ l,Nths W c l:=by
 rcases DataW.trod_slice Tryz.underlying29 h with ⟨hc,_⟩ | ⟨a,len,cap,elems,rest,m,_,hc,_,_,_,_,hlen,hel,_⟩
 ·obtain rfl:c=.slice none 0 0:=by simpa using hc
  exact ⟨[],none,0,rfl,Or.inl rfl⟩
 ·obtain rfl:c=.slice (some a) len cap:=by simpa using hc
  have each:∀ i,i<len→∃ y:Int × Int,W.cell? (a.add (i * 2))=some (.int .i64 y.1)∧W.cell? ((a.add (i * 2)).add 1)=some (.int .i64 y.2):=fun i hi=>by
   have:=hel i hi
   rw [cellsChg,List.getElem?_eq_getElem (by omega),Option.bind_eq_some_iff] at this
   obtain ⟨cs,hcs,ht⟩:=this
   obtain ⟨y,rfl⟩:=chg_of ht
   have hc:=(World.cells?_some hcs).2.2
   refine ⟨y,?_,?_⟩
   ·have:=hc 0 (by decide)
    have e:(a.add (i * 2)).add 0=a.add (i * 2):=by
     obtain ⟨b,o,s⟩:=a
     unfold Addr.add
     cases s <;> simp
    rw [e] at this
    simpa using this
   ·simpa using hc 1 (by decide)
  have choose:∃ l:List (Int × Int),l.length=len∧∀ i,i<len→W.cell? (a.add (i * 2))=some (.int .i64 (l.getD i (0,0)).1)∧W.cell? ((a.add (i * 2)).add 1)=some (.int .i64 (l.getD i (0,0)).2):=by
   have:∀ k,k≤len→∃ l:List (Int × Int),l.length=k∧∀ i,i<k→W.cell? (a.add (i * 2))=some (.int .i64 (l.getD i (0,0)).1)∧W.cell? ((a.add (i * 2)).add 1)=some (.int .i64 (l.getD i (0,0)).2):=by
    intro k
    induction k with
    | zero=>intro _;exact ⟨[],rfl,fun i hi=>by omega⟩
    | succ k ih=>
      intro hk
      obtain ⟨l,hl,hc⟩:=ih (by omega)
      obtain ⟨y,y1,y2⟩:=each k (by omega)
      refine ⟨l++[y],by simp [hl],fun i hi=>?_⟩
      rcases Nat.lt_or_ge i k with g | g
      ·have:=hc i g
       rw [List.getD_eq_getElem?_getD,List.getElem?_append_left (by omega),← List.getD_eq_getElem?_getD]
       exact this
      ·obtain rfl:i=k:=by omega
       rw [List.getD_eq_getElem?_getD,List.getElem?_append_right (by omega),hl,Nat.sub_self]
       exact ⟨y1,y2⟩
   exact this len (Nat.le_refl _)
  obtain ⟨l,hl,hcell⟩:=choose
  refine ⟨l,some a,cap,by rw [hl],?_⟩
  rcases Nat.eq_zero_or_pos len with h0 | h0
  ·exact Or.inl (List.eq_nil_of_length_eq_zero (by omega))
  ·have hs:=spot_none (by have:=(hcell 0 h0).1;rwa [Nat.zero_mul] at this)
   refine Or.inr ⟨a.block,a.off,by obtain ⟨b,o,s⟩:=a;dsimp only at hs;subst hs;rfl,fun i hi=>?_⟩
   have:=hcell i (by omega)
   rw [add_none hs,add_none (a:=⟨a.block,a.off + i * 2,none⟩) rfl] at this
   exact this
set_option maxRecDepth 100000 in
theorem alm_of {n:Nat} {cs:List Value} {x:DataW H × List MemPlace} (h:DataW.trod enc Tryz.prog W 0 (fun _=>true) true n 50 cs=some x):∃ y:Int × Bool × Int × Int,cs=[.int .i64 y.1,.bool y.2.1,.int .i64 y.2.2.1,.int .i64 y.2.2.2]:=by
 obtain ⟨xs,m,rfl,_,hl,hxl,hall⟩:=DataW.trod_struct Tryz.underlying50 h
 rw [cellsAlm] at hl
 obtain ⟨c0,c1,c2,c3,rfl⟩:∃ c0 c1 c2 c3,cs=[c0,c1,c2,c3]:=by
  match cs,hl with
  | [a,b,c,d],_=>exact ⟨a,b,c,d,rfl⟩
 have h0:=hall 0 _ rfl
 have h1:=hall 1 _ rfl
 have h2:=hall 2 _ rfl
 have h3:=hall 3 _ rfl
 have hxl':xs.length=4:=hxl
 rw [List.getElem?_eq_getElem (by omega)] at h0 h1 h2 h3
 obtain ⟨a,e0,_⟩:=DataW.trod_int Tryz.underlying3 h0
 obtain ⟨b,e1,_⟩:=DataW.trod_bool Tryz.underlying4 h1
 obtain ⟨c,e2,_⟩:=DataW.trod_int Tryz.underlying3 h2
 obtain ⟨d,e3,_⟩:=DataW.trod_int Tryz.underlying3 h3
 refine ⟨(a,b,c,d),?_⟩
 have e0':[c0]=[Value.int .i64 a]:=e0
 have e1':[c1]=[Value.bool b]:=e1
 have e2':[c2]=[Value.int .i64 c]:=e2
 have e3':[c3]=[Value.int .i64 d]:=e3
 simp at e0' e1' e2' e3'
 rw [e0',e1',e2',e3']
set_option maxRecDepth 100000 in
theorem alms_of {n:Nat} {c:Value} {x:DataW H × List MemPlace} (h:DataW.trod enc Tryz.prog W 0 (fun _=>true) true n 30 [c]=some x):∃ l,Alms W c l:=by
 rcases DataW.trod_slice Tryz.underlying30 h with ⟨hc,_⟩ | ⟨a,len,cap,elems,rest,m,_,hc,_,_,_,_,hlen,hel,_⟩
 ·obtain rfl:c=.slice none 0 0:=by simpa using hc
  exact ⟨[],none,0,rfl,Or.inl rfl⟩
 ·obtain rfl:c=.slice (some a) len cap:=by simpa using hc
  have each:∀ i,i<len→∃ y:Int × Bool × Int × Int,W.cell? (a.add (i * 4))=some (.int .i64 y.1)∧W.cell? ((a.add (i * 4)).add 1)=some (.bool y.2.1)∧W.cell? ((a.add (i * 4)).add 2)=some (.int .i64 y.2.2.1)∧W.cell? ((a.add (i * 4)).add 3)=some (.int .i64 y.2.2.2):=fun i hi=>by
   have:=hel i hi
   rw [cellsAlm,List.getElem?_eq_getElem (by omega),Option.bind_eq_some_iff] at this
   obtain ⟨cs,hcs,ht⟩:=this
   obtain ⟨y,rfl⟩:=alm_of ht
   have hc:=(World.cells?_some hcs).2.2
   refine ⟨y,?_,?_,?_,?_⟩
   ·have:=hc 0 (by decide)
    have e:(a.add (i * 4)).add 0=a.add (i * 4):=by
     obtain ⟨b,o,s⟩:=a
     unfold Addr.add
     cases s <;> simp
    rw [e] at this
    simpa using this
   ·simpa using hc 1 (by decide)
   ·simpa using hc 2 (by decide)
   ·simpa using hc 3 (by decide)
  have choose:∃ l:List (Int × Bool × Int × Int),l.length=len∧∀ i,i<len→W.cell? (a.add (i * 4))=some (.int .i64 (l.getD i (0,false,0,0)).1)∧W.cell? ((a.add (i * 4)).add 1)=some (.bool (l.getD i (0,false,0,0)).2.1)∧W.cell? ((a.add (i * 4)).add 2)=some (.int .i64 (l.getD i (0,false,0,0)).2.2.1)∧W.cell? ((a.add (i * 4)).add 3)=some (.int .i64 (l.getD i (0,false,0,0)).2.2.2):=by
   have:∀ k,k≤len→∃ l:List (Int × Bool × Int × Int),l.length=k∧∀ i,i<k→W.cell? (a.add (i * 4))=some (.int .i64 (l.getD i (0,false,0,0)).1)∧W.cell? ((a.add (i * 4)).add 1)=some (.bool (l.getD i (0,false,0,0)).2.1)∧W.cell? ((a.add (i * 4)).add 2)=some (.int .i64 (l.getD i (0,false,0,0)).2.2.1)∧W.cell? ((a.add (i * 4)).add 3)=some (.int .i64 (l.getD i (0,false,0,0)).2.2.2):=by
    intro k
    induction k with
    | zero=>intro _;exact ⟨[],rfl,fun i hi=>by omega⟩
    | succ k ih=>
      intro hk
      obtain ⟨l,hl,hc⟩:=ih (by omega)
      obtain ⟨y,y1,y2,y3,y4⟩:=each k (by omega)
      refine ⟨l++[y],by simp [hl],fun i hi=>?_⟩
      rcases Nat.lt_or_ge i k with g | g
      ·have:=hc i g
       rw [List.getD_eq_getElem?_getD,List.getElem?_append_left (by omega),← List.getD_eq_getElem?_getD]
       exact this
      ·obtain rfl:i=k:=by omega
       rw [List.getD_eq_getElem?_getD,List.getElem?_append_right (by omega),hl,Nat.sub_self]
       exact ⟨y1,y2,y3,y4⟩
   exact this len (Nat.le_refl _)
  obtain ⟨l,hl,hcell⟩:=choose
  refine ⟨l,some a,cap,by rw [hl],?_⟩
  rcases Nat.eq_zero_or_pos len with h0 | h0
  ·exact Or.inl (List.eq_nil_of_length_eq_zero (by omega))
  ·have hs:=spot_none (by have:=(hcell 0 h0).1;rwa [Nat.zero_mul] at this)
   refine Or.inr ⟨a.block,a.off,by obtain ⟨b,o,s⟩:=a;dsimp only at hs;subst hs;rfl,fun i hi=>?_⟩
   have:=hcell i (by omega)
   rw [add_none hs,add_none (a:=⟨a.block,a.off + i * 4,none⟩) rfl,add_none (a:=⟨a.block,a.off + i * 4,none⟩) rfl,add_none (a:=⟨a.block,a.off + i * 4,none⟩) rfl] at this
   exact this
theorem array17 {a:Array Value} (h:a.size=17):∃ a0 a1 a2 a3 a4 a5 a6 a7 a8 a9 b0 b1 b2 b3 b4 b5 b6,a=#[a0,a1,a2,a3,a4,a5,a6,a7,a8,a9,b0,b1,b2,b3,b4,b5,b6]:=by
 obtain ⟨l⟩:=a
 match l,h with
 | [a0,a1,a2,a3,a4,a5,a6,a7,a8,a9,b0,b1,b2,b3,b4,b5,b6],_=>exact ⟨_,_,_,_,_,_,_,_,_,_,_,_,_,_,_,_,_,rfl⟩
set_option maxRecDepth 100000 in
theorem event_open {r0:Reach} {b0:Nat} {v:Value} {d:DataW H} {p:List MemPlace} (hv:Value.okWide Tryz.prog W r0 b0 32 v) (h:DataW.Trod enc Tryz.prog W 0 (fun _=>true) true 32 v d p):∃ e s,v=.agg (ecells e s)∧EvB W e s:=by
 obtain ⟨cs,rfl,hsz⟩:=okWide_struct Tryz.underlying32 hv
 obtain ⟨c0,c1,c2,c3,c4,c5,c6,c7,c8,c9,d0,d1,d2,d3,d4,d5,d6,rfl⟩:=array17 (hsz.trans cellsEvt)
 obtain ⟨fuel,hf⟩:=h
 obtain ⟨xs,m,rfl,_,_,hxl,hall⟩:=DataW.trod_struct Tryz.underlying32 hf
 have hxl':xs.length=10:=hxl
 have h0:=hall 0 _ rfl
 have h1:=hall 1 _ rfl
 have h2:=hall 2 _ rfl
 have h3:=hall 3 _ rfl
 have h4:=hall 4 _ rfl
 have h5:=hall 5 _ rfl
 have h6:=hall 6 _ rfl
 have h7:=hall 7 _ rfl
 have h8:=hall 8 _ rfl
 have h9:=hall 9 _ rfl
 rw [List.getElem?_eq_getElem (by omega)] at h0 h1 h2 h3 h4 h5 h6 h7 h8 h9
 obtain ⟨nm,e0,_⟩:=DataW.trod_string Tryz.underlying9 h0
 have e0':[c0]=[Value.string nm]:=e0
 obtain ⟨tx,e1,_⟩:=DataW.trod_string Tryz.underlying9 h1
 have e1':[c1]=[Value.string tx]:=e1
 obtain ⟨st,e2,_⟩:=DataW.trod_int Tryz.underlying3 h2
 have e2':[c2]=[Value.int .i64 st]:=e2
 obtain ⟨ln,e3,_⟩:=DataW.trod_int Tryz.underlying3 h3
 have e3':[c3]=[Value.int .i64 ln]:=e3
 obtain ⟨rp,e4,_⟩:=DataW.trod_bool Tryz.underlying4 h4
 have e4':[c4]=[Value.bool rp]:=e4
 obtain ⟨ys,m2,rfl,_,_,hyl,hall2⟩:=DataW.trod_struct Tryz.underlying28 h5
 have hyl':ys.length=8:=hyl
 have k0:=hall2 0 _ rfl
 have k1:=hall2 1 _ rfl
 have k2:=hall2 2 _ rfl
 have k3:=hall2 3 _ rfl
 have k4:=hall2 4 _ rfl
 have k5:=hall2 5 _ rfl
 have k6:=hall2 6 _ rfl
 have k7:=hall2 7 _ rfl
 rw [List.getElem?_eq_getElem (by omega)] at k0 k1 k2 k3 k4 k5 k6 k7
 obtain ⟨f,g0,_⟩:=DataW.trod_int Tryz.underlying3 k0
 have g0':[c5]=[Value.int .i64 f]:=g0
 obtain ⟨ev,g1,_⟩:=DataW.trod_int Tryz.underlying3 k1
 have g1':[c6]=[Value.int .i64 ev]:=g1
 obtain ⟨ct,g2,_⟩:=DataW.trod_int Tryz.underlying3 k2
 have g2':[c7]=[Value.int .i64 ct]:=g2
 obtain ⟨u,g3,_⟩:=DataW.trod_int Tryz.underlying3 k3
 have g3':[c8]=[Value.int .i64 u]:=g3
 simp only [List.cons.injEq,and_true] at e0' e1' e2' e3' e4' g0' g1' g2' g3'
 subst e0' e1' e2' e3' e4' g0' g1' g2' g3'
 obtain ⟨l_c9,q_c9⟩:=ints_of (c:=c9) k4
 obtain ⟨l_d0,q_d0⟩:=ints_of (c:=d0) k5
 obtain ⟨l_d1,q_d1⟩:=nths_of (c:=d1) k6
 obtain ⟨l_d2,q_d2⟩:=ints_of (c:=d2) k7
 obtain ⟨l_d3,q_d3⟩:=ints_of (c:=d3) h6
 obtain ⟨l_d4,q_d4⟩:=ints_of (c:=d4) h7
 obtain ⟨l_d5,q_d5⟩:=chgs_of (c:=d5) h8
 obtain ⟨l_d6,q_d6⟩:=alms_of (c:=d6) h9
 exact ⟨⟨nm,tx,st,ln,rp,⟨f,ev,ct,u,l_c9,l_d0,l_d1,l_d2⟩,l_d3,l_d4,l_d5,l_d6⟩,⟨c9,d0,d1,d2,d3,d4,d5,d6⟩,rfl,q_c9,q_d0,q_d1,q_d2,q_d3,q_d4,q_d5,q_d6⟩
end
end Go.Proofs.YtcadomjkjoiakaaGreatDoor
namespace Go.Proofs.YtcadomjkjoiakaaGreatDoor
open Go.ChangeShapes Go.WideShapes Go.ChangeAt Go.RowKit Cal Txt
namespace Cbo
theorem gUni : Tryz.prog.globalNamed "chimework/clock.units" = some 2 := by kernel_rfl
theorem gUniType:(Tryz.prog.globals[2]?).map (·.type)=some 205:=by kernel_rfl
theorem cellsUnit:Tryz.prog.cellsOf 204=3:=by kernel_rfl
theorem cellsU8:Tryz.prog.cellsOf 5=1:=by kernel_rfl
theorem at_three {cs:List Value} {i j:Nat} {v:Value} (hj:j<3) (h:((cs.drop (i * 3)).take 3)[j]?=some v):cs[i * 3 + j]?=some v:=by
 rw [List.getElem?_take,if_pos hj,List.getElem?_drop] at h;exact h
theorem uni_of {W : World} (h : Reads Tryz.prog W "chimework/clock.units" Rows.laid_chimework_clock_units) : Uni W := by
 obtain ⟨g',t',cs,fuel,p,hg',ht',hvar,hd⟩:=h
 obtain rfl:=Option.some.inj (gUni.symm.trans hg')
 obtain rfl:=Option.some.inj (gUniType.symm.trans ht')
 have key:∀ (i:Nat) (_:i<3) (a b c:Int),([DataW.agg [.lit (.int .u8 100),.lit (.int .i64 1440),.lit (.int .i64 999999999)],.agg [.lit (.int .u8 104),.lit (.int .i64 60),.lit (.int .i64 23)],.agg [.lit (.int .u8 109),.lit (.int .i64 1),.lit (.int .i64 59)]]:List (DataW Unit))[i]?=some (.agg [.lit (.int .u8 a),.lit (.int .i64 b),.lit (.int .i64 c)])→
  W.cell? ⟨2,i * 3 + 0,none⟩=some (.int .u8 a)∧W.cell? ⟨2,i * 3 + 1,none⟩=some (.int .i64 b)∧W.cell? ⟨2,i * 3 + 2,none⟩=some (.int .i64 c):=by
  intro i hi a b c hx
  obtain ⟨fuel',d,q,hdi,he⟩:=Lib.array_elem Tryz.underlying205 hd i hi
  obtain rfl:=Option.some.inj (hx.symm.trans hdi)
  rw [cellsUnit] at he
  have f0:=field_int Tryz.underlying204 he 0 _ rfl Tryz.underlying5 cellsU8 rfl
  have f1:=field_int Tryz.underlying204 he 1 _ rfl Tryz.underlying3 cellsInt rfl
  have f2:=field_int Tryz.underlying204 he 2 _ rfl Tryz.underlying3 cellsInt rfl
  refine ⟨?_,?_,?_⟩
  ·rw [World.var?_cell gUni hvar,← Array.getElem?_toList];exact at_three (by decide) f0
  ·rw [World.var?_cell gUni hvar,← Array.getElem?_toList];exact at_three (by decide) f1
  ·rw [World.var?_cell gUni hvar,← Array.getElem?_toList];exact at_three (by decide) f2
 exact ⟨key 0 (by decide) _ _ _ rfl,key 1 (by decide) _ _ _ rfl,key 2 (by decide) _ _ _ rfl⟩
theorem gES : Tryz.prog.globalNamed "strconv.ErrSyntax" = some 9 := by kernel_rfl
theorem gEST:(Tryz.prog.globals[9]?).map (·.type)=some 35:=by kernel_rfl
theorem gER : Tryz.prog.globalNamed "strconv.ErrRange" = some 10 := by kernel_rfl
theorem gERT:(Tryz.prog.globals[10]?).map (·.type)=some 35:=by kernel_rfl
theorem sent_of {W:World} {name:String} {g:Nat} {nm:String} {d:DataW Unit} (hg:Tryz.prog.globalNamed name=some g) (hty:(Tryz.prog.globals[g]?).map (·.type)=some 35) (h:Reads Tryz.prog W name (.iface nm d)):∃ te pe,W.cell? ⟨g,0,none⟩=some (.iface te pe):=by
 obtain ⟨g',t',cs,fuel,p,hg',ht',hvar,hd⟩:=h
 obtain rfl:=Option.some.inj (hg.symm.trans hg')
 obtain rfl:=Option.some.inj (hty.symm.trans ht')
 obtain ⟨_,u,v,hc,_⟩:=iface_of_trod Tryz.underlying35 hd
 refine ⟨u,v,?_⟩
 rw [World.var?_cell hg hvar,← Array.getElem?_toList,hc]
 rfl
theorem ers_of {W : World} (h1 : Reads Tryz.prog W "strconv.ErrSyntax" Rows.laid_strconv_ErrSyntax) (h2 : Reads Tryz.prog W "strconv.ErrRange" Rows.laid_strconv_ErrRange) : ErS W := ⟨sent_of gES gEST h1, sent_of gER gERT h2⟩
theorem gMrk : Tryz.prog.globalNamed "chimework/line.marked" = some 1 := by kernel_rfl
theorem gMrkType:(Tryz.prog.globals[1]?).map (·.type)=some 198:=by kernel_rfl
theorem cellsMrk:Tryz.prog.cellsOf 197=2:=by kernel_rfl
theorem cellsB8:Tryz.prog.cellsOf 5=1:=by kernel_rfl
theorem at_two {cs:List Value} {i j:Nat} {v:Value} (hj:j<2) (h:((cs.drop (i * 2)).take 2)[j]?=some v):cs[i * 2 + j]?=some v:=by
 rw [List.getElem?_take,if_pos hj,List.getElem?_drop] at h;exact h
theorem mrk_of {W : World} (h : Reads Tryz.prog W "chimework/line.marked" Rows.laid_chimework_line_marked) : Mrk W := by
 obtain ⟨g',t',cs,fuel,p,hg',ht',hvar,hd⟩:=h
 obtain rfl:=Option.some.inj (gMrk.symm.trans hg')
 obtain rfl:=Option.some.inj (gMrkType.symm.trans ht')
 have key:∀ (i:Nat) (_:i<4) (a b:Int),([DataW.agg [.lit (.int .u8 92),.lit (.int .u8 92)],.agg [.lit (.int .u8 59),.lit (.int .u8 59)],.agg [.lit (.int .u8 44),.lit (.int .u8 44)],.agg [.lit (.int .u8 10),.lit (.int .u8 110)]]:List (DataW Unit))[i]?=some (.agg [.lit (.int .u8 a),.lit (.int .u8 b)])→
  W.cell? ⟨1,i * 2 + 0,none⟩=some (.int .u8 a)∧W.cell? ⟨1,i * 2 + 1,none⟩=some (.int .u8 b):=by
  intro i hi a b hx
  obtain ⟨fuel',d,q,hdi,he⟩:=Lib.array_elem Tryz.underlying198 hd i hi
  obtain rfl:=Option.some.inj (hx.symm.trans hdi)
  rw [cellsMrk] at he
  have f0:=field_int Tryz.underlying197 he 0 _ rfl Tryz.underlying5 cellsB8 rfl
  have f1:=field_int Tryz.underlying197 he 1 _ rfl Tryz.underlying5 cellsB8 rfl
  refine ⟨?_,?_⟩
  ·rw [World.var?_cell gMrk hvar,← Array.getElem?_toList];exact at_two (by decide) f0
  ·rw [World.var?_cell gMrk hvar,← Array.getElem?_toList];exact at_two (by decide) f1
 exact ⟨(key 0 (by decide) _ _ rfl).1,(key 0 (by decide) _ _ rfl).2,(key 1 (by decide) _ _ rfl).1,(key 1 (by decide) _ _ rfl).2,(key 2 (by decide) _ _ rfl).1,(key 2 (by decide) _ _ rfl).2,(key 3 (by decide) _ _ rfl).1,(key 3 (by decide) _ _ rfl).2⟩
theorem field_str {H:Type} {enc:TypeId × Value→H} {P:Program} {w:World} {base:Nat} {sp:Nat→Bool} {held:Bool} {fuel:Nat} {t:TypeId} {fs:Array Field} {cs:List Value} {ds:List (DataW H)} {p:List MemPlace}
 (ht:P.underlying t=some (.struct fs)) (h:DataW.trod enc P w base sp held fuel t cs=some (.agg ds,p)) (i:Nat) (f:Field) (hf:fs[i]?=some f) {z:List UInt8}
 (hu:P.underlying f.type=some .string) (hc:P.cellsOf f.type=1) (hd:ds[i]?=some (.lit (.string z))):cs[f.offset]?=some (.string (tb z)):=by
 obtain ⟨xs,n,rfl,hx,hl,hxl,hall⟩:=DataW.trod_struct ht h
 have hxs:xs.map (·.1)=ds:=by
  have:=congrArg Prod.fst hx
  simpa using this.symm
 have h1:=hall i f hf
 have hi:i<xs.length:=by
  rw [hxl];exact (Array.getElem?_eq_some_iff.1 hf).1
 obtain ⟨b,hb⟩:∃ b,xs[i]?=some b:=⟨xs[i],List.getElem?_eq_getElem hi⟩
 rw [hb,hc] at h1
 obtain ⟨z',hcz,rfl,_⟩:=DataW.trod_string hu h1
 have h2:cs[f.offset]?=some (.string z'):=by
  have:=congrArg (·[0]?) hcz
  simpa [List.getElem?_take,List.getElem?_drop] using this
 have h3:(xs.map (·.1))[i]?=some (DataW.lit (.string z'.data.toList):DataW H):=by simp [hb]
 rw [hxs,hd] at h3
 simp only [Option.some.injEq,DataW.lit.injEq,Lit.string.injEq] at h3
 rw [h2,h3]
 obtain ⟨a⟩:=z'
 simp [tb]
theorem field_bool {H:Type} {enc:TypeId × Value→H} {P:Program} {w:World} {base:Nat} {sp:Nat→Bool} {held:Bool} {fuel:Nat} {t:TypeId} {fs:Array Field} {cs:List Value} {ds:List (DataW H)} {p:List MemPlace}
 (ht:P.underlying t=some (.struct fs)) (h:DataW.trod enc P w base sp held fuel t cs=some (.agg ds,p)) (i:Nat) (f:Field) (hf:fs[i]?=some f) {z:Bool}
 (hu:P.underlying f.type=some .bool) (hc:P.cellsOf f.type=1) (hd:ds[i]?=some (.lit (.bool z))):cs[f.offset]?=some (.bool z):=by
 obtain ⟨xs,n,rfl,hx,hl,hxl,hall⟩:=DataW.trod_struct ht h
 have hxs:xs.map (·.1)=ds:=by
  have:=congrArg Prod.fst hx
  simpa using this.symm
 have h1:=hall i f hf
 have hi:i<xs.length:=by
  rw [hxl];exact (Array.getElem?_eq_some_iff.1 hf).1
 obtain ⟨b,hb⟩:∃ b,xs[i]?=some b:=⟨xs[i],List.getElem?_eq_getElem hi⟩
 rw [hb,hc] at h1
 obtain ⟨z',hcz,rfl⟩:=DataW.trod_bool hu h1
 have h2:cs[f.offset]?=some (.bool z'):=by
  have:=congrArg (·[0]?) hcz
  simpa [List.getElem?_take,List.getElem?_drop] using this
 have h3:(xs.map (·.1))[i]?=some (DataW.lit (.bool z'):DataW H):=by simp [hb]
 rw [hxs,hd] at h3
 simp only [Option.some.injEq,DataW.lit.injEq,Lit.bool.injEq] at h3
 rw [h2,h3]
theorem gKnd : Tryz.prog.globalNamed "chimework/card.kinds" = some 0 := by kernel_rfl
theorem gKndT:(Tryz.prog.globals[0]?).map (·.type)=some 84:=by kernel_rfl
theorem cellsKnd:Tryz.prog.cellsOf 83=3:=by kernel_rfl
theorem cellsStr1:Tryz.prog.cellsOf 9=1:=by kernel_rfl
theorem cellsBool1:Tryz.prog.cellsOf 4=1:=by kernel_rfl
theorem knd_of {W : World} (h : Reads Tryz.prog W "chimework/card.kinds" Rows.laid_chimework_card_kinds) : KnW W := by
 obtain ⟨g',t',cs,fuel,p,hg',ht',hvar,hd⟩:=h
 obtain rfl:=Option.some.inj (gKnd.symm.trans hg')
 obtain rfl:=Option.some.inj (gKndT.symm.trans ht')
 have key:∀ (i:Nat) (_:i<9) (a:List UInt8) (b c:Bool),([.agg [.lit (.string [78,65,77,69]),.lit (.bool true),.lit (.bool false)],.agg [.lit (.string [84,69,88,84]),.lit (.bool false),.lit (.bool false)],.agg [.lit (.string [83,84,65,82,84]),.lit (.bool true),.lit (.bool false)],.agg [.lit (.string [76,69,78,71,84,72]),.lit (.bool true),.lit (.bool false)],.agg [.lit (.string [82,85,76,69]),.lit (.bool false),.lit (.bool false)],.agg [.lit (.string [77,79,82,69]),.lit (.bool false),.lit (.bool true)],.agg [.lit (.string [78,79,84]),.lit (.bool false),.lit (.bool true)],.agg [.lit (.string [77,79,86,69]),.lit (.bool false),.lit (.bool true)],.agg [.lit (.string [65,76,65,82,77]),.lit (.bool false),.lit (.bool true)]]:List (DataW Unit))[i]?=some (.agg [.lit (.string a),.lit (.bool b),.lit (.bool c)])→
  W.cell? ⟨0,i * 3 + 0,none⟩=some (.string (tb a))∧W.cell? ⟨0,i * 3 + 1,none⟩=some (.bool b)∧W.cell? ⟨0,i * 3 + 2,none⟩=some (.bool c):=by
  intro i hi a b c hx
  obtain ⟨fuel',d,q,hdi,he⟩:=Lib.array_elem Tryz.underlying84 hd i hi
  obtain rfl:=Option.some.inj (hx.symm.trans hdi)
  rw [cellsKnd] at he
  have f0:=field_str Tryz.underlying83 he 0 _ rfl Tryz.underlying9 cellsStr1 rfl
  have f1:=field_bool Tryz.underlying83 he 1 _ rfl Tryz.underlying4 cellsBool1 rfl
  have f2:=field_bool Tryz.underlying83 he 2 _ rfl Tryz.underlying4 cellsBool1 rfl
  refine ⟨?_,?_,?_⟩
  ·rw [World.var?_cell gKnd hvar,← Array.getElem?_toList];exact at_three (by decide) f0
  ·rw [World.var?_cell gKnd hvar,← Array.getElem?_toList];exact at_three (by decide) f1
  ·rw [World.var?_cell gKnd hvar,← Array.getElem?_toList];exact at_three (by decide) f2
 obtain ⟨a0,b0,c0⟩:=key 0 (by decide) _ _ _ rfl
 obtain ⟨a1,b1,c1⟩:=key 1 (by decide) _ _ _ rfl
 obtain ⟨a2,b2,c2⟩:=key 2 (by decide) _ _ _ rfl
 obtain ⟨a3,b3,c3⟩:=key 3 (by decide) _ _ _ rfl
 obtain ⟨a4,b4,c4⟩:=key 4 (by decide) _ _ _ rfl
 obtain ⟨a5,b5,c5⟩:=key 5 (by decide) _ _ _ rfl
 obtain ⟨a6,b6,c6⟩:=key 6 (by decide) _ _ _ rfl
 obtain ⟨a7,b7,c7⟩:=key 7 (by decide) _ _ _ rfl
 obtain ⟨a8,b8,c8⟩:=key 8 (by decide) _ _ _ rfl
 intro j v hv
 have hj:j<27:=(List.getElem?_eq_some_iff.1 hv).1
 rw [Nat.zero_add]
 rcases (by omega:j=0∨j=1∨j=2∨j=3∨j=4∨j=5∨j=6∨j=7∨j=8∨j=9∨j=10∨j=11∨j=12∨j=13∨j=14∨j=15∨j=16∨j=17∨j=18∨j=19∨j=20∨j=21∨j=22∨j=23∨j=24∨j=25∨j=26) with rfl | rfl | rfl | rfl | rfl | rfl | rfl | rfl | rfl | rfl | rfl | rfl | rfl | rfl | rfl | rfl | rfl | rfl | rfl | rfl | rfl | rfl | rfl | rfl | rfl | rfl | rfl
 ·exact a0.trans hv
 ·exact b0.trans hv
 ·exact c0.trans hv
 ·exact a1.trans hv
 ·exact b1.trans hv
 ·exact c1.trans hv
 ·exact a2.trans hv
 ·exact b2.trans hv
 ·exact c2.trans hv
 ·exact a3.trans hv
 ·exact b3.trans hv
 ·exact c3.trans hv
 ·exact a4.trans hv
 ·exact b4.trans hv
 ·exact c4.trans hv
 ·exact a5.trans hv
 ·exact b5.trans hv
 ·exact c5.trans hv
 ·exact a6.trans hv
 ·exact b6.trans hv
 ·exact c6.trans hv
 ·exact a7.trans hv
 ·exact b7.trans hv
 ·exact c7.trans hv
 ·exact a8.trans hv
 ·exact b8.trans hv
 ·exact c8.trans hv
end Cbo
end Go.Proofs.YtcadomjkjoiakaaGreatDoor
