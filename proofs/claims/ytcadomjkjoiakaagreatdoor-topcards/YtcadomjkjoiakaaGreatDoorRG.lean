/-
  Texts of our own that serve the card of this claim, joined into one.
-/
import Derived.Test.YtcadomjkjoiakaaGreatDoorRA
import Derived.Test.YtcadomjkjoiakaaGreatDoorRD
import Derived.Test.YtcadomjkjoiakaaGreatDoorQL
import Derived.Maps.AppendAt
namespace Go.Proofs.YtcadomjkjoiakaaGreatDoor
open Go.RowKit Go Cal Ln
theorem app_str_at {P:Program} (w:World) (base:Nat) (t u ty e:TypeId) (i:TypeInfo) (ht:P.underlying t=some (.slice e)) (hu:P.underlying u=some .string) (hi:P.info? e=some i) (hz:i.zero=some (.int .u8 0)) (hsize:i.size=1) (hby:i.bytes=1)
 (v:Value) (n:Nat) (xs:List Value) (hown:w.ownsRow base e 1 v n xs) (s:ByteArray) (h63:n + s.size≤maxLen) (hbytes:n + s.size≤140737488355328) (hbase:base≤w.heap.size) :
 ∃ v' w',(Builtin.append_ #[t,u] ty #[v,.string s]).run P w=.ok v' w'∧w'.ownsRow base e 1 v' (n + s.size) (xs++Lib.strCells s)∧w.grownBy w' v.ownBlock∧(v'.ownBlock=v.ownBlock∨∀ g,v'.ownBlock=some g→w.heap.size≤g):=by
 obtain ⟨v',w',hr,h2,h3,_⟩:=Lib.run_append_own_string (P:=P) w base t u ty e i ht hu hi hz hsize hby v n xs hown s h63 hbytes hbase
 refine ⟨v',w',hr,h2,h3,?_⟩
 have hxl:xs.length=n:=by simpa using hown.1
 rcases hown.2 with ⟨rfl,rfl⟩ | ⟨g,cap,cur,rfl,hbg,hg,hnc,hcm,hcs,htake⟩
 ·have hx:xs=[]:=List.eq_nil_of_length_eq_zero hxl
  subst hx
  obtain ⟨v2,w2,hr2,k2,_⟩:=Lib.run_append_own_string (P:=P) w w.heap.size t u ty e i ht hu hi hz hsize hby (.slice none 0 0) 0 [] (World.ownsRow_nil _ _ _ _) s h63 hbytes (Nat.le_refl _)
  have e2:v'=v2:=by
   have:=hr.symm.trans hr2
   injection this
  subst e2
  exact Or.inr (fun g hg=>(k2.lt g hg).1)
 ·by_cases hroom:n + s.size≤cap
  ·have hr2:=Lib.run_append_room_string (P:=P) w t u ty e i ht hu hi hsize g n cap cur hg s hroom (by rw [hcs];omega)
   have e2:=hr.symm.trans hr2
   injection e2 with e3
   rw [e3]
   exact Or.inl rfl
  ·have holds:∀ j u,xs[j]?=some u→w.cell? ((⟨g,0,none⟩:Addr).add j)=some u:=hown.cells (g:=g) rfl
   have hm:n + s.size≤9223372036854775807:=by simp only [maxLen] at h63;omega
   have hr2:=Lib.run_append_grow_string (P:=P) w t u ty e i (.int .u8 0) ht hu hi hz ⟨g,0,none⟩ n cap xs (by rw [hsize];simpa using hxl) holds s (by omega) (by omega) (by rw [hby];exact growslice_fits (by omega) (by omega))
   have e2:=hr.symm.trans hr2
   injection e2 with e3
   rw [e3]
   refine Or.inr (fun k hk=>?_)
   have:w.heap.size=k:=by simpa [Value.ownBlock] using hk
   omega
theorem app_str {P:Program} {w:World} {ops:Array Oper} {rest:List Oper} {o:Oper} {a:Act} {Q:Exit→Act→World→Prop} (hgd:o.guard=none) (sl x:Operand) (t u:TypeId)
 (ho:o.op=.call { callee:=.builtin .append,args:=#[sl,x],argTypes:=#[t,u] })
 (base:Nat) (e:TypeId) (i:TypeInfo) (ht:P.underlying t=some (.slice e)) (hu:P.underlying u=some .string) (hi:P.info? e=some i) (hz:i.zero=some (.int .u8 0)) (hsize:i.size=1) (hby:i.bytes=1)
 (v:Value) (n:Nat) (xs:List Value) (hs:a.eval sl=v) (hown:w.ownsRow base e 1 v n xs) (s:ByteArray) (hx:a.eval x=.string s) (h63:n + s.size≤maxLen) (hbytes:n + s.size≤140737488355328) (hbase:base≤w.heap.size)
 (h:∀ v' w',w'.ownsRow base e 1 v' (n + s.size) (xs++Lib.strCells s)→w.grownBy w' v.ownBlock→(v'.ownBlock=v.ownBlock∨∀ g,v'.ownBlock=some g→w.heap.size≤g)→wpList P ops Q rest (a.put o.dst v') w'):wpList P ops Q (o :: rest) a w:=by
 refine wpList_plain hgd fun K hK=>?_
 obtain ⟨v',w',hr,h2,h3,h4⟩:=app_str_at (P:=P) w base t u o.type e i ht hu hi hz hsize hby v n xs hown s h63 hbytes hbase
 unfold Oper.wp execOp
 simp only [ho,resolve,invoke,builtin,Sem.run_bind,Sem.run_pure,Result.andThen_ok,List.map_toArray,List.map_cons,List.map_nil,hs,hx,hr]
 exact hK _ _ (h v' w' h2 h3 h4)
def Bdr (B b:Nat) (l:List UInt8) (v:Value) (W:World):Prop:=
 B≤b∧∃ p,(p=.pointer none∨p=.pointer (some ⟨b,0,none⟩))∧W.heap[b]?=some (.cells #[p,v] 57 (0,0))∧W.ownsRow B 5 1 v (Lib.byteCells l).length (Lib.byteCells l)∧v.ownBlock≠some b
theorem Bdr.lt {B b:Nat} {l:List UInt8} {v:Value} {W:World} (h:Bdr B b l v W):b<W.heap.size:=by
 obtain ⟨_,p,_,hb,_⟩:=h
 exact (Array.getElem?_eq_some_iff.1 hb).1
theorem Bdr.is {B b:Nat} {l:List UInt8} {v:Value} {W:World} (h:Bdr B b l v W):Lib.IsBuilder 57 5 B b (Lib.byteCells l) W:=by
 obtain ⟨hB,p,hp,hb,ho,hn⟩:=h
 rcases hp with rfl | rfl
 ·exact Or.inl ⟨hB,v,hb,ho,hn⟩
 ·exact Or.inr ⟨hB,v,hb,ho,hn⟩
theorem Bdr.same {B b:Nat} {l:List UInt8} {v:Value} {W W':World} (h:Bdr B b l v W) (hb:W'.heap[b]?=W.heap[b]?) (hg:∀ g,v.ownBlock=some g→W'.heap[g]?=W.heap[g]?):Bdr B b l v W':=by
 obtain ⟨hB,p,hp,hb0,ho,hn⟩:=h
 refine ⟨hB,p,hp,hb.trans hb0,⟨ho.1,?_⟩,hn⟩
 rcases ho.2 with a | ⟨g,cap,cur,hv,hbs,hgg,r⟩
 ·exact Or.inl a
 ·exact Or.inr ⟨g,cap,cur,hv,hbs,(hg g (by rw [hv];rfl)).trans hgg,r⟩
theorem grown_kps {W W':World} {o:Option Nat} (h:W.grownBy W' o):Kps (fun k=>o=some k) W W':=⟨h.os,h.tape,h.output,h.size,fun k hk hS=>h.block k hk (fun e=>hS e.symm)⟩
theorem grow_set (W:World) (b o:Nat) (x:Value):W.grownBy (W.setCell ⟨b,o,none⟩ x) (some b):=⟨rfl,rfl,rfl,by simp [World.setCell],fun k _ hk=>Below.heap_setCell _ _ _ _ (fun (e:k=b)=>hk (by rw [e]))⟩
set_option maxHeartbeats 2000000 in
set_option maxRecDepth 100000 in
theorem bwrite_own (B b:Nat) (l:List UInt8) (v:Value) (s:ByteArray) (w:World) (h:Bdr B b l v w) (hlen:l.length + s.size≤140737488355328) (hBw:B≤w.heap.size) :
 Calls Tryz.prog 14 #[.pointer (some ⟨b,0,none⟩),.string s] w fun e w'=>e=.returned (.tuple #[.int .i64 s.size,.nilIface])∧∃ v',Bdr B b (l++s.data.toList) v' w'∧(v'.ownBlock=v.ownBlock∨∀ g,v'.ownBlock=some g→w.heap.size≤g)∧Kps (fun k=>k=b∨v.ownBlock=some k) w w':=by
 obtain ⟨i0,hi,hz0,hz1,hz2⟩:=info_parts info_u8
 obtain ⟨hB,p,hp,hb0,hown0,hne⟩:=h
 have bl:b<w.heap.size:=(Array.getElem?_eq_some_iff.1 hb0).1
 have K:Hid (Calls Tryz.prog 30 #[.pointer (some ⟨b,0,none⟩)] w fun e w'=>e=.returned (.tuple #[])∧w'.heap[b]?=some (.cells #[.pointer (some ⟨b,0,none⟩),v] 57 (0,0))∧Kps (fun k=>k=b) w w'∧w'.ownsRow B 5 1 v (Lib.byteCells l).length (Lib.byteCells l)):=Lib.hid (by
  rcases hp with rfl | rfl
  ·have hA:Lib.BuilderAt 57 5 B b (.pointer none) (Lib.byteCells l) w:=⟨hB,v,hb0,hown0,hne⟩
   refine (bcheck_fresh b w hA.cell0 hA.shape hA.frozen0).mono ?_
   rintro e w' ⟨rfl,rfl⟩
   have ks:Kps (fun k=>k=b) w (w.setCell ⟨b,0,none⟩ (.pointer (some ⟨b,0,none⟩))):=Kps.set _ rfl
   exact ⟨rfl,by simp [World.setCell,Array.getElem?_modify,hb0],ks,hown0.kept (grow_set w b 0 _) (Or.inr hne)⟩
  ·have hA:Lib.BuilderAt 57 5 B b (.pointer (some ⟨b,0,none⟩)) (Lib.byteCells l) w:=⟨hB,v,hb0,hown0,hne⟩
   refine (bcheck_used b w hA.cell0).mono ?_
   rintro e w' ⟨rfl,rfl⟩
   exact ⟨rfl,hb0,Kps.refl _ _,hown0⟩)
 clear hp hb0 hown0
 go_enter Tryz.func14,Tryz.ntmps14
 go_wp2_with fail
 refine K.out.mono ?_
 rintro e w1 ⟨rfl,hbk,hk1,hown⟩
 have c0:w1.cell? ⟨b,0,none⟩=some (.pointer (some ⟨b,0,none⟩)):=by rw [Lib.cell_of_heap hbk];rfl
 have c1:w1.cell? ⟨b,1,none⟩=some v:=by rw [Lib.cell_of_heap hbk];rfl
 have sz1:=hk1.size
 have ll:(Lib.byteCells l).length=l.length:=Lib.byteCells_length _
 clear K
 go_wp2_with (at_builtin;refine app_str rfl _ _ 55 9 rfl B 5 i0 Tryz.underlying55 Tryz.underlying9 hi hz0 hz1 hz2 _ _ _ rfl hown s rfl ?c3 ?c4 ?c5 ?_)
 case c3=>unfold maxLen;omega
 case c4=>omega
 case c5=>omega
 intro v' w2 hown' hgrow hat
 have hb2:w2.heap[b]?=some (.cells #[.pointer (some ⟨b,0,none⟩),v] 57 (0,0)):=by
  rw [hgrow.block b (by omega) (fun e=>hne e.symm)]
  exact hbk
 have d0:w2.cell? ⟨b,0,none⟩=some (.pointer (some ⟨b,0,none⟩)):=by rw [Lib.cell_of_heap hb2];rfl
 have d1:w2.cell? ⟨b,1,none⟩=some v:=by rw [Lib.cell_of_heap hb2];rfl
 have f1:w2.frozen? ⟨b,1,none⟩=false:=Lib.frozen_of_heap hb2 1
 have NB:v'.ownBlock≠some b:=fun e=>by
  rcases hat with q | q
  ·exact hne (q.symm.trans e)
  ·have:=q b e;omega
 obtain ⟨ao,n',cap,rfl⟩:∃ ao n' cap,v'=.slice ao n' cap:=by
  rcases hown'.2 with ⟨hv,_⟩ | ⟨g,cap,cur,hv,_⟩
  ·exact ⟨_,_,_,hv⟩
  ·exact ⟨_,_,_,hv⟩
 have PB:Hid (Bdr B b (l++s.data.toList) (.slice ao n' cap) (w2.setCell ⟨b,1,none⟩ (.slice ao n' cap))):=Lib.hid (by
  refine ⟨hB,.pointer (some ⟨b,0,none⟩),Or.inr rfl,by simp [World.setCell,Array.getElem?_modify,hb2],?_,NB⟩
  have e1:Lib.byteCells (l++s.data.toList)=Lib.byteCells l++Lib.strCells s:=by simp [Lib.byteCells,Lib.strCells]
  have e2:(Lib.byteCells (l++s.data.toList)).length=l.length + s.size:=by rw [Lib.byteCells_length,List.length_append];rfl
  rw [e2,e1]
  exact hown'.kept (grow_set w2 b 1 _) (Or.inr NB))
 have AT:Hid ((Value.slice ao n' cap).ownBlock=v.ownBlock∨∀ g,(Value.slice ao n' cap).ownBlock=some g→w.heap.size≤g):=Lib.hid (hat.imp id (fun q g hg=>Nat.le_trans sz1 (q g hg)))
 have KK:Hid (Kps (fun k=>k=b∨v.ownBlock=some k) w (w2.setCell ⟨b,1,none⟩ (.slice ao n' cap))):=Lib.hid (by
  have k1:Kps (fun k=>k=b∨v.ownBlock=some k) w w1:=hk1.mono (fun k e=>Or.inl e)
  have k2:Kps (fun k=>k=b∨v.ownBlock=some k) w1 w2:=(grown_kps hgrow).mono (fun k e=>Or.inr e)
  have k3:Kps (fun k=>k=b∨v.ownBlock=some k) w2 (w2.setCell ⟨b,1,none⟩ (.slice ao n' cap)):=Kps.set _ (Or.inl rfl)
  exact (k1.trans k2 (fun k e=>Or.inl e)).trans k3 (fun k e=>Or.inl e))
 clear hat NB hown' hgrow hb2 hown hbk c0 c1
 go_wp2
 go_ret2
 exact ⟨rfl,_,PB.out,AT.out,KK.out⟩
theorem freeze_kps (W:World) (g n:Nat):Kps (fun k=>k=g) W (W.freeze ⟨g,0,none⟩ n):=by
 unfold World.freeze
 split
 ·exact Kps.refl _ _
 ·refine ⟨rfl,rfl,rfl,by simp,fun k _ hS=>?_⟩
  simp only [Array.getElem?_modify]
  rw [if_neg (fun e=>hS e.symm)]
theorem cellsU8:Tryz.prog.cellsOf 5=1:=by kernel_rfl
set_option maxHeartbeats 2000000 in
set_option maxRecDepth 100000 in
theorem bstr_own (B b:Nat) (l:List UInt8) (v:Value) (w:World) (h:Bdr B b l v w) (h0:l≠[]) :
 Calls Tryz.prog 15 #[.pointer (some ⟨b,0,none⟩)] w fun e w'=>e=.returned (.string (tb l))∧Kps (fun k=>v.ownBlock=some k) w w':=by
 obtain ⟨hB,p,hp,hbk,hown,hne⟩:=h
 have hl0:l.length≠0:=by simpa using h0
 have HC:=Lib.hid (fun g (hg:v.ownBlock=some g)=>hown.cells (g:=g) hg)
 rw [Lib.byteCells_length] at hown
 rcases hown.2 with ⟨_,hz⟩ | ⟨g,cap,cur,rfl,hbg,hg,hnc,hcm,hcs,htake⟩
 ·exact absurd hz hl0
 have c1:w.drew.cell? ⟨b,1,none⟩=some (.slice (some ⟨g,0,none⟩) l.length cap):=by
  have:w.drew.heap[b]?=some (.cells #[p,.slice (some ⟨g,0,none⟩) l.length cap] 57 (0,0)):=hbk
  rw [Lib.cell_of_heap this];rfl
 have hSD:(Builtin.unsafeSliceData_ #[55] 86 #[.slice (some ⟨g,0,none⟩) l.length cap]).run Tryz.prog w.drew=.ok (.pointer (some ⟨g,0,none⟩)) w.drew:=Lib.run_unsafeSliceData_row _ _ _ _ _ _ (by omega)
 have hUS:(Builtin.unsafeString_ #[86,3] 9 #[.pointer (some ⟨g,0,none⟩),.int .i64 l.length]).run Tryz.prog w.drew=.ok (.string ⟨l.toArray⟩) (w.drew.freeze ⟨g,0,none⟩ l.length):=by
  refine Lib.run_unsafeString_row w.drew 86 3 9 5 Tryz.underlying86 cellsU8 g cur.size (by have hg':w.drew.heap[g]?=some (.cells cur 5 (0,0)):=hg;simp [World.shape?,hg']) l h0 (by omega) (by unfold maxLen at hcm;omega) ?_
  intro j x hx
  exact HC.out g rfl j (.int .u8 x.toNat) (by simp [Lib.byteCells,hx])
 have KF:Hid (Kps (fun k=>(Value.slice (some ⟨g,0,none⟩) l.length cap).ownBlock=some k) w (w.drew.freeze ⟨g,0,none⟩ l.length)):=Lib.hid (by
  have k1:Kps (fun k=>k=g) w w.drew:=⟨rfl,rfl,rfl,Nat.le_refl _,fun _ _ _=>rfl⟩
  have k2:=freeze_kps w.drew g l.length
  exact (k1.trans k2 (Gr.refl _ _)).mono (fun k e=>by rw [e];rfl))
 have c2:(w.drew.freeze ⟨g,0,none⟩ l.length).cell? ⟨b,1,none⟩=some (.slice (some ⟨g,0,none⟩) l.length cap):=by
  have q:=(freeze_kps w.drew g l.length).block b (Array.getElem?_eq_some_iff.1 hbk).1 (fun e=>hne (by rw [e];rfl))
  rw [World.cell?_of_block q]
  exact c1
 have hm:Tryz.prog.follows .mixedOrders=true:=by kernel_rfl
 clear hown hp hbk hg hnc hcm hcs htake HC hbg hne hB
 go_enter Tryz.func15,Tryz.ntmps15
 go_wp2_with fail
 go_region_held3 (fun X=>X.cell? ⟨b,1,none⟩=some (.slice (some ⟨g,0,none⟩) l.length cap)) (first | exact c1 | exact c2) (fail)
 all_goals (go_wp2;go_ret;exact ⟨rfl,KF.out⟩)
end Go.Proofs.YtcadomjkjoiakaaGreatDoor
namespace Go.Proofs.YtcadomjkjoiakaaGreatDoor
open Go.RowKit Go Cal Txt Ln Cb
abbrev eI (x:Int):List Value:=[.int .i64 x]
abbrev eC (c:Int × Int):List Value:=[.int .i64 c.1,.int .i64 c.2]
abbrev eA (x:Int × Bool × Int × Int):List Value:=[.int .i64 x.1,.bool x.2.1,.int .i64 x.2.2.1,.int .i64 x.2.2.2]
theorem flatC_at {α:Type} (enc:α→List Value) (k:Nat) (hk:∀ x,(enc x).length=k) (d:α):∀ (xs:List α) (i c:Nat),i<xs.length→c<k→(xs.flatMap enc)[i * k + c]?=(enc (xs.getD i d))[c]?
 | a :: r,0,c,_,hc=>by
   rw [List.flatMap_cons,Nat.zero_mul,Nat.zero_add,List.getElem?_append_left (by rw [hk];exact hc)]
   rfl
 | a :: r,i + 1,c,h,hc=>by
   have ih:=flatC_at enc k hk d r i c (by simpa using h) hc
   rw [List.flatMap_cons,List.getElem?_append_right (by rw [hk,Nat.succ_mul];omega),hk]
   have e:(i + 1) * k + c - k=i * k + c:=by rw [Nat.succ_mul];omega
   rw [e,ih]
   rfl
theorem row_open {α:Type} (enc:α→List Value) (k:Nat) (hk:∀ x,(enc x).length=k) (d:α) {W:World} {B:Nat} {t:TypeId} {v:Value} {l:List α} (h:W.ownsRow B t k v l.length (l.flatMap enc)) :
 ∃ a cap,v=.slice a l.length cap∧(l=[]∨∃ b off,a=some ⟨b,off,none⟩∧∀ i,i<l.length→∀ c u,c<k→(enc (l.getD i d))[c]?=some u→W.cell? ⟨b,off + i * k + c,none⟩=some u):=by
 rcases h.2 with ⟨q,h0⟩ | ⟨g,cap,cur,q,_⟩
 ·exact ⟨none,0,by rw [q,h0],Or.inl (List.eq_nil_of_length_eq_zero h0)⟩
 ·refine ⟨some ⟨g,0,none⟩,cap,q,Or.inr ⟨g,0,rfl,fun i hi c u hc hu=>?_⟩⟩
  have e:=flatC_at enc k hk d l i c hi hc
  have:=h.cells (g:=g) (by rw [q];rfl) (i * k + c) u (e.trans hu)
  have hadd:(⟨g,0,none⟩:Addr).add (i * k + c)=⟨g,0 + i * k + c,none⟩:=by unfold Addr.add;split <;> simp_all
  rwa [hadd] at this
theorem row_ints {W:World} {B:Nat} {t:TypeId} {v:Value} {l:List Int} (h:W.ownsRow B t 1 v l.length (l.flatMap eI)):Ints W v l:=by
 obtain ⟨a,cap,e,hc⟩:=row_open eI 1 (fun _=>rfl) 0 h
 refine ⟨a,cap,e,hc.imp id (fun ⟨b,off,ea,q⟩=>⟨b,off,ea,fun i hi=>?_⟩)⟩
 have:=q i hi 0 _ (by decide) rfl
 simpa using this
theorem row_nths {W:World} {B:Nat} {t:TypeId} {v:Value} {l:List (Int × Int)} (h:W.ownsRow B t 2 v l.length (l.flatMap eC)):Nths W v l:=by
 obtain ⟨a,cap,e,hc⟩:=row_open eC 2 (fun _=>rfl) (0,0) h
 exact ⟨a,cap,e,hc.imp id (fun ⟨b,off,ea,q⟩=>⟨b,off,ea,fun i hi=>⟨q i hi 0 _ (by decide) rfl,q i hi 1 _ (by decide) rfl⟩⟩)⟩
theorem row_alms {W:World} {B:Nat} {t:TypeId} {v:Value} {l:List (Int × Bool × Int × Int)} (h:W.ownsRow B t 4 v l.length (l.flatMap eA)):Alms W v l:=by
 obtain ⟨a,cap,e,hc⟩:=row_open eA 4 (fun _=>rfl) (0,false,0,0) h
 exact ⟨a,cap,e,hc.imp id (fun ⟨b,off,ea,q⟩=>⟨b,off,ea,fun i hi=>⟨q i hi 0 _ (by decide) rfl,q i hi 1 _ (by decide) rfl,q i hi 2 _ (by decide) rfl,q i hi 3 _ (by decide) rfl⟩⟩)⟩
def WiA {α:Type} (enc:α→List Value) (t:TypeId) (k:Nat) (o:Option α) (l:List α) (B:Nat) (v:Value) (w:World) (e:Ending) (w':World):Prop:=
 (∃ x v',o=some x∧e=.returned (.tuple #[v',.nilIface])∧w'.ownsRow B t k v' (l++[x]).length ((l++[x]).flatMap enc)∧(v'.ownBlock=v.ownBlock∨∀ g,v'.ownBlock=some g→w.heap.size≤g)∧Kps (fun j=>v.ownBlock=some j) w w')∨
 (o=none∧(∃ j:Int,e=.returned (.tuple #[.slice none 0 0,.iface 73 (.int .i64 j)]))∧Below w.heap.size w w')
theorem info_wi:(Tryz.prog.info? 3).map (fun i=>(i.zero,i.size,i.bytes))=some (some (.int .i64 0),1,8):=by kernel_rfl
theorem info_wc:(Tryz.prog.info? 97).map (fun i=>(i.zero,i.size,i.bytes))=some (some (.agg #[.int .i64 0,.int .i64 0]),2,16):=by kernel_rfl
theorem info_wa:(Tryz.prog.info? 50).map (fun i=>(i.zero,i.size,i.bytes))=some (some (.agg #[.int .i64 0,.bool false,.int .i64 0,.int .i64 0]),4,32):=by kernel_rfl
theorem slice_form {W:World} {B k n:Nat} {t:TypeId} {v:Value} {xs:List Value} (h:W.ownsRow B t k v n xs):∃ a c,v=.slice a n c:=by
 rcases h.2 with ⟨q,h0⟩ | ⟨g,cap,cur,q,_⟩
 ·exact ⟨none,0,by rw [q,h0]⟩
 ·exact ⟨_,_,q⟩
set_option maxRecDepth 100000 in
set_option maxHeartbeats 4000000 in
theorem with_int (g:FuncId) (eg:∀ args w,(callFunc g args).run Tryz.prog w=.ok (.enter g args) w) (o:Option (Int)) (s:ByteArray) (v:Value) (l:List (Int)) (B:Nat) (w:World) (hown:w.ownsRow B 3 1 v l.length (l.flatMap eI)) (hB:B≤w.heap.size) (hl:l.length≤2000000)
 (hg:Calls Tryz.prog g #[.string s] w (OpA vI o w)):Calls Tryz.prog 114 #[v,.string s,.func (.func g) #[] #[]] w (WiA eI 3 1 o l B v w):=by
 obtain ⟨i0,hi,hz0,hz1,hz2⟩:=info_parts info_wi
 have HO:=Lib.hid hown
 have HG:=Lib.hid hg
 have wl:w.heap.size≤w.heap.size:=Nat.le_refl _
 obtain ⟨av,cv,rfl⟩:=slice_form hown
 clear hown hg
 unfold WiA
 go_enter Tryz.func114,Tryz.ntmps114
 go_wp2_with fail
 refine HG.out.mono ?_
 rintro e w1 ⟨hb,hx⟩
 clear HG
 rcases hx with ⟨x,hx,rfl⟩ | ⟨hx,x,j,rfl⟩
 ·have HO1:=Lib.hid (own_below HO.out hb)
  have HX:=Lib.hid hx
  have sz:=hb.size
  have HB1:=Lib.hid hb
  clear hx hb HO
  go_wp2_with (at_builtin;(refine wpList_append_own_at _ rfl _ _ 25 rfl B 3 i0 (.int .i64 0) 1 8 Tryz.underlying25 hi hz0 hz1 hz2 rfl (by decide) _ _ _ rfl (HO1.out.alloc _) ⟨w1.heap.size,0,none⟩ 1 1 (eI x) rfl rfl ?c1 ?c2 ?c3 ?c4 ?c5 ?_))
  case c1=>
   intro j u hj
   match j,hj with
   | 0,hj=>simp at hj;subst hj;simp [Addr.add]
  case c2=>intro u hu;simp [eI] at hu;subst hu;rfl
  case c3=>unfold maxLen;omega
  case c4=>omega
  case c5=>simp;omega
  intro v' w2 hown' hgrow _ hat
  have Z1:Hid (w2.ownsRow B 3 1 v' (l++[x]).length ((l++[x]).flatMap eI)):=Lib.hid (by
   rw [List.length_append,List.flatMap_append,List.flatMap_singleton]
   exact hown')
  have Z2:Hid (v'.ownBlock=(Value.slice av l.length cv).ownBlock∨∀ g,v'.ownBlock=some g→w.heap.size≤g):=Lib.hid (hat.imp id (fun q g hg=>by
   rw [q] at hg
   have:=Option.some.inj hg
   first | omega | (simp at this;omega)))
  have Z3:Hid (Kps (fun j=>(Value.slice av l.length cv).ownBlock=some j) w w2):=Lib.hid (by
   have k1:Kps (fun j=>(Value.slice av l.length cv).ownBlock=some j) w (w1.alloc (.cells #[.int .i64 x] 3)):=Kps.of_below (HB1.out.alloc sz _)
   exact k1.trans (grown_kps hgrow) (Gr.refl _ _))
  clear hown' hgrow hat HO1
  go_wp2
  go_ret2
  exact Or.inl ⟨x,v',HX.out,rfl,Z1.out,Z2.out,Z3.out⟩
 ·have HX:=Lib.hid hx
  clear hx HO
  go_wp2
  go_ret2
  exact Or.inr ⟨HX.out,⟨j,rfl⟩,hb⟩
set_option maxRecDepth 100000 in
set_option maxHeartbeats 4000000 in
theorem with_chg (g:FuncId) (eg:∀ args w,(callFunc g args).run Tryz.prog w=.ok (.enter g args) w) (o:Option (Int × Int)) (s:ByteArray) (v:Value) (l:List (Int × Int)) (B:Nat) (w:World) (hown:w.ownsRow B 97 2 v l.length (l.flatMap eC)) (hB:B≤w.heap.size) (hl:l.length≤2000000)
 (hg:Calls Tryz.prog g #[.string s] w (OpA vC o w)):Calls Tryz.prog 115 #[v,.string s,.func (.func g) #[] #[]] w (WiA eC 97 2 o l B v w):=by
 obtain ⟨i0,hi,hz0,hz1,hz2⟩:=info_parts info_wc
 have HO:=Lib.hid hown
 have HG:=Lib.hid hg
 have wl:w.heap.size≤w.heap.size:=Nat.le_refl _
 obtain ⟨av,cv,rfl⟩:=slice_form hown
 clear hown hg
 unfold WiA
 go_enter Tryz.func115,Tryz.ntmps115
 go_wp2_with fail
 refine HG.out.mono ?_
 rintro e w1 ⟨hb,hx⟩
 clear HG
 rcases hx with ⟨x,hx,rfl⟩ | ⟨hx,x,j,rfl⟩
 ·have HO1:=Lib.hid (own_below HO.out hb)
  have HX:=Lib.hid hx
  have sz:=hb.size
  have HB1:=Lib.hid hb
  clear hx hb HO
  go_wp2_with (at_builtin;(refine wpList_append_own_at _ rfl _ _ 29 rfl B 97 i0 (.agg #[.int .i64 0,.int .i64 0]) 2 16 Tryz.underlying29 hi hz0 hz1 hz2 rfl (by decide) _ _ _ rfl ((HO1.out.alloc _).alloc _) ⟨w1.heap.size + 1,0,none⟩ 1 1 (eC x) rfl rfl ?c1 ?c2 ?c3 ?c4 ?c5 ?_))
  case c1=>
   rw [show w1.heap.size + 1=(w1.alloc (.cells #[.int .i64 x.1,.int .i64 x.2] 97)).heap.size by simp]
   intro j u hj
   match j,hj with
   | 0,hj=>simp at hj;subst hj;simp [Addr.add]
   | 1,hj=>simp at hj;subst hj;simp [Addr.add]
  case c2=>intro u hu;simp [eC] at hu;rcases hu with rfl | rfl <;> rfl
  case c3=>unfold maxLen;omega
  case c4=>omega
  case c5=>simp;omega
  intro v' w2 hown' hgrow _ hat
  have Z1:Hid (w2.ownsRow B 97 2 v' (l++[x]).length ((l++[x]).flatMap eC)):=Lib.hid (by
   rw [List.length_append,List.flatMap_append,List.flatMap_singleton]
   exact hown')
  have Z2:Hid (v'.ownBlock=(Value.slice av l.length cv).ownBlock∨∀ g,v'.ownBlock=some g→w.heap.size≤g):=Lib.hid (hat.imp id (fun q g hg=>by
   rw [q] at hg
   have:=Option.some.inj hg
   first | omega | (simp at this;omega)))
  have Z3:Hid (Kps (fun j=>(Value.slice av l.length cv).ownBlock=some j) w w2):=Lib.hid (by
   have k1:Kps (fun j=>(Value.slice av l.length cv).ownBlock=some j) w ((w1.alloc (.cells #[.int .i64 x.1,.int .i64 x.2] 97)).alloc (.cells #[.int .i64 x.1,.int .i64 x.2] 97)):=Kps.of_below ((HB1.out.alloc sz _).alloc (by simp;omega) _)
   exact k1.trans (grown_kps hgrow) (Gr.refl _ _))
  clear hown' hgrow hat HO1
  go_wp2
  go_ret2
  exact Or.inl ⟨x,v',HX.out,rfl,Z1.out,Z2.out,Z3.out⟩
 ·have HX:=Lib.hid hx
  clear hx HO
  go_wp2
  go_ret2
  exact Or.inr ⟨HX.out,⟨j,rfl⟩,hb.alloc hb.size _⟩
set_option maxRecDepth 100000 in
set_option maxHeartbeats 4000000 in
theorem with_alm (g:FuncId) (eg:∀ args w,(callFunc g args).run Tryz.prog w=.ok (.enter g args) w) (o:Option (Int × Bool × Int × Int)) (s:ByteArray) (v:Value) (l:List (Int × Bool × Int × Int)) (B:Nat) (w:World) (hown:w.ownsRow B 50 4 v l.length (l.flatMap eA)) (hB:B≤w.heap.size) (hl:l.length≤2000000)
 (hg:Calls Tryz.prog g #[.string s] w (OpA vAl o w)):Calls Tryz.prog 117 #[v,.string s,.func (.func g) #[] #[]] w (WiA eA 50 4 o l B v w):=by
 obtain ⟨i0,hi,hz0,hz1,hz2⟩:=info_parts info_wa
 have HO:=Lib.hid hown
 have HG:=Lib.hid hg
 have wl:w.heap.size≤w.heap.size:=Nat.le_refl _
 obtain ⟨av,cv,rfl⟩:=slice_form hown
 clear hown hg
 unfold WiA
 go_enter Tryz.func117,Tryz.ntmps117
 go_wp2_with fail
 refine HG.out.mono ?_
 rintro e w1 ⟨hb,hx⟩
 clear HG
 rcases hx with ⟨x,hx,rfl⟩ | ⟨hx,x,j,rfl⟩
 ·have HO1:=Lib.hid (own_below HO.out hb)
  have HX:=Lib.hid hx
  have sz:=hb.size
  have HB1:=Lib.hid hb
  clear hx hb HO
  go_wp2_with (at_builtin;(refine wpList_append_own_at _ rfl _ _ 30 rfl B 50 i0 (.agg #[.int .i64 0,.bool false,.int .i64 0,.int .i64 0]) 4 32 Tryz.underlying30 hi hz0 hz1 hz2 rfl (by decide) _ _ _ rfl ((HO1.out.alloc _).alloc _) ⟨w1.heap.size + 1,0,none⟩ 1 1 (eA x) rfl rfl ?c1 ?c2 ?c3 ?c4 ?c5 ?_))
  case c1=>
   rw [show w1.heap.size + 1=(w1.alloc (.cells #[.int .i64 x.1,.bool x.2.1,.int .i64 x.2.2.1,.int .i64 x.2.2.2] 50)).heap.size by simp]
   intro j u hj
   match j,hj with
   | 0,hj=>simp at hj;subst hj;simp [Addr.add]
   | 1,hj=>simp at hj;subst hj;simp [Addr.add]
   | 2,hj=>simp at hj;subst hj;simp [Addr.add]
   | 3,hj=>simp at hj;subst hj;simp [Addr.add]
  case c2=>intro u hu;simp [eA] at hu;rcases hu with rfl | rfl | rfl | rfl <;> rfl
  case c3=>unfold maxLen;omega
  case c4=>omega
  case c5=>simp;omega
  intro v' w2 hown' hgrow _ hat
  have Z1:Hid (w2.ownsRow B 50 4 v' (l++[x]).length ((l++[x]).flatMap eA)):=Lib.hid (by
   rw [List.length_append,List.flatMap_append,List.flatMap_singleton]
   exact hown')
  have Z2:Hid (v'.ownBlock=(Value.slice av l.length cv).ownBlock∨∀ g,v'.ownBlock=some g→w.heap.size≤g):=Lib.hid (hat.imp id (fun q g hg=>by
   rw [q] at hg
   have:=Option.some.inj hg
   first | omega | (simp at this;omega)))
  have Z3:Hid (Kps (fun j=>(Value.slice av l.length cv).ownBlock=some j) w w2):=Lib.hid (by
   have k1:Kps (fun j=>(Value.slice av l.length cv).ownBlock=some j) w ((w1.alloc (.cells #[.int .i64 x.1,.bool x.2.1,.int .i64 x.2.2.1,.int .i64 x.2.2.2] 50)).alloc (.cells #[.int .i64 x.1,.bool x.2.1,.int .i64 x.2.2.1,.int .i64 x.2.2.2] 50)):=Kps.of_below ((HB1.out.alloc sz _).alloc (by simp;omega) _)
   exact k1.trans (grown_kps hgrow) (Gr.refl _ _))
  clear hown' hgrow hat HO1
  go_wp2
  go_ret2
  exact Or.inl ⟨x,v',HX.out,rfl,Z1.out,Z2.out,Z3.out⟩
 ·have HX:=Lib.hid hx
  clear hx HO
  go_wp2
  go_ret2
  exact Or.inr ⟨HX.out,⟨j,rfl⟩,hb.alloc hb.size _⟩
end Go.Proofs.YtcadomjkjoiakaaGreatDoor
