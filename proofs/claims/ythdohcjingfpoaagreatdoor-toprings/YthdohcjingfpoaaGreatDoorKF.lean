/-
  What is proved here: what rings till a time, in plain words; the names in memory; an event of a desk's map as it is looked up.
  What is proved here: what (*desk.Desk).due answers (a contract over the translation).
-/
import Derived.Test.YthdohcjingfpoaaGreatDoorDkPut
import Derived.Test.YthdohcjingfpoaaGreatDoorDkTil
import Derived.Test.YthdohcjingfpoaaGreatDoorWB
import Derived.Deep.RegionHeld3
namespace Go.Proofs.YthdohcjingfpoaaGreatDoor.Dk
open Go.RowKit Qu Go.Maps
def toQ (nm:ByteArray) (x:Rg):Rq:=(x.1,nm,x.2.1,x.2.2.1,x.2.2.2)
theorem encR_Q (nm:ByteArray) (L:List Rg):L.flatMap (encR nm)=(L.map (toQ nm)).flatMap encQ:=by rw [List.flatMap_map];rfl
theorem own_toQ {w:World} {n0:Nat} {u:Value} {nm:ByteArray} {L:List Rg} (h:w.ownsRow n0 45 5 u L.length (L.flatMap (encR nm))):Ow w n0 u (L.map (toQ nm)):=by
 show w.ownsRow n0 45 5 u (L.map (toQ nm)).length ((L.map (toQ nm)).flatMap encQ)
 rw [List.length_map,← encR_Q]
 exact h
def srtQ:List Rq→List Rq
 | []=>[]
 | r :: A=>if hasQ (srtQ A) r=true then srtQ A else put (srtQ A) r
theorem srtQ_rs:∀ A:List Rq,Rs (srtQ A)
 | []=>List.Pairwise.nil
 | r :: A=>by
   unfold srtQ
   split
   ·exact srtQ_rs A
   ·exact put_rs (srtQ_rs A)
theorem srtQ_mem {z:Rq}:∀ {A:List Rq},z∈srtQ A↔z∈A
 | []=>Iff.rfl
 | r :: A=>by
   unfold srtQ
   split
   ·rename_i h
    rw [srtQ_mem,List.mem_cons]
    exact ⟨fun q=>Or.inr q,fun q=>by
     rcases q with rfl | q
     ·exact srtQ_mem.1 (hasQ_iff.1 h)
     ·exact q⟩
   ·rename_i h
    have h':hasQ (srtQ A) r=false:=by
     rcases hq:hasQ (srtQ A) r with _ | _
     ·rfl
     ·exact absurd hq h
    rw [put_mem (hasQ_not.1 h'),srtQ_mem,List.mem_cons]
    exact Or.comm
theorem srtQ_of {A B:List Rq} (hp:A.Perm B) (hs:B.Pairwise (fun x y=>¬ oc y x<0)):cpQ B=srtQ A:=
 rs_ext (cpQ_rs hs) (srtQ_rs A) (fun z=>by rw [cpQ_mem,srtQ_mem];exact hp.mem_iff.symm)
theorem srtQ_same {M:List Rq} (h:Rs M):srtQ M=M:=rs_ext (srtQ_rs M) h (fun _=>srtQ_mem)
theorem srtQ_len (A:List Rq):(srtQ A).length≤A.length:=by
 induction A with
 | nil=>exact Nat.le_refl _
 | cons r A ih=>
   unfold srtQ
   split
   ·rw [List.length_cons];omega
   ·rename_i h
    have h':hasQ (srtQ A) r=false:=by
     rcases hq:hasQ (srtQ A) r with _ | _
     ·rfl
     ·exact absurd hq h
    have:(put (srtQ A) r).length≤(srtQ A).length + 1:=by
     unfold put
     rw [List.length_append,List.length_cons]
     have e:∀ M:List Rq,(M.filter (fun x=>decide (oc x r<0))).length + (M.filter (fun x=>decide (0<oc x r))).length≤M.length:=by
      intro M
      induction M with
      | nil=>simp
      | cons x M ih=>
        rw [List.filter_cons,List.filter_cons]
        by_cases c1:oc x r<0
        ·have c2:¬ 0<oc x r:=by omega
         simp [c1,c2];omega
        ·by_cases c2:0<oc x r
         ·simp [c1,c2];omega
         ·simp [c1,c2];omega
     have:=e (srtQ A)
     omega
    rw [List.length_cons]
    omega
def fsF:List Int→Int
 | []=>0
 | x :: r=>if x=0 then fsF r else x
theorem fsF_all:∀ {l:List Int},(∀ x∈l,x=0)→fsF l=0
 | [],_=>rfl
 | x :: r,h=>by
   unfold fsF
   rw [if_pos (h x List.mem_cons_self)]
   exact fsF_all (fun y hy=>h y (List.mem_cons_of_mem _ hy))
theorem fsF_at:∀ {l:List Int} {k:Nat} {x:Int},(∀ y∈l.take k,y=0)→l[k]?=some x→¬ x=0→fsF l=x
 | [],k,x,_,h,_=>by simp at h
 | a :: r,0,x,_,h,hx=>by
   simp at h
   subst h
   unfold fsF
   rw [if_neg hx]
 | a :: r,k + 1,x,h,hk,hx=>by
   unfold fsF
   rw [if_pos (h a (by simp))]
   exact fsF_at (k:=k) (fun y hy=>h y (by simp [hy])) (by simpa using hk) hx
def rgF (D:Ds) (t:Int) (e:Evt):Int:=tlF D.a D.l e (D.now + 1) t
def rgR (D:Ds) (t:Int) (e:Evt):List Rq:=(tlL D.a D.l e (D.now + 1) t).map (toQ e.name)
theorem rgR_len (D:Ds) (t:Int) (e:Evt):(rgR D t e).length≤400:=by
 unfold rgR
 rw [List.length_map]
 unfold tlL
 split
 ·unfold waL
  split
  ·rename_i h
   unfold waF at h
   split at h
   ·cases h
   ·omega
  ·simp
 ·simp
def duG (D:Ds) (t:Int) (k:Nat):List Rq:=dueQ D.snz t++(D.ev.take k).flatMap (rgR D t)
theorem duG_zero (D:Ds) (t:Int):duG D t 0=dueQ D.snz t:=by simp [duG]
theorem duG_next (D:Ds) (t:Int) {k:Nat} (hk:k<D.ev.length):duG D t (k + 1)=duG D t k++rgR D t (D.ev.getD k noE):=by
 unfold duG
 rw [List.take_succ_eq_append_getElem hk,List.flatMap_append,List.append_assoc]
 simp [List.getD_eq_getElem?_getD,List.getElem?_eq_getElem hk]
theorem flat_le {α:Type} (f:α→List Rq) (h:∀ x,(f x).length≤400):∀ l:List α,(l.flatMap f).length≤400 * l.length
 | []=>by simp
 | x :: r=>by
   rw [List.flatMap_cons,List.length_append,List.length_cons]
   have:=h x
   have:=flat_le f h r
   omega
theorem duG_len (D:Ds) (t:Int) (k:Nat):(duG D t k).length≤D.snz.length + 400 * D.ev.length:=by
 unfold duG
 rw [List.length_append]
 have h1:(dueQ D.snz t).length≤D.snz.length:=List.length_filter_le _ _
 have h2:=flat_le (rgR D t) (rgR_len D t) (D.ev.take k)
 have h3:(D.ev.take k).length≤D.ev.length:=by rw [List.length_take];omega
 omega
def duF (D:Ds) (t:Int):Int:=fsF (D.ev.map (rgF D t))
def duL (D:Ds) (t:Int):List Rq:=if duF D t=0 then srtQ (duG D t D.ev.length) else []
theorem due_not (M:List Rq) (t:Int):M.filter (fun x=>!decide (t<x.1))=dueQ M t:=by
 unfold dueQ
 apply List.filter_congr
 intro x _
 by_cases h:t<x.1
 ·have:¬ x.1≤t:=by omega
  simp [h,this]
 ·have:x.1≤t:=by omega
  simp [h,this]
theorem later_not (M:List Rq) (t:Int):M.filter (fun x=>!decide (x.1≤t))=laterQ M t:=by
 unfold laterQ
 apply List.filter_congr
 intro x _
 by_cases h:t<x.1
 ·have:¬ x.1≤t:=by omega
  simp [h,this]
 ·have:x.1≤t:=by omega
  simp [h,this]
theorem nm_row {w:World} {n0:Nat} {v:Value} {l:List Evt} (h:w.ownsRow n0 9 1 v l.length (nms l)):∃ a cap,v=.slice a l.length cap∧(l=[]∨∃ g cur,a=some ⟨g,0,none⟩∧w.heap[g]?=some (.cells cur 9 (0,0))∧∀ X:World,X.heap[g]?=w.heap[g]?→∀ i,i<l.length→X.cell? ⟨g,i,none⟩=some (.string (l.getD i noE).name)):=by
 rcases h.2 with ⟨hv,h0⟩ | ⟨g,cap,cur,hv,hb,hg,hc,hm,hs,ht⟩
 ·exact ⟨none,0,by rw [hv,h0],Or.inl (List.eq_nil_of_length_eq_zero h0)⟩
 ·refine ⟨some ⟨g,0,none⟩,cap,hv,Or.inr ⟨g,cur,rfl,hg,fun X hX i hi=>?_⟩⟩
  have:=h.cells (g:=g) (by rw [hv];rfl) i (.string (l.getD i noE).name) (by unfold nms;rw [List.getElem?_map,List.getElem?_eq_getElem hi,List.getD_eq_getElem?_getD,List.getElem?_eq_getElem hi];rfl)
  have hadd:(⟨g,0,none⟩:Addr).add i=⟨g,0 + i,none⟩:=by unfold Addr.add;split <;> simp_all
  rw [hadd,Nat.zero_add] at this
  exact (World.cell?_of_block (a:=⟨g,i,none⟩) hX).trans this
variable {w w' W:World} {b:Nat} {D:Ds} {R:Raw}
set_option maxRecDepth 100000 in
theorem Dm.get (h:Dm w b D R) (hs:Srt D.ev) {k:Nat} (hk:k<D.ev.length) (hn:(D.ev.getD k noE).name.size≤maxLen):∃ s,(D.ev.getD k noE,s)∈R.le∧∀ X,Dm X b D R→(Instr.lookup 80 (.map (some R.bm)) (.string (D.ev.getD k noE).name) false).run Tryz.prog X=.ok (.agg (ecells (D.ev.getD k noE) s)) X:=by
 have hkR:k<R.le.length:=by have:=congrArg List.length h.le;rw [List.length_map] at this;omega
 have e1:D.ev.getD k noE=(R.le[k]).1:=by
  rw [← h.le,List.getD_eq_getElem?_getD,List.getElem?_map,List.getElem?_eq_getElem hkR]
  rfl
 rcases hp:R.le[k] with ⟨e,s⟩
 have hm:(e,s)∈R.le:=by rw [← hp];exact List.getElem_mem hkR
 rw [hp] at e1
 dsimp only at e1
 rw [e1] at hn ⊢
 refine ⟨s,hm,fun X hX=>?_⟩
 obtain ⟨v,ps,hr,hv⟩:=hX.map.lookup law Tryz.underlying80 (zero_ev X) (zd:=.held (evV (noE,noS))) (zp:=[]) rfl (key_nk hn)
 unfold tokR at hv
 have h1:=congrArg (fun o=>o.map Prod.fst) hv
 simp only [Option.map_some,Option.some.injEq] at h1
 have hs':Srt (R.le.map Prod.fst):=by rw [h.le];exact hs
 rw [evD_at,fnd_of hs' hm] at h1
 injection h1 with h1
 rw [h1] at hr
 exact hr
end Go.Proofs.YthdohcjingfpoaaGreatDoor.Dk
namespace Go.Proofs.YthdohcjingfpoaaGreatDoor.Dk
open Go.RowKit Qu Go.Maps
variable {w w' W:World} {b:Nat} {D:Ds} {R:Raw}
theorem nm_ne {w:World} {n0 g:Nat} {v:Value} {M:List Rq} {cur:Array Value} (h:Ow w n0 v M) (hg:w.heap[g]?=some (.cells cur 9 (0,0))):some g≠v.ownBlock:=fun e=>by
 obtain ⟨L,hL⟩:=Ow.ring h e.symm
 rw [hg] at hL
 injection hL with hL
 injection hL with _ hL
 revert hL
 decide
theorem heap_lt {w:World} {g:Nat} {o:Obj} (h:w.heap[g]?=some o):g<w.heap.size:=(Array.getElem?_eq_some_iff.1 h).1
def DuA (D:Ds) (t:Int) (w:World) (x:Ending) (w':World):Prop:=∃ u,x=.returned (.tuple #[u,fault (duF D t)])∧Ow w' w.heap.size u (duL D t)∧Below w.heap.size w w'
set_option maxRecDepth 100000 in
set_option maxHeartbeats 8000000 in
theorem ddue_any (t:Int) (h:Dm w b D R) (hT:Tab w) (hs:Srt D.ev) (hn:∀ e∈D.ev,e.name.size≤8) (h2:D.snz.length≤1000) (h3:D.ev.length≤100) (h0:0≤D.now) (h1:D.now≤157785119) :
 Calls Tryz.prog 67 #[.pointer (some ⟨b,0,none⟩),.int .i64 t] w (DuA D t w):=by
 obtain ⟨W0,hW0⟩:∃ W0,W0=w.alloc (.cells #[.int .i64 t] 3):=⟨_,rfl⟩
 have b0:Below w.heap.size w W0:=by rw [hW0];exact below_alloc _ _
 have s0:W0.heap.size=w.heap.size + 1:=by rw [hW0,World.size_alloc]
 have c0:W0.cell? ⟨w.heap.size,0,none⟩=some (.int .i64 t):=by rw [hW0];simp
 have bl:b<w.heap.size:=h.lt
 have gl:=cell_in c0
 have HD:Hid (∀ X,Below W0.heap.size W0 X→Dm X b D R):=Lib.hid (fun X q=>(h.onB b0).onB q)
 have HT:Hid (∀ X,Below W0.heap.size W0 X→Tab X):=Lib.hid (fun X q=>(hT.below b0).below q)
 have HC:Hid (∀ X,Below W0.heap.size W0 X→X.cell? ⟨w.heap.size,0,none⟩=some (.int .i64 t)):=Lib.hid (fun X q=>(q.cell (p:=⟨w.heap.size,0,none⟩) gl).trans c0)
 have eg:∀ args w,(callFunc 110 args).run Tryz.prog w=.ok (.enter 110 args) w:=enters_of Tryz.func110 (by kernel_rfl) rfl
 have K1:Hid (Calls Tryz.prog 34 #[R.sn] W0 fun x w1=>∃ u1,x=.returned u1∧b<w1.heap.size∧Hid (Calls Tryz.prog 70 #[u1,(.func (.func 110) #[] #[.pointer (some ⟨w.heap.size,0,none⟩)])] w1 fun y w2=>∃ u2,y=.returned u2∧Hid (Ow w2 W0.heap.size u2 (dueQ D.snz t))∧Below W0.heap.size W0 w2)):=Lib.hid
  ((cln_rng R.sn D.snz W0 (rd_row (HD.out W0 (Below.refl _ _)).snz.rd) (by omega)).mono (fun x w1 ⟨u1,hx,ho,hb⟩=>⟨u1,hx,(HD.out w1 hb).lt,Lib.hid (by
    refine (delQ _ _ (fun z=>decide (t<z.1)) D.snz W0.heap.size u1 w1 eg (fun c W q=>isLater_any c t _ W ?_) ho (by omega)).mono (fun y w2 ⟨u2,hy,ho2,_,hg⟩=>⟨u2,hy,Lib.hid ?_,hb.grown hg hb.size (fun j hj=>(ho.lt j hj).1)⟩)
    ·have hq:=HC.out w1 hb
     exact (World.cell?_of_block (a:=⟨w.heap.size,0,none⟩) (q.block _ (cell_in hq) (fun e=>by have:=(ho.lt _ e.symm).1;omega))).trans hq
    ·rw [← due_not]
     exact ho2)⟩))
 have K3:Hid (∀ X,Below W0.heap.size W0 X→Calls Tryz.prog 12 #[.pointer (some ⟨b,0,none⟩)] X fun x w3=>∃ a cap,x=.returned (.slice a D.ev.length cap)∧Below X.heap.size X w3∧Hid (D.ev=[]∨∃ g cur,a=some ⟨g,0,none⟩∧w3.heap[g]?=some (.cells cur 9 (0,0))∧∀ Y:World,Y.heap[g]?=w3.heap[g]?→∀ i,i<D.ev.length→Y.cell? ⟨g,i,none⟩=some (.string (D.ev.getD i noE).name))):=Lib.hid (fun X q=>
  (dnames_any (HD.out X q) hs (by omega)).mono (fun x w3 ⟨v,hx,ho,hb⟩=>by
   obtain ⟨a,cap,e,hr⟩:=nm_row ho
   exact ⟨a,cap,by rw [hx,e],hb,Lib.hid hr⟩))
 have HZ:Hid (∀ X,Below W0.heap.size W0 X→∀ k,k<D.ev.length→∃ s,(∀ Y,Below W0.heap.size W0 Y→∀ e,e=D.ev.getD k noE→(fun X:World=>X.cell? ⟨b,0,none⟩=some (.int .i64 D.a)∧X.cell? ⟨b,1,none⟩=some R.sh∧X.cell? ⟨b,2,none⟩=some (.map (some R.bm))∧X.cell? ⟨b,3,none⟩=some (.int .i64 D.now)∧X.cell? ⟨w.heap.size,0,none⟩=some (.int .i64 t)∧(Instr.lookup 80 (.map (some R.bm)) (.string e.name) false).run Tryz.prog X=.ok (.agg (ecells e s)) X) Y)∧EvB X (D.ev.getD k noE) s):=Lib.hid (fun X q k hk=>by
  have hm:D.ev.getD k noE∈D.ev:=by rw [List.getD_eq_getElem?_getD,List.getElem?_eq_getElem hk];exact List.getElem_mem hk
  obtain ⟨s,hs1,hs2⟩:=(HD.out X q).get hs hk (by have:=hn _ hm;unfold maxLen;omega)
  refine ⟨s,fun Y qY e he=>?_,((HD.out X q).evs _ hs1).now⟩
  subst he
  obtain ⟨k0,k1,k2,k3,_⟩:=(HD.out Y qY).cells
  exact ⟨k0,k1,k2,k3,HC.out Y qY,hs2 Y (HD.out Y qY)⟩)
 have HZN:Hid (∀ X,Below W0.heap.size W0 X→ZoneIn X (.agg #[.int .i64 D.a,R.sh]) D.a D.l):=Lib.hid (fun X q=>⟨_,rfl,(HD.out X q).zone.now⟩)
 have FB:Hid (∀ k,k<D.ev.length→(∀ e∈D.ev.take k,rgF D t e=0)→¬ rgF D t (D.ev.getD k noE)=0→∀ X,Below W0.heap.size W0 X→DuA D t w (.returned (.tuple #[.slice none 0 0,fault (rgF D t (D.ev.getD k noE))])) X):=Lib.hid (fun k hk ha hq X q=>by
  have e1:duF D t=rgF D t (D.ev.getD k noE):=fsF_at (k:=k) (fun y hy=>by
   rw [← List.map_take] at hy
   obtain ⟨e,he,rfl⟩:=List.mem_map.1 hy
   exact ha e he) (by rw [List.getElem?_map,List.getElem?_eq_getElem hk,List.getD_eq_getElem?_getD,List.getElem?_eq_getElem hk];rfl) hq
  have e2:duL D t=[]:=if_neg (by rw [e1];exact hq)
  exact ⟨_,by rw [e1],by rw [e2];exact World.ownsRow_nil _ _ _ _,b0.trans (q.mono b0.size)⟩)
 have FG:Hid ((∀ e∈D.ev,rgF D t e=0)→∀ X u B,Below W0.heap.size W0 X→(duG D t D.ev.length).Perm B→B.Pairwise (fun x y=>¬ oc y x<0)→Ow X W0.heap.size u (cpQ B)→DuA D t w (.returned (.tuple #[u,.nilIface])) X):=Lib.hid (fun ha X u B q hp hpw ho=>by
  have e1:duF D t=0:=fsF_all (fun y hy=>by
   obtain ⟨e,he,rfl⟩:=List.mem_map.1 hy
   exact ha e he)
  have e2:duL D t=cpQ B:=by
   unfold duL
   rw [if_pos e1,srtQ_of hp hpw]
  exact ⟨u,by rw [e1];rfl,by rw [e2];exact own_lower ho b0.size,b0.trans (q.mono b0.size)⟩)
 have DL:=Lib.hid (fun k=>duG_len D t k)
 have HW:=Lib.hid hW0
 have c5:=(HD.out W0 (Below.refl _ _)).cells.2.2.2.2.2
 have bl0:b<W0.heap.size:=cell_in c5
 have q0:IntKind.i64.wrap (D.now + 1)=D.now + 1:=by rw [IntKind.wrap_i64];omega
 have L2:=Lib.hid h2
 have L3:=Lib.hid h3
 generalize DuA D t w=PP at FB FG ⊢
 clear h hT hs hn h2 h3 hW0 b0 eg HC
 go_enter Tryz.func67,Tryz.ntmps67
 go_upto_region 1 with fail
 rw [← HW.out]
 clear HW
 go_wp2_with fail
 refine K1.out.mono ?_
 rintro x w1 ⟨u1,rfl,bl1,K2⟩
 clear K1 c0 c5 bl0 gl
 go_wp2_with fail
 refine K2.out.mono ?_
 rintro x w2 ⟨u2,rfl,O2,hb2⟩
 have B2:=Lib.hid hb2
 have bl2:=(HD.out w2 hb2).lt
 clear K2 bl1 hb2
 go_wp2_with fail
 refine (K3.out w2 B2.out).mono ?_
 rintro x w3 ⟨a,cap,rfl,hb3,HN⟩
 have B3:=Lib.hid (B2.out.trans (hb3.mono B2.out.size))
 have O3:=Lib.hid (ow_below O2.out hb3)
 clear K3 O2 bl2 hb3
 go_wp2_with fail
 go_loopw [7,9,10,11,23] (fun lv _ _ _ iv WW=>∃ k:Nat,k≤D.ev.length∧iv=.int .i64 k∧Hid (Ow WW W0.heap.size lv (duG D t k))∧Hid (Below W0.heap.size W0 WW)∧Hid (∀ e∈D.ev.take k,rgF D t e=0)∧Hid (∀ g cur,a=some ⟨g,0,none⟩→w3.heap[g]?=some (.cells cur 9 (0,0))→WW.heap[g]?=w3.heap[g]?)) (fun _ _ _ _ iv _=>D.ev.length - (intOf iv).toNat)
 case atStart=>exact ⟨0,Nat.zero_le _,rfl,Lib.hid (by rw [duG_zero];exact O3.out),B3,Lib.hid (by simp),Lib.hid (fun _ _ _ _=>rfl)⟩
 case round=>
  obtain ⟨k,hk,rfl,HO,HB,HA,HM⟩:=hrel
  by_cases hlt:k<D.ev.length
  ·rcases HN.out with hn | ⟨g,cur,rfl,hg,hcell⟩
   ·rw [hn] at hlt;simp at hlt
   have hM:=HM.out g cur rfl hg
   have gb2:g<wr.heap.size:=heap_lt (hM.trans hg)
   have nm:=hcell wr hM k hlt
   obtain ⟨s,hS,hE⟩:=HZ.out wr HB.out k hlt
   have FBk:=Lib.hid (FB.out k hlt HA.out)
   have GN:=Lib.hid (duG_next D t hlt)
   have HA2:Hid (rgF D t (D.ev.getD k noE)=0→∀ e∈D.ev.take (k + 1),rgF D t e=0):=Lib.hid (fun q e he=>by
    rw [List.take_succ_eq_append_getElem hlt,List.mem_append] at he
    rcases he with he | he
    ·exact HA.out e he
    ·have e1:e=D.ev.getD k noE:=by
      rw [List.getD_eq_getElem?_getD,List.getElem?_eq_getElem hlt]
      simpa using he
     rw [e1]
     exact q)
   obtain ⟨e,he⟩:∃ e,e=D.ev.getD k noE:=⟨_,rfl⟩
   rw [← he] at nm hE FBk GN HA2
   have HS:Hid (∀ Y,Below W0.heap.size W0 Y→(fun X:World=>X.cell? ⟨b,0,none⟩=some (.int .i64 D.a)∧X.cell? ⟨b,1,none⟩=some R.sh∧X.cell? ⟨b,2,none⟩=some (.map (some R.bm))∧X.cell? ⟨b,3,none⟩=some (.int .i64 D.now)∧X.cell? ⟨w.heap.size,0,none⟩=some (.int .i64 t)∧(Instr.lookup 80 (.map (some R.bm)) (.string e.name) false).run Tryz.prog X=.ok (.agg (ecells e s)) X) Y):=Lib.hid (fun Y q=>hS Y q e he)
   have KT:Hid (Calls Tryz.prog 111 #[.agg #[.int .i64 D.a,R.sh],.agg (ecells e s),.int .i64 (D.now + 1),.int .i64 t] wr.drew fun x w5=>∃ u5,x=.returned (.tuple #[u5,fault (rgF D t e)])∧Hid (Below W0.heap.size W0 w5)∧Hid (Ow w5 W0.heap.size u7 (duG D t k))∧Hid (Rd w5 u5 (rgR D t e))∧Hid (w5.heap[g]?=w3.heap[g]?)):=Lib.hid (by
    have bd:Below wr.heap.size wr wr.drew:=Below.drew (Below.refl _ _)
    have qd:=HB.out.trans (bd.mono HB.out.size)
    refine (till_any D.a D.l _ e s (D.now + 1) t wr.drew (HZN.out _ qd) (hE.on bd) (HT.out _ qd)).mono (fun x w5 ⟨u5,hx,hb,ho⟩=>⟨u5,hx,Lib.hid (qd.trans (hb.mono qd.size)),Lib.hid (ow_below HO.out (bd.trans hb)),Lib.hid (own_toQ ho).rd,Lib.hid (((bd.trans hb).block g gb2).trans hM)⟩))
   clear hS hE he hcell HZ HT HZN HA FB FG
   go_upto_region 6 with fail
   clear nm
   by_cases hF:rgF D t e=0
   case neg=>
    have N1:=Lib.hid (FBk.out hF)
    rw [efault_ne hF] at KT N1
    generalize rgF D t e=F at KT N1
    clear GN HA2 hF FBk
    go_region_held3 (fun X:World=>X.cell? ⟨b,0,none⟩=some (.int .i64 D.a)∧X.cell? ⟨b,1,none⟩=some R.sh∧X.cell? ⟨b,2,none⟩=some (.map (some R.bm))∧X.cell? ⟨b,3,none⟩=some (.int .i64 D.now)∧X.cell? ⟨w.heap.size,0,none⟩=some (.int .i64 t)∧(Instr.lookup 80 (.map (some R.bm)) (.string e.name) false).run Tryz.prog X=.ok (.agg (ecells e s)) X)
     (first | exact HS.out _ (Below.drew HB.out) | exact HS.out _ hb5.out)
     (first | (go_at_call 111;refine KT.out.mono ?_;rintro x w5 ⟨u5,rfl,hb5,O5,R5,M5⟩))
    go_wp2
    exact N1.out _ hb5.out
   case pos=>
    have HA3:=Lib.hid (HA2.out hF)
    rw [hF,efault_0] at KT
    clear FBk HA2 hF
    go_region_held3 (fun X:World=>X.cell? ⟨b,0,none⟩=some (.int .i64 D.a)∧X.cell? ⟨b,1,none⟩=some R.sh∧X.cell? ⟨b,2,none⟩=some (.map (some R.bm))∧X.cell? ⟨b,3,none⟩=some (.int .i64 D.now)∧X.cell? ⟨w.heap.size,0,none⟩=some (.int .i64 t)∧(Instr.lookup 80 (.map (some R.bm)) (.string e.name) false).run Tryz.prog X=.ok (.agg (ecells e s)) X)
     (first | exact HS.out _ (Below.drew HB.out) | exact HS.out _ hb5.out)
     (first | (go_at_call 111;refine KT.out.mono ?_;rintro x w5 ⟨u5,rfl,hb5,O5,R5,M5⟩))
    have d1:=DL.out k
    have d2:=rgR_len D t e
    obtain ⟨v7,w7,ap,o7,g7,p7⟩:=app5_at O5.out R5.out hb5.out.size (by have:=L2.out;have:=L3.out;omega)
    rw [← GN.out] at o7
    have AP:=Lib.hid ap
    have O7:=Lib.hid o7
    have M7:Hid (w7.heap[g]?=w3.heap[g]?):=Lib.hid ((g7.block g (heap_lt (M5.out.trans hg)) (nm_ne O5.out (M5.out.trans hg))).trans M5.out)
    have B7:=Lib.hid (hb5.out.grown g7 hb5.out.size (fun j hj=>(O5.out.lt j hj).1))
    clear ap o7 g7 p7 d1 d2 KT O5 R5 M5 HO HM HS hg hM gb2
    have l3:=L3.out
    have q1:IntKind.i64.wrap ((k:Int) + 1)=(k:Int) + 1:=by rw [IntKind.wrap_i64];omega
    go_wp2_with (at_builtin;refine wpl_app _ rfl _ _ 41 41 rfl _ _ rfl rfl (AP.out _) ?_)
    go_roundw
    case rel=>exact ⟨k + 1,by omega,by go_num,O7,B7,HA3,Lib.hid (fun g2 cur2 e1 _=>by injection e1 with e1;injection e1 with e1;subst e1;exact M7.out)⟩
    case measure=>simp [intOf];omega
  ·have ek:k=D.ev.length:=by omega
   subst ek
   have HA1:∀ e∈D.ev,rgF D t e=0:=fun e he=>HA.out e (by rw [List.take_length];exact he)
   have dl:=DL.out D.ev.length
   have KS:Hid (Calls Tryz.prog 59 #[u7,.func (.func 13) #[] #[]] wr fun x w8=>x=.returned (.tuple #[])∧Hid (Calls Tryz.prog 112 #[u7] w8 fun y w9=>∃ u,y=.returned u∧Hid (PP (.returned (.tuple #[u,.nilIface])) w9))):=Lib.hid
    ((sortQ_any (duG D t D.ev.length) W0.heap.size u7 wr HO.out (by have:=L2.out;have:=L3.out;omega)).mono (fun x w8 ⟨hx,B,hp,hpw,hg8,ho8⟩=>⟨hx,Lib.hid ((compactQ B W0.heap.size u7 w8 ho8 (by have:=L2.out;have:=L3.out;have:=hp.length_eq;omega)).mono (fun y w9 ⟨u,hy,ho9,_,hg9⟩=>⟨u,hy,Lib.hid (FG.out HA1 w9 u B ((HB.out.grown hg8 HB.out.size (fun j hj=>(HO.out.lt j hj).1)).grown hg9 (Nat.le_trans HB.out.size hg8.size) (fun j hj=>(ho8.lt j hj).1)) hp (by first | exact hpw | exact hpw.imp (fun q=>Int.not_lt.1 q)) ho9)⟩))⟩))
   clear HA1 dl HA HZ HT HZN FB FG HM HO HN DL
   go_wp2_with fail
   refine KS.out.mono ?_
   rintro x w8 ⟨rfl,K9⟩
   clear KS
   go_wp2_with fail
   refine K9.out.mono ?_
   rintro x w9 ⟨u,rfl,FI⟩
   clear K9
   go_wp2
   exact FI.out
end Go.Proofs.YthdohcjingfpoaaGreatDoor.Dk
