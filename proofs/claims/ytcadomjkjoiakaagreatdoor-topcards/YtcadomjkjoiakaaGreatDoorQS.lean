/-
  Texts of our own that serve the card of this claim, joined into one.
-/
import Derived.Test.YtcadomjkjoiakaaGreatDoorCbVal
import Derived.Test.YtcadomjkjoiakaaGreatDoorRD
import Derived.RangeFuncCalls
import Derived.RangeFuncLeaves
import Derived.Shelf.Abstract
import Derived.Shelf.RegionOpen
import Derived.WalkKit
import Derived.OwnWalkIn
import Derived.TacticsInMore
import Derived.LoopNIn
import Derived.LoopIn
import Derived.Test.YtcadomjkjoiakaaGreatDoorRA
import Derived.Test.YtcadomjkjoiakaaGreatDoorRG
import Derived.Test.YtcadomjkjoiakaaGreatDoorQJ
import Derived.Test.YtcadomjkjoiakaaGreatDoorQZ
namespace Go.Proofs.YtcadomjkjoiakaaGreatDoor
open Go.RowKit Go.Shelf Cal Txt Ln Cb
attribute [local go_sem] Oper.semAt_some
def lnK (e:Evt) (k:Nat):List (ByteArray × ByteArray):=(vls e k).map fun v=>(tb (ky k),tb v)
def lnF (e:Evt) (k:Nat):List (ByteArray × ByteArray):=((List.range 9).drop k).flatMap (lnK e)
theorem lnF_on (e:Evt) {k:Nat} (h:k<9):lnF e k=lnK e k++lnF e (k + 1):=by
 unfold lnF
 rw [List.drop_eq_getElem_cons (by simpa using h),List.flatMap_cons,List.getElem_range]
theorem lnF_end (e:Evt):lnF e 9=[]:=rfl
abbrev en2 (p:ByteArray × ByteArray):Array Value:=#[.string p.1,.string p.2]
def EvK (W:World) (b:Nat) (e:Evt) (s:Evs):Prop:=W.heap[b]?=some (.cells (ecells e s) 32)
theorem EvK.lt {W:World} {b:Nat} {e:Evt} {s:Evs} (h:EvK W b e s):b<W.heap.size:=(Array.getElem?_eq_some_iff.1 h).1
theorem EvK.box {W:World} {b:Nat} {e:Evt} {s:Evs} (h:EvK W b e s):EBox W b e s:=by
 unfold EvK at h
 exact ⟨⟨by simp [World.cell?,h],by simp [World.cell?,h],by simp [World.cell?,h],by simp [World.cell?,h],by simp [World.cell?,h]⟩,⟨by simp [World.cell?,h],by simp [World.cell?,h],by simp [World.cell?,h],by simp [World.cell?,h],by simp [World.cell?,h],by simp [World.cell?,h],by simp [World.cell?,h],by simp [World.cell?,h]⟩,by simp [World.cell?,h],by simp [World.cell?,h],by simp [World.cell?,h],by simp [World.cell?,h]⟩
theorem EvK.new (W:World) (e:Evt) (s:Evs):EvK (W.alloc (.cells (ecells e s) 32)) W.heap.size e s:=World.alloc_heap_new W _
theorem txs_blk {w:World} {g off n c:Nat} {l:List ByteArray} (h:Txs w (.slice (some ⟨g,off,none⟩) n c) l) (j:Nat) (hj:j<l.length):w.cell? ⟨g,off + j,none⟩=some (.string (l.getD j ByteArray.empty)):=by
 obtain ⟨a,cap,e,hc⟩:=h
 rcases hc with hc | ⟨b,o,ea,hc⟩
 ·rw [hc] at hj;simp at hj
 ·subst ea
  obtain ⟨⟨rfl,rfl⟩,_⟩:(g=b∧off=o)∧n=l.length∧c=cap:=by simpa using e
  exact hc j hj
theorem vls_len {e:Evt} (h:evF e=0) (k:Nat):(vls e k).length≤100:=by
 obtain ⟨-,-,-,-,⟨k1,k2,k3,k4⟩,-⟩:=evF_card h
 unfold vls
 repeat' split
 all_goals (first | (rw [List.length_map];omega) | (simp;done))
theorem load_in {F:Fence} {n:Nat} {P:Program} (w:World) {ops:Array Oper} {rest:List Oper} {o:Oper} {a:Act} {Q:Exit→Act→World→Prop}
 (hg:o.guard=none) (ty:TypeId) (x:Operand) (hop:o.op=.load ty x) (b of:Nat) (hx:a.eval x=.pointer (some ⟨b,of,none⟩)) (cs:List Value) (d:TypeDesc) (hc:w.rangeAt b of cs)
 (hu:P.underlying ty=some d) (hd:d.isRow=true) (hi:(P.info? ty).map (·.size)=some cs.length) (h:wpListIn F n P ops Q rest (a.put o.dst (.agg cs.toArray)) w):wpListIn F n P ops Q (o :: rest) a w:=by
 refine wpListIn_plain hg fun K hK'=>?_
 have hL:=run_loadAt_mid (P:=P) w b of ty cs d hc hu hd hi
 unfold Oper.wpIn
 refine ⟨?_,?_⟩
 ·simp [Oper.about,hop]
 ·rw [Oper.semAt_plain F _ _ (by rw [hop];intro c hc';cases hc')]
  simp only [execOp,hop,hx,Sem.run_bind,hL,Result.andThen_ok,Sem.run_pure]
  exact hK' _ _ h
set_option maxRecDepth 100000 in
set_option maxHeartbeats 16000000 in
theorem lines_itr (e:Evt) (s:Evs) (n0:Nat) (w0:World) (eB:Nat) (hE:∀ W,Below n0 w0 W→EvB W e s∧KeepK W) (he:EvK w0 eB e s) (hf:evF e=0) :
 Sg.Itr Tryz.prog en2 28 #[.pointer (some ⟨eB,0,none⟩)] (lnF e 0) n0 w0 (fun b=>b=eB):=by
 intro σ f J JX l x S W FJ FX hY hJ hB hn hT
 have hK0:=(hE W hB).2.knd
 have HK0:=Lib.hid hK0
 have HB:=Lib.hid hB
 have HT:=Lib.hid hT
 have HE:=Lib.hid hE
 have HY:=Lib.hid hY
 have HJ:=Lib.hid hJ
 have EK:=Lib.hid he
 clear hB hT hE hY hJ he hK0
 refine (callsIn_wide (n:=3)).1 ?_
 refine callsIn_of_wp Tryz.func28 rfl trivial ?_ rfl
 simp only [Tryz.ntmps28,List.size_toArray,List.length_cons,List.length_nil,Nat.reduceAdd,Nat.reduceSub,Array.replicate_succ,Array.replicate_zero,List.push_toArray,List.append_toArray,List.nil_append,List.cons_append]
 gi_wp2_with (refine load_in _ rfl 84 _ rfl 0 0 rfl kC.toList _ HK0.out Tryz.underlying84 rfl (by kernel_rfl) ?_)
 clear HK0
 gi_loopw [8] (fun i wr=>∃ (k:Nat) (y:σ) (S':Nat→Prop),k≤9∧i=.int .i64 k∧EvK wr eB e s∧J y S' wr∧Sg.run f x (lnF e 0)=Sg.run f y (lnF e k)∧Gr S W S'∧Kps (fun b=>S b∨b=eB) W wr)
  (fun i _=>9 - (intOf i).toNat)
 case atStart=>exact ⟨0,x,S,Nat.zero_le _,rfl,(HT.out _ rfl).2.2.2.trans EK.out,HJ.out,rfl,Gr.refl _ _,Kps.refl _ _⟩
 case round=>
  obtain ⟨k,y,S',hk9,rfl,b1,hj,hrun,hg,hkp⟩:=hrel
  have hnW:n0≤W.heap.size:=Nat.le_trans hn HB.out.size
  have HN:=Lib.hid (⟨Nat.lt_of_lt_of_le (HT.out eB rfl).1 HB.out.size,(HT.out eB rfl).2.1,(HT.out eB rfl).2.2.1⟩:eB<W.heap.size∧n0≤eB∧¬ S eB)
  have HK:=Lib.hid (fun X (q:Kps (fun b=>S b∨b=eB) W X)=>HB.out.trans (q.below (fun b hb=>hb.elim (fun q=>(FJ.lt _ _ _ HJ.out b q).1) (fun q=>by rw [q];exact (HT.out eB rfl).2.1)) hnW))
  have HR:=Lib.hid hrun
  have hnr:n0≤wr.heap.size:=Nat.le_trans hnW hkp.size
  clear hrun
  by_cases hlt:k<9
  ·have ix:=idxK k hlt
   have FO:=Lib.hid (lnF_on e hlt)
   have hb0:Below wr.heap.size wr (wr.alloc (.cells #[.string (tb (ky k)),.bool (mu k),.bool (decide (5≤k))] 83)):=(Below.refl _ _).alloc (Nat.le_refl _) _
   have hkp1:Kps (fun b=>S b∨b=eB) W (wr.alloc (.cells #[.string (tb (ky k)),.bool (mu k),.bool (decide (5≤k))] 83)):=hkp.trans (Kps.of_below (S:=fun _=>False) hb0) (fun _ e=>e.elim)
   have EA:=HE.out _ (HK.out _ hkp1)
   have KV:=Lib.hid (vals_any e s k hlt (wr.alloc (.cells #[.string (tb (ky k)),.bool (mu k),.bool (decide (5≤k))] 83)) EA.1 hf EA.2)
   have sz0:(wr.alloc (.cells #[.string (tb (ky k)),.bool (mu k),.bool (decide (5≤k))] 83)).heap.size=wr.heap.size + 1:=by simp
   have kb0:(wr.alloc (.cells #[.string (tb (ky k)),.bool (mu k),.bool (decide (5≤k))] 83)).cell? ⟨wr.heap.size,0,none⟩=some (.string (tb (ky k))):=by simp
   have b1a:EvK (wr.alloc (.cells #[.string (tb (ky k)),.bool (mu k),.bool (decide (5≤k))] 83)) eB e s:=(hb0.block _ b1.lt).trans b1
   have G1:=Lib.hid (fun X (q:Below (wr.alloc (.cells #[.string (tb (ky k)),.bool (mu k),.bool (decide (5≤k))] 83)).heap.size (wr.alloc (.cells #[.string (tb (ky k)),.bool (mu k),.bool (decide (5≤k))] 83)) X)=>(⟨(q.block _ b1a.lt).trans b1a,FJ.on _ _ _ _ hj ((hb0.trans (q.mono (by rw [sz0];omega))).mono hnr) (fun b hb=>(hb0.trans (q.mono (by rw [sz0];omega))).block b (FJ.lt _ _ _ hj b hb).2),hkp1.trans (Kps.of_below (S:=fun _=>False) q) (fun _ e=>e.elim),(q.cell (p:=⟨wr.heap.size,0,none⟩) (by rw [sz0];exact Nat.lt_succ_self _)).trans kb0,by have:=q.size;rw [sz0] at this;exact this⟩ :
    EvK X eB e s∧J y S' X∧Kps (fun b=>S b∨b=eB) W X∧X.cell? ⟨wr.heap.size,0,none⟩=some (.string (tb (ky k)))∧wr.heap.size + 1≤X.heap.size))
   have L1:=Lib.hid b1a.box.range
   obtain ⟨EV,hEV⟩:∃ EV,EV=Value.agg (ecells e s).toList.toArray:=⟨_,rfl⟩
   have KV2:Hid (Calls Tryz.prog 29 #[EV,.string (tb (ky k))] (wr.alloc (.cells #[.string (tb (ky k)),.bool (mu k),.bool (decide (5≤k))] 83)) (VlA (vls e k) (wr.alloc (.cells #[.string (tb (ky k)),.bool (mu k),.bool (decide (5≤k))] 83)))):=Lib.hid (by rw [hEV];exact KV.out)
   have HEV:=Lib.hid hEV
   clear hEV KV
   have ebl:eB<wr.heap.size:=b1.lt
   have LJ:=Lib.hid (FJ.lt _ _ _ hj)
   clear EA b1a b1 hj hkp hkp1 hb0 kb0
   gi_wp2_with (refine load_in _ rfl 32 _ rfl eB 0 rfl (ecells e s).toList _ L1.out Tryz.underlying32 rfl (by kernel_rfl) ?_;rw [← HEV.out])
   clear L1 ix HEV
   refine ⟨trivial,(callsIn_wide.2 KV2.out).mono ?_⟩
   rintro y0 w2 ⟨u,rfl,hx,hnw,hb⟩
   obtain ⟨b1,hj,hkp2,kb,zs2⟩:=G1.out _ hb
   rw [sz0] at hnw
   have HX:=Lib.hid hx
   have HW:=Lib.hid hnw
   obtain ⟨av,cv,rfl,_⟩:=hx
   clear G1 KV2 hb hnw
   have LV:Hid (lnK e k=((vls e k).map tb).map fun v=>(tb (ky k),v)):=Lib.hid (by unfold lnK;rw [List.map_map];rfl)
   have LL:((vls e k).map tb).length≤100:=by rw [List.length_map];exact vls_len hf k
   generalize (vls e k).map tb=vs at HX LV HW LL
   gi_wp2_with fail
   clear sz0
   generalize wr.heap.size=kB at hnr ebl LJ kb zs2 HW ⊢
   gi_loopw [16] (fun i wq=>∃ (j:Nat) (y':σ) (S2:Nat→Prop),i=.int .i64 j∧j≤vs.length∧EvK wq eB e s∧J y' S2 wq∧wq.cell? ⟨kB,0,none⟩=some (.string (tb (ky k)))∧
    Sg.run f x (lnF e 0)=Sg.run f y' ((vs.drop j).map (fun v=>(tb (ky k),v))++lnF e (k + 1))∧Gr S W S2∧Gr S' w2 S2∧Kps (fun b=>S b∨b=eB) W wq∧Txs wq (.slice av vs.length cv) vs∧w2.heap.size≤wq.heap.size)
    (fun i _=>vs.length - (intOf i).toNat)
   case atStart=>exact ⟨0,y,S',by simp,Nat.zero_le _,b1,hj,kb,by rw [HR.out,FO.out,LV.out];rfl,hg,Gr.refl _ _,hkp2,HX.out,Nat.le_refl _⟩
   case round=>
    clear b1 hj hkp2 kb
    obtain ⟨j,y',S2,rfl,hjl,b1,hj,kb,hrun2,hgA,hgB,hkp3,hX3,zs3⟩:=hrel
    have HR2:=Lib.hid hrun2
    have G2:=Lib.hid b1
    clear hrun2 b1
    by_cases hlv:j<vs.length
    ·obtain ⟨av',cv',e',hc⟩:=id hX3
     obtain ⟨rfl,rfl⟩:av=av'∧cv=cv':=by simpa using e'
     rcases hc with hc | ⟨g,off,rfl,hc⟩
     ·rw [hc] at hlv;simp at hlv
     have k1:=hc j hlv
     obtain ⟨n,hn⟩:∃ n,n=vs.getD j ByteArray.empty:=⟨_,rfl⟩
     rw [← hn] at k1
     have gF:kB + 1≤g:=HW.out _ _ _ rfl
     have g2:g<w2.heap.size:=ecell_in (txs_blk HX.out j hlv)
     have gS:¬ S2 g:=fun q=>by
      rcases hgB g q with z | z
      ·have:=(LJ.out g z).2;omega
      ·omega
     have rS:¬ S2 kB:=fun q=>by
      rcases hgB _ q with z | z
      ·have:=(LJ.out _ z).2;omega
      ·omega
     have eS:¬ S2 eB:=fun z=>(hgA eB z).elim HN.out.2.2 (fun u=>absurd HN.out.1 (Nat.not_lt.2 u))
     have DR:Hid ((vs.drop j).map (fun v=>(tb (ky k),v))=(tb (ky k),n) :: (vs.drop (j + 1)).map (fun v=>(tb (ky k),v))):=Lib.hid (by rw [List.drop_eq_getElem_cons hlv,hn,List.getD_eq_getElem?_getD,List.getElem?_eq_getElem hlv];rfl)
     obtain ⟨fn,tmps,assign,body,hy,hR⟩:=HY.out y' S2 wr (tb (ky k),n) (3 - 1) hj ⟨(vs.drop (j + 1)).map (fun v=>(tb (ky k),v))++lnF e (k + 1),by rw [HR2.out,DR.out];rfl⟩
     have kbl:kB<wr.heap.size:=ecell_in kb
     have KI:Hid (∀ X,Kps S2 wr X→Txs X (.slice (some ⟨g,off,none⟩) vs.length cv) vs):=Lib.hid (fun X q=>⟨some ⟨g,off,none⟩,cv,rfl,Or.inr ⟨g,off,rfl,fun i hi=>(World.cell?_of_block (q.block g (by omega) gS)).trans (hc i hi)⟩⟩)
     have KB:Hid (∀ X,Kps S2 wr X→X.cell? ⟨kB,0,none⟩=some (.string (tb (ky k)))):=Lib.hid (fun X q=>(World.cell?_of_block (q.block kB kbl rS)).trans kb)
     have KX:Hid (∀ X,Kps S2 wr X→EvK X eB e s∧Kps (fun b=>S b∨b=eB) W X):=Lib.hid (fun X q=>⟨(q.block _ G2.out.lt eS).trans G2.out,hkp3.trans q (fun b z=>(hgA b z).imp Or.inl id)⟩)
     simp only [en2] at hy
     clear e' hc hn gS rS eS g2 gF hX3
     rcases hf:f y' (tb (ky k),n) with ⟨y2,_ | _⟩
     ·rw [hf] at hR
      have RN:Hid (Sg.run f x (lnF e 0)=(y2,false)):=Lib.hid (by rw [HR2.out,DR.out,List.cons_append,Sg.run_no hf])
      clear hf
      gi_wp2
      clear k1
      refine hR.mono ?_
      rintro y0 W3 ⟨rfl,S3,g3,k3,ho⟩
      obtain ⟨b1,k4⟩:=KX.out _ k3
      have hX:JX y2 S3 W3:=by
       rcases ho with ⟨u,_⟩ | ⟨_,u⟩
       ·cases u
       ·exact u
      have GA:=Lib.hid (hgA.trans g3 hkp3.size)
      have ZZ:=Lib.hid (show (∃ S',Gr S W S'∧Kps (fun k=>S k∨k=eB) W W3∧Out J JX (Sg.run f x (lnF e 0)) S' W3) from ⟨S3,GA.out,k4,by rw [RN.out];exact Or.inr ⟨rfl,hX⟩⟩)
      clear b1 k4 k3 g3 ho hX KI KX KB hkp3 hgA hgB hj hy hR kb
      gi_wp2
      refine bodyPost_ret (results_none rfl _ _ _) rfl ?_
      exact ⟨⟨_,rfl⟩,ZZ.out⟩
     ·rw [hf] at hR
      have RN:Hid (Sg.run f x (lnF e 0)=Sg.run f y2 ((vs.drop (j + 1)).map (fun v=>(tb (ky k),v))++lnF e (k + 1))):=Lib.hid (by rw [HR2.out,DR.out,List.cons_append,Sg.run_yes hf])
      clear hf
      gi_wp2
      clear k1
      refine hR.mono ?_
      rintro y0 W3 ⟨rfl,S3,g3,k3,ho⟩
      obtain ⟨b1,k4⟩:=KX.out _ k3
      have hX:J y2 S3 W3:=by
       rcases ho with ⟨_,u⟩ | ⟨u,_⟩
       ·exact u
       ·cases u
      have GA:=Lib.hid (hgA.trans g3 hkp3.size)
      have GB:=Lib.hid (hgB.trans g3 zs3)
      have ZI:=Lib.hid (KI.out _ k3)
      have ZB:=Lib.hid (KB.out _ k3)
      have z4:w2.heap.size≤W3.heap.size:=Nat.le_trans zs3 k3.size
      have Z1:=Lib.hid b1
      have Z5:=Lib.hid k4
      have Z6:=Lib.hid hX
      clear b1 k4 k3 g3 ho hX KI KX KB hkp3 hgA hgB hj hy hR kb
      gi_wp2
      go_roundw
      case rel=>exact ⟨j + 1,y2,S3,by go_num,by omega,Z1.out,Z6.out,ZB.out,RN.out,GA.out,GB.out,Z5.out,ZI.out,z4⟩
      case measure=>simp [intOf];omega
    ·have RN:Hid (Sg.run f x (lnF e 0)=Sg.run f y' (lnF e (k + 1))):=Lib.hid (by rw [HR2.out,List.drop_eq_nil_of_le (by omega)];rfl)
     have GA:=Lib.hid hgA
     have Z5:=Lib.hid hkp3
     have Z6:=Lib.hid hj
     clear hkp3 hj hgA hgB hX3 kb
     gi_wp2
     go_roundw
     case rel=>exact ⟨k + 1,y',S2,by omega,by go_num,G2.out,Z6.out,RN.out,GA.out,Z5.out⟩
     case measure=>simp [intOf];omega
  ·have e9:k=9:=by omega
   subst e9
   rw [lnF_end] at HR
   gi_wp2
   refine bodyPost_end (results_none rfl _ _ _) rfl ?_
   exact ⟨⟨_,rfl⟩,S',hg,hkp,by rw [HR.out,Sg.run_nil];exact Or.inl ⟨rfl,hj⟩⟩
end Go.Proofs.YtcadomjkjoiakaaGreatDoor
namespace Go.Proofs.YtcadomjkjoiakaaGreatDoor
open Cal Txt Ln Cb
theorem flat_most {α β:Type} (g:α→List β) (c:Nat):∀ (l:List α),(∀ x∈l,(g x).length≤c)→(l.flatMap g).length≤l.length * c
 | [],_=>by simp
 | x :: l,h=>by
   have h1:=h x (by simp)
   have h2:=flat_most g c l (fun y hy=>h y (by simp [hy]))
   rw [List.flatMap_cons,List.length_append,List.length_cons,Nat.succ_mul]
   omega
theorem crd1_len {l:List UInt8} {n:Nat} (h:l.length≤n):(unl (fold l)).length≤(1 + (n - 40 + 38) / 39) * 41:=by
 have a:=flat_most (fun p:List UInt8=>p++[10]) 41 (fold l) (fun p hp=>by have:=fold_most l p hp;simp;omega)
 have b:=fold_len l
 have c:(fold l).length≤1 + (n - 40 + 38) / 39:=by
  rw [b]
  have:(l.length - 40 + 38) / 39≤(n - 40 + 38) / 39:=Nat.div_le_div_right (by omega)
  omega
 exact Nat.le_trans a (Nat.mul_le_mul_right _ c)
theorem rtB_len {r:Rl} (h:rf r=0):(rt r).length≤40000:=by
 obtain ⟨o1,o2,o3,o4,o5,o6⟩:=rf_good h
 have hwk:wkB r.weeks=true:=by rw [itemsB_eq] at o4;simp at o4;exact o4.2
 rw [← tk_rt r hwk]
 have:=tk_len o1 o3 o4 7
 omega
def lnL (e:Evt) (k:Nat):List (List UInt8):=(vls e k).map fun v=>ky k++58 :: v
theorem map_one {e:Evt} {k:Nat} {kw v:List UInt8} (h:vls e k=[v]) (hk:kw=ky k++[58]):lnL e k=[kw++v]:=by
 unfold lnL
 rw [h,hk]
 simp
theorem lnL_cd {e:Evt} (h:evF e=0):cdL e=lnL e 0++(lnL e 1++(lnL e 2++(lnL e 3++(lnL e 4++(lnL e 5++(lnL e 6++(lnL e 7++lnL e 8))))))):=by
 obtain ⟨_,_,_,_,_,_,_,_,m4⟩:=evF_card h
 have e0:lnL e 0=[kwName++e.name.data.toList]:=map_one rfl kw0
 have e1:lnL e 1=if e.text.data.toList=[] then [] else [kwText++esc e.text.data.toList]:=by
  by_cases z:e.text.data.toList=[]
  ·rw [if_pos z];unfold lnL;rw [show vls e 1=[] from if_pos z];rfl
  ·rw [if_neg z];exact map_one (if_neg z) kw1
 have e2:lnL e 2=[kwStart++txt e.start]:=map_one rfl kw2
 have e3:lnL e 3=[kwLen++spt e.len]:=map_one rfl kw3
 have e4:lnL e 4=if e.rep=true then [kwRule++rt e.rule] else []:=by
  by_cases z:e.rep=true
  ·rw [if_pos z];exact map_one (if_pos z) kw4
  ·rw [if_neg z];unfold lnL;rw [show vls e 4=[] from if_neg z];rfl
 have e5:lnL e 5=e.more.map (fun t=>kwMore++txt t):=by
  unfold lnL
  rw [show vls e 5=e.more.map txt from rfl,List.map_map]
  exact List.map_congr_left (fun t _=>by rw [kw5,← ky_app];rfl)
 have e6:lnL e 6=e.nots.map (fun t=>kwNot++txt t):=by
  unfold lnL
  rw [show vls e 6=e.nots.map txt from rfl,List.map_map]
  exact List.map_congr_left (fun t _=>by rw [kw6,← ky_app];rfl)
 have e7:lnL e 7=e.chg.map cdM:=by
  unfold lnL
  rw [show vls e 7=e.chg.map vM from rfl,List.map_map]
  exact List.map_congr_left (fun t _=>(cdM_ky t).symm)
 have e8:lnL e 8=e.alm.map cdA:=by
  unfold lnL
  rw [show vls e 8=e.alm.map vA from rfl,List.map_map]
  exact List.map_congr_left (fun t ht=>(cdA_ky (alF_pos (m4 t ht))).symm)
 rw [e0,e1,e2,e3,e4,e5,e6,e7,e8]
 unfold cdL cdH
 simp only [List.append_assoc]
theorem range9:List.range 9=[0,1,2,3,4,5,6,7,8]:=by decide
def prT (p:ByteArray × ByteArray):List UInt8:=unl (fold (p.1.data.toList++58 :: p.2.data.toList))
theorem lnF_card {e:Evt} (h:evF e=0):(lnF e 0).flatMap prT=crd e:=by
 have k:∀ k,(lnK e k).flatMap prT=txl (lnL e k):=fun k=>by
  unfold lnK txl lnL
  rw [List.flatMap_map,List.flatMap_map]
  rfl
 have t:∀ a b,txl (a++b)=txl a++txl b:=fun a b=>by unfold txl;rw [List.flatMap_append]
 rw [crd_txl,lnL_cd h]
 unfold lnF
 rw [range9,List.drop_zero]
 simp only [List.flatMap_cons,List.flatMap_nil,List.flatMap_append,k,t,List.append_nil]
def prS (acc:List UInt8) (p:ByteArray × ByteArray):List UInt8 × Bool:=(acc++prT p,true)
theorem run_prS:∀ (xs:List (ByteArray × ByteArray)) (acc:List UInt8),Sg.run prS acc xs=(acc++xs.flatMap prT,true)
 | [],acc=>by simp [Sg.run_nil]
 | p :: xs,acc=>by
   rw [Sg.run_yes (show prS acc p=(acc++prT p,true) from rfl),run_prS xs (acc++prT p)]
   simp
theorem crd_len {e:Evt} (h:evF e=0):(crd e).length≤100000:=by
 obtain ⟨⟨n1,n2⟩,⟨t1,t2⟩,⟨l1,l2⟩,hru,⟨k1,k2,k3,k4⟩,m1,m2,m3,m4⟩:=evF_card h
 have TT:∀ t,ist t=true→(txt t).length=16:=fun t q=>txt_len16 (of_decide_eq_true q).1 (of_decide_eq_true q).2
 have t:∀ a b,txl (a++b)=txl a++txl b:=fun a b=>by unfold txl;rw [List.flatMap_append]
 have kl:∀ k,k<9→(ky k).length≤6:=by decide
 have one:∀ k,k<9→∀ n m,(∀ v∈vls e k,v.length≤n)→(vls e k).length≤m→(txl (lnL e k)).length≤m * ((1 + (n + 7 - 40 + 38) / 39) * 41):=fun k hk n m h1 h2=>by
  have a:=flat_most (fun l=>unl (fold l)) ((1 + (n + 7 - 40 + 38) / 39) * 41) (lnL e k) (fun l hl=>by
   unfold lnL at hl
   obtain ⟨v,hv,rfl⟩:=List.mem_map.1 hl
   refine crd1_len (n:=n + 7) ?_
   have:=h1 v hv
   have:=kl k hk
   simp
   omega)
  have b:(lnL e k).length≤m:=by unfold lnL;rw [List.length_map];exact h2
  exact Nat.le_trans a (Nat.mul_le_mul_right _ b)
 have q0:=one 0 (by decide) 120 1 (fun v hv=>by
  rw [show vls e 0=[e.name.data.toList] from rfl,List.mem_singleton] at hv
  subst hv
  show e.name.size≤120
  omega) (by rw [show vls e 0=[e.name.data.toList] from rfl];simp)
 have q1:=one 1 (by decide) 120 1 (fun v hv=>by
  rw [show vls e 1=(if e.text.data.toList=[] then [] else [esc e.text.data.toList]) from rfl] at hv
  split at hv
  ·cases hv
  ·rw [List.mem_singleton] at hv
   subst hv
   have:=esc_len e.text.data.toList
   rw [show e.text.data.toList.length=e.text.size from rfl] at this
   omega) (by rw [show vls e 1=(if e.text.data.toList=[] then [] else [esc e.text.data.toList]) from rfl];split <;> simp)
 have q2:=one 2 (by decide) 120 1 (fun v hv=>by
  rw [show vls e 2=[txt e.start] from rfl,List.mem_singleton] at hv
  subst hv
  rw [txt_len16 t1 t2];omega) (by rw [show vls e 2=[txt e.start] from rfl];simp)
 have q3:=one 3 (by decide) 120 1 (fun v hv=>by
  rw [show vls e 3=[spt e.len] from rfl,List.mem_singleton] at hv
  subst hv
  have:=sptC_len (n:=e.len) (by omega) (by omega)
  omega) (by rw [show vls e 3=[spt e.len] from rfl];simp)
 have q4:=one 4 (by decide) 40000 1 (fun v hv=>by
  rw [show vls e 4=(if e.rep=true then [rt e.rule] else []) from rfl] at hv
  split at hv
  ·rename_i hr
   rw [List.mem_singleton] at hv
   subst hv
   exact rtB_len (by unfold ruF at hru;rw [if_pos hr] at hru;exact hru)
  ·cases hv) (by rw [show vls e 4=(if e.rep=true then [rt e.rule] else []) from rfl];split <;> simp)
 have q5:=one 5 (by decide) 120 100 (fun v hv=>by
  obtain ⟨x,hx,rfl⟩:=List.mem_map.1 (show v∈e.more.map txt from hv)
  rw [TT x (m1 x hx)];omega) (by show (e.more.map txt).length≤100;rw [List.length_map];omega)
 have q6:=one 6 (by decide) 120 100 (fun v hv=>by
  obtain ⟨x,hx,rfl⟩:=List.mem_map.1 (show v∈e.nots.map txt from hv)
  rw [TT x (m2 x hx)];omega) (by show (e.nots.map txt).length≤100;rw [List.length_map];omega)
 have q7:=one 7 (by decide) 120 100 (fun v hv=>by
  obtain ⟨c,hc,rfl⟩:=List.mem_map.1 (show v∈e.chg.map vM from hv)
  have hc:=m3 c hc
  unfold chB at hc
  rw [Bool.and_eq_true,Bool.or_eq_true] at hc
  unfold vM
  rw [List.length_append,List.length_cons,TT _ hc.1]
  split
  ·simp
  ·rename_i z
   rw [TT _ (hc.2.resolve_left (by simpa using z))]
   omega) (by show (e.chg.map vM).length≤100;rw [List.length_map];omega)
 have q8:=one 8 (by decide) 120 4 (fun v hv=>by
  obtain ⟨x,hx,rfl⟩:=List.mem_map.1 (show v∈e.alm.map vA from hv)
  obtain ⟨⟨a1,a2⟩,⟨a3,a4⟩,a5,a6⟩:=alB_in (m4 x hx)
  have s1:=sptC_len (n:=x.1) (by omega) (by omega)
  have s4:=sptC_len (n:=x.2.2.2) (by omega) (by omega)
  have s3:=nt_len5 a3 a4
  unfold vA
  simp only [joinBy,List.length_append,List.length_cons]
  split <;> simp <;> omega) (by show (e.alm.map vA).length≤4;rw [List.length_map];omega)
 rw [crd_txl,lnL_cd h]
 simp only [t,List.length_append]
 omega
theorem line_len (l:List UInt8):l.length≤(unl (fold l)).length:=by
 have a:=unf_len (fold l)
 rw [unf_fold] at a
 have b:∀ ps:List (List UInt8),tot ps≤(unl ps).length:=fun ps=>by
  induction ps with
  | nil=>simp [tot]
  | cons p ps ih=>rw [unl_cons,tot_cons,List.length_append,List.length_cons];omega
 exact Nat.le_trans a (b _)
end Go.Proofs.YtcadomjkjoiakaaGreatDoor
namespace Go.Proofs.YtcadomjkjoiakaaGreatDoor
open Go.RowKit Go.Shelf Cal Txt Ln Cb
attribute [local go_sem] Oper.semAt_some
def PrI (bB n0:Nat) (l:List UInt8) (S:Nat→Prop) (W:World):Prop:=∃ v,Bdr n0 bB l v W∧∀ k,S k↔(k=bB∨v.ownBlock=some k)
theorem PrI.frm {bB n0:Nat} (h0:n0≤bB):Frm n0 (PrI bB n0):=by
 refine ⟨fun l S W h b hb=>?_,fun l S W W' h q same=>?_⟩
 ·obtain ⟨v,h1,h2⟩:=h
  rcases (h2 b).1 hb with rfl | z
  ·exact ⟨h0,h1.lt⟩
  ·obtain ⟨_,_,_,_,ho,_⟩:=h1
   exact ho.lt b z
 ·obtain ⟨v,h1,h2⟩:=h
  exact ⟨v,h1.same (same _ ((h2 _).2 (Or.inl rfl))) (fun g hg=>same g ((h2 _).2 (Or.inr hg))),h2⟩
theorem PrI.write {bB n0:Nat} {l':List UInt8} {S:Nat→Prop} {v v':Value} {W W':World} (h:∀ k,S k↔(k=bB∨v.ownBlock=some k)) (hB:Bdr n0 bB l' v' W') (ha:v'.ownBlock=v.ownBlock∨∀ g,v'.ownBlock=some g→W.heap.size≤g) (hk:Kps (fun k=>k=bB∨v.ownBlock=some k) W W') :
 ∃ S',Gr S W S'∧Kps S W W'∧PrI bB n0 l' S' W':=by
 refine ⟨fun k=>k=bB∨v'.ownBlock=some k,?_,hk.mono (fun k q=>(h k).2 q),v',hB,fun k=>Iff.rfl⟩
 rintro k (rfl | q)
 ·exact Or.inl ((h _).2 (Or.inl rfl))
 ·rcases ha with z | z
  ·exact Or.inl ((h _).2 (Or.inr (z ▸ q)))
  ·exact Or.inr (z k q)
theorem linesOf_any (e:Evt) (s:Evs) (w:World):Calls Tryz.prog 12 #[.agg (ecells e s)] w fun x w'=>x=.returned (.func (.func 28) #[] #[.pointer (some ⟨w.heap.size,0,none⟩)])∧w'=w.alloc (.cells (ecells e s) 32):=by
 go_enter Tryz.func12,Tryz.ntmps12
 go_wp2
 go_ret
 exact ⟨rfl,rfl⟩
def PrA (e:Evt) (w:World) (x:Ending) (w':World):Prop:=x=.returned (.tuple #[.string (if evF e=0 then tb (crd e) else ⟨#[]⟩),fault (evF e)])∧Below w.heap.size w w'
set_option maxRecDepth 100000 in
set_option maxHeartbeats 16000000 in
theorem cprint_any (e:Evt) (s:Evs) (w:World) (hv:EvB w e s) (hK:KeepK w):Calls Tryz.prog 5 #[.agg (ecells e s)] w (PrA e w):=by
 have B0:=(Below.refl w.heap.size w).alloc (Nat.le_refl _) (.cells (ecells e s) 32)
 have R0:=EBox.new w e s 32
 obtain ⟨W0,hW⟩:∃ W0,W0=w.alloc (.cells (ecells e s) 32):=⟨_,rfl⟩
 rw [← hW] at B0 R0
 have HW:=Lib.hid hW
 have HB:=Lib.hid B0
 have HV:=Lib.hid (hv.on B0)
 have HK:=Lib.hid (hK.below B0)
 have KC:=Lib.hid (echeck_any e s W0 (hv.on B0))
 have HR:=Lib.hid R0
 clear hW B0 hv hK
 refine (callsIn_wide (n:=3)).1 ?_
 refine callsIn_of_wp_marks Tryz.func5 rfl trivial ?_ rfl
 simp only [Tryz.ntmps5,List.size_toArray,List.length_cons,List.length_nil,Nat.reduceAdd,Nat.reduceSub,Array.replicate_succ,Array.replicate_zero,List.push_toArray,List.append_toArray,List.nil_append,List.cons_append]
 gi_wp2_with (rw [← HW.out];refine load_in _ rfl 32 _ rfl w.heap.size 0 rfl (ecells e s).toList _ HR.out.range Tryz.underlying32 rfl (by kernel_rfl) ?_)
 refine ⟨trivial,(callsIn_wide.2 KC.out).mono ?_⟩
 rintro x w1 ⟨rfl,hb1⟩
 have HB1:=Lib.hid (HB.out.trans (hb1.mono HB.out.size))
 have HV1:=Lib.hid (HV.out.on hb1)
 have HK1:=Lib.hid (HK.out.below hb1)
 have HR1:=Lib.hid (R0.on hb1)
 clear hb1 HB HV HK KC HR R0 HW
 by_cases hf:evF e=0
 case neg=>
  have EA:Hid (PrA e w (.returned (.tuple #[.string ⟨#[]⟩,.iface 73 (.int .i64 (evF e))])) w1):=Lib.hid ⟨by rw [if_neg hf,efault_ne hf],HB1.out⟩
  rw [efault_ne hf]
  gi_wp2
  exact ⟨_,by simp [results,Tryz.results5,go_sem],EA.out⟩
 have F0:fault (evF e)=.nilIface:=by rw [hf];rfl
 rw [F0]
 obtain ⟨W1,hW1⟩:∃ W1,W1=w1.alloc (.cells #[.pointer none,.slice none 0 0] 57):=⟨_,rfl⟩
 obtain ⟨W2,hW2⟩:∃ W2,W2=W1.alloc (.cells (ecells e s) 32):=⟨_,rfl⟩
 obtain ⟨bB,hbB⟩:∃ bB,bB=w1.heap.size:=⟨_,rfl⟩
 have b11:Below w1.heap.size w1 W1:=by rw [hW1];exact (Below.refl _ _).alloc (Nat.le_refl _) _
 have z1:W1.heap.size=bB + 1:=by rw [hW1,hbB];simp
 have b12:Below W1.heap.size W1 W2:=by rw [hW2];exact (Below.refl _ _).alloc (Nat.le_refl _) _
 have z2:W2.heap.size=bB + 2:=by rw [hW2];simp [z1]
 have q1:W1.heap[bB]?=some (.cells #[.pointer none,.slice none 0 0] 57):=by rw [hW1,hbB];exact World.alloc_heap_new _ _
 have q2:W2.heap[bB]?=some (.cells #[.pointer none,.slice none 0 0] 57):=(b12.block bB (by omega)).trans q1
 have ek:EvK W2 W1.heap.size e s:=by rw [hW2];exact EvK.new W1 e s
 have HW1:=Lib.hid hW1
 have HW2:=Lib.hid hW2
 have HRb:=Lib.hid (HR1.out.on b11)
 have ITR:=Lib.hid (lines_itr e s bB W2 W1.heap.size (fun W q=>by
  have q3:Below w1.heap.size w1 W:=b11.trans ((b12.mono (by omega)).trans (by rw [← hbB];exact q))
  exact ⟨HV1.out.on q3,HK1.out.below q3⟩) ek hf)
 have IP:PrI bB bB [] (fun b=>b=bB) W2:=⟨.slice none 0 0,⟨Nat.le_refl _,.pointer none,Or.inl rfl,q2,World.ownsRow_nil _ _ _ _,by simp [Value.ownBlock]⟩,fun k=>by simp [Value.ownBlock]⟩
 have HIP:=Lib.hid IP
 have B2:Hid (Below w.heap.size w W2):=Lib.hid (HB1.out.trans ((b11.trans (b12.mono (by omega))).mono HB1.out.size))
 have wb:w.heap.size≤bB:=by rw [hbB];exact HB1.out.size
 have CL:=crd_len hf
 have CF:=Lib.hid (lnF_card hf)
 have HF:=Lib.hid hf
 have HbB:=Lib.hid hbB
 rw [z1] at ITR
 clear hW1 hW2 hbB q1 q2 ek IP b11 F0 HV1 HK1 HR1 hf
 gi_wp2_with (rw [← HW1.out];refine load_in _ rfl 32 _ rfl w.heap.size 0 rfl (ecells e s).toList _ HRb.out.range Tryz.underlying32 rfl (by kernel_rfl) ?_)
 clear HW1 HRb
 refine ⟨trivial,(callsIn_wide.2 (linesOf_any e s W1)).mono ?_⟩
 rintro x w2 ⟨rfl,hw2⟩
 rw [← HW2.out] at hw2
 subst hw2
 clear HW2
 gi_wp2_with fail
 rw [← HbB.out]
 clear HbB
 refine Sg.rf_law2 (gf:=28) (lb:=#[.pointer (some ⟨bB + 1,0,none⟩)]) rfl (enters_of Tryz.func28 (by kernel_rfl) rfl) ITR.out (Below.refl _ _) (by omega) prS
  (PrI bB bB) (fun _ _ _ _=>False) (PrI.frm (Nat.le_refl _)) (fun c=>⟨fun y S X h=>h.elim,fun y S X X' h q p=>h.elim⟩) [] (fun b=>b=bB) HIP.out ?hT (fun _=>rfl) ?a1 ?assign ?body ?done ?stop
 case hT=>
  intro k hk
  exact ⟨by omega,by omega,by omega,rfl⟩
 case assign=>
  intro l' d X K hK
  gi_wp2
  exact hK
 case body=>
  clear HIP ITR B2
  rintro l' acc S ⟨key,val⟩ X ⟨v,hbd,hS⟩ hnX ⟨ns,hE⟩
  rw [run_prS,run_prS,CF.out] at hE
  have hE1:=congrArg Prod.fst hE
  dsimp only at hE1
  rw [List.nil_append,List.flatMap_cons] at hE1
  have hE2:=congrArg List.length hE1
  rw [List.length_append,List.length_append] at hE2
  have LN:key.data.toList.length + (val.data.toList.length + 1)≤(prT (key,val)).length:=by
   have:=line_len (key.data.toList++58 :: val.data.toList)
   rw [List.length_append,List.length_cons] at this
   exact this
  have ks:key.data.toList.length=key.size:=rfl
  have vs:val.data.toList.length=val.size:=rfl
  have LA:Hid (acc.length + (prT (key,val)).length≤100000):=Lib.hid (by omega)
  have n1:¬ 9223372036854775807<key.size + 1:=by omega
  have n2:¬ 9223372036854775807<key.size + 1 + val.size:=by omega
  have SD:Hid ((key++(⟨#[58]⟩:ByteArray)++val).data.toList=key.data.toList++58 :: val.data.toList):=Lib.hid (by simp)
  have SZ:(key++(⟨#[58]⟩:ByteArray)++val).size≤140737488351232:=by
   show (key++(⟨#[58]⟩:ByteArray)++val).data.toList.length≤_
   rw [SD.out,List.length_append,List.length_cons];omega
  have KF:=Lib.hid (fold_any (key++(⟨#[58]⟩:ByteArray)++val) X SZ)
  have HBD:=Lib.hid hbd
  have HSS:=Lib.hid hS
  have LS:Hid (∀ k,S k→bB≤k∧k<X.heap.size):=Lib.hid (fun k hk=>(PrI.frm (Nat.le_refl bB)).lt _ _ _ ⟨v,hbd,hS⟩ k hk)
  clear hE hE1 hE2 LN SZ hbd hS
  gi_wp2_with fail
  refine ⟨trivial,((callsIn_wide.2 KF.out).inRound l').mono ?_⟩
  rintro y0 w2 ⟨hb2,vf,ys,rfl,hown,hys⟩
  rw [SD.out] at hown hys
  have PT:Hid (prT (key,val)=unl (pcl ys)):=Lib.hid (by unfold prT pcl;rw [hys])
  have YL:ys.length=(fold (key.data.toList++58 :: val.data.toList)).length:=by rw [← hys,List.length_map]
  rw [← YL] at hown
  have HX:=Lib.hid (own_txs hown)
  have HW:=Lib.hid (own_nw hown)
  have YM:Hid (ys.length≤100000):=Lib.hid (by
   have:∀ ps:List (List UInt8),ps.length≤(unl ps).length:=fun ps=>by
    induction ps with
    | nil=>simp
    | cons p ps ih=>rw [unl_cons,List.length_append,List.length_cons,List.length_cons];omega
   have h2:=this (pcl ys)
   rw [← PT.out] at h2
   have:=LA.out
   unfold pcl at h2
   rw [List.length_map] at h2
   omega)
  obtain ⟨av,cv,rfl,_⟩:=own_txs hown
  have PI0:Hid (∃ S2,Gr S w2 S2∧Kps S X w2∧PrI bB bB acc S2 w2):=Lib.hid ⟨S,Gr.refl _ _,Kps.of_below hb2,v,HBD.out.same (hb2.block _ HBD.out.lt) (fun g hg=>hb2.block g (LS.out g ((HSS.out g).2 (Or.inr hg))).2),HSS.out⟩
  have zs2:X.heap.size≤w2.heap.size:=hb2.size
  clear hys hown KF hb2 SD HBD HSS
  gi_wp2_with fail
  gi_loopw [25] (fun i wq=>∃ (j:Nat) (S2:Nat→Prop),i=.int .i64 j∧j≤ys.length∧Gr S w2 S2∧Kps S X wq∧PrI bB bB (acc++unl ((pcl ys).take j)) S2 wq∧Txs wq (.slice av ys.length cv) ys∧w2.heap.size≤wq.heap.size)
   (fun i _=>ys.length - (intOf i).toNat)
  case atStart=>
   obtain ⟨S2,g1,g2,g3⟩:=PI0.out
   exact ⟨0,S2,by simp,Nat.zero_le _,g1,g2,by simpa [unl] using g3,HX.out,Nat.le_refl _⟩
  case round=>
   clear PI0
   obtain ⟨j,S2,rfl,hj,hg,hk,⟨v2,hbd,hS2⟩,hx,zs3⟩:=hrel
   have GX:Gr S X S2:=fun k q=>(hg k q).imp id (fun z=>Nat.le_trans zs2 z)
   have ym:=YM.out
   by_cases hlt:j<ys.length
   ·obtain ⟨av',cv',e',hc⟩:=id hx
    obtain ⟨rfl,rfl⟩:av=av'∧cv=cv':=by simpa using e'
    rcases hc with hc | ⟨g,off,rfl,hc⟩
    ·rw [hc] at hlt;simp at hlt
    have k1:=hc j hlt
    obtain ⟨x,hx'⟩:∃ x,x=ys.getD j ByteArray.empty:=⟨_,rfl⟩
    rw [← hx'] at k1
    have gF:X.heap.size≤g:=HW.out _ _ _ rfl
    have g2:g<w2.heap.size:=ecell_in (txs_blk HX.out j hlt)
    have gS:¬ S2 g:=fun q=>by
     rcases hg g q with z | z
     ·have:=(LS.out g z).2;omega
     ·omega
    have TK:Hid (unl ((pcl ys).take (j + 1))=unl ((pcl ys).take j)++x.data.toList++[10]):=Lib.hid (by
     have hp:j<(pcl ys).length:=by unfold pcl;rw [List.length_map];exact hlt
     have e3:(pcl ys)[j]=x.data.toList:=by
      rw [hx',List.getD_eq_getElem?_getD,List.getElem?_eq_getElem hlt]
      simp [pcl]
     unfold unl
     rw [List.take_succ_eq_append_getElem hp,List.flatMap_append,e3]
     simp)
    have TL:(unl ((pcl ys).take (j + 1))).length≤(unl (pcl ys)).length:=by
     conv=>rhs;rw [← List.take_append_drop (j + 1) (pcl ys)]
     unfold unl
     rw [List.flatMap_append,List.length_append]
     omega
    have la:=LA.out
    rw [PT.out] at la
    rw [TK.out,List.length_append,List.length_append] at TL
    have xs:x.data.toList.length=x.size:=rfl
    have L1:(acc++unl ((pcl ys).take j)).length + x.size≤140737488355328:=by rw [List.length_append];omega
    have L2:(acc++unl ((pcl ys).take j)++x.data.toList).length + (⟨#[10]⟩:ByteArray).size≤140737488355328:=by
     rw [List.length_append,List.length_append,show (⟨#[10]⟩:ByteArray).size=1 from rfl]
     omega
    have zb:bB≤wr.heap.size:=Nat.le_of_lt hbd.lt
    have KW:=Lib.hid (bwrite_own bB bB (acc++unl ((pcl ys).take j)) v2 x wr hbd L1 zb)
    have HSS2:=Lib.hid hS2
    have HL2:=Lib.hid L2
    have KI:Hid (∀ S3 Y,Gr S2 wr S3→Kps S2 wr Y→Txs Y (.slice (some ⟨g,off,none⟩) ys.length cv) ys∧¬ S3 g):=Lib.hid (fun S3 Y q1 q2=>⟨⟨some ⟨g,off,none⟩,cv,rfl,Or.inr ⟨g,off,rfl,fun i hi=>(World.cell?_of_block (q2.block g (by omega) gS)).trans (hc i hi)⟩⟩,fun z=>(q1 g z).elim gS (fun z=>by omega)⟩)
    have gw:g<wr.heap.size:=by omega
    have HG:=Lib.hid hg
    have HKX:=Lib.hid hk
    have HGX:=Lib.hid GX
    clear e' hc hx' gF g2 gS TL L1 L2 hbd hS2 hx hg hk GX la
    gi_wp2_with fail
    clear k1
    refine ⟨trivial,((callsIn_wide.2 KW.out).inRound l').mono ?_⟩
    rintro y0 w3 ⟨rfl,v3,hb3,ha3,hk3⟩
    obtain ⟨S3,g3,k3,v3',hb3',hS3⟩:=PrI.write HSS2.out hb3 ha3 hk3
    obtain ⟨X3,N3⟩:=KI.out S3 w3 g3 k3
    have zb3:bB≤w3.heap.size:=Nat.le_of_lt hb3'.lt
    have KW2:=Lib.hid (bwrite_own bB bB _ v3' ⟨#[10]⟩ w3 hb3' HL2.out zb3)
    have HS3:=Lib.hid hS3
    have G3:=Lib.hid g3
    have K3:=Lib.hid k3
    have HX3:=Lib.hid X3
    have z3:wr.heap.size≤w3.heap.size:=k3.size
    clear hb3 ha3 hk3 hb3' hS3 g3 k3 X3 KW KI HSS2 HL2
    gi_wp2_with fail
    refine ⟨trivial,((callsIn_wide.2 KW2.out).inRound l').mono ?_⟩
    rintro y0 w4 ⟨rfl,v4,hb4,ha4,hk4⟩
    obtain ⟨S4,g4,k4,p4⟩:=PrI.write HS3.out hb4 ha4 hk4
    have ZP:Hid (PrI bB bB (acc++unl ((pcl ys).take (j + 1))) S4 w4):=Lib.hid (by
     rw [TK.out]
     have:acc++(unl ((pcl ys).take j)++x.data.toList++[10])=acc++unl ((pcl ys).take j)++x.data.toList++(⟨#[10]⟩:ByteArray).data.toList:=by simp
     rw [this]
     exact p4)
    have ZX:Hid (Txs w4 (.slice (some ⟨g,off,none⟩) ys.length cv) ys):=Lib.hid (by
     obtain ⟨a0,c0,e0,hc⟩:=HX3.out
     refine ⟨a0,c0,e0,?_⟩
     rcases hc with hc | ⟨b',off',ea,hc⟩
     ·exact Or.inl hc
     ·refine Or.inr ⟨b',off',ea,fun i hi=>?_⟩
      have eb:b'=g:=by subst ea;injection e0 with e1 _ _;injection e1 with e1;injection e1 with e1;exact e1.symm
      subst eb
      exact (World.cell?_of_block (k4.block b' (by omega) N3)).trans (hc i hi))
    have Z1:Hid (Gr S w2 S4):=Lib.hid ((HG.out.trans G3.out zs3).trans g4 (by omega))
    have Z2:Hid (Kps S X w4):=Lib.hid ((HKX.out.trans K3.out HGX.out).trans k4 ((HGX.out.trans G3.out HKX.out.size)))
    have z4:w2.heap.size≤w4.heap.size:=by have:=k4.size;omega
    clear hb4 ha4 hk4 g4 k4 p4 HX3 N3 KW2 HG HKX HGX G3 K3 HS3
    gi_wp2
    go_roundw
    case rel=>exact ⟨j + 1,S4,by go_num,by omega,Z1.out,Z2.out,ZP.out,ZX.out,z4⟩
    case measure=>simp [intOf];omega
   ·have ek:(pcl ys).take j=pcl ys:=List.take_of_length_le (by unfold pcl;rw [List.length_map];omega)
    rw [ek,← PT.out] at hbd
    have ZZ:=Lib.hid (show ∃ y S',prS acc (key,val)=(y,true)∧Gr S X S'∧Kps S X wr∧PrI bB bB y S' wr from ⟨_,S2,rfl,GX,hk,v2,hbd,hS2⟩)
    clear hbd hS2 hk hg GX hx ek
    gi_wp2
    exact ZZ.out
 case done=>
  rintro D y S X hD hSD hrun ⟨v,hbd,hS⟩ hg3 hk3 hDd
  rw [run_prS,CF.out,List.nil_append] at hrun
  have ey:y=crd e:=(congrArg Prod.fst hrun).symm
  subst ey
  have KS:=Lib.hid (bstr_own bB bB (crd e) v X hbd (fun z=>by
   have:=txl_ends (cdL_ne e)
   rw [← crd_txl,z] at this
   cases this))
  have BX:Hid (Below w.heap.size w X):=Lib.hid (B2.out.trans (hk3.below (n0:=w.heap.size) (fun k hk=>by rcases hk with hk | hk <;> omega) (by have:=B2.out.size;omega)))
  have VS:Hid (∀ k,v.ownBlock=some k→S k):=Lib.hid (fun k hk=>(hS k).2 (Or.inr hk))
  have VB:Hid (∀ k,v.ownBlock=some k→bB≤k):=Lib.hid (fun k hk=>by obtain ⟨_,_,_,_,ho,_⟩:=hbd;exact (ho.lt k hk).1)
  have dl:D<X.heap.size:=(Array.getElem?_eq_some_iff.1 hDd).1
  have HD:=Lib.hid hDd
  clear hrun hbd hS hg3 hk3 hDd HIP ITR b12
  gi_wp2_with fail
  refine ⟨trivial,(callsIn_wide.2 KS.out).mono ?_⟩
  rintro y0 w3 ⟨rfl,hk3⟩
  have hD3:w3.heap[D]?=some (.deferred (some [])):=(hk3.block D dl (fun z=>hSD (VS.out D z))).trans HD.out
  have Z3:Hid (Below w.heap.size w (w3.putObj D (.deferred none))):=Lib.hid (by
   have b3:Below w.heap.size X w3:=hk3.below (n0:=w.heap.size) (fun k hk=>by have:=VB.out k hk;omega) BX.out.size
   have kD:Kps (fun b=>b=D) w3 (w3.putObj D (.deferred none)):=Kps.put _ rfl
   have b4:Below w.heap.size w w3:=BX.out.trans b3
   exact b4.trans (kD.below (n0:=w.heap.size) (fun k hk=>by omega) b4.size))
  have EA:Hid (PrA e w (.returned (.tuple #[.string (tb (crd e)),.nilIface])) (w3.putObj D (.deferred none))):=Lib.hid ⟨by rw [if_pos HF.out,HF.out];rfl,Z3.out⟩
  clear hk3 KS BX VS VB HD
  gi_wp2
  refine ⟨by simp,.inl ⟨_,_,rfl,run_takeDeferred hD3,?_⟩⟩
  exact ⟨_,by simp [results,Tryz.results5,go_sem],EA.out⟩
 case stop=>
  rintro D c y S X hD hSD hrun h
  exact h.elim
end Go.Proofs.YtcadomjkjoiakaaGreatDoor
