/-
  Texts of our own that serve the card of this claim, joined into one.
-/
import Derived.Test.YtcadomjkjoiakaaGreatDoorQN
import Derived.Test.YtcadomjkjoiakaaGreatDoorRD
import Derived.Maps.AppendAt
import Derived.RangeFuncCalls
import Derived.RangeFuncLeaves
import Derived.Shelf.Abstract
import Derived.Shelf.RegionOpen
import Derived.WalkKit
import Derived.OwnWalkIn
import Derived.TacticsInMore
import Derived.LoopNIn
import Derived.LoopIn
import Derived.ControlIn
namespace Go.Proofs.YtcadomjkjoiakaaGreatDoor
open Cal Txt Ln Cb
def wlP (g:List (List UInt8)):ByteArray × Int:=if fold (unf g)=g then (tb (unf g),0) else (⟨#[]⟩,2)
def wls (l:List UInt8):List (ByteArray × Int):=(grp [] (lns l)).map wlP
theorem wlP_un (xs:List ByteArray):wlP (pcl xs)=(unV xs,unF xs):=by
 unfold wlP unV unF unB
 by_cases h:fold (unf (pcl xs))=pcl xs
 ·rw [if_pos h,decide_eq_true h];rfl
 ·rw [if_neg h,decide_eq_false h];rfl
abbrev en3 (p:ByteArray × Int):Array Value:=#[.string p.1,fault p.2]
theorem cut_piece (x:ByteArray) (h:¬ x.size=0):lns x.data.toList=(ctA 10 x).data.toList :: lns (ctB 10 x).data.toList:=by
 have hn:x.data.toList≠[]:=fun z=>h (by show x.data.toList.length=0;rw [z];rfl)
 rw [lns_cons hn]
 by_cases k:at1 10 x.data.toList<x.size
 ·rw [ctA_list k,ctB_list k]
 ·have e1:ctA 10 x=x:=if_neg k
  have e2:ctB 10 x=⟨#[]⟩:=if_neg k
  have l:x.data.toList.length=x.size:=rfl
  rw [e1,e2,List.take_of_length_le (by omega),List.drop_of_length_le (by omega)]
theorem cut_size (x:ByteArray) (h:¬ x.size=0):(ctB 10 x).size<x.size∧(ctA 10 x).size + 1 + (ctB 10 x).size≤x.size + 1∧(¬ (ctB 10 x).size=0→(ctA 10 x).size + 1 + (ctB 10 x).size≤x.size):=by
 have l:x.data.toList.length=x.size:=rfl
 by_cases k:at1 10 x.data.toList<x.size
 ·have a:(ctA 10 x).data.toList.length=(ctA 10 x).size:=rfl
  have b:(ctB 10 x).data.toList.length=(ctB 10 x).size:=rfl
  rw [ctA_list k,List.length_take] at a
  rw [ctB_list k,List.length_drop] at b
  omega
 ·have e1:ctA 10 x=x:=if_neg k
  have e2:ctB 10 x=⟨#[]⟩:=if_neg k
  have z:(⟨#[]⟩:ByteArray).size=0:=rfl
  rw [e1,e2]
  omega
theorem pre_bl (x:ByteArray):Go.Lib.hasPrefix x.data.toList [32]=bl x.data.toList:=by
 unfold bl
 cases x.data.toList with
 | nil=>rfl
 | cons a r=>
   unfold Go.Lib.hasPrefix
   rw [List.isPrefixOf]
   by_cases h:a=32
   ·subst h;rfl
   ·have h1:((32:UInt8) == a)=false:=by simpa using fun z=>h z.symm
    have h2:(some a == some (32:UInt8))=false:=by simpa using h
    rw [h1,List.head?_cons,h2];rfl
theorem pcl_snoc (a:List ByteArray) (p:ByteArray):pcl (a++[p])=pcl a++[p.data.toList]:=by simp [pcl]
theorem tot_snoc (a:List (List UInt8)) (p:List UInt8):tot (a++[p])=tot a + p.length:=by simp [tot]
theorem pcl_nil {a:List ByteArray}:pcl a=[]↔a=[]:=by simp [pcl]
end Go.Proofs.YtcadomjkjoiakaaGreatDoor
namespace Go.Proofs.YtcadomjkjoiakaaGreatDoor
open Go.RowKit Go.Shelf Cal Txt Ln Cb
attribute [local go_sem] Oper.semAt_some
theorem app_in {F:Fence} {n:Nat} {P:Program} (w:World) {ops:Array Oper} {rest:List Oper} {o:Oper} {a:Act} {Q:Exit→Act→World→Prop}
 (hg:o.guard=none) (s x:Operand) (t:TypeId) (hop:o.op=Op.call { callee:=Callee.builtin Builtin.append,args:=#[s,x],argTypes:=#[t,t] })
 (base:Nat) (e:TypeId) (i:TypeInfo) (z:Value) (size bytes:Nat) (h1:P.underlying t=some (.slice e)) (h2:P.info? e=some i) (h3:i.zero=some z) (h4:i.size=size) (h5:i.bytes=bytes) (h6:z.cells.size=size) (h7:0<size)
 (v:Value) (k:Nat) (xs:List Value) (hs:a.eval s=v) (hown:w.ownsRow base e size v k xs) (ad:Addr) (m c:Nat) (news:List Value) (hx:a.eval x=.slice (some ad) m c) (hn:news.length=m * size)
 (hc:∀ j u,news[j]?=some u→w.cell? (ad.add j)=some u) (h1c:∀ u∈news,u.oneCell'=true) (b1:k + m≤maxLen) (b2:(k + m) * bytes≤140737488355328) (b3:base≤w.heap.size)
 (hK:∀ v' w',w'.ownsRow base e size v' (k + m) (xs++news)→w.grownBy w' v.ownBlock→(v'.ownBlock=v.ownBlock∨v'.ownBlock=some w.heap.size)→wpListIn F n P ops Q rest (a.put o.dst v') w') :
 wpListIn F n P ops Q (o :: rest) a w:=by
 refine wpListIn_plain hg fun K hK'=>?_
 obtain ⟨v',w',hrun,r1,r2,_,r3⟩:=run_append_own_at (P:=P) w base t o.type e i z size bytes h1 h2 h3 h4 h5 h6 h7 v k xs hown ad m c news hn hc h1c b1 b2 b3
 unfold Oper.wpIn
 refine ⟨?_,?_⟩
 ·simp [Oper.about,hop,resolve,Target.leads,Sem.run_pure]
 ·rw [Oper.semAt_plain F _ _ (by rw [hop];intro c hc';cases hc')]
  simp [execOp,hop,resolve,invoke,builtin,hs,hx,hrun,Result.andThen]
  exact hK' _ _ (hK v' w' r1 r2 r3)
structure Whi {σ:Type} (s:ByteArray) (f:σ→ByteArray × Int→σ × Bool) (x0:σ) (J:σ→(Nat→Prop)→World→Prop) (S:Nat→Prop) (W:World) (v:Value) (a:List ByteArray) (x:ByteArray) (y:σ) (S':Nat→Prop) (wr:World):Prop where
 own:wr.ownsRow W.heap.size 9 1 v a.length (strs a)
 len:tot (pcl a) + a.length + x.size≤s.size + 1
 len2:¬ x.size=0→tot (pcl a) + a.length + x.size≤s.size
 hj:J y S' wr
 off:∀ g,v.ownBlock=some g→¬ S' g
 run:Sg.run f x0 (wls s.data.toList)=Sg.run f y ((grp (pcl a) (lns x.data.toList)).map wlP)
 gr:Gr S W S'
 kps:Kps S W wr
theorem Whi.on {σ:Type} {s:ByteArray} {f:σ→ByteArray × Int→σ × Bool} {x0:σ} {J:σ→(Nat→Prop)→World→Prop} {S:Nat→Prop} {W:World} {v:Value} {a:List ByteArray} {x:ByteArray} {y:σ} {S':Nat→Prop} {wr X:World} {n0:Nat} (FJ:Frm n0 J) (hn:n0≤wr.heap.size) (h:Whi s f x0 J S W v a x y S' wr) (q:Below wr.heap.size wr X):Whi s f x0 J S W v a x y S' X:=
 ⟨own_below h.own q,h.len,h.len2,FJ.on _ _ _ _ h.hj (q.mono hn) (fun b hb=>q.block b (FJ.lt _ _ _ h.hj b hb).2),h.off,h.run,h.gr,h.kps.trans (Kps.of_below (S:=fun _=>False) q) (fun _ e=>e.elim)⟩
theorem slice3 {W:World} {B k n:Nat} {t:TypeId} {v:Value} {xs:List Value} (h:W.ownsRow B t k v n xs):∃ a m c,v=.slice a m c:=by
 obtain ⟨a,c,q⟩:=slice_form h
 exact ⟨a,_,c,q⟩
theorem Whi.app {σ:Type} {s:ByteArray} {f:σ→ByteArray × Int→σ × Bool} {x0:σ} {J:σ→(Nat→Prop)→World→Prop} {S:Nat→Prop} {W:World} {v v':Value} {a:List ByteArray} {p q:ByteArray} {y:σ} {S':Nat→Prop} {wx w4:World} {o:Obj} {n0:Nat} (FJ:Frm n0 J) (hn:n0≤W.heap.size)
 (own:wx.ownsRow W.heap.size 9 1 v a.length (strs a)) (hj:J y S' wx) (off:∀ g,v.ownBlock=some g→¬ S' g) (gr:Gr S W S') (kps:Kps S W wx) (run:Sg.run f x0 (wls s.data.toList)=Sg.run f y ((grp (pcl (a++[p])) (lns q.data.toList)).map wlP))
 (len:tot (pcl (a++[p])) + (a++[p]).length + q.size≤s.size + 1) (len2:¬ q.size=0→tot (pcl (a++[p])) + (a++[p]).length + q.size≤s.size)
 (hown':w4.ownsRow W.heap.size 9 1 v' (a.length + 1) (strs a++[.string p])) (hgrow:(wx.alloc o).grownBy w4 v.ownBlock) (hat:v'.ownBlock=v.ownBlock∨v'.ownBlock=some (wx.alloc o).heap.size):Whi s f x0 J S W v' (a++[p]) q y S' w4:=by
 have b0:Below wx.heap.size wx (wx.alloc o):=(Below.refl _ _).alloc (Nat.le_refl _) _
 have ka:Kps (fun k=>v.ownBlock=some k) wx w4:=(Kps.of_below b0).trans (grown_kps hgrow) (Gr.refl _ _)
 have sz:W.heap.size≤wx.heap.size:=kps.size
 refine ⟨?_,len,len2,?_,?_,run,gr,?_⟩
 ·rw [List.length_append]
  unfold strs at hown' ⊢
  rw [List.map_append]
  exact hown'
 ·exact FJ.on _ _ _ _ hj (ka.below (n0:=n0) (fun k hk=>Nat.le_trans hn (own.lt k hk).1) (by omega)) (fun k hk=>ka.block k (FJ.lt _ _ _ hj k hk).2 (fun z=>off k z hk))
 ·intro g hg z
  rcases hat with e | e
  ·exact off g (e ▸ hg) z
  ·rw [e] at hg
   have e1:=Option.some.inj hg
   have e2:=(FJ.lt _ _ _ hj g z).2
   simp at e1
   omega
 ·refine ⟨ka.os.trans kps.os,ka.tape.trans kps.tape,ka.output.trans kps.output,Nat.le_trans kps.size ka.size,fun k hk hS=>?_⟩
  exact (ka.block k (by omega) (fun z=>by have:=(own.lt k z).1;omega)).trans (kps.block k hk hS)
set_option maxRecDepth 100000 in
set_option maxHeartbeats 4000000 in
theorem whole_itr (s:ByteArray) (hs:s.size≤1048576) (n0:Nat) (w0:World) (tB:Nat) (ht:Boxed w0 tB 9 (.string s)) :
 Sg.Itr Tryz.prog en3 31 #[.pointer (some ⟨tB,0,none⟩)] (wls s.data.toList) n0 w0 (fun b=>b=tB):=by
 intro σ f J JX l x S W FJ FX hY hJ hB hn hT
 obtain ⟨i0,hi,hz0,hz1,hz2⟩:=info_parts info_str
 have tW:Boxed W tB 9 (.string s):=(hT tB rfl).2.2.2.trans ht
 have ct:=tW.cell
 have hnW:n0≤W.heap.size:=Nat.le_trans hn hB.size
 have HY:=Lib.hid hY
 have H0:Whi s f x J S W (.slice none 0 0) [] s x S W:=⟨World.ownsRow_nil _ _ _ _,by simp [tot,pcl],fun _=>by simp [tot,pcl],hJ,fun g hg=>(by cases hg),rfl,Gr.refl _ _,Kps.refl _ _⟩
 have HH:=Lib.hid H0
 clear hY hT ht tW H0 hB hn
 refine (callsIn_wide (n:=3)).1 ?_
 refine callsIn_of_wp Tryz.func31 rfl trivial ?_ rfl
 simp only [Tryz.ntmps31,List.size_toArray,List.length_cons,List.length_nil,Nat.reduceAdd,Nat.reduceSub,Array.replicate_succ,Array.replicate_zero,List.push_toArray,List.append_toArray,List.nil_append,List.cons_append]
 gi_wp2
 clear ct
 gi_loopw [3,4] (fun v t wr=>∃ (a:List ByteArray) (x':ByteArray) (y:σ) (S':Nat→Prop),t=.string x'∧Whi s f x J S W v a x' y S' wr) (fun _ t _=>sLen t)
 case atStart=>exact ⟨[],s,x,S,rfl,HH.out⟩
 case round=>
  clear HH
  obtain ⟨a,x',y,S',rfl,hI⟩:=hrel
  have hnr:n0≤wr.heap.size:=Nat.le_trans hnW hI.kps.size
  obtain ⟨av,cv,rfl⟩:=slice_form hI.own
  have la:a.length≤1048577:=by have:=hI.len;omega
  have lt:tot (pcl a)≤1048577:=by have:=hI.len;omega
  have HI:=Lib.hid hI
  clear hI
  by_cases h0:x'.size=0
  ·have e0:x'=⟨#[]⟩:=ByteArray.ext (Array.eq_empty_of_size_eq_zero h0)
   subst e0
   have RN:Hid (Sg.run f x (wls s.data.toList)=Sg.run f y (if pcl a=[] then [] else [wlP (pcl a)])):=Lib.hid (by
    rw [HI.out.run]
    show Sg.run f y ((grp (pcl a) (lns [])).map wlP)=_
    rw [lns_nil]
    by_cases q:pcl a=[]
    ·rw [if_pos q,q,grp_nil0];rfl
    ·rw [if_neg q,grp_nil _ q];rfl)
   by_cases ha:a=[]
   ·subst ha
    have ZZ:=Lib.hid (show (∃ S',Gr S W S'∧Kps (fun k=>S k∨k=tB) W wr∧Out J JX (Sg.run f x (wls s.data.toList)) S' wr) from ⟨S',HI.out.gr,HI.out.kps.mono (fun k q=>Or.inl q),by rw [RN.out];exact Or.inl ⟨rfl,HI.out.hj⟩⟩)
    clear RN HI
    gi_wp2
    refine bodyPost_end (results_none rfl _ _ _) rfl ?_
    exact ⟨⟨_,rfl⟩,ZZ.out⟩
   ·have hp:0<a.length:=List.length_pos_iff.2 ha
    have hpi:(0:Int)<(a.length:Int):=by omega
    rw [if_neg (fun z=>ha (pcl_nil.1 z))] at RN
    have KU:=Lib.hid (unfold_any a (.slice av a.length cv) wr (own_txs HI.out.own) (by omega) (by omega))
    gi_wp2_with fail
    refine ⟨trivial,(callsIn_wide.2 KU.out).mono ?_⟩
    rintro y0 w1 ⟨rfl,hb⟩
    have I1:=HI.out.on FJ hnr hb
    obtain ⟨fn,tmps,assign,body,hy,hR⟩:=HY.out y S' w1 (wlP (pcl a)) (3 - 1) I1.hj ⟨[],RN.out⟩
    simp only [wlP_un,en3] at hy
    rcases hf:f y (wlP (pcl a)) with ⟨y2,b2⟩
    rw [hf] at hR
    have R2:Hid (Sg.run f x (wls s.data.toList)=(y2,b2)):=Lib.hid (by
     rw [RN.out]
     cases b2
     ·rw [Sg.run_no hf]
     ·rw [Sg.run_yes hf,Sg.run_nil])
    have HI1:=Lib.hid I1
    clear hf I1 HI KU RN hb
    gi_wp2
    refine hR.mono ?_
    rintro y0 W3 ⟨rfl,S3,g3,k3,ho⟩
    have ZZ:=Lib.hid (show (∃ S',Gr S W S'∧Kps (fun k=>S k∨k=tB) W W3∧Out J JX (Sg.run f x (wls s.data.toList)) S' W3) from ⟨S3,HI1.out.gr.trans g3 HI1.out.kps.size,(HI1.out.kps.trans k3 HI1.out.gr).mono (fun k q=>Or.inl q),by rw [R2.out];exact ho⟩)
    clear g3 k3 ho HI1 hy hR R2
    gi_wp2
    refine bodyPost_end (results_none rfl _ _ _) rfl ?_
    exact ⟨⟨_,rfl⟩,ZZ.out⟩
  ·have CP:=cut_piece x' h0
   obtain ⟨z1,z2,z3⟩:=cut_size x' h0
   have KC:=Lib.hid (strcut_any x' 10 wr (by have:=HI.out.len;omega))
   have hne:(x'.toList == [])=false:=by
    rw [ByteArray.toList_eq]
    have:¬ x'.data.toList=[]:=ne_of_size h0
    simpa using this
   have L2:=HI.out.len2 h0
   have RN0:=HI.out.run
   rw [CP] at RN0
   generalize ctA 10 x'=p at KC CP z1 z2 z3 RN0
   generalize ctB 10 x'=q at KC CP z1 z2 z3 RN0
   generalize ctF 10 x'=cf at KC
   have HRN:=Lib.hid RN0
   clear RN0 CP
   gi_wp2_with fail
   refine ⟨trivial,(callsIn_wide.2 KC.out).mono ?_⟩
   rintro y0 w1 ⟨rfl,hb⟩
   have I1:=Lib.hid (HI.out.on FJ hnr hb)
   have sz1:wr.heap.size≤w1.heap.size:=hb.size
   have szW:W.heap.size≤wr.heap.size:=HI.out.kps.size
   have hn1:n0≤w1.heap.size:=Nat.le_trans hnr sz1
   have ps:p.data.toList.length=p.size:=rfl
   have TL:Hid (tot (pcl (a++[p])) + (a++[p]).length + q.size=tot (pcl a) + a.length + (p.size + 1 + q.size)):=Lib.hid (by
    rw [pcl_snoc,tot_snoc,List.length_append,ps];simp;omega)
   have T1:Hid (tot (pcl (a++[p])) + (a++[p]).length + q.size≤s.size + 1):=Lib.hid (by rw [TL.out];omega)
   have T2:Hid (¬ q.size=0→tot (pcl (a++[p])) + (a++[p]).length + q.size≤s.size):=Lib.hid (fun z=>by have:=z3 z;rw [TL.out];omega)
   have U1:Hid (tot (pcl ([]++[p])) + ([]++[p]:List ByteArray).length + q.size≤s.size + 1):=Lib.hid (by
    have:tot (pcl ([]++[p]))=p.size:=by simp [pcl,tot]
    rw [this];simp;omega)
   have U2:Hid (¬ q.size=0→tot (pcl ([]++[p])) + ([]++[p]:List ByteArray).length + q.size≤s.size):=Lib.hid (fun z=>by
    have:tot (pcl ([]++[p]))=p.size:=by simp [pcl,tot]
    have:=z3 z
    rw [show tot (pcl ([]++[p]))=p.size by simp [pcl,tot]];simp;omega)
   clear hb HI KC L2
   by_cases ha:a=[]
   ·subst ha
    have RN:Hid (Sg.run f x (wls s.data.toList)=Sg.run f y ((grp (pcl ([]++[p])) (lns q.data.toList)).map wlP)):=Lib.hid (by
     rw [HRN.out]
     show Sg.run f y ((grp [] (p.data.toList :: lns q.data.toList)).map wlP)=_
     rw [grp_more _ (fun z=>z.1 rfl)]
     rfl)
    clear HRN
    gi_wp2_with fail
    refine ⟨trivial,?_⟩
    gi_wp2_with (gi_at_builtin;refine app_in _ rfl _ _ 61 rfl W.heap.size 9 i0 (.string ByteArray.empty) 1 16 Tryz.underlying61 hi hz0 hz1 hz2 rfl (by decide) _ _ _ rfl (I1.out.own.alloc _) ⟨w1.heap.size,0,none⟩ 1 1 [.string p] rfl rfl (cell_one_new _ _ _) (by simp [Value.oneCell']) (by unfold maxLen;omega) (by omega) (by simp;omega) ?_;intro v' w4 hown' hgrow hat;have M1:=Lib.hid (Whi.app FJ hnW I1.out.own I1.out.hj I1.out.off I1.out.gr I1.out.kps RN.out U1.out U2.out hown' hgrow hat);obtain ⟨av4,nv4,cv4,rfl⟩:=slice3 hown';clear hown' hgrow hat)
    go_roundw
    case rel=>exact ⟨_,q,_,_,rfl,M1.out⟩
    case measure=>simp [sLen];omega
   have hp:0<a.length:=List.length_pos_iff.2 ha
   have hpi:(0:Int)<(a.length:Int):=by omega
   have KH:=Lib.hid (Tryz.strings_HasPrefix p ⟨#[32]⟩ w1)
   rw [show (⟨#[32]⟩:ByteArray).data.toList=[32] from rfl,pre_bl] at KH
   rcases hbl:bl p.data.toList with _ | _
   ·-- a new line
    rw [hbl] at KH
    have GN:Hid (Sg.run f x (wls s.data.toList)=Sg.run f y (wlP (pcl a) :: (grp (pcl ([]++[p])) (lns q.data.toList)).map wlP)):=Lib.hid (by
     rw [HRN.out,grp_new _ (fun z=>ha (pcl_nil.1 z)) hbl]
     rfl)
    have KU:=Lib.hid (unfold_any a (.slice av a.length cv) w1 (own_txs I1.out.own) (by omega) (by omega))
    clear HRN hbl
    gi_wp2_with fail
    refine ⟨trivial,(callsIn_wide.2 KH.out).mono ?_⟩
    rintro y0 w1' ⟨rfl,hw⟩
    subst hw
    clear KH
    gi_wp2_with fail
    refine ⟨trivial,(callsIn_wide.2 KU.out).mono ?_⟩
    rintro y0 w2 ⟨rfl,hb2⟩
    have I2:=I1.out.on FJ hn1 hb2
    obtain ⟨fn,tmps,assign,body,hy,hR⟩:=HY.out y S' w2 (wlP (pcl a)) (3 - 1) I2.hj ⟨_,GN.out⟩
    simp only [wlP_un,en3] at hy
    have HI2:=Lib.hid I2
    have sz2:W.heap.size≤w2.heap.size:=I2.kps.size
    clear I2 hb2 KU I1
    rcases hf:f y (wlP (pcl a)) with ⟨y2,_ | _⟩
    ·rw [hf] at hR
     have R2:Hid (Sg.run f x (wls s.data.toList)=(y2,false)):=Lib.hid (by rw [GN.out,Sg.run_no hf])
     clear hf GN
     gi_wp2
     refine hR.mono ?_
     rintro y0 W3 ⟨rfl,S3,g3,k3,ho⟩
     have ZZ:=Lib.hid (show (∃ S',Gr S W S'∧Kps (fun k=>S k∨k=tB) W W3∧Out J JX (Sg.run f x (wls s.data.toList)) S' W3) from ⟨S3,HI2.out.gr.trans g3 HI2.out.kps.size,(HI2.out.kps.trans k3 HI2.out.gr).mono (fun k q=>Or.inl q),by rw [R2.out];exact ho⟩)
     clear g3 k3 ho HI2 hy hR R2
     gi_wp2
     refine bodyPost_ret (results_none rfl _ _ _) rfl ?_
     exact ⟨⟨_,rfl⟩,ZZ.out⟩
    ·rw [hf] at hR
     have R2:Hid (Sg.run f x (wls s.data.toList)=Sg.run f y2 ((grp (pcl ([]++[p])) (lns q.data.toList)).map wlP)):=Lib.hid (by rw [GN.out,Sg.run_yes hf])
     clear hf GN
     gi_wp2
     refine hR.mono ?_
     rintro y0 W3 ⟨rfl,S3,g3,k3,ho⟩
     have hJ3:Hid (J y2 S3 W3):=Lib.hid (by
      rcases ho with ⟨_,u⟩ | ⟨u,_⟩
      ·exact u
      ·cases u)
     have G3:Hid (Gr S W S3):=Lib.hid (HI2.out.gr.trans g3 HI2.out.kps.size)
     have K3:Hid (Kps S W W3):=Lib.hid (HI2.out.kps.trans k3 HI2.out.gr)
     have O3:W3.ownsRow W.heap.size 9 1 (.slice none 0 0) 0 (strs []):=World.ownsRow_nil _ _ _ _
     have sz3:W.heap.size≤W3.heap.size:=K3.out.size
     clear g3 k3 ho HI2 hy hR
     gi_wp2_with (gi_at_builtin;refine app_in _ rfl _ _ 61 rfl W.heap.size 9 i0 (.string ByteArray.empty) 1 16 Tryz.underlying61 hi hz0 hz1 hz2 rfl (by decide) _ _ _ rfl (O3.alloc _) ⟨W3.heap.size,0,none⟩ 1 1 [.string p] rfl rfl (cell_one_new _ _ _) (by simp [Value.oneCell']) (by unfold maxLen;omega) (by omega) (by simp;omega) ?_;intro v' w4 hown' hgrow hat;have M1:=Lib.hid (Whi.app FJ hnW (a:=[]) O3 hJ3.out (fun g hg=>(by cases hg)) G3.out K3.out R2.out U1.out U2.out hown' hgrow hat);obtain ⟨av4,nv4,cv4,rfl⟩:=slice3 hown';clear hown' hgrow hat)
     go_roundw
     case rel=>exact ⟨_,q,_,_,rfl,M1.out⟩
     case measure=>simp [sLen];omega
   ·-- the line goes on
    rw [hbl] at KH
    have RN:Hid (Sg.run f x (wls s.data.toList)=Sg.run f y ((grp (pcl (a++[p])) (lns q.data.toList)).map wlP)):=Lib.hid (by
     rw [HRN.out,grp_more _ (fun z=>by rw [hbl] at z;exact absurd z.2 (by decide)),pcl_snoc])
    clear HRN hbl
    gi_wp2_with fail
    refine ⟨trivial,(callsIn_wide.2 KH.out).mono ?_⟩
    rintro y0 w1' ⟨rfl,hw⟩
    subst hw
    clear KH
    gi_wp2_with (gi_at_builtin;refine app_in _ rfl _ _ 61 rfl W.heap.size 9 i0 (.string ByteArray.empty) 1 16 Tryz.underlying61 hi hz0 hz1 hz2 rfl (by decide) _ _ _ rfl (I1.out.own.alloc _) ⟨w1'.heap.size,0,none⟩ 1 1 [.string p] rfl rfl (cell_one_new _ _ _) (by simp [Value.oneCell']) (by unfold maxLen;omega) (by omega) (by simp;omega) ?_;intro v' w4 hown' hgrow hat;have M1:=Lib.hid (Whi.app FJ hnW I1.out.own I1.out.hj I1.out.off I1.out.gr I1.out.kps RN.out T1.out T2.out hown' hgrow hat);obtain ⟨av4,nv4,cv4,rfl⟩:=slice3 hown';clear hown' hgrow hat)
    go_roundw
    case rel=>exact ⟨_,q,_,_,rfl,M1.out⟩
    case measure=>simp [sLen];omega
end Go.Proofs.YtcadomjkjoiakaaGreatDoor
namespace Go.Proofs.YtcadomjkjoiakaaGreatDoor
open Cal Txt Ln Cb
def Lens (e:Evt) (m:Nat):Prop:=e.more.length≤m∧e.nots.length≤m∧e.chg.length≤m∧e.alm.length≤m
theorem lens_rd {k m:Nat} {e e':Evt} {v:List UInt8} (hk:k<9) (h:rd k e v=some e') (hl:Lens e m):Lens e' (m + 1):=by
 unfold Lens at *
 rcases nine hk with rfl | rfl | rfl | rfl | rfl | rfl | rfl | rfl | rfl
 ·rw [rd0] at h;have:=Option.some.inj h;subst this;dsimp only;omega
 ·rw [rd1,Option.map_eq_some_iff] at h;obtain ⟨t,_,rfl⟩:=h;dsimp only;omega
 ·rw [rd2,Option.map_eq_some_iff] at h;obtain ⟨t,_,rfl⟩:=h;dsimp only;omega
 ·rw [rd3,Option.map_eq_some_iff] at h;obtain ⟨t,_,rfl⟩:=h;dsimp only;omega
 ·rw [rd4,Option.map_eq_some_iff] at h;obtain ⟨t,_,rfl⟩:=h;dsimp only;omega
 ·rw [rd5,Option.map_eq_some_iff] at h;obtain ⟨t,_,rfl⟩:=h;simp;omega
 ·rw [rd6,Option.map_eq_some_iff] at h;obtain ⟨t,_,rfl⟩:=h;simp;omega
 ·rw [rd7,Option.map_eq_some_iff] at h;obtain ⟨t,_,rfl⟩:=h;simp;omega
 ·rw [rd8,Option.map_eq_some_iff] at h;obtain ⟨t,_,rfl⟩:=h;simp;omega
theorem lens_tk {st st':Evt × Nat} {m:Nat} {l:List UInt8} (h:tk1 st l=some st') (hl:Lens st.1 m):Lens st'.1 (m + 1):=by
 obtain ⟨k,v,e,hk,_,_,_,hr,rfl⟩:=tk1_in h
 exact lens_rd hk hr hl
noncomputable def taF (p:(Evt × Nat) × Nat) (q:ByteArray × Int):((Evt × Nat) × Nat) × Bool:=match tk1 p.1 q.1.data.toList with
 | some st=>((st,p.2 + 1),true)
 | none=>(p,false)
theorem taF_yes {p:(Evt × Nat) × Nat} {q:ByteArray × Int} {st:Evt × Nat} (h:tk1 p.1 q.1.data.toList=some st):taF p q=((st,p.2 + 1),true):=by unfold taF;rw [h]
theorem taF_no {p:(Evt × Nat) × Nat} {q:ByteArray × Int} (h:tk1 p.1 q.1.data.toList=none):taF p q=(p,false):=by unfold taF;rw [h]
theorem ta_mono:∀ (ys:List (ByteArray × Int)) (p:(Evt × Nat) × Nat),p.2≤(Sg.run taF p ys).1.2
 | [],p=>Nat.le_refl _
 | q :: ys,p=>by
   cases h:tk1 p.1 q.1.data.toList with
   | none=>rw [Sg.run_no (taF_no h)];exact Nat.le_refl _
   | some st=>
     rw [Sg.run_yes (taF_yes h)]
     have:=ta_mono ys (st,p.2 + 1)
     dsimp only at this
     omega
theorem ta_most:∀ (ys:List (ByteArray × Int)) (p:(Evt × Nat) × Nat),(Sg.run taF p ys).1.2≤p.2 + ys.length
 | [],p=>Nat.le_refl _
 | q :: ys,p=>by
   cases h:tk1 p.1 q.1.data.toList with
   | none=>rw [Sg.run_no (taF_no h)];simp
   | some st=>
     rw [Sg.run_yes (taF_yes h)]
     have:=ta_most ys (st,p.2 + 1)
     dsimp only at this
     rw [List.length_cons]
     omega
theorem lns_len:∀ (n:Nat) {l:List UInt8},l.length≤n→(lns l).length≤l.length
 | _,[],_=>by rw [lns_nil];simp
 | 0,_ :: _,h=>by simp at h
 | n + 1,b :: r,h=>by
   rw [lns_cons (by simp),List.length_cons]
   have:=lns_len n (l:=(b :: r).drop (at1 10 (b :: r) + 1)) (by rw [List.length_drop];simp at h ⊢;omega)
   rw [List.length_drop] at this
   simp at this ⊢
   omega
theorem grp_len:∀ (ps a:List (List UInt8)),(grp a ps).length≤ps.length + (if a=[] then 0 else 1)
 | [],a=>by
   by_cases h:a=[]
   ·rw [h,grp_nil0];simp
   ·rw [grp_nil a h,if_neg h];simp
 | p :: ps,a=>by
   by_cases h:a≠[]∧bl p=false
   ·rw [grp_new ps h.1 h.2,if_neg h.1,List.length_cons,List.length_cons]
    have:=grp_len ps [p]
    rw [if_neg (by simp)] at this
    omega
   ·rw [grp_more ps h,List.length_cons]
    have:=grp_len ps (a++[p])
    rw [if_neg (by simp)] at this
    omega
theorem wls_len (l:List UInt8):(wls l).length≤l.length:=by
 unfold wls
 rw [List.length_map]
 have a:=grp_len (lns l) []
 rw [if_pos rfl] at a
 have b:=lns_len _ (Nat.le_refl l.length)
 omega
noncomputable def taR (s:List UInt8) (p:(Evt × Nat) × Nat):Option (Evt × Nat):=if (Sg.run taF p (wls s)).2=true∧((Sg.run taF p (wls s)).1.2=0∨ends s=true)∧4≤(Sg.run taF p (wls s)).1.1.2 then some (Sg.run taF p (wls s)).1.1 else none
theorem run_tk:∀ (ws:List (List UInt8)) (st:Evt × Nat) (n:Nat),(∀ st',tkL st ws=some st'→Sg.run taF (st,n) (ws.map fun w=>(tb w,0))=((st',n + ws.length),true))∧(tkL st ws=none→(Sg.run taF (st,n) (ws.map fun w=>(tb w,0))).2=false)
 | [],st,n=>⟨fun st' h=>by rw [Option.some.inj h];rfl,fun h=>by cases h⟩
 | w :: ws,st,n=>by
   cases h:tk1 st w with
   | none=>exact ⟨fun st' q=>(by rw [tkL_no h] at q;cases q),fun _=>by rw [List.map_cons,Sg.run_no (taF_no (p:=(st,n)) (q:=(tb w,0)) h)]⟩
   | some s1=>
     obtain ⟨i1,i2⟩:=run_tk ws s1 (n + 1)
     refine ⟨fun st' q=>?_,fun q=>?_⟩
     ·rw [tkL_cons h] at q
      rw [List.map_cons,Sg.run_yes (taF_yes (p:=(st,n)) (q:=(tb w,0)) h),i1 st' q,List.length_cons]
      congr 2
      omega
     ·rw [tkL_cons h] at q
      rw [List.map_cons,Sg.run_yes (taF_yes (p:=(st,n)) (q:=(tb w,0)) h)]
      exact i2 q
theorem suf_ends (s:ByteArray):Go.Lib.hasSuffix s.data.toList [10]=ends s.data.toList:=by
 unfold Go.Lib.hasSuffix ends List.isSuffixOf
 rw [List.getLast?_eq_head?_reverse]
 show [10].isPrefixOf s.data.toList.reverse=_
 cases s.data.toList.reverse with
 | nil=>rfl
 | cons a r=>
   rw [List.isPrefixOf]
   by_cases h:a=10
   ·subst h;rfl
   ·have h1:((10:UInt8) == a)=false:=by simpa using fun z=>h z.symm
    have h2:(some a == some (10:UInt8))=false:=by simpa using h
    rw [h1,List.head?_cons,h2];rfl
noncomputable def taG (y:((Evt × Nat) × Nat) × Option (List (ByteArray × Int))) (q:ByteArray × Int):(((Evt × Nat) × Nat) × Option (List (ByteArray × Int))) × Bool:=open Classical in match y.2 with
 | some (r :: rem)=>if r=q then (((taF y.1 q).1,some rem),(taF y.1 q).2) else ((y.1,none),false)
 | _=>((y.1,none),false)
theorem taG_hit (p:(Evt × Nat) × Nat) (q:ByteArray × Int) (rem:List (ByteArray × Int)):taG (p,some (q :: rem)) q=(((taF p q).1,some rem),(taF p q).2):=by unfold taG;dsimp only;rw [if_pos rfl]
theorem taG_run:∀ (xs:List (ByteArray × Int)) (p:(Evt × Nat) × Nat),∃ rem,Sg.run taG (p,some xs) xs=(((Sg.run taF p xs).1,some rem),(Sg.run taF p xs).2)
 | [],p=>⟨[],rfl⟩
 | q :: xs,p=>by
   have h:=taG_hit p q xs
   rcases hf:taF p q with ⟨p',_ | _⟩
   ·rw [hf] at h
    exact ⟨xs,by rw [Sg.run_no h,Sg.run_no hf]⟩
   ·rw [hf] at h
    obtain ⟨rem,ih⟩:=taG_run xs p'
    exact ⟨rem,by rw [Sg.run_yes h,Sg.run_yes hf,ih]⟩
theorem taG_in {xs ns:List (ByteArray × Int)} {p0 p:(Evt × Nat) × Nat} {rem:List (ByteArray × Int)} {q:ByteArray × Int} (h:Sg.run taG (p0,some xs) xs=Sg.run taG (p,some rem) (q :: ns)):∃ r',rem=q :: r':=by
 obtain ⟨r0,h0⟩:=taG_run xs p0
 have bad:taG (p,some rem) q=((p,none),false)→False:=fun z=>by
  rw [h0,Sg.run_no z] at h
  have:=congrArg (fun t=>t.1.2) h
  cases this
 cases rem with
 | nil=>exact (bad rfl).elim
 | cons r rem=>
   by_cases e:r=q
   ·exact ⟨rem,by rw [e]⟩
   ·refine (bad ?_).elim
    unfold taG
    dsimp only
    rw [if_neg e]
theorem taG_count {xs ns:List (ByteArray × Int)} {p0 p:(Evt × Nat) × Nat} {rem:List (ByteArray × Int)} {q:ByteArray × Int} (h:Sg.run taG (p0,some xs) xs=Sg.run taG (p,some (q :: rem)) (q :: ns)):p.2≤p0.2 + xs.length:=by
 obtain ⟨r0,h0⟩:=taG_run xs p0
 have m:=ta_most xs p0
 have k:∀ (ys:List (ByteArray × Int)) (y:((Evt × Nat) × Nat) × Option (List (ByteArray × Int))),y.1.2≤(Sg.run taG y ys).1.1.2:=by
  intro ys
  induction ys with
  | nil=>intro y;exact Nat.le_refl _
  | cons q ys ih=>
    intro y
    have st:y.1.2≤(taG y q).1.1.2:=by
     unfold taG
     split
     ·split
      ·have:=ta_mono [q] y.1
       rcases hf:taF y.1 q with ⟨p',_ | _⟩
       ·rw [Sg.run_no hf] at this;exact this
       ·rw [Sg.run_yes hf,Sg.run_nil] at this;exact this
      ·exact Nat.le_refl _
     ·exact Nat.le_refl _
    rcases hf:taG y q with ⟨y',_ | _⟩
    ·rw [Sg.run_no hf];rw [hf] at st;exact st
    ·rw [Sg.run_yes hf];rw [hf] at st;exact Nat.le_trans st (ih y')
 have a:=k (q :: ns) (p,some (q :: rem))
 rw [← h,h0] at a
 dsimp only at a
 omega
theorem tot_le:∀ (gs:List (List (List UInt8))),∀ g∈gs,tot g≤tot gs.flatten
 | g0 :: gs,g,hg=>by
   have ta:∀ a b:List (List UInt8),tot (a++b)=tot a + tot b:=fun a b=>by simp [tot]
   rw [List.flatten_cons,ta]
   rcases List.mem_cons.1 hg with rfl | hg
   ·omega
   ·have:=tot_le gs g hg;omega
theorem lns_tot:∀ (n:Nat) {l:List UInt8},l.length≤n→tot (lns l)≤l.length
 | _,[],_=>by rw [lns_nil];simp [tot]
 | 0,_ :: _,h=>by simp at h
 | n + 1,b :: r,h=>by
   rw [lns_cons (by simp),tot_cons]
   have:=lns_tot n (l:=(b :: r).drop (at1 10 (b :: r) + 1)) (by rw [List.length_drop];simp at h ⊢;omega)
   have a:=at1_le 10 (b :: r)
   rw [List.length_drop] at this
   rw [List.length_take]
   omega
theorem wls_size (l:List UInt8):∀ q∈wls l,q.1.size≤l.length:=by
 intro q hq
 unfold wls at hq
 obtain ⟨g,hg,rfl⟩:=List.mem_map.1 hq
 have a:=tot_le _ g hg
 rw [grp_flat,List.nil_append] at a
 have b:=lns_tot _ (Nat.le_refl l.length)
 have c:=unf_len g
 unfold wlP
 split
 ·show (tb (unf g)).data.toList.length≤_
  rw [tb_data]
  omega
 ·show (0:Nat)≤_
  omega
end Go.Proofs.YtcadomjkjoiakaaGreatDoor
namespace Go.Proofs.YtcadomjkjoiakaaGreatDoor
open Go.RowKit Go.Shelf Cal Txt Ln Cb
def RlBc (s:Evs) (r:Rl) (k:Nat):Prop:=(¬ r.months=[]∧∃ a n c,s.vm=.slice (some a) n c∧a.block=k)∨(¬ r.days=[]∧∃ a n c,s.vd=.slice (some a) n c∧a.block=k)∨(¬ r.weeks=[]∧∃ a n c,s.vw=.slice (some a) n c∧a.block=k)∨(¬ r.pick=[]∧∃ a n c,s.vp=.slice (some a) n c∧a.block=k)
theorem IntO.blk {W:World} {S:Nat→Prop} {v:Value} {l:List Int} (h:IntO W S v l) (h0:¬ l=[]) {k:Nat} (hk:∃ a n c,v=.slice (some a) n c∧a.block=k):k<W.heap.size∧¬ S k:=by
 obtain ⟨a,n,c,e,rfl⟩:=hk
 obtain ⟨⟨a',c',e',hc⟩,ho⟩:=h
 rcases hc with hc | ⟨b,off,ea,hc⟩
 ·exact absurd hc h0
 ·have ec:=ecell_in (hc 0 (List.length_pos_iff.2 h0))
  have eb:a.block=b:=by rw [e,ea] at e';injection e' with e1 _ _;injection e1 with e1;rw [e1]
  exact ⟨by rw [eb];exact ec,ho.elim (fun z=>absurd z h0) (fun z=>z a n c e)⟩
theorem NthO.blk {W:World} {S:Nat→Prop} {v:Value} {l:List (Int × Int)} (h:NthO W S v l) (h0:¬ l=[]) {k:Nat} (hk:∃ a n c,v=.slice (some a) n c∧a.block=k):k<W.heap.size∧¬ S k:=by
 obtain ⟨a,n,c,e,rfl⟩:=hk
 obtain ⟨⟨a',c',e',hc⟩,ho⟩:=h
 rcases hc with hc | ⟨b,off,ea,hc⟩
 ·exact absurd hc h0
 ·have ec:=ecell_in (hc 0 (List.length_pos_iff.2 h0)).1
  have eb:a.block=b:=by rw [e,ea] at e';injection e' with e1 _ _;injection e1 with e1;rw [e1]
  exact ⟨by rw [eb];exact ec,ho.elim (fun z=>absurd z h0) (fun z=>z a n c e)⟩
theorem RuO.blk {W:World} {S:Nat→Prop} {r:Rl} {s:Evs} (h:RuO W S r s) {k:Nat} (hk:RlBc s r k):k<W.heap.size∧¬ S k:=by
 rcases hk with ⟨a,b⟩ | ⟨a,b⟩ | ⟨a,b⟩ | ⟨a,b⟩
 ·exact h.1.blk a b
 ·exact h.2.1.blk a b
 ·exact h.2.2.1.blk a b
 ·exact h.2.2.2.blk a b
theorem IntO.same {W W':World} {S:Nat→Prop} {v:Value} {l:List Int} (h:IntO W S v l) (q:¬ l=[]→∀ k,(∃ a n c,v=.slice (some a) n c∧a.block=k)→W'.heap[k]?=W.heap[k]?):IntO W' S v l:=by
 obtain ⟨⟨a,c,e,hc⟩,ho⟩:=h
 by_cases h0:l=[]
 ·exact ⟨⟨a,c,e,Or.inl h0⟩,Or.inl h0⟩
 ·refine ⟨⟨a,c,e,hc.imp id (fun ⟨b,off,ea,hc⟩=>⟨b,off,ea,fun i hi=>(World.cell?_of_block (q h0 b ⟨⟨b,off,none⟩,_,_,by rw [e,ea],rfl⟩)).trans (hc i hi)⟩)⟩,ho⟩
theorem NthO.same {W W':World} {S:Nat→Prop} {v:Value} {l:List (Int × Int)} (h:NthO W S v l) (q:¬ l=[]→∀ k,(∃ a n c,v=.slice (some a) n c∧a.block=k)→W'.heap[k]?=W.heap[k]?):NthO W' S v l:=by
 obtain ⟨⟨a,c,e,hc⟩,ho⟩:=h
 by_cases h0:l=[]
 ·exact ⟨⟨a,c,e,Or.inl h0⟩,Or.inl h0⟩
 ·refine ⟨⟨a,c,e,hc.imp id (fun ⟨b,off,ea,hc⟩=>⟨b,off,ea,fun i hi=>⟨(World.cell?_of_block (q h0 b ⟨⟨b,off,none⟩,_,_,by rw [e,ea],rfl⟩)).trans (hc i hi).1,(World.cell?_of_block (q h0 b ⟨⟨b,off,none⟩,_,_,by rw [e,ea],rfl⟩)).trans (hc i hi).2⟩⟩)⟩,ho⟩
theorem RuO.same {W W':World} {S:Nat→Prop} {r:Rl} {s:Evs} (h:RuO W S r s) (q:∀ k,RlBc s r k→W'.heap[k]?=W.heap[k]?):RuO W' S r s:=
 ⟨h.1.same (fun z k hk=>q k (Or.inl ⟨z,hk⟩)),h.2.1.same (fun z k hk=>q k (Or.inr (Or.inl ⟨z,hk⟩))),h.2.2.1.same (fun z k hk=>q k (Or.inr (Or.inr (Or.inl ⟨z,hk⟩)))),h.2.2.2.same (fun z k hk=>q k (Or.inr (Or.inr (Or.inr ⟨z,hk⟩))))⟩
theorem RdJ.same {b n1:Nat} {e:Evt} {nx:Nat} {s:Evs} {S:Nat→Prop} {W W':World} (h:RdJ b n1 e nx s S W) (q:∀ k,S k→W'.heap[k]?=W.heap[k]?) (q2:∀ k,RlBc s e.rule k→W'.heap[k]?=W.heap[k]?):RdJ b n1 e nx s S W':=
 ⟨(q b ((h.hs b).2 (Or.inl rfl))).trans h.rb,own_blk h.r5 (fun g hg=>q g ((h.hs g).2 (Or.inr (Or.inl hg)))),own_blk h.r6 (fun g hg=>q g ((h.hs g).2 (Or.inr (Or.inr (Or.inl hg))))),own_blk h.r7 (fun g hg=>q g ((h.hs g).2 (Or.inr (Or.inr (Or.inr (Or.inl hg)))))),own_blk h.r8 (fun g hg=>q g ((h.hs g).2 (Or.inr (Or.inr (Or.inr (Or.inr hg)))))),h.d,h.ru.same q2,h.hs,h.hn⟩
theorem rlb_new {e e':Evt} {s s':Evs} {n k:Nat} (h:RlN e e' s s' n) (hk:RlBc s' e'.rule k):RlBc s e.rule k∨n<k:=by
 rcases h with ⟨a,b,c,d,r⟩ | ⟨a,b,c,d⟩
 ·left
  unfold RlBc at hk ⊢
  rw [a,b,c,d,r] at hk
  exact hk
 ·right
  rcases hk with ⟨_,q,m,l,e1,rfl⟩ | ⟨_,q,m,l,e1,rfl⟩ | ⟨_,q,m,l,e1,rfl⟩ | ⟨_,q,m,l,e1,rfl⟩
  ·exact a q m l e1
  ·exact b q m l e1
  ·exact c q m l e1
  ·exact d q m l e1
structure TaJ (b n1 z:Nat) (p:(Evt × Nat) × Nat) (u4 u5:Value) (S M:Nat→Prop) (s:Evs) (W:World):Prop where
 rd:RdJ b n1 p.1.1 p.1.2 s M W
 rl:∀ k,RlBc s p.1.1.rule k→n1≤k∧¬ (z≤k∧k<z + 4)
 off:∀ k,M k→¬ (z≤k∧k<z + 4)
 hs:∀ k,S k↔(M k∨RlBc s p.1.1.rule k∨(z≤k∧k<z + 4))
 c0:Boxed W z 91 (.pointer (some ⟨b,0,none⟩))
 c1:Boxed W (z + 1) 3 u4
 c2:Boxed W (z + 2) 4 u5
 c3:Boxed W (z + 3) 3 (.int .i64 p.2)
 ln:Lens p.1.1 p.2
def TaI (b n1 z:Nat) (p:(Evt × Nat) × Nat) (S:Nat→Prop) (W:World):Prop:=∃ M s,TaJ b n1 z p (.int .i64 0) (.bool false) S M s W
theorem TaI.frm {b n1 z:Nat} (hz:n1≤z):Frm n1 (TaI b n1 z):=by
 refine ⟨fun p S W h k hk=>?_,fun p S W W' h q same=>?_⟩
 ·obtain ⟨M,s,h⟩:=h
  rcases (h.hs k).1 hk with y | y | y
  ·exact h.rd.lt k y
  ·exact ⟨(h.rl k y).1,(h.rd.ru.blk y).1⟩
  ·have:=h.c3.lt
   exact ⟨by omega,by omega⟩
 ·obtain ⟨M,s,h⟩:=h
  exact ⟨M,s,h.rd.same (fun k hk=>same k ((h.hs k).2 (Or.inl hk))) (fun k hk=>same k ((h.hs k).2 (Or.inr (Or.inl hk)))),h.rl,h.off,h.hs,(same z ((h.hs z).2 (Or.inr (Or.inr ⟨by omega,by omega⟩)))).trans h.c0,(same (z + 1) ((h.hs _).2 (Or.inr (Or.inr ⟨by omega,by omega⟩)))).trans h.c1,(same (z + 2) ((h.hs _).2 (Or.inr (Or.inr ⟨by omega,by omega⟩)))).trans h.c2,(same (z + 3) ((h.hs _).2 (Or.inr (Or.inr ⟨by omega,by omega⟩)))).trans h.c3,h.ln⟩
def TaX (n1 z:Nat) (c:Code) (p:(Evt × Nat) × Nat) (S:Nat→Prop) (W:World):Prop:=c=.ret∧(∀ k,S k→n1≤k∧k<W.heap.size)∧S (z + 1)∧S (z + 2)∧Boxed W (z + 1) 3 (.int .i64 p.2)∧Boxed W (z + 2) 4 (.bool false)
theorem TaX.frm {n1 z:Nat} (c:Code):Frm n1 (TaX n1 z c):=by
 refine ⟨fun p S W h k hk=>h.2.1 k hk,fun p S W W' h q same=>?_⟩
 obtain ⟨h0,h1,h2,h3,h4,h5⟩:=h
 exact ⟨h0,fun k hk=>⟨(h1 k hk).1,Nat.lt_of_lt_of_le (h1 k hk).2 q.size⟩,h2,h3,(same _ h2).trans h4,(same _ h3).trans h5⟩
theorem TaJ.step {b n1 z:Nat} {p:(Evt × Nat) × Nat} {st':Evt × Nat} {u4 u5:Value} {S M M':Nat→Prop} {s s':Evs} {X w1:World} (h:TaJ b n1 z p u4 u5 S M s X) (hz:n1≤z) (hl:Lens st'.1 (p.2 + 1)) (g:Gr M X M') (k:Kps M X w1) (J:RdJ b n1 st'.1 st'.2 s' M' w1) (N:RlN p.1.1 st'.1 s s' X.heap.size) :
 (Boxed w1 (z + 3) 3 (.int .i64 p.2))∧∃ S',Gr S X S'∧Kps S X (w1.setCell ⟨z + 3,0,none⟩ (.int .i64 ((p.2:Int) + 1)))∧TaJ b n1 z (st',p.2 + 1) u4 u5 S' M' s' (w1.setCell ⟨z + 3,0,none⟩ (.int .i64 ((p.2:Int) + 1))):=by
 have zX:z + 3<X.heap.size:=h.c3.lt
 have nM:∀ j,z≤j→j<z + 4→¬ M j:=fun j h1 h2 hj=>h.off j hj ⟨h1,h2⟩
 have d0:Boxed w1 z 91 (.pointer (some ⟨b,0,none⟩)):=(k.block z (by omega) (nM _ (by omega) (by omega))).trans h.c0
 have d1:Boxed w1 (z + 1) 3 u4:=(k.block (z + 1) (by omega) (nM _ (by omega) (by omega))).trans h.c1
 have d2:Boxed w1 (z + 2) 4 u5:=(k.block (z + 2) (by omega) (nM _ (by omega) (by omega))).trans h.c2
 have d3:Boxed w1 (z + 3) 3 (.int .i64 p.2):=(k.block (z + 3) (by omega) (nM _ (by omega) (by omega))).trans h.c3
 have ks:Kps (fun j=>j=z + 3) w1 (w1.setCell ⟨z + 3,0,none⟩ (.int .i64 ((p.2:Int) + 1))):=Kps.set _ rfl
 have oM:∀ j,M' j→¬ (z≤j∧j<z + 4):=fun j hj=>(g j hj).elim (h.off j) (fun u=>by omega)
 have oR:∀ j,RlBc s' st'.1.rule j→n1≤j∧¬ (z≤j∧j<z + 4):=fun j hj=>(rlb_new N hj).elim (h.rl j) (fun u=>⟨by omega,by omega⟩)
 have sm:∀ j,j<w1.heap.size→j≠z + 3→(w1.setCell ⟨z + 3,0,none⟩ (.int .i64 ((p.2:Int) + 1))).heap[j]?=w1.heap[j]?:=fun j hj hne=>ks.block j hj hne
 have kS:Kps S X (w1.setCell ⟨z + 3,0,none⟩ (.int .i64 ((p.2:Int) + 1))):=(k.mono (S1:=S) (fun j hj=>(h.hs j).2 (Or.inl hj))).trans (ks.mono (S1:=S) (fun j hj=>(h.hs j).2 (Or.inr (Or.inr (by omega))))) (Gr.refl _ _)
 refine ⟨d3,fun j=>M' j∨RlBc s' st'.1.rule j∨(z≤j∧j<z + 4),?_,kS,?_⟩
 ·rintro j (hj | hj | hj)
  ·exact (g j hj).imp (fun u=>(h.hs j).2 (Or.inl u)) id
  ·exact (rlb_new N hj).imp (fun u=>(h.hs j).2 (Or.inr (Or.inl u))) (fun u=>Nat.le_of_lt u)
  ·exact Or.inl ((h.hs j).2 (Or.inr (Or.inr hj)))
 ·refine ⟨J.same (fun j hj=>sm j (J.lt j hj).2 (fun e=>oM j hj (by omega))) (fun j hj=>sm j (J.ru.blk hj).1 (fun e=>(oR j hj).2 (by omega))),oR,oM,fun j=>Iff.rfl,(sm z d0.lt (by omega)).trans d0,(sm (z + 1) d1.lt (by omega)).trans d1,(sm (z + 2) d2.lt (by omega)).trans d2,?_,hl⟩
  have:=d3.set (.int .i64 ((p.2:Int) + 1))
  simpa using this
end Go.Proofs.YtcadomjkjoiakaaGreatDoor
namespace Go.Proofs.YtcadomjkjoiakaaGreatDoor
open Go.RowKit Go.Shelf Cal Txt Ln Cb
attribute [local go_sem] Oper.semAt_some
theorem wholeLines_any (text:ByteArray) (w:World):Calls Tryz.prog 16 #[.string text] w fun x w'=>x=.returned (.func (.func 31) #[] #[.pointer (some ⟨w.heap.size,0,none⟩)])∧w'=w.alloc (.cells #[.string text] 9):=by
 go_enter Tryz.func16,Tryz.ntmps16
 go_wp2
 go_ret
 exact ⟨rfl,rfl⟩
def TaA (b n1:Nat) (o:Option (Evt × Nat)) (w:World) (x:Ending) (w':World):Prop:=
 Below n1 w w'∧((o=none∧∃ N:Int,x=.returned (.tuple #[.int .i64 N,.bool false]))∨(∃ (st:Evt × Nat) (N:Int),o=some st∧x=.returned (.tuple #[.int .i64 N,.bool true])∧∃ s M,RdJ b n1 st.1 st.2 s M w'∧∀ k,M k∨RlBc s st.1.rule k→n1≤k))
theorem bxd_alloc {W:World} {b:Nat} {t:TypeId} {v:Value} (h:Boxed W b t v) (o:Obj):Boxed (W.alloc o) b t v:=(((Below.refl W.heap.size W).alloc (Nat.le_refl _) o).block b h.lt).trans h
theorem bxd_put2 {W:World} {b D:Nat} {t:TypeId} {v:Value} (h:Boxed W b t v) (hd:b≠D) (o:Obj):Boxed (W.putObj D o) b t v:=(World.putObj_heap_other hd).trans h
theorem ta_fin {W:World} {z:Nat} {T:TypeId} {p vn v1 v2:Value} (c0:Boxed W z T p) (c1:Boxed W (z + 1) 3 v1) (c2:Boxed W (z + 2) 4 v2) (c3:Boxed W (z + 3) 3 vn) (u1 u2:Value) :
 ((W.setCell ⟨z + 1,0,none⟩ u1).cell? ⟨z + 3,0,none⟩=some vn∧(W.setCell ⟨z + 1,0,none⟩ u1).cell? ⟨z,0,none⟩=some p)∧(((W.setCell ⟨z + 1,0,none⟩ u1).setCell ⟨z + 2,0,none⟩ u2).cell? ⟨z + 3,0,none⟩=some vn∧((W.setCell ⟨z + 1,0,none⟩ u1).setCell ⟨z + 2,0,none⟩ u2).cell? ⟨z,0,none⟩=some p)∧
 Boxed (W.setCell ⟨z + 1,0,none⟩ u1) (z + 2) 4 v2∧Boxed ((W.setCell ⟨z + 1,0,none⟩ u1).setCell ⟨z + 2,0,none⟩ u2) (z + 1) 3 u1∧Boxed ((W.setCell ⟨z + 1,0,none⟩ u1).setCell ⟨z + 2,0,none⟩ u2) (z + 2) 4 u2∧Kps (fun k=>k=z + 1∨k=z + 2) W ((W.setCell ⟨z + 1,0,none⟩ u1).setCell ⟨z + 2,0,none⟩ u2):=by
 have kA:Kps (fun j=>j=z + 1) W (W.setCell ⟨z + 1,0,none⟩ u1):=Kps.set _ rfl
 have kB:Kps (fun j=>j=z + 2) (W.setCell ⟨z + 1,0,none⟩ u1) ((W.setCell ⟨z + 1,0,none⟩ u1).setCell ⟨z + 2,0,none⟩ u2):=Kps.set _ rfl
 have a3:Boxed (W.setCell ⟨z + 1,0,none⟩ u1) (z + 3) 3 vn:=(kA.block (z + 3) c3.lt (by omega)).trans c3
 have a0:Boxed (W.setCell ⟨z + 1,0,none⟩ u1) z T p:=(kA.block z c0.lt (by omega)).trans c0
 have a2:Boxed (W.setCell ⟨z + 1,0,none⟩ u1) (z + 2) 4 v2:=(kA.block (z + 2) c2.lt (by omega)).trans c2
 have a1:Boxed (W.setCell ⟨z + 1,0,none⟩ u1) (z + 1) 3 u1:=c1.set _
 have b3:Boxed ((W.setCell ⟨z + 1,0,none⟩ u1).setCell ⟨z + 2,0,none⟩ u2) (z + 3) 3 vn:=(kB.block (z + 3) a3.lt (by omega)).trans a3
 have b0:Boxed ((W.setCell ⟨z + 1,0,none⟩ u1).setCell ⟨z + 2,0,none⟩ u2) z T p:=(kB.block z a0.lt (by omega)).trans a0
 exact ⟨⟨a3.cell,a0.cell⟩,⟨b3.cell,b0.cell⟩,a2,(kB.block (z + 1) a1.lt (by omega)).trans a1,a2.set _,(kA.mono (fun j hj=>Or.inl hj)).trans (kB.mono (S1:=fun k=>k=z + 1∨k=z + 2) (fun j hj=>Or.inr hj)) (Gr.refl _ _)⟩
theorem ta_end {b n1 z D:Nat} {e1:Evt} {nx1:Nat} {s1:Evs} {M1:Nat→Prop} {W W':World} (J:RdJ b n1 e1 nx1 s1 M1 W) (off:∀ k,M1 k→¬ (z≤k∧k<z + 4)) (rl:∀ k,RlBc s1 e1.rule k→n1≤k∧¬ (z≤k∧k<z + 4)) (k:Kps (fun k=>k=z + 1∨k=z + 2) W W') (hM:¬ M1 D) (hR:¬ RlBc s1 e1.rule D) (o:Obj):RdJ b n1 e1 nx1 s1 M1 (W'.putObj D o):=
 J.same (fun j hj=>(World.putObj_heap_other (fun (e:j=D)=>hM (e ▸ hj))).trans (k.block j (J.lt j hj).2 (fun q=>off j hj (by omega)))) (fun j hj=>(World.putObj_heap_other (fun (e:j=D)=>hR (e ▸ hj))).trans (k.block j (J.ru.blk hj).1 (fun q=>(rl j hj).2 (by omega))))
set_option maxRecDepth 100000 in
set_option maxHeartbeats 4000000 in
theorem takeAll_any (e:Evt) (nx b n1:Nat) (s:Evs) (M:Nat→Prop) (text:ByteArray) (w:World) (h:RdJ b n1 e nx s M w) (hR:∀ k,RlBc s e.rule k→n1≤k) (hK:∀ W,Below n1 w W→KeepK W) (hs:text.size≤1048576) (hl:Lens e 0) :
 Calls Tryz.prog 17 #[.pointer (some ⟨b,0,none⟩),.string text] w (TaA b n1 (taR text.data.toList ((e,nx),0)) w):=by
 obtain ⟨z,hz⟩:∃ z,z=w.heap.size:=⟨_,rfl⟩
 have bw:b<w.heap.size:=h.rb.lt
 have n1z:n1≤z:=by have:=h.hn;omega
 -- the worlds
 obtain ⟨W1,hW1⟩:∃ W1,W1=(((w.alloc (.cells #[.pointer (some ⟨b,0,none⟩)] 91)).alloc (.cells #[.int .i64 0] 3)).alloc (.cells #[.bool false] 4)).alloc (.cells #[.int .i64 0] 3):=⟨_,rfl⟩
 have bA:Below w.heap.size w (w.alloc (.cells #[.pointer (some ⟨b,0,none⟩)] 91)):=(Below.refl _ _).alloc (Nat.le_refl _) _
 have bB:Below w.heap.size w ((w.alloc (.cells #[.pointer (some ⟨b,0,none⟩)] 91)).alloc (.cells #[.int .i64 0] 3)):=bA.alloc bA.size _
 have bC:Below w.heap.size w (((w.alloc (.cells #[.pointer (some ⟨b,0,none⟩)] 91)).alloc (.cells #[.int .i64 0] 3)).alloc (.cells #[.bool false] 4)):=bB.alloc bB.size _
 have bD:Below w.heap.size w W1:=by rw [hW1];exact bC.alloc bC.size _
 have zA:(w.alloc (.cells #[.pointer (some ⟨b,0,none⟩)] 91)).heap.size=z + 1:=by rw [hz];simp
 have zB:((w.alloc (.cells #[.pointer (some ⟨b,0,none⟩)] 91)).alloc (.cells #[.int .i64 0] 3)).heap.size=z + 2:=by rw [hz];simp
 have zC:(((w.alloc (.cells #[.pointer (some ⟨b,0,none⟩)] 91)).alloc (.cells #[.int .i64 0] 3)).alloc (.cells #[.bool false] 4)).heap.size=z + 3:=by rw [hz];simp
 have zD:W1.heap.size=z + 4:=by rw [hW1,hz];simp
 have x0:Boxed (w.alloc (.cells #[.pointer (some ⟨b,0,none⟩)] 91)) z 91 (.pointer (some ⟨b,0,none⟩)):=by rw [hz];exact Boxed.new _ _ _
 have x1:Boxed ((w.alloc (.cells #[.pointer (some ⟨b,0,none⟩)] 91)).alloc (.cells #[.int .i64 0] 3)) (z + 1) 3 (.int .i64 0):=by rw [← zA];exact Boxed.new _ _ _
 have x2:Boxed (((w.alloc (.cells #[.pointer (some ⟨b,0,none⟩)] 91)).alloc (.cells #[.int .i64 0] 3)).alloc (.cells #[.bool false] 4)) (z + 2) 4 (.bool false):=by rw [← zB];exact Boxed.new _ _ _
 have x3:Boxed W1 (z + 3) 3 (.int .i64 0):=by rw [hW1,← zC];exact Boxed.new _ _ _
 have y0:Boxed W1 z 91 (.pointer (some ⟨b,0,none⟩)):=by rw [hW1];exact bxd_alloc (bxd_alloc (bxd_alloc x0 _) _) _
 have y1:Boxed W1 (z + 1) 3 (.int .i64 0):=by rw [hW1];exact bxd_alloc (bxd_alloc x1 _) _
 have y2:Boxed W1 (z + 2) 4 (.bool false):=by rw [hW1];exact bxd_alloc x2 _
 obtain ⟨W2,hW2⟩:∃ W2,W2=W1.alloc (.cells #[.string text] 9):=⟨_,rfl⟩
 have bE:Below W1.heap.size W1 W2:=by rw [hW2];exact (Below.refl _ _).alloc (Nat.le_refl _) _
 have zE:W2.heap.size=z + 5:=by rw [hW2];simp [zD]
 have tx:Boxed W2 (z + 4) 9 (.string text):=by rw [hW2,← zD];exact Boxed.new _ _ _
 have b2:Below w.heap.size w W2:=bD.trans (bE.mono (by omega))
 have J0:TaJ b n1 z ((e,nx),0) (.int .i64 0) (.bool false) (fun k=>M k∨RlBc s e.rule k∨(z≤k∧k<z + 4)) M s W2:=
  ⟨h.keep b2,fun k hk=>⟨hR k hk,fun q=>by have:=(h.ru.blk hk).1;omega⟩,fun k hk q=>by have:=(h.lt k hk).2;omega,fun k=>Iff.rfl,by rw [hW2];exact bxd_alloc y0 _,by rw [hW2];exact bxd_alloc y1 _,by rw [hW2];exact bxd_alloc y2 _,by rw [hW2];exact bxd_alloc x3 _,hl⟩
 have HJ0:=Lib.hid J0
 have ITR:=Lib.hid (whole_itr text hs n1 W2 (z + 4) tx)
 have HK:=Lib.hid hK
 have B2:Hid (Below n1 w W2):=Lib.hid (b2.mono (by omega))
 have HW1:=Lib.hid hW1
 have HW2:=Lib.hid hW2
 have HZ:=Lib.hid hz
 have LM:Hid (∀ k,(M k∨RlBc s e.rule k∨(z≤k∧k<z + 4))→n1≤k∧k<W2.heap.size):=Lib.hid (fun k hk=>(TaI.frm n1z).lt _ _ _ ⟨M,s,J0⟩ k hk)
 have L0:Hid (∀ k,(M k∨RlBc s e.rule k)→k<z):=Lib.hid (fun k hk=>by rw [hz];exact hk.elim (fun q=>(h.lt k q).2) (fun q=>(h.ru.blk q).1))
 clear h hR hK hl J0 tx x0 x1 x2 x3 y0 y1 y2 bA bB bC bD bE zA zB zC hW1 hW2 b2 hz bw
 refine (callsIn_wide (n:=3)).1 ?_
 refine callsIn_of_wp_marks Tryz.func17 rfl trivial ?_ rfl
 simp only [Tryz.ntmps17,List.size_toArray,List.length_cons,List.length_nil,Nat.reduceAdd,Nat.reduceSub,Array.replicate_succ,Array.replicate_zero,List.push_toArray,List.append_toArray,List.nil_append,List.cons_append]
 gi_wp2_with fail
 rw [← HW1.out]
 refine ⟨trivial,(callsIn_wide.2 (wholeLines_any text W1)).mono ?_⟩
 rintro x w2 ⟨rfl,hw2⟩
 rw [← HW2.out] at hw2
 subst hw2
 clear HW1 HW2
 rw [zD]
 gi_wp2_with fail
 rw [← HZ.out,show z + 1 + 1=z + 2 from rfl,show z + 2 + 1=z + 3 from rfl]
 refine Sg.rf_law2 (gf:=31) (lb:=#[.pointer (some ⟨z + 4,0,none⟩)]) rfl (enters_of Tryz.func31 (by kernel_rfl) rfl) ITR.out (Below.refl _ _) (by omega) taG
  (fun y S W=>(∃ rem,y.2=some rem∧∀ q∈rem,q∈wls text.data.toList)∧TaI b n1 z y.1 S W∧Below n1 w2 W) (fun c y S W=>TaX n1 z c y.1 S W) ?fI (fun c=>⟨fun y S X h=>(TaX.frm c).lt _ _ _ h,fun y S X X' h q p=>(TaX.frm c).on _ _ _ _ h q p⟩) (((e,nx),0),some (wls text.data.toList)) (fun k=>M k∨RlBc s e.rule k∨(z≤k∧k<z + 4)) ⟨⟨_,rfl,fun q hq=>hq⟩,⟨M,s,HJ0.out⟩,Below.refl _ _⟩ ?hT (fun _=>rfl) ?a1 ?assign ?body ?done ?stop
 case fI=>exact ⟨fun y S X h=>(TaI.frm n1z).lt _ _ _ h.2.1,fun y S X X' h q p=>⟨h.1,(TaI.frm n1z).on _ _ _ _ h.2.1 q p,h.2.2.trans q⟩⟩
 case hT=>
  intro k hk
  subst hk
  refine ⟨by omega,by omega,fun q=>?_,rfl⟩
  rcases q with q | q | q
  ·have:=L0.out _ (Or.inl q);omega
  ·have:=L0.out _ (Or.inr q);omega
  ·omega
 case assign=>
  intro l' d X K hK
  gi_wp2
  exact hK
 case body=>
  clear ITR
  rintro l' ⟨⟨⟨e1,nx1⟩,n⟩,ro⟩ S ⟨wh,fl⟩ X ⟨⟨rem,hro,hrem⟩,⟨M1,s1,TJ⟩,hBX⟩ hnX ⟨ns,hE⟩
  dsimp only at hro TJ
  subst hro
  obtain ⟨rem',rfl⟩:=taG_in hE
  have nb:n≤1048576:=by
   have a2:=taG_count hE
   have a3:=wls_len text.data.toList
   have a4:text.data.toList.length=text.size:=rfl
   dsimp only at a2
   omega
  have wz:wh.size≤2000000:=by
   have:=wls_size text.data.toList (wh,fl) (hrem _ (by simp))
   have a4:text.data.toList.length=text.size:=rfl
   dsimp only at this
   omega
  have GH:=Lib.hid (taG_hit ((e1,nx1),n) (wh,fl) rem')
  have RM:Hid (∀ q∈rem',q∈wls text.data.toList):=Lib.hid (fun q hq=>hrem q (List.mem_cons_of_mem _ hq))
  have bX:Below n1 w X:=B2.out.trans hBX
  have KT:=Lib.hid (take_any e1 nx1 b n1 s1 M1 wh X TJ.rd (fun W q=>HK.out W (bX.trans q)) wz (by have:=TJ.ln;unfold Lens at this;dsimp only at this;omega))
  have k0:=TJ.c0.cell
  have HT:=Lib.hid TJ
  have HBX:=Lib.hid hBX
  clear hE hrem bX TJ hBX
  gi_wp2_with fail
  clear k0
  refine ⟨trivial,((callsIn_wide.2 KT.out).inRound l').mono ?_⟩
  rintro y0 w3 hx
  clear KT
  rcases hx with ⟨st',M',ht,rfl,g,k,s',J,N⟩ | ⟨ht,rfl,k⟩
  ·obtain ⟨d3,S',z1,z2,z3⟩:=HT.out.step n1z (lens_tk ht HT.out.ln) g k J N
   have k3:=d3.cell
   have f3:=d3.frozen
   have bl3:=d3.lt
   have TF:=taF_yes (p:=((e1,nx1),n)) (q:=(wh,fl)) ht
   have ZZ:Hid (∃ y S',taG (((e1,nx1),n),some ((wh,fl) :: rem')) (wh,fl)=(y,true)∧Gr S X S'∧Kps S X (w3.setCell ⟨z + 3,0,none⟩ (.int .i64 ((n:Int) + 1)))∧((∃ rem,y.2=some rem∧∀ q∈rem,q∈wls text.data.toList)∧TaI b n1 z y.1 S' (w3.setCell ⟨z + 3,0,none⟩ (.int .i64 ((n:Int) + 1)))∧Below n1 w2 (w3.setCell ⟨z + 3,0,none⟩ (.int .i64 ((n:Int) + 1))))):=Lib.hid ⟨((st',n + 1),some rem'),S',by rw [GH.out,TF],z1,z2,⟨_,rfl,RM.out⟩,⟨M',s',z3⟩,HBX.out.trans (z2.below (fun j hj=>((TaI.frm n1z).lt _ _ _ ⟨M1,s1,HT.out⟩ j hj).1) hnX)⟩
   clear d3 z1 z2 z3 TF ht g k J N HT GH RM
   gi_wp2
   exact ZZ.out
  ·have TF:=taF_no (p:=((e1,nx1),n)) (q:=(wh,fl)) ht
   have nM:∀ j,z≤j→j<z + 4→¬ M1 j:=fun j h1 h2 hj=>HT.out.off j hj ⟨h1,h2⟩
   have zX:z + 3<X.heap.size:=HT.out.c3.lt
   have d1:Boxed w3 (z + 1) 3 (.int .i64 0):=(k.block (z + 1) (by omega) (nM _ (by omega) (by omega))).trans HT.out.c1
   have d2:Boxed w3 (z + 2) 4 (.bool false):=(k.block (z + 2) (by omega) (nM _ (by omega) (by omega))).trans HT.out.c2
   have d3:Boxed w3 (z + 3) 3 (.int .i64 n):=(k.block (z + 3) (by omega) (nM _ (by omega) (by omega))).trans HT.out.c3
   have kA:Kps (fun j=>j=z + 1) w3 (w3.setCell ⟨z + 1,0,none⟩ (.int .i64 n)):=Kps.set _ rfl
   have kB:Kps (fun j=>j=z + 2) (w3.setCell ⟨z + 1,0,none⟩ (.int .i64 n)) ((w3.setCell ⟨z + 1,0,none⟩ (.int .i64 n)).setCell ⟨z + 2,0,none⟩ (.bool false)):=Kps.set _ rfl
   have e1':Boxed (w3.setCell ⟨z + 1,0,none⟩ (.int .i64 n)) (z + 1) 3 (.int .i64 n):=d1.set _
   have e2':Boxed (w3.setCell ⟨z + 1,0,none⟩ (.int .i64 n)) (z + 2) 4 (.bool false):=(kA.block (z + 2) d2.lt (by omega)).trans d2
   have g1':Boxed ((w3.setCell ⟨z + 1,0,none⟩ (.int .i64 n)).setCell ⟨z + 2,0,none⟩ (.bool false)) (z + 1) 3 (.int .i64 n):=(kB.block (z + 1) e1'.lt (by omega)).trans e1'
   have g2':Boxed ((w3.setCell ⟨z + 1,0,none⟩ (.int .i64 n)).setCell ⟨z + 2,0,none⟩ (.bool false)) (z + 2) 4 (.bool false):=e2'.set _
   have s1':S (z + 1):=(HT.out.hs _).2 (Or.inr (Or.inr ⟨by omega,by omega⟩))
   have s2':S (z + 2):=(HT.out.hs _).2 (Or.inr (Or.inr ⟨by omega,by omega⟩))
   have kS:Kps S X ((w3.setCell ⟨z + 1,0,none⟩ (.int .i64 n)).setCell ⟨z + 2,0,none⟩ (.bool false)):=((k.mono (S1:=S) (fun j hj=>(HT.out.hs j).2 (Or.inl hj))).trans (kA.mono (S1:=S) (fun j hj=>by rw [hj];exact s1')) (Gr.refl _ _)).trans (kB.mono (S1:=S) (fun j hj=>by rw [hj];exact s2')) (Gr.refl _ _)
   have lS:∀ j,S j→n1≤j∧j<((w3.setCell ⟨z + 1,0,none⟩ (.int .i64 n)).setCell ⟨z + 2,0,none⟩ (.bool false)).heap.size:=fun j hj=>by
    have q:=(TaI.frm n1z).lt _ _ _ ⟨M1,s1,HT.out⟩ j hj
    exact ⟨q.1,Nat.lt_of_lt_of_le q.2 kS.size⟩
   have k1:=d1.cell
   have f1:=d1.frozen
   have k2:=d2.cell
   have f2:=d2.frozen
   have k3:=d3.cell
   have l1:=d1.lt
   have l2:=d2.lt
   have q2:=e2'.cell
   have w2f:=e2'.frozen
   have ZZ:Hid (∃ y S',taG (((e1,nx1),n),some ((wh,fl) :: rem')) (wh,fl)=(y,false)∧Gr S X S'∧Kps S X ((w3.setCell ⟨z + 1,0,none⟩ (.int .i64 n)).setCell ⟨z + 2,0,none⟩ (.bool false))∧TaX n1 z .ret y.1 S' ((w3.setCell ⟨z + 1,0,none⟩ (.int .i64 n)).setCell ⟨z + 2,0,none⟩ (.bool false))):=Lib.hid ⟨(((e1,nx1),n),some rem'),S,by rw [GH.out,TF],Gr.refl _ _,kS,rfl,lS,s1',s2',g1',g2'⟩
   clear d1 d2 d3 kA kB e1' e2' g1' g2' s1' s2' kS lS TF ht k HT GH RM nM
   gi_wp2
   exact ZZ.out
 case done=>
  rintro D ⟨⟨⟨e1,nx1⟩,n⟩,ro⟩ S X hD hSD hrun ⟨⟨rem,hro,hrem⟩,⟨M1,s1,TJ⟩,hBX⟩ hg3 hk3 hDd
  dsimp only at hro TJ
  obtain ⟨r0,h0⟩:=taG_run (wls text.data.toList) ((e,nx),0)
  rw [h0] at hrun
  have RE:Sg.run taF ((e,nx),0) (wls text.data.toList)=(((e1,nx1),n),true):=by
   have q1:=congrArg (fun t=>t.1.1) hrun
   have q2:=congrArg (fun t=>t.2) hrun
   exact Prod.ext q1 q2
  have RT:∀ o,(o=if (n=0∨ends text.data.toList=true)∧4≤nx1 then some (e1,nx1) else none)→taR text.data.toList ((e,nx),0)=o:=fun o ho=>by
   unfold taR
   rw [RE,ho]
   dsimp only
   by_cases q:(n=0∨ends text.data.toList=true)∧4≤nx1
   ·rw [if_pos q,if_pos ⟨rfl,q.1,q.2⟩]
   ·rw [if_neg q,if_neg (fun z=>q z.2)]
  have HRT:=Lib.hid RT
  have bX:Below n1 w X:=B2.out.trans hBX
  have nb:n≤1048576:=by
   have a2:=ta_most (wls text.data.toList) ((e,nx),0)
   rw [RE] at a2
   have a3:=wls_len text.data.toList
   have a4:text.data.toList.length=text.size:=rfl
   dsimp only at a2
   omega
  have dz:z + 5≤D:=by omega
  have dM:¬ M1 D:=fun q=>hSD ((TJ.hs D).2 (Or.inl q))
  have dR:¬ RlBc s1 e1.rule D:=fun q=>hSD ((TJ.hs D).2 (Or.inr (Or.inl q)))
  have kX:=(HK.out X bX).knd
  have KL:=Lib.hid (fun Y (q:Below X.heap.size X Y)=>lacks_any b nx1 Y (kX.below q) ((q.cell (p:=⟨b,17,none⟩) TJ.rd.rb.lt).trans (TJ.rd.rb.cell 17 _ rfl)))
  have HS:Hid (∀ Y,Below X.heap.size X Y→(Y.cell? ⟨z + 3,0,none⟩=some (.int .i64 n)∧Y.cell? ⟨z,0,none⟩=some (.pointer (some ⟨b,0,none⟩)))):=Lib.hid (fun Y q=>⟨(q.cell (p:=⟨z + 3,0,none⟩) TJ.c3.lt).trans TJ.c3.cell,(q.cell (p:=⟨z,0,none⟩) TJ.c0.lt).trans TJ.c0.cell⟩)
  have HF:Hid (∀ Y,Below X.heap.size X Y→∀ u1 u2,((Y.setCell ⟨z + 1,0,none⟩ u1).cell? ⟨z + 3,0,none⟩=some (.int .i64 n)∧(Y.setCell ⟨z + 1,0,none⟩ u1).cell? ⟨z,0,none⟩=some (.pointer (some ⟨b,0,none⟩)))∧(((Y.setCell ⟨z + 1,0,none⟩ u1).setCell ⟨z + 2,0,none⟩ u2).cell? ⟨z + 3,0,none⟩=some (.int .i64 n)∧((Y.setCell ⟨z + 1,0,none⟩ u1).setCell ⟨z + 2,0,none⟩ u2).cell? ⟨z,0,none⟩=some (.pointer (some ⟨b,0,none⟩)))∧Boxed (Y.setCell ⟨z + 1,0,none⟩ u1) (z + 2) 4 (.bool false)∧Boxed ((Y.setCell ⟨z + 1,0,none⟩ u1).setCell ⟨z + 2,0,none⟩ u2) (z + 1) 3 u1∧Boxed ((Y.setCell ⟨z + 1,0,none⟩ u1).setCell ⟨z + 2,0,none⟩ u2) (z + 2) 4 u2∧Kps (fun k=>k=z + 1∨k=z + 2) Y ((Y.setCell ⟨z + 1,0,none⟩ u1).setCell ⟨z + 2,0,none⟩ u2)):=Lib.hid (fun Y q u1 u2=>ta_fin ((q.block z TJ.c0.lt).trans TJ.c0) ((q.block (z + 1) TJ.c1.lt).trans TJ.c1) ((q.block (z + 2) TJ.c2.lt).trans TJ.c2) ((q.block (z + 3) TJ.c3.lt).trans TJ.c3) u1 u2)
  have HBox:Hid (∀ Y,Below X.heap.size X Y→Boxed Y (z + 1) 3 (.int .i64 0)∧Boxed Y (z + 2) 4 (.bool false)):=Lib.hid (fun Y q=>⟨(q.block (z + 1) TJ.c1.lt).trans TJ.c1,(q.block (z + 2) TJ.c2.lt).trans TJ.c2⟩)
  -- how it ends
  have EN:Hid (∀ Y,Below X.heap.size X Y→∀ (u1:Int) (u2:Bool),((u2=true→taR text.data.toList ((e,nx),0)=some (e1,nx1))∧(u2=false→taR text.data.toList ((e,nx),0)=none))→((Y.setCell ⟨z + 1,0,none⟩ (.int .i64 u1)).setCell ⟨z + 2,0,none⟩ (.bool u2)).heap[D]?=some (.deferred (some []))∧
   (((Y.setCell ⟨z + 1,0,none⟩ (.int .i64 u1)).setCell ⟨z + 2,0,none⟩ (.bool u2)).putObj D (.deferred none)).cell? ⟨z + 1,0,none⟩=some (.int .i64 u1)∧(((Y.setCell ⟨z + 1,0,none⟩ (.int .i64 u1)).setCell ⟨z + 2,0,none⟩ (.bool u2)).putObj D (.deferred none)).cell? ⟨z + 2,0,none⟩=some (.bool u2)∧
   TaA b n1 (taR text.data.toList ((e,nx),0)) w (.returned (.tuple #[.int .i64 u1,.bool u2])) (((Y.setCell ⟨z + 1,0,none⟩ (.int .i64 u1)).setCell ⟨z + 2,0,none⟩ (.bool u2)).putObj D (.deferred none))):=Lib.hid (fun Y q u1 u2 hu=>by
   obtain ⟨_,_,_,g1,g2,gk⟩:=HF.out Y q (.int .i64 u1) (.bool u2)
   have dX:D<X.heap.size:=(Array.getElem?_eq_some_iff.1 hDd).1
   have dY:Y.heap[D]?=some (.deferred (some [])):=(q.block D dX).trans hDd
   have bY:Below n1 w Y:=bX.trans (q.mono (by have:=TJ.c3.lt;omega))
   have bZ:Below n1 Y ((Y.setCell ⟨z + 1,0,none⟩ (.int .i64 u1)).setCell ⟨z + 2,0,none⟩ (.bool u2)):=gk.below (n0:=n1) (fun k hk=>by omega) (by have:=TJ.c3.lt;have:=q.size;omega)
   have kD:Kps (fun k=>k=D) ((Y.setCell ⟨z + 1,0,none⟩ (.int .i64 u1)).setCell ⟨z + 2,0,none⟩ (.bool u2)) (((Y.setCell ⟨z + 1,0,none⟩ (.int .i64 u1)).setCell ⟨z + 2,0,none⟩ (.bool u2)).putObj D (.deferred none)):=Kps.put _ rfl
   refine ⟨(gk.block D (by have:=q.size;omega) (by omega)).trans dY,(bxd_put2 g1 (by omega) _).cell,(bxd_put2 g2 (by omega) _).cell,(bY.trans bZ).trans (kD.below (n0:=n1) (fun k hk=>by omega) (by have:=bZ.size;have:=q.size;have:=TJ.c3.lt;omega)),?_⟩
   cases u2
   ·exact Or.inl ⟨hu.2 rfl,u1,rfl⟩
   ·exact Or.inr ⟨(e1,nx1),u1,hu.1 rfl,rfl,s1,M1,ta_end (TJ.rd.keep q) TJ.off TJ.rl gk dM dR _,fun k hk=>hk.elim (fun z=>(TJ.rd.lt k z).1) (fun z=>(TJ.rl k z).1)⟩)
  have k3:=TJ.c3.cell
  have k3l:=TJ.c3.lt
  clear TJ hg3 hk3 hrun h0 RE RT hBX bX kX hDd dM dR HJ0 ITR LM L0
  by_cases hn0:n=0
  ·subst hn0
   gi_wp2_with fail
   refine ⟨trivial,?_⟩
   gi_wp2_with fail
   refine wpIn_wide.2 ?_
   go_region_held3 (fun Y=>(Y.cell? ⟨z + 3,0,none⟩=some (.int .i64 0)∧Y.cell? ⟨z,0,none⟩=some (.pointer (some ⟨b,0,none⟩))))
    (first | exact HS.out _ (Below.drew (Below.refl _ X)) | exact HS.out _ ha1 | exact h5 | exact h6)
    (first
    | (go_at_call 37;refine (KL.out _ (Below.drew (Below.refl _ X))).mono ?_;rintro x w3 ⟨rfl,hp⟩;have ha1:Below X.heap.size X w3:=Below.trans (Below.drew (Below.refl _ X)) hp;obtain ⟨h5,h6,hb2,_⟩:=HF.out w3 ha1 (.int .i64 0) (.bool (!decide (nx1≤3)));obtain ⟨hb1,hb0⟩:=HBox.out w3 ha1;have k1:=hb1.cell;have f1:=hb1.frozen;have k1l:=hb1.lt;have k2:=hb2.cell;have f2:=hb2.frozen;have k2l:=hb2.lt;have k0:=hb0.cell;have f0:=hb0.frozen;have k0l:=hb0.lt;clear hp hb1 hb2 hb0))
   obtain ⟨H1,q1,q2,TA⟩:=EN.out w3 ha1 0 (!decide (nx1≤3)) ⟨fun q=>HRT.out _ (by rw [if_pos ⟨by simp,by simp at q;omega⟩]),fun q=>HRT.out _ (by rw [if_neg (fun y=>by have:=y.2;simp at q;omega)])⟩
   have HH1:=Lib.hid H1
   have HTA:=Lib.hid TA
   have Q1:=Lib.hid q1
   have Q2:=Lib.hid q2
   clear H1 TA q1 q2 EN HRT HF HBox HS KL h5 h6
   gi_wp2
   have q1:=Q1.out
   have q2:=Q2.out
   refine ⟨by simp,.inl ⟨_,_,rfl,run_takeDeferred HH1.out,?_⟩⟩
   exact ⟨.tuple #[.int .i64 0,.bool (!decide (nx1≤3))],by simp [results,Tryz.results17,go_sem,q1,q2],HTA.out⟩
  ·have hnp:(0:Int)<(n:Int):=by omega
   have KH:=Lib.hid (Tryz.strings_HasSuffix text ⟨#[10]⟩ X (by omega))
   rw [show (⟨#[10]⟩:ByteArray).data.toList=[10] from rfl,suf_ends] at KH
   rcases hen:ends text.data.toList with _ | _
   ·rw [hen] at KH
    obtain ⟨hb1,hb0⟩:=HBox.out X (Below.refl _ _)
    obtain ⟨_,_,hb2,_⟩:=HF.out X (Below.refl _ _) (.int .i64 ((n:Int) - 1)) (.bool false)
    obtain ⟨H1,q1,q2,TA⟩:=EN.out X (Below.refl _ _) ((n:Int) - 1) false ⟨fun q=>(by cases q),fun _=>HRT.out _ (by rw [if_neg (fun y=>by rcases y.1 with q | q;exact hn0 q;rw [hen] at q;cases q)])⟩
    have k1:=hb1.cell
    have f1:=hb1.frozen
    have k1l:=hb1.lt
    have k2:=hb2.cell
    have f2:=hb2.frozen
    have k2l:=hb2.lt
    have k0:=hb0.cell
    have f0:=hb0.frozen
    have k0l:=hb0.lt
    have HH1:=Lib.hid H1
    have HTA:=Lib.hid TA
    have Q1:=Lib.hid q1
    have Q2:=Lib.hid q2
    clear H1 TA q1 q2 EN HRT HF HBox HS KL hb1 hb2 hb0 hen
    gi_wp2_with fail
    refine ⟨trivial,(callsIn_wide.2 KH.out).mono ?_⟩
    rintro y0 w3 ⟨rfl,hw⟩
    subst hw
    clear KH
    gi_wp2
    have q1:=Q1.out
    have q2:=Q2.out
    refine ⟨by simp,.inl ⟨_,_,rfl,run_takeDeferred HH1.out,?_⟩⟩
    exact ⟨.tuple #[.int .i64 ((n:Int) - 1),.bool false],by simp [results,Tryz.results17,go_sem,q1,q2],HTA.out⟩
   ·rw [hen] at KH
    have HEN:=Lib.hid hen
    clear hen
    gi_wp2_with fail
    refine ⟨trivial,(callsIn_wide.2 KH.out).mono ?_⟩
    rintro y0 w3' ⟨rfl,hw⟩
    replace hw:=hw.symm
    subst hw
    clear KH
    gi_wp2_with fail
    refine wpIn_wide.2 ?_
    go_region_held3 (fun Y=>(Y.cell? ⟨z + 3,0,none⟩=some (.int .i64 n)∧Y.cell? ⟨z,0,none⟩=some (.pointer (some ⟨b,0,none⟩))))
     (first | exact HS.out _ (Below.drew (Below.refl _ X)) | exact HS.out _ ha1 | exact h5 | exact h6)
     (first
     | (go_at_call 37;refine (KL.out _ (Below.drew (Below.refl _ X))).mono ?_;rintro x w3 ⟨rfl,hp⟩;have ha1:Below X.heap.size X w3:=Below.trans (Below.drew (Below.refl _ X)) hp;obtain ⟨h5,h6,hb2,_⟩:=HF.out w3 ha1 (.int .i64 n) (.bool (!decide (nx1≤3)));obtain ⟨hb1,hb0⟩:=HBox.out w3 ha1;have k1:=hb1.cell;have f1:=hb1.frozen;have k1l:=hb1.lt;have k2:=hb2.cell;have f2:=hb2.frozen;have k2l:=hb2.lt;have k0:=hb0.cell;have f0:=hb0.frozen;have k0l:=hb0.lt;clear hp hb1 hb2 hb0))
    obtain ⟨H1,q1,q2,TA⟩:=EN.out w3 ha1 n (!decide (nx1≤3)) ⟨fun q=>HRT.out _ (by rw [if_pos ⟨by simp [HEN.out],by simp at q;omega⟩]),fun q=>HRT.out _ (by rw [if_neg (fun y=>by have:=y.2;simp at q;omega)])⟩
    have HH1:=Lib.hid H1
    have HTA:=Lib.hid TA
    have Q1:=Lib.hid q1
    have Q2:=Lib.hid q2
    clear H1 TA q1 q2 EN HRT HF HBox HS KL h5 h6
    gi_wp2
    have q1:=Q1.out
    have q2:=Q2.out
    refine ⟨by simp,.inl ⟨_,_,rfl,run_takeDeferred HH1.out,?_⟩⟩
    exact ⟨.tuple #[.int .i64 n,.bool (!decide (nx1≤3))],by simp [results,Tryz.results17,go_sem,q1,q2],HTA.out⟩
 case stop=>
  rintro D c ⟨⟨⟨e1,nx1⟩,n⟩,ro⟩ S X hD hSD hrun ⟨rfl,hlt,hs1,hs2,c1,c2⟩ hg3 hk3 hDd
  obtain ⟨r0,h0⟩:=taG_run (wls text.data.toList) ((e,nx),0)
  rw [h0] at hrun
  have TN:Hid (taR text.data.toList ((e,nx),0)=none):=Lib.hid (by
   have q2:=congrArg (fun t=>t.2) hrun
   unfold taR
   exact if_neg (fun q=>by rw [q.1] at q2;cases q2))
  dsimp only at c1
  have H1:=Lib.hid (bxd_put2 c1 (show z + 1≠D by omega) (.deferred none)).cell
  have H2:=Lib.hid (bxd_put2 c2 (show z + 2≠D by omega) (.deferred none)).cell
  have kX:Kps (fun k=>(M k∨RlBc s e.rule k∨z≤k∧k<z + 4)∨k=z + 4) w2 X:=hk3
  have bX:Below n1 w2 X:=kX.below (n0:=n1) (fun k hk=>hk.elim (fun q=>(LM.out k q).1) (fun q=>by omega)) (by omega)
  have kD:Kps (fun k=>k=D) X (X.putObj D (.deferred none)):=Kps.put _ rfl
  have H4:Hid (Below n1 w (X.putObj D (.deferred none))):=Lib.hid ((B2.out.trans bX).trans (kD.below (n0:=n1) (fun k hk=>by omega) (by have:=bX.size;omega)))
  clear hrun h0 c1 c2 hg3 hk3 kX bX kD
  gi_wp2
  have q1:=H1.out
  have q2:=H2.out
  refine ⟨by simp,.inl ⟨_,_,rfl,run_takeDeferred hDd,?_⟩⟩
  exact ⟨.tuple #[.int .i64 n,.bool false],by simp [results,Tryz.results17,go_sem,q1,q2],H4.out,Or.inl ⟨TN.out,n,rfl⟩⟩
end Go.Proofs.YtcadomjkjoiakaaGreatDoor
