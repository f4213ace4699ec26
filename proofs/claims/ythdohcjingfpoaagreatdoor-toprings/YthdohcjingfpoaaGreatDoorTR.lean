/-
  Texts of our own that serve the card of this claim, joined into one.
-/
import Derived.Test.YthdohcjingfpoaaGreatDoorKH
import Derived.Test.YthdohcjingfpoaaGreatDoorKI
import Derived.Test.YthdohcjingfpoaaGreatDoorWC
import Derived.Test.YthdohcjingfpoaaGreatDoorTC
import Derived.Deep.Cut
import Derived.Deep.CutRange
namespace Go.Proofs.YthdohcjingfpoaaGreatDoor.Dk
open Go.RowKit Qu Go.Maps Zo
variable {a:Int} {l:List (Int × Int)} {v:Evt} {nw t:Int}
theorem rgS_own (h:evF v=0) (hz:zf a l=0) (fr t:Int):rgS a l (ownE v) fr t=rgS a l v fr t:=by
 refine rg_ext (rgS_rise (own_good h)) (rgS_rise h) (fun x=>?_)
 rw [rgS_mem (own_good h) hz,rgS_mem h hz]
 exact Iff.rfl
theorem rgS_part (h:evF v=0) (hz:zf a l=0) {fr c d t:Int} (h1:fr≤c) (h2:d≤t):rgS a l v c d=(rgS a l v fr t).filter (fun x=>decide (c≤x.1∧x.1<d)):=by
 refine rg_ext (rgS_rise h) (List.Pairwise.sublist List.filter_sublist (rgS_rise h)) (fun x=>?_)
 rw [List.mem_filter,rgS_mem h hz,rgS_mem h hz,decide_eq_true_iff]
 constructor
 ·rintro ⟨y,p,q,r1,r2⟩
  exact ⟨⟨y,p,q,by omega,by omega⟩,r1,r2⟩
 ·rintro ⟨⟨y,p,q,_,_⟩,r1,r2⟩
  exact ⟨y,p,q,r1,r2⟩
theorem oc_toQ (nm:ByteArray) (x y:Rg):oc (toQ nm x) (toQ nm y)=cmR nm nm x y:=rfl
def allQ (a:Int) (l:List (Int × Int)) (v:Evt) (nw t:Int):List Rq:=(rgS a l v (nw + 1) (t + 1)).map (toQ v.name)
theorem allQ_rs (h:evF v=0):Rs (allQ a l v nw t):=by
 unfold allQ Rs
 rw [List.pairwise_map]
 exact (rgS_rise h).imp (fun q=>by
  rw [oc_toQ]
  exact (cmR_n _ _ _).2 q)
theorem allQ_at (h:evF v=0) (hz:zf a l=0) {z:Rq} (hzz:z∈allQ a l v nw t):nw<z.1∧z.1≤t:=by
 unfold allQ at hzz
 obtain ⟨x,hx,rfl⟩:=List.mem_map.1 hzz
 obtain ⟨_,_,_,r1,r2⟩:=(rgS_mem h hz).1 hx
 exact ⟨by show nw<x.1;omega,by show x.1≤t;omega⟩
theorem allQ_part (h:evF v=0) (hz:zf a l=0) {p q:Int} (h1:nw≤p) (h2:q≤t):(rgS a l v (p + 1) (q + 1)).map (toQ v.name)=dueQ (laterQ (allQ a l v nw t) p) q:=by
 rw [rgS_part (fr:=nw + 1) (t:=t + 1) h hz (by omega) (by omega)]
 unfold allQ laterQ dueQ
 rw [List.filter_filter,List.filter_map]
 congr 1
 apply List.filter_congr
 intro x _
 show decide (p + 1≤x.1∧x.1<q + 1)=(decide (x.1≤q) && decide (p<x.1))
 rw [Bool.eq_iff_iff,Bool.and_eq_true,decide_eq_true_iff,decide_eq_true_iff,decide_eq_true_iff]
 omega
structure Tr (a:Int) (l:List (Int × Int)) (v:Evt) (nw t p:Int) (D:Ds):Prop where
 gd:Gd D
 za:D.a=a
 zl:D.l=l
 ev:D.ev=[ownE v]
 now:D.now=p
 one:1≤nw
 from_:nw≤p
 rung:D.rung=dueQ (allQ a l v nw t) p
 snz:D.snz=[]
theorem Tr.start (hq:zf a l=0) (h1:putF (newD a l) v=0) (h2:ticF ((newD a l).put v) nw=0) (t:Int):Tr a l v nw t nw (((newD a l).put v).tick nw):=by
 have hv:evF v=0:=by
  unfold putF at h1
  split at h1
  ·assumption
  ·rename_i q;exact absurd h1 q
 have e1:=put_one h1
 obtain ⟨e2,p2⟩:=tick_one h2 (by rw [e1])
 have g:=((Gd.new hq).put v).tick nw
 have hn:((newD a l).put v).tick nw=⟨a,l,[ownE v],nw,[],[]⟩:=by rw [e2,e1]
 refine ⟨g,by rw [hn],by rw [hn],by rw [hn],by rw [hn],p2,Int.le_refl _,?_,by rw [hn]⟩
 rw [hn]
 show []=dueQ _ _
 symm
 unfold dueQ
 rw [List.filter_eq_nil_iff]
 intro z hz
 have:=(allQ_at hv hq hz).1
 simpa using this
theorem put_good {D:Ds} (h1:putF D v=0):evF v=0:=by
 unfold putF at h1
 split at h1
 ·assumption
 ·rename_i q;exact absurd h1 q
theorem Tr.step {p q:Int} {D:Ds} (h:Tr a l v nw t p D) (hv:evF v=0) (hq:zf a l=0) (hm:(allQ a l v nw t).length≤400) (h1:p<q) (h2:q≤t) (h3:q - p≤40000) (h4:t≤157785118) :
 ticF D q=0∧ticL D q=dueQ (laterQ (allQ a l v nw t) p) q∧Tr a l v nw t q (D.tick q):=by
 have ho:=h.one
 have hf:=h.from_
 have hz:¬ D.now=0:=by rw [h.now];omega
 have tk:tkF D.now q=0:=tkF_zero.2 ⟨ist_iff.2 (by omega),by rw [h.now];exact h1,Or.inr (by rw [h.now];omega)⟩
 have rs:=allQ_rs (a:=a) (l:=l) (nw:=nw) (t:=t) hv
 have el:rgS a l (ownE v) (p + 1) (q + 1)=rgS a l v (p + 1) (q + 1):=rgS_own hv hq _ _
 have pt:=allQ_part (a:=a) (l:=l) (nw:=nw) (t:=t) hv hq hf h2
 have pl:(rgS a l v (p + 1) (q + 1)).length≤400:=by
  have:=congrArg List.length pt
  rw [List.length_map] at this
  have h5:(dueQ (laterQ (allQ a l v nw t) p) q).length≤(allQ a l v nw t).length:=Nat.le_trans (List.length_filter_le _ _) (List.length_filter_le _ _)
  omega
 have ez:ezF a l (ownE v)=0:=by
  unfold ezF
  rw [if_neg (fun z=>z (own_good hv))]
  exact hq
 have sb:strB (p + 1) q=true:=by
  unfold strB
  rw [ist_iff.2 (by omega),ist_iff.2 (by omega)]
  simp
  omega
 have tc:tcF a l (ownE v) (p + 1) q=0:=by
  unfold tcF
  rw [if_neg (fun z=>z ez),if_neg (by rw [sb];decide)]
 have wa:waF a l (ownE v) (p + 1) (q + 1)=0:=by
  unfold waF
  rw [el,if_neg (by omega)]
 have rf:rgF D q (ownE v)=0:=by
  unfold rgF
  rw [h.za,h.zl,h.now]
  unfold tlF
  rw [if_pos tc]
  exact wa
 have rr:rgR D q (ownE v)=dueQ (laterQ (allQ a l v nw t) p) q:=by
  rw [(rgF_good rf).1,h.za,h.zl,h.now,el,← pt]
  rfl
 have df:duF D q=0:=by
  unfold duF
  rw [h.ev]
  show fsF [rgF D q (ownE v)]=0
  rw [rf]
  rfl
 have dl:duL D q=dueQ (laterQ (allQ a l v nw t) p) q:=by
  unfold duL
  rw [if_pos df,h.ev]
  unfold duG
  rw [h.ev,h.snz]
  show srtQ (dueQ [] q++(List.flatMap (rgR D q) [ownE v]))=_
  rw [List.flatMap_cons,List.flatMap_nil,List.append_nil,rr]
  exact srtQ_same (dueQ_rs (laterQ_rs rs))
 have dd:=due_due rs (Int.le_of_lt h1)
 have ln:D.rung.length + (duL D q).length≤400:=by
  rw [h.rung,dl,← List.length_append,dd]
  exact Nat.le_trans (List.length_filter_le _ _) hm
 have tf:ticF D q=0:=by
  unfold ticF
  rw [if_pos tk,if_neg hz,if_pos df,if_neg (by omega)]
 obtain ⟨e1,e2,_⟩:=tick_two tf hz
 refine ⟨tf,by rw [e2,dl],⟨h.gd.tick q,by rw [e1];exact h.za,by rw [e1];exact h.zl,by rw [e1];exact h.ev,by rw [e1],ho,by omega,?_,?_⟩⟩
 ·rw [e1]
  show D.rung++duL D q=_
  rw [h.rung,dl,dd]
 ·rw [e1]
  show laterQ D.snz q=[]
  rw [h.snz]
  rfl
theorem put_last {M:List Rq} {r:Rq} (h:∀ x∈M,oc x r<0):Qu.put M r=M++[r]:=by
 unfold Qu.put
 have e1:M.filter (fun x=>decide (oc x r<0))=M:=by
  rw [List.filter_eq_self]
  intro x hx
  simpa using h x hx
 have e2:M.filter (fun x=>decide (0<oc x r))=[]:=by
  rw [List.filter_eq_nil_iff]
  intro x hx
  have:=h x hx
  simp
  omega
 rw [e1,e2]
theorem add_next {W:List Rq} (hr:Rs W) (hm:W.length≤400) (ha:∀ z∈W,nw<z.1∧z.1≤157785119) (h1:1≤nw) {k:Nat} (hk:k<W.length) :
 waf nw (W.take k) (W.getD k zq)=0∧wad nw (W.take k) (W.getD k zq)=W.take (k + 1):=by
 have hg:W.getD k zq=W[k]:=by rw [List.getD_eq_getElem?_getD,List.getElem?_eq_getElem hk];rfl
 obtain ⟨a1,a2⟩:=ha _ (List.getElem_mem hk)
 have lt:∀ x∈W.take k,oc x (W.getD k zq)<0:=fun x hx=>by
  obtain ⟨j,hj,e⟩:=List.mem_iff_getElem.1 hx
  rw [List.length_take] at hj
  have:=rs_at hr (i:=j) (j:=k) (by omega) hk
  rw [List.getD_eq_getElem?_getD,List.getElem?_eq_getElem (by omega)] at this
  rw [← e,List.getElem_take]
  exact this
 have no:(W.getD k zq) ∉ W.take k:=fun q=>by
  have:=lt _ q
  rw [oc_self] at this
  omega
 have f:waf nw (W.take k) (W.getD k zq)=0:=by
  unfold waf
  rw [hg,if_neg (by rw [ist_iff.2 (by omega)];decide),if_neg (by omega),← hg,if_neg (by rw [has_no no];decide),if_neg (by rw [List.length_take];omega)]
 refine ⟨f,?_⟩
 unfold wad
 rw [if_pos f,put_last lt,List.take_succ_eq_append_getElem hk,hg]
end Go.Proofs.YthdohcjingfpoaaGreatDoor.Dk
namespace Go.Proofs.YthdohcjingfpoaaGreatDoor.Dk
open Go.RowKit Qu Go.Maps Zo
def Tw (W1 W:World) (d:Nat) (D:Ds) (b:Nat) (now:Int) (M:List Rq) (K:Nat→Prop):Prop:=∃ R S,Dm W d D R∧Wl W b S now M∧Below W1.heap.size W1 W∧(∀ k,Fd d R k∨R.S k→W1.heap.size≤k)∧(∀ k,Ft b S k→W1.heap.size≤k)∧(∀ k,Ft b S k→¬ (Fd d R k∨R.S k))∧∀ k,K k→k<W.heap.size∧¬ (Fd d R k∨R.S k)∧¬ Ft b S k
variable {W1 W W':World} {d b:Nat} {D:Ds} {now:Int} {M:List Rq} {K K':Nat→Prop}
theorem Tw.imp (h:Tw W1 W d D b now M K) (i:∀ k,K' k→K k):Tw W1 W d D b now M K':=by
 obtain ⟨R,S,h1,h2,h3,h4,h5,h6,h8⟩:=h
 exact ⟨R,S,h1,h2,h3,h4,h5,h6,fun k hk=>h8 k (i k hk)⟩
theorem Tw.below (h:Tw W1 W d D b now M K):Below W1.heap.size W1 W:=by
 obtain ⟨_,_,_,_,h3,_⟩:=h
 exact h3
theorem Tw.lt (h:Tw W1 W d D b now M K):d<W.heap.size:=by
 obtain ⟨_,_,h1,_⟩:=h
 exact h1.lt
theorem Tw.ltw (h:Tw W1 W d D b now M K):b<W.heap.size:=by
 obtain ⟨_,_,_,h2,_⟩:=h
 exact (h2.inw (Or.inl rfl)).2
theorem Tw.klt (h:Tw W1 W d D b now M K) {k:Nat} (hk:K k):k<W.heap.size:=by
 obtain ⟨_,_,_,_,_,_,_,_,h8⟩:=h
 exact (h8 k hk).1
theorem dm_lt {w:World} {b:Nat} {D:Ds} {R:Raw} (h:Dm w b D R) {k:Nat} (e:Fd b R k∨R.S k):k<w.heap.size:=by
 rcases e with e | e
 ·exact h.flt e
 ·exact (h.sin k e).1
theorem Tw.onB (h:Tw W1 W d D b now M K) (q:Below W.heap.size W W') (i:∀ k,K' k→K k∨(W.heap.size≤k∧k<W'.heap.size)):Tw W1 W' d D b now M K':=by
 obtain ⟨R,S,h1,h2,h3,h4,h5,h6,h8⟩:=h
 refine ⟨R,S,h1.onB q,h2.onB q,h3.trans (q.mono h3.size),h4,h5,h6,fun k hk=>?_⟩
 rcases i k hk with z | ⟨z1,z2⟩
 ·exact ⟨Nat.lt_of_lt_of_le (h8 k z).1 q.size,(h8 k z).2⟩
 ·refine ⟨z2,fun e=>?_,fun e=>?_⟩
  ·have:=dm_lt h1 e;omega
  ·have:=(h2.inw e).2;omega
theorem Tw.grown {g:Nat} (h:Tw W1 W d D b now M K) (hg:W.grownBy W' (some g)) (hK:K g) (h1:W1.heap.size≤g) (i:∀ k,K' k→K k∨(W.heap.size≤k∧k<W'.heap.size)):Tw W1 W' d D b now M K':=by
 obtain ⟨R,S,d1,d2,h3,h4,h5,h6,h8⟩:=h
 have bk:∀ k,k<W.heap.size→k≠g→W'.heap[k]?=W.heap[k]?:=fun k hk hn=>hg.block k hk (fun e=>hn (by injection e))
 refine ⟨R,S,d1.on hg.size (fun k hk=>bk k (dm_lt d1 hk) (fun e=>(h8 g hK).2.1 (e ▸ hk))),d2.on (fun k hk=>bk k (d2.inw hk).2 (fun e=>(h8 g hK).2.2 (e ▸ hk))),⟨hg.os.trans h3.os,hg.tape.trans h3.tape,hg.output.trans h3.output,Nat.le_trans h3.size hg.size,fun k hk=>(bk k (Nat.lt_of_lt_of_le hk h3.size) (by omega)).trans (h3.block k hk)⟩,h4,h5,h6,fun k hk=>?_⟩
 rcases i k hk with z | ⟨z1,z2⟩
 ·exact ⟨Nat.lt_of_lt_of_le (h8 k z).1 hg.size,(h8 k z).2⟩
 ·refine ⟨z2,fun e=>?_,fun e=>?_⟩
  ·have:=dm_lt d1 e;omega
  ·have:=(d2.inw e).2;omega
def TwA (W1 W:World) (d:Nat) (D':Ds) (b:Nat) (now:Int) (M:List Rq) (f:Int) (L:List Rq) (K:Nat→Prop) (x:Ending) (W':World):Prop:=∃ u c,x=.returned (.tuple #[.slice u L.length c,fault f])∧Ow W' W1.heap.size (.slice u L.length c) L∧Tw W1 W' d D' b now M (fun k=>K k∨(Value.slice u L.length c).ownBlock=some k)∧(∀ k,K k→W'.heap[k]?=W.heap[k]?)∧∀ g,(Value.slice u L.length c).ownBlock=some g→W.heap.size≤g
theorem tw_tick (n:Int) (h:Tw W1 W d D b now M K) (g:Gd D) (hT:Tab W1):Calls Tryz.prog 8 #[.pointer (some ⟨d,0,none⟩),.agg (askC 3 noE noS noN zq n)] W (TwA W1 W d (D.tick n) b now M (ticF D n) (ticL D n) K):=by
 obtain ⟨R,S,d1,d2,h3,h4,h5,h6,h8⟩:=h
 have hd:=do_any (S0:=fun _=>False) 3 noE noS noN zq n d1 g (hT.below h3) (fun X _ _=>noB X) (fun k hk=>hk.elim) noN_len
 rw [show D.step 3 noE noN zq n=D.tick n by unfold Ds.step;rw [if_neg (by decide),if_neg (by decide),if_pos rfl],show stF D 3 noE noN zq n=ticF D n by unfold stF;rw [if_neg (by decide),if_neg (by decide),if_pos rfl],show stL D 3 n=ticL D n from if_pos rfl] at hd
 refine hd.mono (fun x W' ⟨u,hx,ho,R',hd,hk,hu⟩=>?_)
 obtain ⟨ua,c,rfl,_⟩:=ho.rd
 refine ⟨ua,c,hx,own_lower ho h3.size,⟨R',S,hd,d2.on (fun k hf=>hk.block k (d2.inw hf).2 (fun e=>h6 k hf (Or.inl e))),h3.trans (hk.below h3.size (fun k z=>h4 k (Or.inl z))),fun k z=>?_,h5,fun k hf z=>?_,fun k z=>?_⟩,(fun k z=>hk.block k (h8 k z).1 (fun e=>(h8 k z).2.1 (Or.inl e))),fun g hg=>(ho.lt g hg).1⟩
 ·rcases hk.own k z with y | y
  ·exact h4 k y
  ·exact Nat.le_trans h3.size y
 ·rcases hk.own k z with y | y
  ·exact h6 k hf y
  ·have:=(d2.inw hf).2;omega
 ·rcases z with z | z
  ·refine ⟨Nat.lt_of_lt_of_le (h8 k z).1 hk.size,fun y=>?_,(h8 k z).2.2⟩
   rcases hk.own k y with q | q
   ·exact (h8 k z).2.1 q
   ·have:=(h8 k z).1
    omega
  ·refine ⟨(ho.lt k z).2,hu k z,fun y=>?_⟩
   have:=(d2.inw y).2
   have:=(ho.lt k z).1
   omega
theorem tw_put (e:Evt) (s:Evs) (h:Tw W1 W d D b now M K) (g:Gd D) (hT:Tab W1) (hv:EvB W1 e s):Calls Tryz.prog 8 #[.pointer (some ⟨d,0,none⟩),.agg (askC 1 e s noN zq 0)] W fun x W'=>∃ u c,x=.returned (.tuple #[.slice u 0 c,fault (putF D e)])∧Tw W1 W' d (D.put e) b now M (fun _=>False):=by
 obtain ⟨R,S,d1,d2,h3,h4,h5,h6,h8⟩:=h
 have hd:=do_any (S0:=fun k=>k<W1.heap.size) 1 e s noN zq 0 d1 g (hT.below h3) (fun X hs hk=>by
  have:=hv.on (w':={ X with os:=W1.os,tape:=W1.tape,output:=W1.output }) ⟨rfl,rfl,rfl,Nat.le_trans h3.size hs,fun k hk2=>(hk k hk2).trans (h3.block k hk2)⟩
  exact this) (fun k hk=>⟨Nat.lt_of_lt_of_le hk h3.size,fun z=>by have:=h4 k (Or.inl z);omega⟩) noN_len
 rw [show D.step 1 e noN zq 0=D.put e from if_pos rfl,show stF D 1 e noN zq 0=putF D e from if_pos rfl,show stL D 1 0=[] from if_neg (by decide)] at hd
 refine hd.mono (fun x W' ⟨u,hx,ho,R',hd,hk,hu⟩=>?_)
 obtain ⟨ua,c,rfl,_⟩:=ho.rd
 refine ⟨ua,c,hx,R',S,hd,d2.on (fun k hf=>hk.block k (d2.inw hf).2 (fun e=>h6 k hf (Or.inl e))),h3.trans (hk.below h3.size (fun k z=>h4 k (Or.inl z))),fun k z=>?_,h5,fun k hf z=>?_,fun k z=>z.elim⟩
 ·rcases hk.own k z with y | y
  ·exact h4 k y
  ·exact Nat.le_trans h3.size y
 ·rcases hk.own k z with y | y
  ·exact h6 k hf y
  ·have:=(d2.inw hf).2;omega
theorem tw_new (now:Int) (h:Wd W1 W d D K) (hn:ist now=true):Calls Tryz.prog 21 #[.int .i64 now] W fun x W'=>∃ b,x=.returned (.tuple #[.pointer (some ⟨b,0,none⟩),.nilIface])∧Tw W1 W' d D b now [] K:=by
 obtain ⟨R,d1,h3,h4,h8⟩:=h
 obtain ⟨n1,n2⟩:=ist_in hn
 refine (wnew_yes now W hn).mono (fun x W' ⟨hx,hb,hs,hm⟩=>⟨_,hx,R,S0,d1.onB hb,⟨_,hm,Iv.new n1 n2⟩,h3.trans (hb.mono h3.size),h4,fun k z=>?_,fun k z e=>?_,fun k z=>⟨Nat.lt_of_lt_of_le (h8 k z).1 hb.size,(h8 k z).2,fun e=>?_⟩⟩)
 ·have:=(hm.inw z).1
  exact Nat.le_trans h3.size this
 ·have:=(hm.inw z).1
  have:=dm_lt d1 e
  omega
 ·have:=(hm.inw e).1
  have:=(h8 k z).1
  omega
def TwG (W1 W:World) (d:Nat) (D:Ds) (b:Nat) (t:Int) (M:List Rq) (K:Nat→Prop) (x:Ending) (W':World):Prop:=∃ u c,x=.returned (.tuple #[.slice u (dueQ M t).length c,.nilIface])∧Ow W' W1.heap.size (.slice u (dueQ M t).length c) (dueQ M t)∧Tw W1 W' d D b t (laterQ M t) (fun k=>K k∨(Value.slice u (dueQ M t).length c).ownBlock=some k)∧(∀ k,K k→W'.heap[k]?=W.heap[k]?)∧∀ g,(Value.slice u (dueQ M t).length c).ownBlock=some g→W.heap.size≤g
theorem tw_go (t:Int) (h:Tw W1 W d D b now M K) (hT:ist t=true) (hle:now≤t):Calls Tryz.prog 25 #[.pointer (some ⟨b,0,none⟩),.int .i64 t] W (TwG W1 W d D b t M K):=by
 obtain ⟨R,S,d1,d2,h3,h4,h5,h6,h8⟩:=h
 refine (wgo_yes W b S now M t d2 hT hle).mono (fun x W' ⟨u,S',hx,hl,hk,ho,hu⟩=>?_)
 obtain ⟨ua,c,rfl,_⟩:=ho.rd
 refine ⟨ua,c,hx,own_lower ho h3.size,⟨R,S',d1.on hk.size (fun k hf=>hk.block k (dm_lt d1 hf) (fun e=>h6 k e hf)),hl,h3.trans (hk.below h3.size h5),h4,fun k z=>?_,fun k hf z=>?_,fun k z=>?_⟩,(fun k z=>hk.block k (h8 k z).1 (h8 k z).2.2),fun g hg=>(ho.lt g hg).1⟩
 ·rcases hk.own k z with y | y
  ·exact h5 k y
  ·exact Nat.le_trans h3.size y
 ·rcases hk.own k hf with y | y
  ·exact h6 k y z
  ·have:=dm_lt d1 z;omega
 ·rcases z with z | z
  ·refine ⟨Nat.lt_of_lt_of_le (h8 k z).1 hk.size,(h8 k z).2.1,fun y=>?_⟩
   rcases hk.own k y with q | q
   ·exact (h8 k z).2.2 q
   ·have:=(h8 k z).1
    omega
  ·refine ⟨(ho.lt k z).2,fun y=>?_,hu k z⟩
   have:=dm_lt d1 y
   have:=(ho.lt k z).1
   omega
theorem tw_add (r:Rq) (h:Tw W1 W d D b now M K):Calls Tryz.prog 24 #[.pointer (some ⟨b,0,none⟩),agQ r] W fun x W'=>x=.returned (fault (waf now M r))∧Tw W1 W' d D b now (wad now M r) K∧∀ k,K k→W'.heap[k]?=W.heap[k]?:=by
 obtain ⟨R,S,d1,d2,h3,h4,h5,h6,h8⟩:=h
 refine (wadd_any W b S now M r d2).mono (fun x W' ⟨hx,S',hl,hk⟩=>⟨hx,⟨R,S',d1.on hk.size (fun k hf=>hk.block k (dm_lt d1 hf) (fun e=>h6 k e hf)),hl,h3.trans (hk.below h3.size h5),h4,fun k z=>?_,fun k hf z=>?_,fun k z=>?_⟩,(fun k z=>hk.block k (h8 k z).1 (h8 k z).2.2)⟩)
 ·rcases hk.own k z with y | y
  ·exact h5 k y
  ·exact Nat.le_trans h3.size y
 ·rcases hk.own k hf with y | y
  ·exact h6 k y z
  ·have:=dm_lt d1 z;omega
 ·refine ⟨Nat.lt_of_lt_of_le (h8 k z).1 hk.size,(h8 k z).2.1,fun y=>?_⟩
  rcases hk.own k y with q | q
  ·exact (h8 k z).2.2 q
  ·have:=(h8 k z).1
   omega
def TwR (W1 W:World) (d:Nat) (D:Ds) (b:Nat) (now:Int) (M:List Rq) (L:List Rq) (K:Nat→Prop) (x:Ending) (W':World):Prop:=∃ u c,x=.returned (.slice u L.length c)∧Ow W' W1.heap.size (.slice u L.length c) L∧Tw W1 W' d D b now M K∧Below W.heap.size W W'
theorem tw_rung (h:Tw W1 W d D b now M K) (g:Gd D):Calls Tryz.prog 9 #[.pointer (some ⟨d,0,none⟩)] W (TwR W1 W d D b now M D.rung K):=by
 have h0:=h
 obtain ⟨R,S,d1,_,h3,_⟩:=h
 refine (drung_any d1 (by have:=g.nr;omega)).mono (fun x W' ⟨u,hx,ho,hb⟩=>?_)
 obtain ⟨ua,c,rfl,_⟩:=ho.rd
 exact ⟨ua,c,hx,own_lower ho h3.size,h0.onB hb (fun k z=>Or.inl z),hb⟩
theorem tw_len (h:Tw W1 W d D b now M K):Calls Tryz.prog 26 #[.pointer (some ⟨b,0,none⟩)] W fun x W'=>x=.returned (.int .i64 M.length)∧W'=W:=by
 obtain ⟨R,S,d1,⟨Rr,hm,_⟩,_⟩:=h
 exact wlen_any W b now _ S hm.box
theorem tw_app {va u:Value} {A L:List Rq} (h:Tw W1 W d D b now M K) (ha:Ow W W1.heap.size va A) (hu:Rd W u L) (hK:∀ k,va.ownBlock=some k→K k) (hl:A.length + L.length≤1000000) :
 ∃ a n c W',(∀ ty,(Builtin.append_ #[41,41] ty #[va,u]).run Tryz.prog W=.ok (.slice a n c) W')∧Ow W' W1.heap.size (.slice a n c) (A++L)∧Tw W1 W' d D b now M (fun k=>K k∨(Value.slice a n c).ownBlock=some k)∧
  (∀ k,k<W.heap.size→va.ownBlock≠some k→W'.heap[k]?=W.heap[k]?)∧((Value.slice a n c).ownBlock=va.ownBlock∨(Value.slice a n c).ownBlock=some W.heap.size)∧W.heap.size≤W'.heap.size:=by
 obtain ⟨v',W',ap,o,g,p⟩:=app5_at ha hu h.below.size (by omega)
 obtain ⟨a,c,e,_⟩:=o.rd
 subst e
 refine ⟨a,_,c,W',ap,o,?_,fun k hk hn=>g.block k hk (fun e=>hn e.symm),p,g.size⟩
 rcases hown:va.ownBlock with _ | gg
 ·rw [hown] at g p
  refine h.onB ⟨g.os,g.tape,g.output,g.size,fun k hk=>g.block k hk (by simp)⟩ (fun k hk=>?_)
  rcases hk with hk | hk
  ·exact Or.inl hk
  ·rcases p with p | p
   ·rw [p] at hk;cases hk
   ·have e2:=p.symm.trans hk
    injection e2 with e2
    exact Or.inr ⟨by omega,(o.lt k hk).2⟩
 ·rw [hown] at g p
  refine h.grown g (hK gg hown) (ha.lt gg hown).1 (fun k hk=>?_)
  rcases hk with hk | hk
  ·exact Or.inl hk
  ·rcases p with p | p
   ·have e2:=p.symm.trans hk
    injection e2 with e2
    exact Or.inl (by rw [← e2];exact hK gg hown)
   ·have e2:=p.symm.trans hk
    injection e2 with e2
    exact Or.inr ⟨by omega,(o.lt k hk).2⟩
end Go.Proofs.YthdohcjingfpoaaGreatDoor.Dk
namespace Go.Proofs.YthdohcjingfpoaaGreatDoor.Dk
open Go.RowKit Qu Go.Maps Zo
set_option maxRecDepth 100000 in
set_option maxHeartbeats 2000000 in
theorem new_badT (a:Int) (l:List (Int × Int)) (v:Value) (w:World) (hv:ZoneIn w v a l) (hq:¬ zf a l=0) :
 Calls Tryz.prog 7 #[v] w fun y w'=>y=.returned (.tuple #[.pointer none,.iface 86 (.int .i64 (zf a l))])∧Below w.heap.size w w':=by
 have HV:=Lib.hid (fun W (q:Below w.heap.size w W)=>hv.on q)
 obtain ⟨sa,sc,rfl⟩:=hv.form
 obtain ⟨W0,hW0⟩:∃ W0,W0=w.alloc (.cells #[.int .i64 a,.slice sa l.length sc] 24):=⟨_,rfl⟩
 have b0:Below w.heap.size w W0:=by rw [hW0];exact below_alloc _ _
 have z0:W0.cell? ⟨w.heap.size,0,none⟩=some (.int .i64 a):=by rw [hW0];simp
 have z1:W0.cell? ⟨w.heap.size,1,none⟩=some (.slice sa l.length sc):=by rw [hW0];simp
 have gl:=cell_in z0
 have KC:Hid (Calls Tryz.prog 27 #[.agg #[.int .i64 a,.slice sa l.length sc]] W0 fun x w'=>x=.returned (fault (zf a l))∧Below W0.heap.size W0 w'):=Lib.hid (zcheck_any a l _ W0 (HV.out W0 b0))
 have HW:=Lib.hid hW0
 have HB:=Lib.hid b0
 rw [efault_ne hq] at KC
 generalize zf a l=F at KC ⊢
 clear hv hW0 b0 hq HV
 go_enter Tryz.func7,Tryz.ntmps7
 go_upto_region 1 with fail
 rw [← HW.out]
 go_wp2_with (go_at_call 27;refine KC.out.mono ?_;rintro x w1 ⟨rfl,hb⟩)
 go_ret2
 exact ⟨rfl,HB.out.trans (hb.mono HB.out.size)⟩
def vst (x:Int):Int:=if 0<x∧x≤40000 then x else 0
def sm:List Int→Int
 | []=>0
 | x :: r=>vst x + sm r
theorem sm_app:∀ a b:List Int,sm (a++b)=sm a + sm b
 | [],b=>by simp [sm]
 | x :: a,b=>by
   have:=sm_app a b
   simp only [List.cons_append,sm]
   omega
theorem sm_next {l:List Int} {k:Nat} (hk:k<l.length):sm (l.take (k + 1))=sm (l.take k) + vst (l.getD k 0):=by
 rw [List.take_succ_eq_append_getElem hk,sm_app,List.getD_eq_getElem?_getD,List.getElem?_eq_getElem hk]
 simp [sm]
theorem sm_in:∀ l:List Int,0≤sm l∧sm l≤40000 * l.length
 | []=>by simp [sm]
 | x :: r=>by
   have:=sm_in r
   have hv:0≤vst x∧vst x≤40000:=by unfold vst;split <;> omega
   simp only [sm,List.length_cons]
   omega
theorem sm_mono (l:List Int) {j k:Nat} (h:j≤k):sm (l.take j)≤sm (l.take k):=by
 have e:l.take k=l.take j++(l.take k).drop j:=by
  have:=(List.take_append_drop j (l.take k)).symm
  rwa [List.take_take,Nat.min_eq_left h] at this
 rw [e,sm_app]
 have:=(sm_in ((l.take k).drop j)).1
 omega
theorem ints_at {W:World} {v:Value} {l:List Int} (h:Ints W v l):∃ a cap,v=.slice a l.length cap∧(l=[]∨∃ g o,a=some ⟨g,o,none⟩∧∀ i,i<l.length→W.cell? ⟨g,o + i,none⟩=some (.int .i64 (l.getD i 0))):=h
set_option maxRecDepth 100000 in
set_option maxHeartbeats 8000000 in
theorem trings (x:Int) (lz:List (Int × Int)) (vz:Value) (v:Evt) (s:Evs) (nw:Int) (ls:List Int) (vs:Value) (w:World) (hz:ZoneIn w vz x lz) (hv:EvB w v s) (hl:Ints w vs ls) (hT:Tab w) :
 Calls Tryz.prog 6 #[vz,.agg (ecells v s),.int .i64 nw,vs] w fun y w'=>y=.returned (.bool true)∧Below w.heap.size w w':=by
 have hz0:=hz
 obtain ⟨sa,sc,rfl⟩:=hz.form
 obtain ⟨ia,ic,rfl,_⟩:=ints_at hl
 obtain ⟨W1,hW1,b1,z2,Z1,E1⟩:=two_boxes w x lz sa sc v s
 have HX:Hid (∀ X,Below W1.heap.size W1 X→X.cell? ⟨w.heap.size,0,none⟩=some (.int .i64 x)∧X.cell? ⟨w.heap.size,1,none⟩=some (.slice sa lz.length sc)∧w.heap.size<X.heap.size):=Lib.hid (fun X q=>by
  obtain ⟨c0,c1⟩:=Z1.on q
  exact ⟨c0,c1,cell_in c0⟩)
 have HE:Hid (∀ X,Below W1.heap.size W1 X→EBox X (w.heap.size + 1) v s):=Lib.hid (fun X q=>E1.on q)
 have HZ:Hid (∀ X,Below W1.heap.size W1 X→ZoneIn X (.agg #[.int .i64 x,.slice sa lz.length sc]) x lz):=Lib.hid (fun X q=>(hz0.on b1).on q)
 have HV:Hid (∀ X,Below W1.heap.size W1 X→EvB X v s):=Lib.hid (fun X q=>(hv.on b1).on q)
 have HI:Hid (∀ X,Below W1.heap.size W1 X→ls=[]∨∃ g o,ia=some ⟨g,o,none⟩∧∀ i,i<ls.length→X.cell? ⟨g,o + i,none⟩=some (.int .i64 (ls.getD i 0))):=Lib.hid (fun X q=>by
  obtain ⟨a',c',e',h'⟩:=ints_at ((hl.on b1).on q)
  injection e' with e1
  subst e1
  exact h')
 have TRUE:Hid (∀ X,Below W1.heap.size W1 X→Below w.heap.size w X):=Lib.hid (fun X q=>b1.trans (q.mono b1.size))
 have HT:=Lib.hid (hT.below b1)
 have K1:=Lib.hid (one_any W1 (hT.below b1))
 have HW:=Lib.hid hW1
 clear b1 hz hz0 hv hl hT hW1 z2 Z1 E1
 go_enter Tryz.func6,Tryz.ntmps6
 go_upto_region 1 with fail
 rw [← HW.out]
 clear HW
 go_wp2_with fail
 refine K1.out.mono ?_
 rintro y w2 ⟨rfl,hb2⟩
 have B2:=Lib.hid hb2
 clear K1 hb2
 obtain ⟨z0,z1,zl⟩:=HX.out w2 B2.out
 by_cases hq:zf x lz=0
 case neg=>
  have KN:=Lib.hid (new_badT x lz _ w2 (HZ.out w2 B2.out) hq)
  generalize zf x lz=F at KN hq
  go_wp2_with fail
  refine KN.out.mono ?_
  rintro y w3 ⟨rfl,hb3⟩
  have B3:=Lib.hid (TRUE.out w3 (B2.out.trans (hb3.mono B2.out.size)))
  have KW:Hid (Calls Tryz.prog 21 #[.int .i64 nw] w3 fun y w4=>∃ p q,y=.returned (.tuple #[p,q])∧Below w3.heap.size w3 w4):=Lib.hid (by
   rcases hi:ist nw with _ | _
   ·exact (wnew_no nw w3 hi).mono (fun y w4 ⟨h1,h2⟩=>⟨_,_,h1,by rw [h2];exact Below.refl _ _⟩)
   ·exact (wnew_yes nw w3 hi).mono (fun y w4 ⟨h1,h2,_⟩=>⟨_,_,h1,h2⟩))
  clear z0 z1 zl hb3 KN
  go_wp2_with fail
  refine KW.out.mono ?_
  rintro y w4 ⟨p,q,rfl,hb4⟩
  have B4:=Lib.hid (B3.out.trans (hb4.mono B3.out.size))
  clear hb4 KW
  go_wp2
  go_ret
  exact ⟨rfl,B4.out⟩
 have hll:lz.length≤1000000:=by
  have hq':=hq
  unfold zf at hq'
  split at hq'
  ·cases hq'
  ·omega
 go_wp2_with fail
 refine (wd_new (W1:=W1) (K:=fun _=>False) x lz _ (HZ.out w2 B2.out) hll hq B2.out (fun _ h=>h.elim)).mono ?_
 rintro y w3 ⟨d,rfl,h3,_⟩
 have H3:=Lib.hid h3
 clear z0 z1 zl h3 hll
 rcases hi:ist nw with _ | _
 ·have B3:=Lib.hid (TRUE.out w3 H3.out.below)
  have KW:=Lib.hid (wnew_no nw w3 hi)
  clear H3 hi
  go_wp2_with fail
  refine KW.out.mono ?_
  rintro y w4 ⟨rfl,hw⟩
  replace hw:=hw.symm
  subst hw
  go_wp2
  go_ret
  exact ⟨rfl,B3.out⟩
 obtain ⟨n1,n2⟩:=ist_in hi
 have KW:=Lib.hid (tw_new nw H3.out hi)
 clear H3 hi
 go_wp2_with fail
 refine KW.out.mono ?_
 rintro y w4 ⟨b,rfl,h4⟩
 have H4:=Lib.hid h4
 clear KW h4
 have zb:=(HE.out w4 H4.out.below).lt
 go_wp2_with (refine ev_load ?h1 (.tmp 5) ?h2 (w.heap.size + 1) v s ?h3 (HE.out w4 H4.out.below) ?h4;(case h1=>rfl);(case h2=>rfl);(case h3=>rfl))
 refine (tw_put v s H4.out (Gd.new hq) HT.out (HV.out W1 (Below.refl _ _))).mono ?_
 rintro y w5 ⟨u5,c5,rfl,h5⟩
 have H5:=Lib.hid h5
 have G5:=Lib.hid ((Gd.new hq).put v)
 clear H4 h5 zb
 go_wp2_with fail
 refine (tw_tick nw H5.out G5.out HT.out).mono ?_
 rintro y w6 ⟨u6,c6,rfl,_,h6,_⟩
 have H6:=Lib.hid (h6.imp (K':=fun _=>False) (fun _ h=>Or.inl h))
 have B6:=Lib.hid (TRUE.out w6 h6.below)
 clear H5 h6
 go_upto_region 10 with fail
 by_cases f1:putF (newD x lz) v=0
 case neg=>
  rw [efault_ne f1]
  clear H6 G5
  go_wp2
  go_ret
  exact ⟨rfl,B6.out⟩
 rw [f1,efault_0]
 by_cases f2:ticF ((newD x lz).put v) nw=0
 case neg=>
  rw [efault_ne f2]
  clear H6 G5
  go_wp2
  go_ret
  exact ⟨rfl,B6.out⟩
 rw [f2,efault_0]
 have T6:Hid (∀ t,Tr x lz v nw t nw (((newD x lz).put v).tick nw)):=Lib.hid (fun t=>Tr.start hq f1 f2 t)
 have GV:=Lib.hid (put_good f1)
 have HQ:=Lib.hid hq
 generalize ((newD x lz).put v).tick nw=D at H6 T6
 generalize ticL ((newD x lz).put v) nw=L0
 clear G5 f1 f2 hq
 go_wp2_with fail
 obtain ⟨N,hN⟩:∃ N,N=min ls.length 20:=⟨_,rfl⟩
 have SMI:=Lib.hid (fun k=>sm_in (ls.take k))
 have SMN:=Lib.hid (fun k (hk:k<ls.length)=>sm_next hk)
 go_loopw [14,15] (fun tv iv WW=>∃ k:Nat,k≤N∧iv=.int .i64 k∧tv=.int .i64 (nw + sm (ls.take k))∧WW=w6) (fun _ iv _=>N - (intOf iv).toNat)
 case atStart=>exact ⟨0,Nat.zero_le _,rfl,by simp [sm],rfl⟩
 case round=>
  obtain ⟨k,hk,rfl,rfl,hw⟩:=hrel
  subst hw
  have sk:=(SMI.out k)
  have sk2:(ls.take k).length≤20:=by rw [List.length_take];omega
  obtain ⟨c,hc⟩:∃ c:Bool,c=decide (k<ls.length∧k<20):=⟨_,rfl⟩
  go_upto_region 14 with fail
  go_cut [78] from 71 to 78 (fun s wx=>s=.bool c∧wx=wr)
  case first=>
   by_cases k1:k<ls.length
   ·by_cases k2:k<20
    ·have e1:c=true:=by rw [hc];exact decide_eq_true ⟨k1,k2⟩
     subst e1
     clear hc sk sk2
     go_wp2
     go_meet
     case rel=>exact ⟨by simp;omega,rfl⟩
    ·have e1:c=false:=by rw [hc];exact decide_eq_false (fun q=>k2 q.2)
     subst e1
     clear hc sk sk2
     go_wp2
     go_meet
     case rel=>exact ⟨by simp;omega,rfl⟩
   ·have e1:c=false:=by rw [hc];exact decide_eq_false (fun q=>k1 q.1)
    subst e1
    clear hc sk sk2
    go_wp2
    go_meet
    case rel=>exact ⟨by simp,rfl⟩
  case rest=>
  obtain ⟨hs,hw⟩:=hcut
  replace hw:=hw.symm
  subst hs
  subst hw
  rcases c with _ | _
  case true=>
   obtain ⟨k1,k2⟩:=of_decide_eq_true hc.symm
   clear hc
   rcases HI.out wr H6.out.below with hn | ⟨g,o,rfl,hcl⟩
   ·rw [hn] at k1;simp at k1
   have cx:=hcl k k1
   have gx:=cell_in cx
   have nx:=SMN.out k k1
   generalize ls.getD k 0=st at cx nx
   have qi:IntKind.i64.wrap ((k:Int) + 1)=(k:Int) + 1:=by rw [IntKind.wrap_i64];omega
   have NX:=Lib.hid nx
   clear hcl nx
   by_cases p1:0<st
   ·by_cases p2:st≤40000
    ·have qt:IntKind.i64.wrap (nw + sm (ls.take k) + st)=nw + sm (ls.take k) + st:=by rw [IntKind.wrap_i64];omega
     go_wp2
     go_roundw
     case rel=>exact ⟨k + 1,by omega,by go_num,by rw [NX.out];unfold vst;rw [if_pos ⟨p1,p2⟩,← Int.add_assoc],by trivial⟩
     case measure=>simp [intOf];omega
    ·go_wp2
     go_roundw
     case rel=>exact ⟨k + 1,by omega,by go_num,by rw [NX.out];unfold vst;rw [if_neg (fun q=>p2 q.2),Int.add_zero],by trivial⟩
     case measure=>simp [intOf];omega
   ·go_wp2
    go_roundw
    case rel=>exact ⟨k + 1,by omega,by go_num,by rw [NX.out];unfold vst;rw [if_neg (fun q=>p1 q.1),Int.add_zero],by trivial⟩
    case measure=>simp [intOf];omega
  case false=>
   have kn:k=N:=by
    have:=of_decide_eq_false hc.symm
    omega
   rw [kn] at sk ⊢
   clear hc hk sk2 kn
   obtain ⟨t,ht⟩:∃ t,t=nw + sm (ls.take N):=⟨_,rfl⟩
   rw [← ht]
   have HTT:=Lib.hid ht
   have tn:nw≤t:=by omega
   clear ht sk
   have q1:IntKind.i64.wrap ((109573:Int) * 1440)=157785120:=by rw [IntKind.wrap_i64];omega
   have B6':=Lib.hid (TRUE.out wr H6.out.below)
   by_cases pLast:157785119≤t
   ·clear H6 T6 HI HX HE HZ HV SMI SMN
    go_wp2_with (go_at_call 22;refine (last_any _).mono ?_;rintro e w' ⟨rfl,hw⟩;replace hw:=hw.symm;subst hw)
    go_ret
    exact ⟨rfl,B6'.out⟩
   have T7:=Lib.hid (T6.out t)
   have q2:IntKind.i64.wrap (nw + 1)=nw + 1:=by rw [IntKind.wrap_i64];omega
   have q3:IntKind.i64.wrap (t + 1)=t + 1:=by rw [IntKind.wrap_i64];omega
   obtain ⟨z0,z1,zl⟩:=HX.out wr H6.out.below
   have KR:=Lib.hid (rings_any x lz _ v s (nw + 1) (t + 1) wr (HZ.out wr H6.out.below) (HV.out wr H6.out.below) (HT.out.below H6.out.below))
   have E6:=Lib.hid (HE.out wr H6.out.below)
   clear T6
   go_wp2_with (first
    | (refine ev_load ?k1 (.tmp 5) ?k2 (w.heap.size + 1) v s ?k3 E6.out ?k4;(case k1=>rfl);(case k2=>rfl);(case k3=>rfl))
    | (go_at_call 22;refine (last_any _).mono ?_;rintro e w' ⟨rfl,hw⟩;replace hw:=hw.symm;subst hw))
   refine KR.out.mono ?_
   rintro y w7 ⟨u7,rfl,hb7,o7⟩
   have H7:=Lib.hid (H6.out.onB (K':=fun k=>u7.ownBlock=some k) hb7 (fun k hk=>Or.inr (own_toQ o7 |>.lt k hk)))
   have B7:=Lib.hid (TRUE.out w7 H7.out.below)
   have O7:=Lib.hid (own_lower (own_toQ o7) H6.out.below.size)
   clear KR E6 H6 hb7 o7 z0 z1 zl B6'
   by_cases f3:raF x lz v (nw + 1) (t + 1)=0
   case neg=>
    rw [efault_ne f3]
    clear H7 O7 T7 HI HX HE HZ HV SMI SMN
    go_wp2
    go_ret
    exact ⟨rfl,B7.out⟩
   rw [f3,efault_0]
   obtain ⟨hra,hrl⟩:raL x lz v (nw + 1) (t + 1)=rgS x lz v (nw + 1) (t + 1)∧(rgS x lz v (nw + 1) (t + 1)).length≤400:=by
    refine ⟨if_pos f3,?_⟩
    unfold raF at f3
    split at f3
    ·rename_i q;exact absurd f3 q
    ·split at f3
     ·cases f3
     ·omega
   rw [hra] at O7
   have O7':Hid (Ow w7 W1.heap.size u7 (allQ x lz v nw t)):=O7
   have ML:(allQ x lz v nw t).length≤400:=by unfold allQ;rw [List.length_map];exact hrl
   have RS:=Lib.hid (allQ_rs (a:=x) (l:=lz) (nw:=nw) (t:=t) GV.out)
   have AT:=Lib.hid (fun z (q:z∈allQ x lz v nw t)=>allQ_at GV.out HQ.out q)
   obtain ⟨a7,c7,e7,_⟩:=O7'.out.rd
   subst e7
   clear O7 hra hrl f3
   have ST:=Lib.hid (fun p q D (h:Tr x lz v nw t p D) h1 h2 h3=>h.step (q:=q) GV.out HQ.out ML h1 h2 h3 (by omega))
   have TR:=Lib.hid (fun p D (h:Tr x lz v nw t p D)=>And.intro h.gd h.rung)
   have AN:=Lib.hid (fun k hk=>add_next (nw:=nw) RS.out ML (fun z hz=>⟨(AT.out z hz).1,by have:=(AT.out z hz).2;omega⟩) n1 (k:=k) hk)
   generalize allQ x lz v nw t=Wq at *
   go_wp2_with fail
   go_loopw [18] (fun iv WW=>∃ k:Nat,k≤Wq.length∧iv=.int .i64 k∧Hid (Tw W1 WW d D b nw (Wq.take k) (fun k=>(Value.slice a7 Wq.length c7).ownBlock=some k))∧Hid (Ow WW W1.heap.size (.slice a7 Wq.length c7) Wq)) (fun iv _=>Wq.length - (intOf iv).toNat)
   case atStart=>exact ⟨0,Nat.zero_le _,rfl,H7,O7'⟩
   case round=>
    obtain ⟨k,hk,rfl,H,O⟩:=hrel
    clear H7 O7' B7
    by_cases hlt:k<Wq.length
    ·obtain ⟨g,ga,atk⟩:=own_at O.out hlt
     subst ga
     obtain ⟨A1,A2⟩:=AN.out k hlt
     have KA:=tw_add (Wq.getD k zq) H.out
     rw [A1,A2,efault_0] at KA
     generalize Wq.getD k zq=r at atk KA
     have KA':=Lib.hid KA
     obtain ⟨y0,y1,y2,y3,y4⟩:=atk
     have gl:=cell_in y0
     have qk:IntKind.i64.wrap ((k:Int) + 1)=(k:Int) + 1:=by rw [IntKind.wrap_i64];omega
     have bl:=H.out.ltw
     clear KA A1 A2
     go_wp2_with fail
     refine KA'.out.mono ?_
     rintro y w8 ⟨rfl,h8,k8⟩
     have H8:=Lib.hid h8
     have O8:=Lib.hid (own_on O.out (fun g hg=>k8 g hg))
     clear KA' y0 y1 y2 y3 y4 gl bl h8 k8 H O
     go_wp2
     go_roundw
     case rel=>exact ⟨k + 1,by omega,by go_num,H8,O8⟩
     case measure=>simp [intOf];omega
    ·have kn:k=Wq.length:=by omega
     subst kn
     have H9:=H.out
     rw [List.take_length] at H9
     have HH:=Lib.hid H9
     have OO:=O
     have BB:=Lib.hid (TRUE.out wr H9.below)
     clear H O H9 AN hk
     go_wp2_with fail
     have SMM:=Lib.hid (fun j (hj:j≤N)=>sm_mono ls hj)
     go_loopw [19,20,21,22,23,24,25,26,27] (fun va vb tv iv _ _ _ _ _ WW=>∃ k:Nat,k≤N∧iv=.int .i64 k∧∃ p D,tv=.int .i64 p∧Hid (p=nw + sm (ls.take k))∧Hid (Tr x lz v nw t p D)∧Hid (Tw W1 WW d D b p (laterQ Wq p) (fun k=>(va.ownBlock=some k∨vb.ownBlock=some k)∨(Value.slice a7 Wq.length c7).ownBlock=some k))∧(∃ a n c,va=.slice a n c)∧(∃ a n c,vb=.slice a n c)∧Hid (Ow WW W1.heap.size va (dueQ Wq p))∧Hid (Ow WW W1.heap.size vb (dueQ Wq p))∧Hid (Ow WW W1.heap.size (.slice a7 Wq.length c7) Wq)∧Hid (∀ g,va.ownBlock=some g→vb.ownBlock≠some g∧(Value.slice a7 Wq.length c7).ownBlock≠some g)∧Hid (∀ g,vb.ownBlock=some g→(Value.slice a7 Wq.length c7).ownBlock≠some g)) (fun _ _ _ iv _ _ _ _ _ _=>N - (intOf iv).toNat)
     case atStart=>
      have e1:dueQ Wq nw=[]∧laterQ Wq nw=Wq:=due_none (fun z hz=>(AT.out z hz).1)
      refine ⟨0,Nat.zero_le _,rfl,nw,D,rfl,Lib.hid (by simp [sm]),T7,Lib.hid ?_,⟨_,_,_,rfl⟩,⟨_,_,_,rfl⟩,Lib.hid ?_,Lib.hid ?_,OO,Lib.hid (fun g h=>by cases h),Lib.hid (fun g h=>by cases h)⟩
      ·rw [e1.2]
       exact HH.out.imp (fun k hk=>by
        rcases hk with (hk | hk) | hk
        ·cases hk
        ·cases hk
        ·exact hk)
      ·rw [e1.1];exact World.ownsRow_nil _ _ _ _
      ·rw [e1.1];exact World.ownsRow_nil _ _ _ _
     case round=>
      obtain ⟨k,hk,rfl,p,D2,rfl,HP,HTr,HTw,⟨xa,xn,xc,rfl⟩,⟨ya,yn,yc,rfl⟩,OA,OB,OW,N1,N2⟩:=hrel
      clear HH OO BB T7
      have sk:=(SMI.out k)
      have sk2:(ls.take k).length≤20:=by rw [List.length_take];omega
      obtain ⟨c,hc⟩:∃ c:Bool,c=decide (k<ls.length∧k<20):=⟨_,rfl⟩
      go_upto_region 31 with fail
      go_cut [137] from 130 to 137 (fun s wx=>s=.bool c∧wx=wr)
      case first=>
       by_cases k1:k<ls.length
       ·by_cases k2:k<20
        ·have e1:c=true:=by rw [hc];exact decide_eq_true ⟨k1,k2⟩
         subst e1
         clear hc sk sk2
         go_wp2
         go_meet
         case rel=>exact ⟨by simp;omega,rfl⟩
        ·have e1:c=false:=by rw [hc];exact decide_eq_false (fun q=>k2 q.2)
         subst e1
         clear hc sk sk2
         go_wp2
         go_meet
         case rel=>exact ⟨by simp;omega,rfl⟩
       ·have e1:c=false:=by rw [hc];exact decide_eq_false (fun q=>k1 q.1)
        subst e1
        clear hc sk sk2
        go_wp2
        go_meet
        case rel=>exact ⟨by simp,rfl⟩
      case rest=>
      obtain ⟨hs,hw⟩:=hcut
      replace hw:=hw.symm
      subst hs
      subst hw
      rcases c with _ | _
      case false=>
       have kn:k=N:=by
        have:=of_decide_eq_false hc.symm
        omega
       have hpt:p=t:=by rw [HP.out,kn];exact HTT.out.symm
       subst hpt
       have hdue:dueQ Wq p=Wq:=by
        unfold dueQ
        rw [List.filter_eq_self]
        intro z hz
        have:=(AT.out z hz).2
        simpa using this
       have hlat:laterQ Wq p=[]:=by
        unfold laterQ
        rw [List.filter_eq_nil_iff]
        intro z hz
        have:=(AT.out z hz).2
        simp
        omega
       obtain ⟨gD,rD⟩:=TR.out p D2 HTr.out
       rw [hdue] at rD
       have OA':Hid (Ow wr W1.heap.size (.slice xa xn xc) Wq):=Lib.hid (by rw [← hdue];exact hdue.symm ▸ OA.out)
       have OB':Hid (Ow wr W1.heap.size (.slice ya yn yc) Wq):=Lib.hid (by rw [← hdue];exact hdue.symm ▸ OB.out)
       have HT9:=HTw.out
       rw [hlat] at HT9
       have HT9':=Lib.hid (HT9.imp (K':=fun _=>False) (fun _ h=>h.elim))
       have GD:=Lib.hid gD
       have RD:=Lib.hid rD
       clear OA OB HTw HTr N1 N2 HI HX HE HZ HV SMI SMN SMM hdue hlat gD rD HT9 ST TR hc hk sk sk2 kn
       go_wp2_with fail
       refine (Qu.sameRings Wq _ _ wr (Ow.rd OA'.out) (Ow.rd OW.out) (by omega)).mono ?_
       rintro y w9 ⟨rfl,hb9⟩
       have OB9:Hid (Ow w9 W1.heap.size (.slice ya yn yc) Wq):=Lib.hid (ow_below OB'.out hb9)
       have OW9:Hid (Ow w9 W1.heap.size (.slice a7 Wq.length c7) Wq):=Lib.hid (ow_below OW.out hb9)
       have H9:=Lib.hid (HT9'.out.onB (K':=fun _=>False) hb9 (fun _ h=>h.elim))
       clear OA' OB' OW HT9' hb9
       go_wp2_with fail
       refine (Qu.sameRings Wq _ _ w9 (Ow.rd OB9.out) (Ow.rd OW9.out) (by omega)).mono ?_
       rintro y w10 ⟨rfl,hb10⟩
       have OW10:Hid (Ow w10 W1.heap.size (.slice a7 Wq.length c7) Wq):=Lib.hid (ow_below OW9.out hb10)
       have H10:=Lib.hid (H9.out.onB (K':=fun _=>False) hb10 (fun _ h=>h.elim))
       clear OB9 OW9 H9 hb10
       have KR:=tw_rung H10.out GD.out
       rw [RD.out] at KR
       have KR':=Lib.hid KR
       have bl:=H10.out.lt
       clear KR
       go_wp2_with fail
       refine KR'.out.mono ?_
       rintro y w11 ⟨u11,c11,rfl,o11,h11,b11⟩
       have O11:=Lib.hid o11
       have OW11:Hid (Ow w11 W1.heap.size (.slice a7 Wq.length c7) Wq):=Lib.hid (ow_below OW10.out b11)
       have H11:=Lib.hid h11
       clear KR' OW10 H10 o11 h11 b11 bl
       go_wp2_with fail
       refine (Qu.sameRings Wq _ _ w11 (Ow.rd O11.out) (Ow.rd OW11.out) (by omega)).mono ?_
       rintro y w12 ⟨rfl,hb12⟩
       have H12:=Lib.hid (H11.out.onB (K':=fun _=>False) hb12 (fun _ h=>h.elim))
       have B12:=Lib.hid (TRUE.out w12 H12.out.below)
       have KL:=Lib.hid (tw_len H12.out)
       have bl:=H12.out.ltw
       clear O11 OW11 H11 hb12
       go_wp2_with fail
       refine KL.out.mono ?_
       rintro y w13 ⟨rfl,hw⟩
       replace hw:=hw.symm
       subst hw
       go_wp2
       go_ret
       exact ⟨rfl,B12.out⟩
      case true=>
       obtain ⟨k1,k2⟩:=of_decide_eq_true hc.symm
       clear hc
       rcases HI.out wr HTw.out.below with hn | ⟨g,o,rfl,hcl⟩
       ·rw [hn] at k1;simp at k1
       have cx:=hcl k k1
       have gx:=cell_in cx
       have nx:=SMN.out k k1
       have mx:=SMM.out (k + 1) (by omega)
       generalize ls.getD k 0=st at cx nx
       have qi:IntKind.i64.wrap ((k:Int) + 1)=(k:Int) + 1:=by rw [IntKind.wrap_i64];omega
       have NX:=Lib.hid nx
       clear hcl
       have NX1:=Lib.hid (And.intro nx mx)
       clear nx mx
       by_cases p1:st≤0
       ·go_wp2
        go_roundw
        case rel=>exact ⟨k + 1,by omega,by go_num,p,D2,rfl,Lib.hid (by rw [NX.out,HP.out];unfold vst;rw [if_neg (fun q=>by omega),Int.add_zero]),HTr,HTw,⟨_,_,_,rfl⟩,⟨_,_,_,rfl⟩,OA,OB,OW,N1,N2⟩
        case measure=>simp [intOf];omega
       by_cases p2:40000<st
       ·go_wp2
        go_roundw
        case rel=>exact ⟨k + 1,by omega,by go_num,p,D2,rfl,Lib.hid (by rw [NX.out,HP.out];unfold vst;rw [if_neg (fun q=>by omega),Int.add_zero]),HTr,HTw,⟨_,_,_,rfl⟩,⟨_,_,_,rfl⟩,OA,OB,OW,N1,N2⟩
        case measure=>simp [intOf];omega
       obtain ⟨nx,mx⟩:=NX1.out
       have vq:vst st=st:=if_pos ⟨by omega,by omega⟩
       rw [vq] at nx NX
       have VQ:=Lib.hid vq
       clear vq NX1
       have ht:=HTT.out
       have hp:=HP.out
       have hist:ist (p + st)=true:=ist_iff.2 (by have:=HTr.out.from_;omega)
       have q4:IntKind.i64.wrap (p + st)=p + st:=by rw [IntKind.wrap_i64];have:=HTr.out.from_;omega
       obtain ⟨S1,S2,S3⟩:=ST.out p (p + st) D2 HTr.out (by omega) (by omega) (by omega)
       have S3':=Lib.hid S3
       have hdd:=due_due RS.out (show p≤p + st by omega)
       have hll:laterQ (laterQ Wq p) (p + st)=laterQ Wq (p + st):=later_later (by omega)
       have HDD:=Lib.hid hdd
       have HLL:=Lib.hid hll
       have KT:=tw_tick (p + st) HTw.out HTr.out.gd HT.out
       rw [S1,S2] at KT
       have KT':=Lib.hid KT
       have XL:(dueQ (laterQ Wq p) (p + st)).length≤400:=Nat.le_trans (List.length_filter_le _ _) (Nat.le_trans (List.length_filter_le _ _) ML)
       have PL:(dueQ Wq p).length≤400:=Nat.le_trans (List.length_filter_le _ _) ML
       have bl:=HTw.out.lt
       have hple:p≤p + st:=by omega
       clear KT S1 S2 S3 hdd hll ht hp nx mx
       go_wp2_with fail
       refine KT'.out.mono ?_
       rintro y w8 ⟨u8,c8,rfl,o8,h8,k8,f8⟩
       rw [efault_0]
       have OA8:=Lib.hid (own_on OA.out (fun g hg=>k8 g (Or.inl (Or.inl hg))))
       have OB8:=Lib.hid (own_on OB.out (fun g hg=>k8 g (Or.inl (Or.inr hg))))
       have OW8:=Lib.hid (own_on OW.out (fun g hg=>k8 g (Or.inr hg)))
       have O8:=Lib.hid o8
       have H8:=Lib.hid h8
       clear KT' OA OB OW HTw o8 h8 k8 f8 bl cx gx
       have KG:=tw_go (p + st) H8.out hist hple
       have KG':=Lib.hid KG
       have bl:=H8.out.ltw
       clear KG
       go_wp2_with fail
       refine KG'.out.mono ?_
       rintro y w9 ⟨u9,c9,rfl,o9,h9,k9,f9⟩
       rw [HLL.out] at h9
       have OA9:=Lib.hid (own_on OA8.out (fun g hg=>k9 g (Or.inl (Or.inl (Or.inl hg)))))
       have OB9:=Lib.hid (own_on OB8.out (fun g hg=>k9 g (Or.inl (Or.inl (Or.inr hg)))))
       have OW9:=Lib.hid (own_on OW8.out (fun g hg=>k9 g (Or.inl (Or.inr hg))))
       have O8b:=Lib.hid (own_on O8.out (fun g hg=>k9 g (Or.inr hg)))
       have O9:=Lib.hid o9
       have H9:=Lib.hid h9
       have F9:Hid (∀ g,(Value.slice u9 (dueQ (laterQ Wq p) (p + st)).length c9).ownBlock=some g→(Value.slice xa xn xc).ownBlock≠some g∧(Value.slice ya yn yc).ownBlock≠some g∧(Value.slice a7 Wq.length c7).ownBlock≠some g):=Lib.hid (fun g hg=>by
        have:=f9 g hg
        refine ⟨fun e=>?_,fun e=>?_,fun e=>?_⟩
        ·have:=H8.out.klt (Or.inl (Or.inl (Or.inl e)));omega
        ·have:=H8.out.klt (Or.inl (Or.inl (Or.inr e)));omega
        ·have:=H8.out.klt (Or.inl (Or.inr e));omega)
       clear KG' OA8 OB8 OW8 O8 H8 o9 h9 k9 f9 bl
       generalize dueQ (laterQ Wq p) (p + st)=X at *
       go_wp2_with fail
       refine (Qu.sameRings X _ _ w9 (Ow.rd O8b.out) (Ow.rd O9.out) (by omega)).mono ?_
       rintro y w10 ⟨rfl,hb10⟩
       have H10:=Lib.hid (H9.out.onB (K':=fun k=>((((Value.slice xa xn xc).ownBlock=some k∨(Value.slice ya yn yc).ownBlock=some k)∨(Value.slice a7 Wq.length c7).ownBlock=some k)∨(Value.slice u8 X.length c8).ownBlock=some k)∨(Value.slice u9 X.length c9).ownBlock=some k) hb10 (fun _ h=>Or.inl h))
       have OA10:Hid (Ow w10 W1.heap.size (.slice xa xn xc) (dueQ Wq p)):=Lib.hid (ow_below OA9.out hb10)
       have OB10:Hid (Ow w10 W1.heap.size (.slice ya yn yc) (dueQ Wq p)):=Lib.hid (ow_below OB9.out hb10)
       have OW10:Hid (Ow w10 W1.heap.size (.slice a7 Wq.length c7) Wq):=Lib.hid (ow_below OW9.out hb10)
       have OU10:Hid (Ow w10 W1.heap.size (.slice u8 X.length c8) X):=Lib.hid (ow_below O8b.out hb10)
       have OV10:Hid (Ow w10 W1.heap.size (.slice u9 X.length c9) X):=Lib.hid (ow_below O9.out hb10)
       clear H9 OA9 OB9 OW9 O8b O9 hb10
       obtain ⟨xa2,xn2,xc2,w11,ap1,oA,h11,pk11,p11,z11⟩:=tw_app H10.out OA10.out (Ow.rd OU10.out) (fun k hk=>Or.inl (Or.inl (Or.inl (Or.inl hk)))) (by omega)
       have OB11:Hid (Ow w11 W1.heap.size (.slice ya yn yc) (dueQ Wq p)):=Lib.hid (own_on OB10.out (fun g hg=>pk11 g (OB10.out.lt g hg).2 (fun e=>(N1.out g e).1 hg)))
       have OW11:Hid (Ow w11 W1.heap.size (.slice a7 Wq.length c7) Wq):=Lib.hid (own_on OW10.out (fun g hg=>pk11 g (OW10.out.lt g hg).2 (fun e=>(N1.out g e).2 hg)))
       have OV11:Hid (Ow w11 W1.heap.size (.slice u9 X.length c9) X):=Lib.hid (own_on OV10.out (fun g hg=>pk11 g (OV10.out.lt g hg).2 (fun e=>(F9.out g hg).1 e)))
       have OA11:=Lib.hid oA
       have AP1:=Lib.hid ap1
       have M1:Hid (∀ g,(Value.slice xa2 xn2 xc2).ownBlock=some g→(Value.slice ya yn yc).ownBlock≠some g∧(Value.slice a7 Wq.length c7).ownBlock≠some g∧g<w11.heap.size):=Lib.hid (fun g hg=>by
        refine ⟨fun e=>?_,fun e=>?_,(oA.lt g hg).2⟩
        ·rcases p11 with q | q
         ·exact (N1.out g (q.symm.trans hg)).1 e
         ·have e2:=q.symm.trans hg
          injection e2 with e2
          have:=(OB10.out.lt g e).2
          omega
        ·rcases p11 with q | q
         ·exact (N1.out g (q.symm.trans hg)).2 e
         ·have e2:=q.symm.trans hg
          injection e2 with e2
          have:=(OW10.out.lt g e).2
          omega)
       obtain ⟨ya2,yn2,yc2,w12,ap2,oB,h12,pk12,p12,z12⟩:=tw_app h11 OB11.out (Ow.rd OV11.out) (fun k hk=>Or.inl (Or.inl (Or.inl (Or.inl (Or.inr hk))))) (by omega)
       have OW12:Hid (Ow w12 W1.heap.size (.slice a7 Wq.length c7) Wq):=Lib.hid (own_on OW11.out (fun g hg=>pk12 g (OW11.out.lt g hg).2 (fun e=>N2.out g e hg)))
       have OA12:Hid (Ow w12 W1.heap.size (.slice xa2 xn2 xc2) (dueQ Wq (p + st))):=Lib.hid (by
        rw [← HDD.out]
        exact own_on OA11.out (fun g hg=>pk12 g (OA11.out.lt g hg).2 (fun e=>(M1.out g hg).1 e)))
       have OB12:Hid (Ow w12 W1.heap.size (.slice ya2 yn2 yc2) (dueQ Wq (p + st))):=Lib.hid (by rw [← HDD.out];exact oB)
       have AP2:=Lib.hid ap2
       have N1b:Hid (∀ g,(Value.slice xa2 xn2 xc2).ownBlock=some g→(Value.slice ya2 yn2 yc2).ownBlock≠some g∧(Value.slice a7 Wq.length c7).ownBlock≠some g):=Lib.hid (fun g hg=>by
        refine ⟨fun e=>?_,(M1.out g hg).2.1⟩
        rcases p12 with q | q
        ·exact (M1.out g hg).1 (q.symm.trans e)
        ·have e2:=q.symm.trans e
         injection e2 with e2
         have:=(M1.out g hg).2.2
         omega)
       have N2b:Hid (∀ g,(Value.slice ya2 yn2 yc2).ownBlock=some g→(Value.slice a7 Wq.length c7).ownBlock≠some g):=Lib.hid (fun g hg e=>by
        rcases p12 with q | q
        ·exact N2.out g (q.symm.trans hg) e
        ·have e2:=q.symm.trans hg
         injection e2 with e2
         have:=(OW11.out.lt g e).2
         omega)
       have H12:Hid (Tw W1 w12 d (D2.tick (p + st)) b (p + st) (laterQ Wq (p + st)) (fun k=>((Value.slice xa2 xn2 xc2).ownBlock=some k∨(Value.slice ya2 yn2 yc2).ownBlock=some k)∨(Value.slice a7 Wq.length c7).ownBlock=some k)):=Lib.hid (h12.imp (fun k hk=>by
        rcases hk with (hk | hk) | hk
        ·exact Or.inl (Or.inr hk)
        ·exact Or.inr hk
        ·exact Or.inl (Or.inl (Or.inl (Or.inl (Or.inr hk))))))
       clear ap1 ap2 oA oB h11 h12 pk11 pk12 p11 p12 z11 z12 OB10 OW10 OU10 OV10 OA10 H10 OB11 OW11 OV11 OA11 M1 F9 N1 N2 HDD HLL
       go_upto_region 41 with (at_builtin;refine wpl_app _ rfl _ _ 41 41 rfl _ _ rfl rfl (AP1.out _) ?_)
       clear AP1
       go_wp2_with (at_builtin;refine wpl_app _ rfl _ _ 41 41 rfl _ _ rfl rfl (AP2.out _) ?_)
       go_roundw
       case rel=>exact ⟨k + 1,by omega,by go_num,p + st,D2.tick (p + st),rfl,Lib.hid (by rw [NX.out,HP.out];omega),S3',H12,⟨_,_,_,rfl⟩,⟨_,_,_,rfl⟩,OA12,OB12,OW12,N1b,N2b⟩
       case measure=>simp [intOf];omega
end Go.Proofs.YthdohcjingfpoaaGreatDoor.Dk
