/-
  Texts of our own that serve the card of this claim, joined into one.
-/
import Derived.Test.YthdohcjingfpoaaGreatDoorDA
import Derived.Test.YthdohcjingfpoaaGreatDoorBV
import Derived.Test.YthdohcjingfpoaaGreatDoorEvSet
import Derived.Test.YthdohcjingfpoaaGreatDoorKH
import Derived.Test.YthdohcjingfpoaaGreatDoorQB
namespace Go.Proofs.YthdohcjingfpoaaGreatDoor
open Go.RowKit Cal Txt
def tnL (a:Int) (l:List (Int × Int)) (e:Evt) (x:Int):List Tm:=tmL a l e (x + 1) (x + 500001)
def tnF (a:Int) (l:List (Int × Int)) (e:Evt) (x:Int):Int:=if ¬ ezF a l e=0 then ezF a l e else if ist x=false then 1 else if (tnL a l e x).length=0 then 5 else 0
def tnT (a:Int) (l:List (Int × Int)) (e:Evt) (x:Int):Tm:=if tnF a l e x=0 then (tnL a l e x).getD 0 (0,0,0) else (0,0,0)
theorem ist_ok {x:Int} (h:ist x=true):okS (x + 1) (x + 500001):=by
 have:=of_decide_eq_true h
 unfold okS
 omega
def Zr3 (W:World) (b:Nat):Prop:=(W.cell? ⟨b,0,none⟩=some (.int .i64 0)∧W.cell? ⟨b,1,none⟩=some (.int .i64 0)∧W.cell? ⟨b,2,none⟩=some (.int .i64 0))∧(W.frozen? ⟨b,0,none⟩=false∧W.frozen? ⟨b,1,none⟩=false∧W.frozen? ⟨b,2,none⟩=false)
theorem Zr3.on {W W':World} {b:Nat} (h:Zr3 W b) (q:Below W.heap.size W W'):Zr3 W' b:=by
 obtain ⟨c,f⟩:=bcell q
 have l:=ecell_in h.1.1
 exact ⟨⟨(c _ _ l).trans h.1.1,(c _ _ l).trans h.1.2.1,(c _ _ l).trans h.1.2.2⟩,(f _ _ l).trans h.2.1,(f _ _ l).trans h.2.2.1,(f _ _ l).trans h.2.2.2⟩
end Go.Proofs.YthdohcjingfpoaaGreatDoor
namespace Go.Proofs.YthdohcjingfpoaaGreatDoor
open Go.RowKit Cal Txt
theorem ev1_fault:evF (ev1 [97] 700)=0:=by decide
theorem ev1_list:evL [700] (ev1 [97] 700) 1 1000=[700]:=by
 refine rise_ext2 (evL_rise _ _ _ _) (by simp) (fun x=>?_)
 rw [evL_mem]
 simp
 omega
theorem one_told:lcF [700] (ev1 [97] 700) 1 1000=0:=by
 rw [lcF_len ev1_fault (by decide),ev1_list];rfl
theorem one_list:lcL [700] (ev1 [97] 700) 1 1000=[700]:=by rw [lcL_yes one_told,ev1_list]
abbrev onc (e:Evt):Evt:=⟨e.name,e.text,e.start,e.len,false,noRl,[],e.nots,e.chg,e.alm⟩
theorem once_yes {e:Evt} {fr t:Int} (h:lcF [e.start] (onc e) fr t=0) (h1:e.nots.contains e.start=false) (h2:fr≤e.start) (h3:e.start≤t):lcL [e.start] (onc e) fr t=[e.start]:=by
 rw [lcL_yes h]
 refine rise_ext2 (evL_rise _ _ _ _) (by simp) (fun x=>?_)
 rw [evL_mem]
 have h1':e.start ∉ e.nots:=by simpa using h1
 constructor
 ·rintro ⟨q | q,_⟩
  ·exact q
  ·cases q
 ·intro q
  have q':x=e.start:=by simpa using q
  subst q'
  exact ⟨Or.inl (by simp),h1',h2,h3⟩
theorem once_no {e:Evt} {fr t:Int} (h:lcF [e.start] (onc e) fr t=0) (h1:e.nots.contains e.start=true∨e.start<fr∨t<e.start):lcL [e.start] (onc e) fr t=[]:=by
 rw [lcL_yes h]
 refine rise_ext2 (evL_rise _ _ _ _) List.Pairwise.nil (fun x=>?_)
 rw [evL_mem]
 constructor
 ·rintro ⟨q | q,k1,k2,k3⟩
  ·have q':x=e.start:=by simpa using q
   subst q'
   rcases h1 with g | g | g
   ·exact absurd (by simpa using g) k1
   ·omega
   ·omega
  ·cases q
 ·intro q;cases q
end Go.Proofs.YthdohcjingfpoaaGreatDoor
namespace Go.Proofs.YthdohcjingfpoaaGreatDoor
open Go.RowKit Cal Txt
def Dra (w w':World):Prop:=∃ q,w'=w.drewN q
theorem Dra.refl (w:World):Dra w w:=⟨0,rfl⟩
theorem Dra.step {w w':World} (h:Dra w w') (n:Nat):Dra w (w'.drewN n):=by
 obtain ⟨q,rfl⟩:=h
 exact ⟨q + n,World.drewN_drewN _ _ _⟩
theorem Dra.cell {w w':World} (h:Dra w w') (a:Addr):w'.cell? a=w.cell? a:=by
 obtain ⟨q,rfl⟩:=h
 rfl
theorem Dra.size {w w':World} (h:Dra w w'):w'.heap.size=w.heap.size:=by
 obtain ⟨q,rfl⟩:=h
 rfl
theorem Dra.below {w w':World} (h:Dra w w') (n0:Nat):Below n0 w w':=by
 obtain ⟨q,rfl⟩:=h
 exact blw_drewN _ _ _
theorem zone_nil (w:World) (a:Int):ZoneIn w (.agg #[.int .i64 a,.slice none 0 0]) a []:=⟨_,rfl,nil_nth w⟩
theorem twi_nil {a t u:Int}:u∈Zo.twi a [] t↔ist u=true∧u=t - a:=by
 rw [Zo.twi_mem]
 exact Iff.rfl
theorem wor_nil {a t f:Int}:wor a [] t=some f↔ist (t - a)=true∧f=t - a:=by
 unfold wor
 constructor
 ·intro h
  obtain ⟨h1,h2⟩:=twi_nil.1 (List.mem_of_mem_head? h)
  rw [← h2];exact ⟨h1,rfl⟩
 ·rintro ⟨h1,rfl⟩
  have hm:=(twi_nil (a:=a) (t:=t) (u:=t - a)).2 ⟨h1,rfl⟩
  rcases q:Zo.twi a [] t with _ | ⟨g,r⟩
  ·rw [q] at hm;cases hm
  ·have hg:g∈Zo.twi a [] t:=by rw [q];exact List.mem_cons_self
   rw [List.head?_cons,(twi_nil.1 hg).2]
theorem tim_nil {a:Int} {e:Evt} {c:Int × Int} {y:Tm}:tim a [] e c=some y↔ist (c.2 - a)=true∧c.2 - a + e.len≤157785119∧y=(c.1,c.2 - a,c.2 - a + e.len):=by
 unfold tim
 rcases q:wor a [] c.2 with _ | f
 ·simp
  intro h1
  have:=(wor_nil (a:=a) (t:=c.2) (f:=c.2 - a)).2 ⟨h1,rfl⟩
  rw [q] at this;cases this
 ·obtain ⟨h1,rfl⟩:=wor_nil.1 q
  simp only
  split
  ·rename_i h2
   constructor
   ·intro h;cases h;exact ⟨h1,h2,rfl⟩
   ·rintro ⟨_,_,rfl⟩;rfl
  ·rename_i h2
   constructor
   ·intro h;cases h
   ·rintro ⟨_,h3,_⟩;exact absurd h3 h2
def shT (m:Int) (y:Tm):Tm:=(y.1,y.2.1 - m,y.2.2 - m)
theorem zf_nil {a:Int} (h:Zo.zf a []=0):-900≤a∧a≤900:=(Zo.zf_open h).2.1
theorem ahead_list {a m:Int} {e:Evt} {fr t:Int} (h:evF e=0) (ha:Zo.zf a []=0) (hb:Zo.zf (a + m) []=0) (m1:-900≤m) (m2:m≤900) (f1:2000≤fr) (t1:t≤150000000) (ft:fr≤t):tmL (a + m) [] e (fr - m) (t - m)=(tmL a [] e fr t).map (shT m):=by
 have o1:okS fr t:=by unfold okS;omega
 have o2:okS (fr - m) (t - m):=by unfold okS;omega
 have l1:=(evF_lens h).2.2.2.2.2.1
 have l2:=(evF_lens h).2.2.2.2.2.2
 refine tm_ext (tmL_rise h o2) ?_ (fun y=>?_)
 ·rw [List.pairwise_map]
  refine (tmL_rise (a:=a) (l:=[]) h o1).imp (fun {x y} q=>?_)
  unfold ltT shT at *
  simp only
  omega
 ·rw [tmL_mem h hb o2,List.mem_map]
  constructor
  ·rintro ⟨p1,⟨r,hr,ht⟩,p3,p4⟩
   obtain ⟨q1,q2,q3⟩:=tim_nil.1 ht
   simp only at q1 q2 q3
   obtain ⟨y1,y2,y3⟩:=y
   simp only [Prod.mk.injEq,true_and] at q3 p1 hr p3 p4
   refine ⟨(y1,r - a,r - a + e.len),(tmL_mem h ha o1).2 ⟨p1,⟨r,hr,tim_nil.2 ⟨ist_yes ?_ ?_,?_,rfl⟩⟩,?_,?_⟩,?_⟩
   ·show 1≤r - a;omega
   ·show r - a≤157785119;omega
   ·show r - a + e.len≤157785119;omega
   ·show fr≤r - a;omega
   ·show r - a<t;omega
   ·unfold shT;simp only [Prod.mk.injEq,true_and];omega
  ·rintro ⟨x,hx,rfl⟩
   obtain ⟨p1,⟨r,hr,ht⟩,p3,p4⟩:=(tmL_mem h ha o1).1 hx
   obtain ⟨q1,q2,q3⟩:=tim_nil.1 ht
   simp only at q1 q2 q3
   obtain ⟨y1,y2,y3⟩:=x
   simp only [Prod.mk.injEq,true_and] at q3 p1 hr p3 p4
   refine ⟨p1,⟨r,hr,tim_nil.2 ⟨ist_yes ?_ ?_,?_,?_⟩⟩,?_,?_⟩
   ·show 1≤r - (a + m);omega
   ·show r - (a + m)≤157785119;omega
   ·show r - (a + m) + e.len≤157785119;omega
   ·unfold shT;simp only [Prod.mk.injEq,true_and];omega
   ·show fr - m≤y2 - m;omega
   ·show y2 - m<t - m;omega
theorem evA_fault:evF (ev1 [97] 5000)=0:=by decide
theorem evA_next:tnL 60 [] (ev1 [97] 5000) 100=[(5000,4940,4940)]:=by
 have o1:okS (100 + 1) (100 + 500001):=by unfold okS;omega
 have hz:Zo.zf 60 []=0:=by decide
 have le:(ev1 [97] 5000).len=0:=rfl
 have re:∀ x,rea (ev1 [97] 5000) x=some x:=fun x=>rfl
 have ie:∀ x,isE (ev1 [97] 5000) x↔x=5000:=fun x=>by
  unfold isE isS
  have r0:(ev1 [97] 5000).rep=false:=rfl
  have m0:(ev1 [97] 5000).more=[]:=rfl
  have n0:(ev1 [97] 5000).nots=[]:=rfl
  have s0:(ev1 [97] 5000).start=5000:=rfl
  rw [r0,m0,n0,s0]
  simp
 unfold tnL
 refine tm_ext (tmL_rise evA_fault o1) (by simp) (fun y=>?_)
 rw [tmL_mem evA_fault hz o1]
 obtain ⟨y1,y2,y3⟩:=y
 unfold isTm
 simp only [ie,re]
 constructor
 ·rintro ⟨p1,⟨r,hr,ht⟩,_,_⟩
  obtain ⟨_,_,q3⟩:=tim_nil.1 ht
  simp only [Prod.mk.injEq,true_and] at q3
  have hr':y1=r:=by simpa using hr
  simp
  omega
 ·intro q
  simp at q
  obtain ⟨rfl,rfl,rfl⟩:=q
  exact ⟨rfl,⟨5000,rfl,tim_nil.2 ⟨by decide,by rw [le];decide,by rw [le];rfl⟩⟩,by omega,by omega⟩
theorem evA_told:tnF 60 [] (ev1 [97] 5000) 100=0∧tnT 60 [] (ev1 [97] 5000) 100=(5000,4940,4940):=by
 have h0:tnF 60 [] (ev1 [97] 5000) 100=0:=by
  unfold tnF
  rw [if_neg (fun q=>q (by decide)),if_neg (by decide),evA_next]
  rfl
 refine ⟨h0,?_⟩
 unfold tnT
 rw [if_pos h0,evA_next]
 rfl
theorem tb_good {a:Int} {l:List (Int × Int)} {e:Evt} {fr t:Int} (h:tbF a l e fr t=0):(evF e=0∧Zo.zf a l=0)∧strB fr t=true∧tbL a l e fr t=tmL a l e fr t∧(tmL a l e fr t).length≤200:=by
 have h':=h
 unfold tbF at h
 split at h
 ·rename_i q;exact absurd h q
 ·rename_i q
  split at h
  ·cases h
  ·rename_i q2
   split at h
   ·cases h
   ·rename_i q3
    exact ⟨ez_good (Decidable.byContradiction q),by simpa using q2,if_pos h',by omega⟩
end Go.Proofs.YthdohcjingfpoaaGreatDoor
namespace Go.Proofs.YthdohcjingfpoaaGreatDoor.Dk
open Go.RowKit Qu Go.Maps Zo
variable {D:Ds}
theorem fsF_zero:∀ {l:List Int},fsF l=0→∀ x∈l,x=0
 | [],_,_,h=>by cases h
 | y :: r,h,x,hx=>by
   unfold fsF at h
   split at h
   ·rename_i q
    rcases List.mem_cons.1 hx with z | z
    ·rw [z];exact q
    ·exact fsF_zero h x z
   ·rename_i q;exact absurd h q
theorem duF_all {t:Int} (h:duF D t=0) {e:Evt} (he:e∈D.ev):rgF D t e=0:=fsF_zero h _ (List.mem_map_of_mem he)
theorem rgF_good {t:Int} {e:Evt} (h:rgF D t e=0):rgR D t e=(rgS D.a D.l e (D.now + 1) (t + 1)).map (toQ e.name)∧evF e=0∧zf D.a D.l=0:=by
 unfold rgF tlF at h
 split at h
 ·rename_i q
  obtain ⟨g1,_⟩:=tc_good q
  obtain ⟨g2,g3⟩:=ez_good g1
  refine ⟨?_,g2,g3⟩
  unfold rgR tlL
  rw [if_pos q]
  unfold waL
  rw [if_pos h]
 ·rename_i q;exact absurd h q
theorem rgR_iff {t:Int} {e:Evt} (h:rgF D t e=0) {z:Rq}:z∈rgR D t e↔∃ x,isRg D.a D.l e (D.now + 1) (t + 1) x∧z=toQ e.name x:=by
 obtain ⟨g1,g2,g3⟩:=rgF_good h
 rw [g1,List.mem_map]
 constructor
 ·rintro ⟨x,hx,rfl⟩
  exact ⟨x,(rgS_mem g2 g3).1 hx,rfl⟩
 ·rintro ⟨x,hx,rfl⟩
  exact ⟨x,(rgS_mem g2 g3).2 hx,rfl⟩
theorem isRg_two {a:Int} {l:List (Int × Int)} {e:Evt} {fr c t:Int} {x:Rg} (h1:fr≤c) (h2:c≤t):isRg a l e fr t x↔isRg a l e fr c x∨isRg a l e c t x:=by
 constructor
 ·rintro ⟨y,p,q,r1,r2⟩
  by_cases k:x.1<c
  ·exact Or.inl ⟨y,p,q,r1,k⟩
  ·exact Or.inr ⟨y,p,q,by omega,r2⟩
 ·rintro (⟨y,p,q,r1,r2⟩ | ⟨y,p,q,r1,r2⟩)
  ·exact ⟨y,p,q,r1,by omega⟩
  ·exact ⟨y,p,q,by omega,r2⟩
theorem two_ticks {c t:Int} (g:Gd D) (hz:¬ D.now=0) (hs:D.snz=[]) (h1:ticF D c=0) (h2:ticF (D.tick c) t=0) (h3:ticF D t=0) :
 ticL D c++ticL (D.tick c) t=ticL D t∧((D.tick c).tick t).rung=(D.tick t).rung∧((D.tick c).tick t).rung=D.rung++ticL D t∧((D.tick c).tick t).ev=D.ev:=by
 obtain ⟨e1,l1,u1,n1,_⟩:=tick_two h1 hz
 have gd:=g.tick c
 have hn:(D.tick c).now=c:=by rw [e1]
 have n0:=g.n0
 have hz2:¬ (D.tick c).now=0:=by rw [hn];omega
 obtain ⟨e2,l2,u2,n2,_⟩:=tick_two h2 hz2
 obtain ⟨e3,l3,u3,n3,_⟩:=tick_two h3 hz
 rw [hn] at n2
 have hs2:(D.tick c).snz=[]:=by rw [e1,hs];rfl
 have hev:(D.tick c).ev=D.ev:=by rw [e1]
 have ha:(D.tick c).a=D.a:=by rw [e1]
 have hl:(D.tick c).l=D.l:=by rw [e1]
 have key:duL D c++duL (D.tick c) t=duL D t:=by
  refine rs_ext (List.pairwise_append.2 ⟨duL_rs D c,duL_rs _ t,fun x hx y hy=>oc_at ?_⟩) (duL_rs D t) (fun z=>?_)
  ·have:=(duL_at g hx).2
   have:=(duL_at gd hy).1
   rw [hn] at this
   omega
  ·rw [List.mem_append,duL_mem u1,duL_mem u2,duL_mem u3,hs,hs2,hev]
   have nil:∀ k,¬ z∈dueQ [] k:=fun k q=>by simp [dueQ] at q
   simp only [nil,false_or]
   have step:∀ e,e∈D.ev→(z∈rgR D t e↔z∈rgR D c e∨z∈rgR (D.tick c) t e):=fun e he=>by
    rw [rgR_iff (duF_all u3 he),rgR_iff (duF_all u1 he),rgR_iff (duF_all u2 (by rw [hev];exact he)),ha,hl,hn]
    constructor
    ·rintro ⟨x,hx,q⟩
     rcases (isRg_two (c:=c + 1) (by omega) (by omega)).1 hx with y | y
     ·exact Or.inl ⟨x,y,q⟩
     ·exact Or.inr ⟨x,y,q⟩
    ·rintro (⟨x,hx,q⟩ | ⟨x,hx,q⟩)
     ·exact ⟨x,(isRg_two (c:=c + 1) (by omega) (by omega)).2 (Or.inl hx),q⟩
     ·exact ⟨x,(isRg_two (c:=c + 1) (by omega) (by omega)).2 (Or.inr hx),q⟩
   constructor
   ·rintro (⟨e,he,q⟩ | ⟨e,he,q⟩)
    ·exact ⟨e,he,(step e he).2 (Or.inl q)⟩
    ·exact ⟨e,he,(step e he).2 (Or.inr q)⟩
   ·rintro ⟨e,he,q⟩
    rcases (step e he).1 q with y | y
    ·exact Or.inl ⟨e,he,y⟩
    ·exact Or.inr ⟨e,he,y⟩
 have r1:(D.tick c).rung=D.rung++duL D c:=by rw [e1]
 have r2:((D.tick c).tick t).rung=D.rung++duL D t:=by
  rw [e2]
  show (D.tick c).rung++duL (D.tick c) t=_
  rw [r1,List.append_assoc,key]
 refine ⟨by rw [l1,l2,l3,key],by rw [r2,e3],by rw [r2,l3],by rw [e2];exact hev⟩
theorem told_of {t:Int} (g:Gd D) (hs:D.snz=[]) {z:Rq} (hz:z∈ticL D t):D.now<z.1∧z.1≤t∧∃ e∈D.ev,e.name=z.2.1:=by
 unfold ticL at hz
 split at hz
 ·rename_i q
  have u:=(tick_two q.1 q.2).2.2.1
  obtain ⟨a1,a2⟩:=duL_at g hz
  rcases (duL_mem u).1 hz with y | ⟨e,he,y⟩
  ·rw [hs] at y;simp [dueQ] at y
  ·exact ⟨a1,a2,e,he,(rgR_mem y).2.2.symm⟩
 ·cases hz
theorem told_rs (D:Ds) (t:Int):Rs (ticL D t):=by
 unfold ticL
 split
 ·exact duL_rs D t
 ·exact List.Pairwise.nil
abbrev evH:Evt:=⟨⟨#[97]⟩,⟨#[]⟩,1000,0,false,noRl,[],[],[],[(-5,false,0,0)]⟩
theorem evH_fault:evF evH=0:=by decide
theorem evH_list:rgS 0 [] evH 901 996=[(995,1000,0,0)]:=by
 have hz:zf 0 []=0:=by decide
 have re:∀ x,rea evH x=some x:=fun x=>rfl
 have ie:∀ x,isE evH x↔x=1000:=fun x=>by
  unfold isE isS
  have r0:evH.rep=false:=rfl
  have m0:evH.more=[]:=rfl
  have n0:evH.nots=[]:=rfl
  have s0:evH.start=1000:=rfl
  rw [r0,m0,n0,s0]
  simp
 refine rg_ext (rgS_rise evH_fault) (by simp) (fun x=>?_)
 rw [rgS_mem evH_fault hz]
 unfold isRg
 simp only [ie,re]
 constructor
 ·rintro ⟨y,⟨y1,r,hr,ht⟩,⟨k,hk,u,hu,rfl⟩,_⟩
  obtain ⟨_,_,q3⟩:=tim_nil.1 ht
  obtain ⟨ya,yb,yc⟩:=y
  simp only [Prod.mk.injEq,true_and] at q3 y1
  have hr':ya=r:=by simpa using hr
  have hk2:k<1:=hk
  have e1:yb=1000:=by omega
  subst y1 e1
  obtain rfl:k=0:=by omega
  have hu2:u<1:=hu
  obtain rfl:u=0:=by omega
  simp [rg1,bhd]
 ·intro q
  have tm:tim 0 [] evH (1000,1000)=some (1000,1000,1000):=tim_nil.2 ⟨by decide,by decide,rfl⟩
  refine ⟨(1000,1000,1000),⟨rfl,1000,rfl,tm⟩,?_,?_⟩
  ·simp at q
   subst q
   exact ⟨0,by decide,0,by decide,rfl⟩
  ·simp at q
   subst q
   decide
abbrev deskH:Ds:=⟨0,[],[evH],900,[],[]⟩
abbrev rngH:Rq:=(995,⟨#[97]⟩,1000,0,0)
theorem fact_put:putF (newD 0 []) evH=0:=by
 unfold putF
 rw [if_pos evH_fault]
 rfl
theorem fact_one:ticF ((newD 0 []).put evH) 900=0∧((newD 0 []).put evH).tick 900=deskH:=by
 rw [put_one fact_put]
 have h:ticF ⟨0,[],[ownE evH],0,[],[]⟩ 900=0:=by
  unfold ticF
  rw [if_pos (by decide),if_pos rfl]
 exact ⟨h,(tick_one h rfl).1⟩
theorem fact_two:ticF deskH 995=0∧ticL deskH 995=[rngH]∧(deskH.tick 995).rung=[rngH]:=by
 have tc:tcF 0 [] evH 901 995=0:=by decide
 have rf:rgF deskH 995 evH=0:=by
  show tlF 0 [] evH 901 995=0
  unfold tlF
  rw [if_pos tc]
  unfold waF
  show (if 400<(rgS 0 [] evH 901 996).length then (4:Int) else 0)=0
  rw [evH_list]
  rfl
 have rr:rgR deskH 995 evH=[rngH]:=by
  rw [(rgF_good rf).1]
  show (rgS 0 [] evH 901 996).map (toQ _)=_
  rw [evH_list]
  rfl
 have df:duF deskH 995=0:=by
  show fsF [rgF deskH 995 evH]=0
  rw [rf]
  rfl
 have dl:duL deskH 995=[rngH]:=by
  unfold duL
  rw [if_pos df]
  show srtQ (dueQ [] 995++[evH].flatMap (rgR deskH 995))=_
  rw [List.flatMap_cons,List.flatMap_nil,List.append_nil,rr]
  exact srtQ_same (List.pairwise_singleton _ _)
 have h:ticF deskH 995=0:=by
  unfold ticF
  rw [if_pos (by decide),if_neg (by decide),if_pos df,dl]
  rfl
 obtain ⟨e1,e2,_⟩:=tick_two h (by decide)
 exact ⟨h,by rw [e2,dl],by rw [e1];show []++duL deskH 995=_;rw [dl];rfl⟩
end Go.Proofs.YthdohcjingfpoaaGreatDoor.Dk
namespace Go.Proofs.YthdohcjingfpoaaGreatDoor.Dk
open Go.RowKit Qu
theorem at5_of {W W':World} {g o:Nat} {x:Rq} (h:At5 W g o x) (e:W'.heap[g]?=W.heap[g]?):At5 W' g o x:=by
 obtain ⟨a0,a1,a2,a3,a4⟩:=h
 exact ⟨(World.cell?_of_block (a:=⟨g,o,none⟩) e).trans a0,(World.cell?_of_block (a:=⟨g,o + 1,none⟩) e).trans a1,(World.cell?_of_block (a:=⟨g,o + 2,none⟩) e).trans a2,(World.cell?_of_block (a:=⟨g,o + 3,none⟩) e).trans a3,(World.cell?_of_block (a:=⟨g,o + 4,none⟩) e).trans a4⟩
theorem qbx_of {W W':World} {g:Nat} {x:Rq} (h:QBx W g x) (e:W'.heap[g]?=W.heap[g]?):QBx W' g x:=by
 obtain ⟨a0,a1,a2,a3,a4⟩:=h
 exact ⟨(World.cell?_of_block (a:=⟨g,0,none⟩) e).trans a0,(World.cell?_of_block (a:=⟨g,1,none⟩) e).trans a1,(World.cell?_of_block (a:=⟨g,2,none⟩) e).trans a2,(World.cell?_of_block (a:=⟨g,3,none⟩) e).trans a3,(World.cell?_of_block (a:=⟨g,4,none⟩) e).trans a4⟩
theorem own_at {w:World} {a:Option Addr} {n c n0:Nat} {L:List Rq} (h:Ow w n0 (.slice a n c) L) {k:Nat} (hk:k<L.length):∃ g,a=some ⟨g,0,none⟩∧At5 w g (k * 5) (L.getD k zq):=by
 rcases h.open with ⟨_,e2⟩ | ⟨g,cap,L',e,_⟩
 ·rw [e2] at hk;simp at hk
 ·injection e with e1 e2 e3
  subst e1 e2 e3
  have:=Rd.at h.rd hk
  rw [Nat.zero_add] at this
  exact ⟨g,rfl,this⟩
theorem own_most {w:World} {n0:Nat} {v:Value} {L:List Rq} (h:Ow w n0 v L):L.length≤9223372036854775807:=by
 rcases h.open with ⟨_,e2⟩ | ⟨g,cap,L',_,_,_,h1,h2,_⟩
 ·rw [e2];exact Nat.zero_le _
 ·exact Nat.le_trans h1 h2
theorem own_first {w:World} {a:Option Addr} {n c n0:Nat} {x:Rq} (h:Ow w n0 (.slice a n c) [x]):∃ g,a=some ⟨g,0,none⟩∧QBx w g x:=by
 obtain ⟨g,e,q⟩:=own_at h (k:=0) (Nat.zero_lt_one)
 exact ⟨g,e,q⟩
end Go.Proofs.YthdohcjingfpoaaGreatDoor.Dk
namespace Go.Proofs.YthdohcjingfpoaaGreatDoor.Qu
open Go.RowKit
set_option maxRecDepth 100000 in
set_option maxHeartbeats 2000000 in
theorem sameRings (l:List Rq) (va vb:Value) (w:World) (ha:Rd w va l) (hb:Rd w vb l) (hl:l.length≤2000000) :
 Calls Tryz.prog 11 #[va,vb] w fun e w'=>e=.returned (.bool true)∧Below w.heap.size w w':=by
 obtain ⟨aa,ca,rfl,xa⟩:=id ha
 obtain ⟨ab,cb,rfl,xb⟩:=id hb
 have HA:Hid (l=[]∨∃ b off,aa=some ⟨b,off,none⟩∧∀ i,i<l.length→At5 w b (off + i * 5) (l.getD i zq)):=Lib.hid (by
  rcases xa with h | ⟨b,off,rfl,h⟩
  ·exact Or.inl h
  ·exact Or.inr ⟨b,off,rfl,fun i hi=>Rd.at (cap:=ca) ⟨_,ca,rfl,Or.inr ⟨b,off,rfl,h⟩⟩ hi⟩)
 have HBb:Hid (l=[]∨∃ b off,ab=some ⟨b,off,none⟩∧∀ i,i<l.length→At5 w b (off + i * 5) (l.getD i zq)):=Lib.hid (by
  rcases xb with h | ⟨b,off,rfl,h⟩
  ·exact Or.inl h
  ·exact Or.inr ⟨b,off,rfl,fun i hi=>Rd.at (cap:=cb) ⟨_,cb,rfl,Or.inr ⟨b,off,rfl,h⟩⟩ hi⟩)
 clear xa xb ha hb
 go_enter Tryz.func11,Tryz.ntmps11
 go_wp2
 go_loopw [5] (fun i wr=>∃ k:Nat,k≤l.length∧i=.int .i64 k∧Below w.heap.size w wr) (fun i _=>l.length - (intOf i).toNat)
 case atStart=>exact ⟨0,Nat.zero_le _,rfl,Below.refl _ _⟩
 case round=>
  obtain ⟨k,hk,rfl,hB⟩:=hrel
  by_cases hlt:k<l.length
  ·rcases HA.out with hc | ⟨b,off,rfl,hc⟩
   ·rw [hc] at hlt;simp at hlt
   rcases HBb.out with hd | ⟨b2,off2,rfl,hd⟩
   ·rw [hd] at hlt;simp at hlt
   obtain ⟨p0,p1,p2,p3,p4⟩:=(hc k hlt).on hB
   obtain ⟨q0,q1,q2,q3,q4⟩:=(hd k hlt).on hB
   generalize l.getD k zq=Y at p0 p1 p2 p3 p4 q0 q1 q2 q3 q4
   obtain ⟨x,nm,y,z,u⟩:=Y
   dsimp only at p0 p1 p2 p3 p4 q0 q1 q2 q3 q4
   clear hc hd
   go_wp2_with fail
   go_quiet (fail)
   go_wp2
   go_roundw
   case rel=>exact ⟨k + 1,by omega,by go_num,below_drewN hB _⟩
   case measure=>simp [intOf];omega
  ·go_wp2
   go_ret
   exact ⟨rfl,hB⟩
end Go.Proofs.YthdohcjingfpoaaGreatDoor.Qu
