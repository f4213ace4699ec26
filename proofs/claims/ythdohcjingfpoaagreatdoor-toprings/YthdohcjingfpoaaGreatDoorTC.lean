/-
  Texts of our own that serve the card of this claim, joined into one.
-/
import Derived.Test.YthdohcjingfpoaaGreatDoorAY
import Derived.Test.YthdohcjingfpoaaGreatDoorKI
import Derived.BigQuiet
import Derived.Test.YthdohcjingfpoaaGreatDoorTiApp
namespace Go.Proofs.YthdohcjingfpoaaGreatDoor
open Go.RowKit Cal Txt
theorem ra_bad {a:Int} {l:List (Int × Int)} {e:Evt} {fr t:Int} (h:¬ tcF a l e fr t=0):raF a l e fr t=tcF a l e fr t∧raL a l e fr t=[]:=by
 have h1:raF a l e fr t=tcF a l e fr t:=if_pos h
 exact ⟨h1,if_neg (by rw [h1];exact h)⟩
theorem ra_win {a:Int} {l:List (Int × Int)} {e:Evt} {fr t:Int} (h:tcF a l e fr t=0):raF a l e fr t=waF a l e fr t∧raL a l e fr t=waL a l e fr t:=by
 have h1:raF a l e fr t=waF a l e fr t:=if_neg (fun q=>q h)
 refine ⟨h1,?_⟩
 unfold raL waL
 rw [h1]
set_option maxRecDepth 100000 in
set_option maxHeartbeats 8000000 in
theorem rings_any (a:Int) (l:List (Int × Int)) (v:Value) (e:Evt) (s:Evs) (fr t:Int) (w:World) (hz:ZoneIn w v a l) (hv:EvB w e s) (hT:Tab w) :
 Calls Tryz.prog 23 #[v,.agg (ecells e s),.int .i64 fr,.int .i64 t] w (RaA e.name w (raL a l e fr t) (raF a l e fr t)):=by
 have HZ:=Lib.hid (fun W (q:Below w.heap.size w W)=>hz.on q)
 obtain ⟨sa,sc,rfl⟩:=hz.form
 obtain ⟨W2,hW2,b2,z2,Z2,R2⟩:=two_boxes w a l sa sc e s
 have HW:=Lib.hid hW2
 have HB:=Lib.hid b2
 have HE:=Lib.hid R2
 have HX:=Lib.hid Z2
 have HV:=Lib.hid (fun W (q:Below w.heap.size w W)=>hv.on q)
 have HT:=Lib.hid (fun W (q:Below w.heap.size w W)=>hT.below q)
 have KC:=Lib.hid (tchk_any a l _ e s fr t W2 (HZ.out _ b2) (hv.on b2))
 have RB:=Lib.hid (fun (h:¬ tcF a l e fr t=0)=>ra_bad h)
 have RG:=Lib.hid (fun (h:tcF a l e fr t=0)=>ra_win h)
 have TG:=Lib.hid (fun (h:tcF a l e fr t=0)=>tc_good h)
 generalize raL a l e fr t=L at RB RG ⊢
 generalize raF a l e fr t=F at RB RG ⊢
 generalize tcF a l e fr t=CF at KC RB RG TG
 clear hz hv hT hW2 b2 z2 Z2 R2
 go_enter Tryz.func23,Tryz.ntmps23
 go_upto_region 1 with fail
 rw [← HW.out]
 clear HW
 obtain ⟨z0,z1⟩:=HX.out
 have zl:=ecell_in z0
 go_wp2_with (refine ev_load (by rfl) (.tmp 5) (by rfl) (w.heap.size + 1) e s (by rfl) HE.out ?_)
 clear z0 z1 zl
 refine KC.out.mono ?_
 rintro y w1 ⟨rfl,hb⟩
 have B1:=Lib.hid (HB.out.trans (hb.mono HB.out.size))
 have E1:=Lib.hid (HE.out.on hb)
 have X1:=Lib.hid (HX.out.on hb)
 clear hb KC HB HE HX
 by_cases hq:CF=0
 case neg=>
  have N:=Lib.hid (RB.out hq)
  rw [efault_ne hq]
  have HQ:=Lib.hid hq
  clear hq RB TG RG
  go_wp2
  go_ret2
  exact ⟨.slice none 0 0,by rw [N.out.1,efault_ne HQ.out];rfl,B1.out,by rw [N.out.2];exact World.ownsRow_nil _ _ _ _⟩
 obtain ⟨ez,hs⟩:=TG.out hq
 obtain ⟨⟨sb1,sb2⟩,sb3,sb4⟩:=strB_ends hs
 have N:=Lib.hid (RG.out hq)
 have K2:=Lib.hid (alwin_any a l _ e s fr t w1 (HZ.out _ B1.out) (HV.out _ B1.out) (HT.out _ B1.out) ez sb1 (by omega) (by omega) (by omega))
 rw [hq,efault_0]
 clear hq ez hs RB TG RG sb1 sb2 sb3 sb4
 obtain ⟨z0,z1⟩:=X1.out
 have zl:=ecell_in z0
 go_wp2_with (refine ev_load (by rfl) (.tmp 5) (by rfl) (w.heap.size + 1) e s (by rfl) E1.out ?_)
 clear z0 z1 zl
 refine K2.out.mono ?_
 rintro y w2 ⟨u,rfl,hb,ho⟩
 have ZZ:=Lib.hid (And.intro (B1.out.trans (hb.mono B1.out.size)) (own_mono ho B1.out.size))
 clear hb ho K2
 go_wp2
 go_ret2
 exact ⟨u,by rw [N.out.1];rfl,ZZ.out.1,by rw [N.out.2];exact ZZ.out.2⟩
end Go.Proofs.YthdohcjingfpoaaGreatDoor
namespace Go.Proofs.YthdohcjingfpoaaGreatDoor
open Go.RowKit Cal Txt
abbrev rWk1:Rl:=⟨2,1,0,0,[],[],[],[]⟩
abbrev evO:Evt:=⟨⟨#[97]⟩,ByteArray.empty,66729179,60,true,rWk1,[],[],[],[(0,false,0,0)]⟩
abbrev rgO3:List Rg:=[(66729179,66729179,0,0),(66739259,66739259,0,0),(66749339,66749339,0,0)]
theorem evO_fault:evF evO=0:=by decide
theorem rWk1_days:∃ F,DAYS rWk1 46340=46340 :: 46347 :: 46354 :: 46361 :: F:=by
 have p0:pE rWk1 46340 0=some (46334,46340):=by decide +kernel
 have p1:pE rWk1 46340 (0 + 1)=some (46341,46347):=by decide +kernel
 have p2:pE rWk1 46340 (0 + 1 + 1)=some (46348,46354):=by decide +kernel
 have p3:pE rWk1 46340 (0 + 1 + 1 + 1)=some (46355,46361):=by decide +kernel
 have d0:perD rWk1 46340 46334 46340=[46340]:=by decide +kernel
 have d1:perD rWk1 46340 46341 46347=[46347]:=by decide +kernel
 have d2:perD rWk1 46340 46348 46354=[46354]:=by decide +kernel
 have d3:perD rWk1 46340 46355 46361=[46361]:=by decide +kernel
 have e:dys rWk1 46340=46340 :: 46347 :: 46354 :: 46361 :: beh 46340 (flat rWk1 46340 109573 (0 + 1 + 1 + 1 + 1)):=by
  unfold dys
  rw [flat_on p0 (by decide),d0,flat_on p1 (by decide),d1,flat_on p2 (by decide),d2,flat_on p3 (by decide),d3]
  generalize flat rWk1 46340 109573 (0 + 1 + 1 + 1 + 1)=F
  show 46340 :: beh 46340 (46340 :: 46347 :: 46354 :: 46361 :: F)=_
  unfold beh
  rw [List.filter_cons_of_neg (by decide),List.filter_cons_of_pos (by decide),List.filter_cons_of_pos (by decide),List.filter_cons_of_pos (by decide)]
 have e2:DAYS rWk1 46340=dys rWk1 46340:=by
  unfold DAYS cutC
  rw [if_pos (show rWk1.count=0 from rfl)]
  refine List.filter_eq_self.2 (fun x hx=>?_)
  have:=all_in (r:=rWk1) (s:=46340) (t:=109573) (k:=0) (by decide) (by decide) hx
  have t:tl rWk1 109573=109573:=rfl
  rw [t]
  simp
  omega
 exact ⟨_,e2.trans e⟩
theorem rWk1_in (n:Int) (h:n≤46355):n∈DAYS rWk1 46340↔n=46340∨n=46347∨n=46354:=by
 obtain ⟨F,e⟩:=rWk1_days
 have hr:=DAYS_rise rWk1 46340
 rw [e] at hr ⊢
 simp only [List.pairwise_cons] at hr
 have far:∀ x∈F,46361<x:=hr.2.2.2.1
 simp only [List.mem_cons]
 constructor
 ·rintro (q | q | q | q | q)
  ·exact Or.inl q
  ·exact Or.inr (Or.inl q)
  ·exact Or.inr (Or.inr q)
  ·omega
  ·have:=far n q
   omega
 ·rintro (q | q | q)
  ·exact Or.inl q
  ·exact Or.inr (Or.inl q)
  ·exact Or.inr (Or.inr (Or.inl q))
theorem evO_is (x:Int) (h:x<66750000):isE evO x↔x=66729179∨x=66739259∨x=66749339:=by
 unfold isE isS
 have r0:evO.rep=true:=rfl
 have m0:evO.more=[]:=rfl
 have n0:evO.nots=[]:=rfl
 have s0:evO.start=66729179:=rfl
 have u0:evO.rule=rWk1:=rfl
 have d0:dyo 66729179=46340:=by decide
 rw [r0,m0,n0,s0,u0,d0,if_pos rfl]
 unfold tmd
 rw [d0]
 constructor
 ·rintro ⟨⟨n,hn,rfl⟩ | q,_⟩
  ·rcases (rWk1_in n (by omega)).1 hn with rfl | rfl | rfl <;> omega
  ·cases q
 ·intro q
  refine ⟨Or.inl ?_,by simp⟩
  rcases q with rfl | rfl | rfl
  ·exact ⟨46340,(rWk1_in 46340 (by omega)).2 (Or.inl rfl),by omega⟩
  ·exact ⟨46347,(rWk1_in 46347 (by omega)).2 (Or.inr (Or.inl rfl)),by omega⟩
  ·exact ⟨46354,(rWk1_in 46354 (by omega)).2 (Or.inr (Or.inr rfl)),by omega⟩
theorem evO_list:rgS 0 [] evO 66729179 66750000=rgO3:=by
 have hz:Zo.zf 0 []=0:=by decide
 have re:∀ x,rea evO x=some x:=fun x=>rfl
 refine rg_ext (rgS_rise evO_fault) (by simp [ltR]) (fun x=>?_)
 rw [rgS_mem evO_fault hz]
 unfold isRg
 simp only [re]
 constructor
 ·rintro ⟨y,⟨y1,r,hr,ht⟩,⟨k,hk,u,hu,rfl⟩,h1,h2⟩
  obtain ⟨_,_,q3⟩:=tim_nil.1 ht
  obtain ⟨ya,yb,yc⟩:=y
  simp only [Prod.mk.injEq,true_and] at q3
  have hr':ya=r:=by simpa using hr
  have hk2:k<1:=hk
  obtain rfl:k=0:=by omega
  have hu2:u<1:=hu
  obtain rfl:u=0:=by omega
  have e1:(rg1 evO.len (ya,yb,yc) 0 (evO.alm.getD 0 (0,false,0,0)) 0)=(yb,ya,0,0):=by simp [rg1,bhd]
  rw [e1] at h1 h2 ⊢
  dsimp only at h1 h2 y1
  have ey:yb=ya:=by omega
  rw [ey] at h1 h2 ⊢
  rcases (evO_is ya h2).1 y1 with rfl | rfl | rfl <;> simp
 ·intro q
  have tm:∀ x:Int,ist x=true→x≤157785059→tim 0 [] evO (x,x)=some (x,x,x + 60):=fun x hx h6=>tim_nil.2 ⟨by simpa using hx,by show x - 0 + 60≤157785119;omega,by simp⟩
  simp at q
  rcases q with rfl | rfl | rfl
  ·exact ⟨(66729179,66729179,66729239),⟨(evO_is _ (by omega)).2 (Or.inl rfl),66729179,rfl,tm _ (by decide) (by decide)⟩,⟨0,by decide,0,by decide,rfl⟩,by decide,by decide⟩
  ·exact ⟨(66739259,66739259,66739319),⟨(evO_is _ (by omega)).2 (Or.inr (Or.inl rfl)),66739259,rfl,tm _ (by decide) (by decide)⟩,⟨0,by decide,0,by decide,rfl⟩,by decide,by decide⟩
  ·exact ⟨(66749339,66749339,66749399),⟨(evO_is _ (by omega)).2 (Or.inr (Or.inr rfl)),66749339,rfl,tm _ (by decide) (by decide)⟩,⟨0,by decide,0,by decide,rfl⟩,by decide,by decide⟩
theorem evO_told:raF 0 [] evO 66729179 66750000=0∧raL 0 [] evO 66729179 66750000=rgO3:=by
 have h0:raF 0 [] evO 66729179 66750000=0:=by
  unfold raF
  rw [if_neg (fun q=>q (by decide)),evO_list]
  rfl
 exact ⟨h0,by unfold raL;rw [if_pos h0,evO_list]⟩
end Go.Proofs.YthdohcjingfpoaaGreatDoor
namespace Go.Proofs.YthdohcjingfpoaaGreatDoor
open Go.RowKit Cal Txt
def RgCl (nm:ByteArray) (w:World) (b o:Nat) (x:Rg):Prop:=w.cell? ⟨b,o,none⟩=some (.int .i64 x.1)∧w.cell? ⟨b,o + 1,none⟩=some (.string nm)∧w.cell? ⟨b,o + 2,none⟩=some (.int .i64 x.2.1)∧w.cell? ⟨b,o + 3,none⟩=some (.int .i64 x.2.2.1)∧w.cell? ⟨b,o + 4,none⟩=some (.int .i64 x.2.2.2)
theorem RgCl.on {nm:ByteArray} {w w':World} {b o:Nat} {x:Rg} (h:RgCl nm w b o x) (q:Below w.heap.size w w'):RgCl nm w' b o x:=by
 have l:=ecell_in h.1
 exact ⟨(q.cell (p:=⟨b,o,none⟩) l).trans h.1,(q.cell (p:=⟨b,o + 1,none⟩) l).trans h.2.1,(q.cell (p:=⟨b,o + 2,none⟩) l).trans h.2.2.1,(q.cell (p:=⟨b,o + 3,none⟩) l).trans h.2.2.2.1,(q.cell (p:=⟨b,o + 4,none⟩) l).trans h.2.2.2.2⟩
theorem rowK_at {nm:ByteArray} {w:World} {v:Value} {l:List Rg} (h:RowK (encR nm) w v l):∃ a cap,v=.slice a l.length cap∧(l=[]∨∃ b off,a=some ⟨b,off,none⟩∧∀ i,i<l.length→RgCl nm w b (off + i * 5) (l.getD i (0,0,0,0))):=by
 obtain ⟨a,cap,e,hc⟩:=h
 refine ⟨a,cap,e,?_⟩
 rcases hc with hc | ⟨b,off,ea,hc⟩
 ·exact Or.inl hc
 ·refine Or.inr ⟨b,off,ea,fun i hi=>?_⟩
  have at_:∀ c v,c<5→(encR nm (l.getD i (0,0,0,0)))[c]?=some v→w.cell? ⟨b,off + i * 5 + c,none⟩=some v:=fun c v h5 hv=>by
   have q:=flat_at (encR nm) 5 (fun _=>rfl) l i c hi h5
   have q2:(l.flatMap (encR nm))[i * 5 + c]?=some v:=q.trans hv
   have:=hc (i * 5 + c) v q2
   rwa [← Nat.add_assoc] at this
  exact ⟨at_ 0 _ (by decide) rfl,at_ 1 _ (by decide) rfl,at_ 2 _ (by decide) rfl,at_ 3 _ (by decide) rfl,at_ 4 _ (by decide) rfl⟩
set_option maxRecDepth 100000 in
set_option maxHeartbeats 2000000 in
theorem sameRings (nm:ByteArray) (l:List Rg) (va vb:Value) (w:World) (ha:RowK (encR nm) w va l) (hb:RowK (encR nm) w vb l) (hl:l.length≤2000000) :
 Calls Tryz.prog 11 #[va,vb] w fun e w'=>e=.returned (.bool true)∧Below w.heap.size w w':=by
 obtain ⟨aa,ca,rfl,xa⟩:=rowK_at ha
 obtain ⟨ab,cb,rfl,xb⟩:=rowK_at hb
 have HA:=Lib.hid xa
 have HBb:=Lib.hid xb
 clear xa xb ha hb
 go_enter Tryz.func11,Tryz.ntmps11
 go_wp2
 go_loopw [5] (fun i wr=>∃ k:Nat,k≤l.length∧i=.int .i64 k∧Below w.heap.size w wr) (fun i _=>l.length - (intOf i).toNat)
 case atStart=>exact ⟨0,Nat.zero_le _,rfl,Below.refl _ _⟩
 case round=>
  obtain ⟨k,hk,rfl,hB⟩:=hrel
  by_cases hlt:k<l.length
  ·rcases HA.out with hc | ⟨b,off,rfl,hc⟩
   ·rw [hc] at hlt;simp at hlt
   rcases HBb.out with hd | ⟨b2,off2,rfl,hd⟩
   ·rw [hd] at hlt;simp at hlt
   obtain ⟨p0,p1,p2,p3,p4⟩:=(hc k hlt).on hB
   obtain ⟨q0,q1,q2,q3,q4⟩:=(hd k hlt).on hB
   generalize l.getD k (0,0,0,0)=Y at p0 p2 p3 p4 q0 q2 q3 q4
   obtain ⟨x,y,z,u⟩:=Y
   dsimp only at p0 p2 p3 p4 q0 q2 q3 q4
   clear hc hd
   go_wp2_with fail
   go_quiet (fail)
   go_wp2
   go_roundw
   case rel=>exact ⟨k + 1,by omega,by go_num,below_drewN hB _⟩
   case measure=>simp [intOf];omega
  ·go_wp2
   go_ret
   exact ⟨rfl,hB⟩
end Go.Proofs.YthdohcjingfpoaaGreatDoor
namespace Go.Proofs.YthdohcjingfpoaaGreatDoor
open Go.RowKit Cal Txt
theorem one_alm {w:World} {b:Nat} (h:∀ j v,([.int .i64 0,.bool false,.int .i64 0,.int .i64 0]:List Value)[j]?=some v→w.cell? ⟨b,j,none⟩=some v):Alms w (.slice (some ⟨b,0,none⟩) 1 1) [(0,false,0,0)]:=
 ⟨_,_,rfl,Or.inr ⟨b,0,rfl,fun i hi=>by
  have hi2:i<1:=hi
  obtain rfl:i=0:=by omega
  exact ⟨h 0 _ rfl,h 1 _ rfl,h 2 _ rfl,h 3 _ rfl⟩⟩⟩
set_option maxRecDepth 100000 in
set_option maxHeartbeats 16000000 in
theorem one_any (w:World) (hT:Tab w):Calls Tryz.prog 20 #[] w fun x w'=>x=.returned (.bool true)∧Below w.heap.size w w':=by
 have b3:Below w.heap.size w (w.alloc (.cells #[.int .i64 0,.bool false,.int .i64 0,.int .i64 0] 32)):=(Below.refl _ _).alloc (Nat.le_refl _) _
 have HB:=Lib.hid b3
 have SZ:Hid ((w.alloc (.cells #[.int .i64 0,.bool false,.int .i64 0,.int .i64 0] 32)).heap.size=w.heap.size + 1):=Lib.hid (World.size_alloc _ _)
 have C1:Hid (∀ j v,([.int .i64 0,.bool false,.int .i64 0,.int .i64 0]:List Value)[j]?=some v→(w.alloc (.cells #[.int .i64 0,.bool false,.int .i64 0,.int .i64 0] 32)).cell? ⟨w.heap.size,j,none⟩=some v):=Lib.hid (fun j v hj=>by
  simp only [World.cell?,heap_alloc_new w (.cells #[.int .i64 0,.bool false,.int .i64 0,.int .i64 0] 32)]
  simpa using hj)
 have OC:Hid ((ecells evO (⟨.slice none 0 0,.slice none 0 0,.slice none 0 0,.slice none 0 0,.slice none 0 0,.slice none 0 0,.slice none 0 0,.slice (some ⟨w.heap.size,0,none⟩) 1 1⟩:Evs)).all (fun x=>x.oneCell')=true):=Lib.hid (by simp [Value.oneCell'])
 have HT:=Lib.hid (fun W (q:Below w.heap.size w W)=>hT.below q)
 clear hT b3
 go_enter Tryz.func20,Tryz.ntmps20
 go_wp2_with (first | (refine ev_store ?h1 (.tmp 1) (.tmp 7) ?h2 (w.heap.size + 1) _ _ ?h3 SZ.out evO (⟨.slice none 0 0,.slice none 0 0,.slice none 0 0,.slice none 0 0,.slice none 0 0,.slice none 0 0,.slice none 0 0,.slice (some ⟨w.heap.size,0,none⟩) 1 1⟩:Evs) ?h4 ?h5 ?h6 ?h7;(case h1=>rfl);(case h2=>rfl);(case h3=>rfl);(case h4=>exact OC.out);(case h5=>rfl);(case h6=>rfl);intro W1 r1 b1;have Q1:=Lib.hid (And.intro r1 b1);clear r1 b1) | (refine ev_load ?i1 (.tmp 1) ?i2 (w.heap.size + 1) evO (⟨.slice none 0 0,.slice none 0 0,.slice none 0 0,.slice none 0 0,.slice none 0 0,.slice none 0 0,.slice none 0 0,.slice (some ⟨w.heap.size,0,none⟩) 1 1⟩:Evs) ?i3 Q1.out.1.1 ?i4;(case i1=>rfl);(case i2=>rfl);(case i3=>rfl)))
 have B1:=Lib.hid (HB.out.trans (Q1.out.2.mono HB.out.size))
 have hvT:EvB W1 evO (⟨.slice none 0 0,.slice none 0 0,.slice none 0 0,.slice none 0 0,.slice none 0 0,.slice none 0 0,.slice none 0 0,.slice (some ⟨w.heap.size,0,none⟩) 1 1⟩:Evs):=⟨nil_int _,nil_int _,nil_nth _,nil_int _,nil_int _,nil_int _,nil_nth _,one_alm (fun j v hj=>(Q1.out.2.cell (p:=⟨w.heap.size,j,none⟩) (by show w.heap.size<_;rw [SZ.out];omega)).trans (C1.out j v hj))⟩
 have K:=rings_any 0 [] _ evO (⟨.slice none 0 0,.slice none 0 0,.slice none 0 0,.slice none 0 0,.slice none 0 0,.slice none 0 0,.slice none 0 0,.slice (some ⟨w.heap.size,0,none⟩) 1 1⟩:Evs) 66729179 66750000 W1 (zone_nil W1 0) hvT (HT.out _ B1.out)
 rw [evO_told.1,evO_told.2] at K
 clear hvT HB Q1 SZ C1 OC
 refine K.mono ?_
 clear K
 rintro x w2 ⟨u,rfl,hb,ow⟩
 rw [efault_0]
 have B2:=Lib.hid (B1.out.trans (hb.mono B1.out.size))
 obtain ⟨a9,c9,rfl,hc⟩:=rowK_at (own_rowK (enc:=encR evO.name) (k:=5) (fun _=>rfl) (by decide) ow)
 rcases hc with hc | ⟨b,off,rfl,hh⟩
 ·cases hc
 have k2:w2.cell? ⟨b,off + 10,none⟩=some (.int .i64 66749339):=(hh 2 (by decide)).1
 have bl:=ecell_in k2
 have el:rgO3.length=3:=rfl
 rw [el]
 clear hb hh el B1 ow
 go_wp2
 go_ret
 exact ⟨rfl,B2.out⟩
end Go.Proofs.YthdohcjingfpoaaGreatDoor
