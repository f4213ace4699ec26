/-
  Texts of our own that serve the card of this claim, joined into one.
-/
import Derived.Test.YtoncfgfjdlgfcaaGreatDoorBZR
import Derived.Shelf.GgSortFunc.RowK
import Derived.Sort.Grow
import Derived.Deep.CutBlock
import Derived.Lib.AppendZerosOnto
namespace Go.Proofs.YtoncfgfjdlgfcaaGreatDoor.Bz
open Go.RowKit
def cmi (a b:Int):Int:=if a<b then -1 else if b<a then 1 else 0
theorem isNaN_any (x:Int) (w:World):Calls Tryz.prog 112 #[.int .i64 x] w fun e w'=>e=.returned (.bool false)∧w'=w:=by
 go_enter Tryz.func112,Tryz.ntmps112
 go_wp2
 go_ret
 exact ⟨ret_bool (by simp),rfl⟩
theorem compare_any (a b:Int) (w:World):Calls Tryz.prog 66 #[.int .i64 a,.int .i64 b] w fun e w'=>e=.returned (.int .i64 (cmi a b))∧w'=w:=by
 have N1:Hid (a<b→cmi a b=-1):=Lib.hid (fun h=>if_pos h)
 have N2:Hid (¬ a<b→b<a→cmi a b=1):=Lib.hid (fun h k=>by unfold cmi;rw [if_neg h,if_pos k])
 have N3:Hid (¬ a<b→¬ b<a→cmi a b=0):=Lib.hid (fun h k=>by unfold cmi;rw [if_neg h,if_neg k])
 generalize cmi a b=R at N1 N2 N3 ⊢
 by_cases h1:a<b
 ·have E:=Lib.hid (N1.out h1)
  go_enter Tryz.func66,Tryz.ntmps66
  go_wp2_with (go_at_call 112;refine (isNaN_any _ _).mono ?_;rintro e w' ⟨rfl,rfl⟩)
  go_ret
  exact ⟨ret_int E.out.symm,rfl⟩
 by_cases h2:b<a
 ·have E:=Lib.hid (N2.out h1 h2)
  go_enter Tryz.func66,Tryz.ntmps66
  go_wp2_with (go_at_call 112;refine (isNaN_any _ _).mono ?_;rintro e w' ⟨rfl,rfl⟩)
  go_ret
  exact ⟨ret_int E.out.symm,rfl⟩
 ·have E:=Lib.hid (N3.out h1 h2)
  go_enter Tryz.func66,Tryz.ntmps66
  go_wp2_with (go_at_call 112;refine (isNaN_any _ _).mono ?_;rintro e w' ⟨rfl,rfl⟩)
  go_ret
  exact ⟨ret_int E.out.symm,rfl⟩
def noB (x:Bz):Bool:=decide (x.2 - x.1=0)
theorem non_any (x:Bz) (w:World) (h:Sm x):Calls Tryz.prog 144 #[agB x] w fun e w'=>e=.returned (.bool (noB x))∧Below w.heap.size w w':=by
 have N:Hid (noB x=(x.2 - x.1 == 0)):=Lib.hid (by unfold noB;rw [Bool.eq_iff_iff];simp)
 generalize noB x=R at N ⊢
 have T3:=BBx.new w x 99
 have b3:=below_one w (.cells #[.int .i64 x.1,.int .i64 x.2] 99)
 obtain ⟨W3,hW3⟩:∃ W3,W3=w.alloc (.cells #[.int .i64 x.1,.int .i64 x.2] 99):=⟨_,rfl⟩
 rw [← hW3] at T3 b3
 have HW3:=Lib.hid hW3
 have B3:=Lib.hid b3
 obtain ⟨t0,t1⟩:=T3
 have tl:=cell_in t0
 have HS:=Lib.hid h
 clear hW3 b3 h
 go_enter Tryz.func144,Tryz.ntmps144
 go_upto_region 1 with fail
 rw [← HW3.out]
 go_wp2_with (go_at_call 85;refine (minB_any x _ HS.out).mono ?_;rintro e w4 ⟨rfl,hb⟩;have B4:=Lib.hid (B3.out.trans (hb.mono B3.out.size));clear hb)
 go_ret
 exact ⟨ret_bool N.out.symm,B4.out⟩
def cmB (x y:Bz):Int:=cmi x.1 y.1
theorem cmB_any (x y:Bz) (w:World) :
 Calls Tryz.prog 146 #[agB x,agB y] w fun e w'=>e=.returned (.int .i64 (cmB x y))∧∃ q os',w'=Sort.grow (w.drewN q) os':=by
 have EW:Hid (∃ q os',(w.alloc (.cells #[.int .i64 x.1,.int .i64 x.2] 99)).alloc (.cells #[.int .i64 y.1,.int .i64 y.2] 99)=Sort.grow (w.drewN q) os'):=Lib.hid (by
  refine ⟨0,#[.cells #[.int .i64 x.1,.int .i64 x.2] 99]++#[.cells #[.int .i64 y.1,.int .i64 y.2] 99],?_⟩
  show ((w.drewN 0).alloc (.cells #[.int .i64 x.1,.int .i64 x.2] 99)).alloc (.cells #[.int .i64 y.1,.int .i64 y.2] 99)=_
  rw [Sort.alloc_eq_grow,Sort.alloc_eq_grow,Sort.grow_grow])
 have CT:Hid (cmB x y=cmi x.1 y.1):=Lib.hid rfl
 generalize cmB x y=R at CT ⊢
 go_enter Tryz.func146,Tryz.ntmps146
 go_wp2_with (go_at_call 66;refine (compare_any _ _ _).mono ?_;rintro e w' ⟨rfl,hw⟩;replace hw:=hw.symm;subst hw)
 go_ret
 exact ⟨ret_int CT.out.symm,EW.out⟩
def SrtA (n0:Nat) (w:World) (v:Value) (l:List Bz) (e:Ending) (w':World):Prop:=e=.returned (.tuple #[])∧∃ B,l.Perm B∧B.Pairwise (fun x y=>x.1≤y.1)∧Ob w' n0 v B∧Below n0 w w'
def SrtH:Prop:=∀ (l:List Bz) (n0:Nat) (v:Value) (w:World),Ob w n0 v l→n0≤w.heap.size→l.length≤1000000→Calls Tryz.prog 145 #[v,.func (.func 146) #[] #[]] w (SrtA n0 w v l)
end Go.Proofs.YtoncfgfjdlgfcaaGreatDoor.Bz
namespace Go.Proofs.YtoncfgfjdlgfcaaGreatDoor.Bz
open Go.RowKit
theorem flat_snd (t:Int):∀ (l:List Bz) (i:Nat),i<l.length→(l.flatMap encB).set (i * 2 + 1) (.int .i64 t)=(l.set i ((l.getD i (0,0)).1,t)).flatMap encB
 | [],i,h=>by simp at h
 | a :: r,0,_=>by simp [encB]
 | a :: r,i + 1,h=>by
   have ih:=flat_snd t r i (by simpa using h)
   rw [List.flatMap_cons,List.set_append_right _ _ (by rw [encB_len];omega),encB_len,show (i + 1) * 2 + 1 - 2=i * 2 + 1 by omega,ih]
   simp
theorem ob_snd {w:World} {n0 n cap g:Nat} {l:List Bz} (h:Ob w n0 (.slice (some ⟨g,0,none⟩) n cap) l) {i:Nat} (hi:i<l.length) (t:Int):Ob (w.setCell ⟨g,i * 2 + 1,none⟩ (.int .i64 t)) n0 (.slice (some ⟨g,0,none⟩) n cap) (l.set i ((l.getD i (0,0)).1,t)):=by
 obtain ⟨rfl,hb,hc,cur,hg,hm,hs,ht⟩:=h.blk
 have hcap:l.length * 2≤cap * 2:=Nat.mul_le_mul_right 2 hc
 have h1:(w.setCell ⟨g,i * 2 + 1,none⟩ (.int .i64 t)).heap[g]?=some (.cells (cur.setIfInBounds (i * 2 + 1) (.int .i64 t)) 99 (0,0)):=by
  simp [World.setCell,Array.getElem?_modify,hg]
 refine ⟨by rw [flatB_len],Or.inr ⟨g,cap,_,by rw [List.length_set],hb,h1,by rw [List.length_set];exact hc,hm,by simpa using hs,?_⟩⟩
 rw [List.length_set,Array.toList_setIfInBounds,List.take_set,ht,flat_snd t l i hi]
theorem below_snd {w:World} {n0 g o:Nat} (v:Value) (hg:n0≤g):Below n0 w (w.setCell ⟨g,o,none⟩ v):=⟨rfl,rfl,rfl,by simp,fun k hk=>Below.heap_setCell w ⟨g,o,none⟩ v k (by show k≠g;omega)⟩
theorem stp_nil (b:Bz):stp [] b=[b]:=by simp [stp]
theorem stp_app {out:List Bz} {b:Bz} {m:Nat} (hm:out.length=m + 1) (h:(out.getD m (0,0)).2<b.1):stp out b=out++[b]:=by
 unfold stp
 rw [hm,Nat.add_sub_cancel,if_neg (by intro e;rw [e] at hm;simp at hm),if_pos h]
theorem stp_set {out:List Bz} {b:Bz} {m:Nat} (hm:out.length=m + 1) (h:¬ (out.getD m (0,0)).2<b.1):stp out b=out.set m ((out.getD m (0,0)).1,max (out.getD m (0,0)).2 b.2):=by
 unfold stp
 rw [hm,Nat.add_sub_cancel,if_neg (by intro e;rw [e] at hm;simp at hm),if_neg h]
theorem below_dr (w:World) (n:Nat):Below w.heap.size w (w.drewN n):=⟨rfl,rfl,rfl,Nat.le_refl _,fun _ _=>rfl⟩
theorem ow_dr {w:World} {p:Addr} {x:Value} {n0:Nat} {e:TypeId} {size:Nat} {v:Value} {n:Nat} {xs:List Value} (q:Nat) (h:(w.setCell p x).ownsRow n0 e size v n xs):((w.drewN q).setCell p x).ownsRow n0 e size v n xs:=h
set_option maxRecDepth 100000 in
set_option maxHeartbeats 4000000 in
theorem mrg_any (hS:SrtH) (l:List Bz) (v:Value) (w:World) (hv:Rb w v l) (hl:l.length≤1000) (hg:∀ x∈l,Gd x) :
 Calls Tryz.prog 93 #[v] w fun e w'=>∃ u,e=.returned u∧Ob w' w.heap.size u (nrm l)∧Below w.heap.size w w':=by
 have K1:=Lib.hid (cln_any v l w hv (by omega))
 have HS:=Lib.hid hS
 have HGd:=Lib.hid hg
 have RT:=Lib.hid (gd_rt hg)
 clear hv hS hg
 go_enter Tryz.func93,Tryz.ntmps93
 go_wp2_with fail
 refine K1.out.mono ?_
 rintro e w1 ⟨u1,rfl,ho1,hb1⟩
 have O1:=Lib.hid ho1
 have B1:=Lib.hid hb1
 have K2:=Lib.hid (delM noB l w.heap.size u1 w1 (fun c hc W _=>non_any c W (gd_sm (HGd.out c hc))) ho1 hb1.size (by omega))
 clear ho1 hb1 K1
 go_wp2_with fail
 refine K2.out.mono ?_
 rintro e w2 ⟨u2,rfl,ho2,hb2⟩
 have FL:Hid ((l.filter (fun x=>!noB x)).length≤1000):=Lib.hid (Nat.le_trans (List.length_filter_le _ _) hl)
 have B2:=Lib.hid (B1.out.trans hb2)
 have K3:=Lib.hid (HS.out (l.filter (fun x=>!noB x)) w.heap.size u2 w2 ho2 B2.out.size (Nat.le_trans FL.out (by decide)))
 clear ho2 hb2 K2 O1 B1
 go_wp2_with fail
 refine K3.out.mono ?_
 rintro e w3 ⟨rfl,B,hp,hs,ho3,hb3⟩
 have O3:=Lib.hid ho3
 have B3:=Lib.hid (B2.out.trans hb3)
 have PB:=Lib.hid hp
 have SB:=Lib.hid hs
 have BL:B.length≤1000:=by rw [← hp.length_eq];exact FL.out
 have GB:Hid (∀ x∈B,x.1<x.2):=Lib.hid (fun x hx=>by
  have q:=List.mem_filter.1 (hp.mem_iff.2 hx)
  have:=RT.out x q.1
  have:=q.2
  unfold noB at this
  simp at this
  omega)
 obtain ⟨a,cap,ev,_⟩:=ho3.rb
 subst ev
 clear ho3 hb3 K3 hp hs FL B2
 go_wp2_with fail
 go_loopw [15,4,6,7] (fun i lv _ _ wr=>∃ (k:Nat) (u:Value) (M:List Bz),k≤B.length∧i=.int .i64 k∧lv=u∧Hid (MgI (B.take k) M)∧Hid (Ob wr w3.heap.size u M)∧Below w3.heap.size w3 wr) (fun i _ _ _ _=>B.length - (intOf i).toNat)
 case atStart=>exact ⟨0,_,[],Nat.zero_le _,rfl,rfl,Lib.hid ⟨cn_nil,fun t=>by simp,by simp⟩,Lib.hid (World.ownsRow_nil _ _ _ _),Below.refl _ _⟩
 case round=>
  obtain ⟨k,u,M,hk,rfl,hu,HI,HO,hB⟩:=hrel
  replace hu:=hu.symm
  subst hu
  have HB:=Lib.hid hB
  by_cases hlt:k<B.length
  ·obtain ⟨b,off,rfl,_,c1,c2⟩:=rb_at ((O3.out.rb).on hB) hlt
   have MK:Hid (∀ M',MgI (B.take k++[B.getD k (0,0)]) M'→MgI (B.take (k + 1)) M'):=Lib.hid (fun M' q=>by
    rw [List.take_succ_eq_append_getElem hlt]
    rwa [List.getD_eq_getElem?_getD,List.getElem?_eq_getElem hlt] at q)
   have XM:B.getD k (0,0)∈B:=by rw [List.getD_eq_getElem?_getD,List.getElem?_eq_getElem hlt];exact List.getElem_mem _
   have XG:=Lib.hid (GB.out _ XM)
   have XO:Hid (∀ y∈B.take k,y.1≤(B.getD k (0,0)).1):=Lib.hid (fun y hy=>by
    obtain ⟨j,hj,rfl⟩:=List.getElem_of_mem hy
    rw [List.length_take] at hj
    rw [List.getElem_take,List.getD_eq_getElem?_getD,List.getElem?_eq_getElem hlt]
    exact List.pairwise_iff_getElem.1 SB.out j k (by omega) hlt (by omega))
   obtain ⟨X,hX⟩:∃ X,X=B.getD k (0,0):=⟨_,rfl⟩
   rw [← hX] at c1 c2 MK XG XO
   have ML:M.length≤1000:=by have:=HI.out.2.2;rw [List.length_take] at this;omega
   have NX:=Lib.hid (MK.out _ (HI.out.step XG.out XO.out))
   clear hX XM hB MK XG XO
   have bl:=cell_in c1
   have T3:=BBx.new wr X 99
   have b3:=below_one wr (.cells #[.int .i64 X.1,.int .i64 X.2] 99)
   obtain ⟨W4,hW4⟩:∃ W4,W4=wr.alloc (.cells #[.int .i64 X.1,.int .i64 X.2] 99):=⟨_,rfl⟩
   rw [← hW4] at T3 b3
   have HW4:=Lib.hid hW4
   have HT:=Lib.hid T3
   have B4:=Lib.hid (HB.out.trans (b3.mono HB.out.size))
   have O4:Hid (Ob W4 w3.heap.size u M):=Lib.hid (ow_below HO.out b3)
   clear hW4 T3 b3 HO
   go_upto_region 7 with fail
   rw [← HW4.out]
   clear HW4 c1 c2 bl
   obtain ⟨t0,t1⟩:=HT.out
   have tl:=cell_in t0
   rcases hM:M.length with _ | m
   ·have M0:M=[]:=List.eq_nil_of_length_eq_zero hM
    subst M0
    have NX2:Hid (MgI (B.take (k + 1)) ([]++[X])):=Lib.hid (by have:=NX.out;rwa [stp_nil] at this)
    rcases O4.out.open with ⟨rfl,_⟩ | ⟨g,cp,rfl⟩
    ·go_upto_region 8 with fail
     go_quiet (fail)
     have b5:=below_dr W4 nq
     obtain ⟨W5,hW5⟩:∃ W5,W5=W4.drewN nq:=⟨_,rfl⟩
     rw [← hW5] at b5 ⊢
     obtain ⟨s0,s1⟩:=HT.out.on b5
     have sl:=cell_in s0
     obtain ⟨v6,w6,ap,o6,b6⟩:=ap_next X (ow_below O4.out b5) (Nat.le_trans B4.out.size b5.size) (by simp)
     have AP:=Lib.hid ap
     have O6:Hid (Ob w6 w3.heap.size v6 (_++[X])):=Lib.hid o6
     have B6:=Lib.hid (B4.out.trans ((b5.mono B4.out.size).trans b6))
     clear ap o6 b6 b5 hW5 t0 t1 tl
     go_wp2_with (at_builtin;refine wpl_app rfl _ _ 46 rfl _ _ _ _ rfl rfl AP.out ?_)
     go_roundw
     case rel=>exact ⟨k + 1,v6,_,by omega,by go_num,rfl,NX2,O6,B6.out⟩
     case measure=>simp [intOf];omega
    ·go_upto_region 8 with fail
     go_quiet (fail)
     have b5:=below_dr W4 nq
     obtain ⟨W5,hW5⟩:∃ W5,W5=W4.drewN nq:=⟨_,rfl⟩
     rw [← hW5] at b5 ⊢
     obtain ⟨s0,s1⟩:=HT.out.on b5
     have sl:=cell_in s0
     obtain ⟨v6,w6,ap,o6,b6⟩:=ap_next X (ow_below O4.out b5) (Nat.le_trans B4.out.size b5.size) (by simp)
     have AP:=Lib.hid ap
     have O6:Hid (Ob w6 w3.heap.size v6 (_++[X])):=Lib.hid o6
     have B6:=Lib.hid (B4.out.trans ((b5.mono B4.out.size).trans b6))
     clear ap o6 b6 b5 hW5 t0 t1 tl
     go_wp2_with (at_builtin;refine wpl_app rfl _ _ 46 rfl _ _ _ _ rfl rfl AP.out ?_)
     go_roundw
     case rel=>exact ⟨k + 1,v6,_,by omega,by go_num,rfl,NX2,O6,B6.out⟩
     case measure=>simp [intOf];omega
   ·obtain ⟨g,cp,hu⟩:∃ g cap,u=.slice (some ⟨g,0,none⟩) (m + 1) cap:=by
     rcases O4.out.open with ⟨_,e0⟩ | ⟨g,cp,e0⟩
     ·rw [e0] at hM;simp at hM
     ·exact ⟨g,cp,by rw [e0,hM]⟩
    subst hu
    obtain ⟨y1,y2⟩:=O4.out.cell (i:=m) (by omega)
    have yl:=cell_in y1
    have GN:=Lib.hid O4.out.blk.2.1
    have ZS:Hid (∀ t,Ob (W4.setCell ⟨g,m * 2 + 1,none⟩ (.int .i64 t)) w3.heap.size (.slice (some ⟨g,0,none⟩) (m + 1) cp) (M.set m ((M.getD m (0,0)).1,t))):=Lib.hid (fun t=>ob_snd O4.out (by omega) t)
    have fz:W4.frozen? ⟨g,m * 2 + 1,none⟩=false:=(O4.out.there (o:=m * 2 + 1) (m:=1) (by omega) 0 (by omega)).2
    have NA:Hid ((M.getD m (0,0)).2<X.1→MgI (B.take (k + 1)) (M++[X])):=Lib.hid (fun q=>by have:=NX.out;rwa [stp_app hM q] at this)
    have NS:Hid (¬ (M.getD m (0,0)).2<X.1→MgI (B.take (k + 1)) (M.set m ((M.getD m (0,0)).1,max (M.getD m (0,0)).2 X.2))):=Lib.hid (fun q=>by have:=NX.out;rwa [stp_set hM q] at this)
    generalize M.getD m (0,0)=Y at y1 y2 ZS NA NS
    have hM2:=Lib.hid hM
    have mb:m≤1000:=by omega
    have ML2:=Lib.hid ML
    clear hM NX ML
    have nd:decide ((m:Int)<0)=false:=decide_eq_false (by omega)
    go_upto_region 8 with fail
    obtain ⟨n,hn⟩:∃ n,n=m + 1:=⟨_,rfl⟩
    have mn:m<n:=by omega
    rw [← hn] at O4 ZS ⊢
    clear hn
    by_cases c:Y.2<X.1
    ·have N2:=Lib.hid (NA.out c)
     have cd:decide (Y.2<X.1)=true:=decide_eq_true c
     clear NA NS ZS fz
     go_quiet (fail)
     have b5:=below_dr W4 nq
     obtain ⟨W5,hW5⟩:∃ W5,W5=W4.drewN nq:=⟨_,rfl⟩
     rw [← hW5] at b5 ⊢
     obtain ⟨s0,s1⟩:=HT.out.on b5
     have sl:=cell_in s0
     obtain ⟨v6,w6,ap,o6,b6⟩:=ap_next X (ow_below O4.out b5) (Nat.le_trans B4.out.size b5.size) (by have:=ML2.out;omega)
     have AP:=Lib.hid ap
     have O6:Hid (Ob w6 w3.heap.size v6 (_++[X])):=Lib.hid o6
     have B6:=Lib.hid (B4.out.trans ((b5.mono B4.out.size).trans b6))
     clear ap o6 b6 b5 hW5 t0 t1 tl
     go_wp2_with (at_builtin;refine wpl_app rfl _ _ 46 rfl _ _ _ _ rfl rfl AP.out ?_)
     go_roundw
     case rel=>exact ⟨k + 1,v6,_,by omega,by go_num,rfl,N2,O6,B6.out⟩
     case measure=>simp [intOf];omega
    ·have N2:=Lib.hid (NS.out c)
     have cd:decide (Y.2<X.1)=false:=decide_eq_false c
     have ZS2:=Lib.hid (fun q=>ow_dr q (ZS.out (max Y.2 X.2)))
     have BS:=Lib.hid (fun q=>(B4.out.trans (((below_dr W4 q).mono B4.out.size).trans (below_snd (w:=W4.drewN q) (o:=m * 2 + 1) (.int .i64 (max Y.2 X.2)) GN.out))))
     clear NA NS ZS
     go_quiet (fail)
     go_upto_region 10 with fail
     go_region
     go_wp2
     go_roundw
     case rel=>exact ⟨k + 1,_,_,by omega,by go_num,rfl,N2,Lib.hid (ZS2.out _),BS.out _⟩
     case measure=>simp [intOf];omega
  ·have N2:Hid (M=nrm l):=Lib.hid (mgI_done RT.out PB.out (by have:=HI.out;rwa [List.take_of_length_le (by omega)] at this))
   go_wp2
   go_ret
   exact ⟨u,rfl,by rw [← N2.out];exact own_mono HO.out B3.out.size,B3.out.trans (HB.out.mono B3.out.size)⟩
end Go.Proofs.YtoncfgfjdlgfcaaGreatDoor.Bz
namespace Go.Proofs.YtoncfgfjdlgfcaaGreatDoor.Bz
open Go.RowKit
theorem wpl_app2 (w:World) {ops:Array Oper} {rest:List Oper} {o:Oper} {a:Act} {Q:Exit→Act→World→Prop} (hgd:o.guard=none) (d s:Operand) (t t':TypeId)
 (ho:o.op=.call { callee:=.builtin .append,args:=#[d,s],argTypes:=#[t,t'] }) (v u:Value) (hd:a.eval d=v) (hs:a.eval s=u) {v':Value} {w':World}
 (hr:∀ ty,(Builtin.append_ #[t,t'] ty #[v,u]).run Tryz.prog w=.ok v' w') (h:wpList Tryz.prog ops Q rest (a.put o.dst v') w'):wpList Tryz.prog ops Q (o :: rest) a w:=
 wpList_plain hgd fun _ hK=>by
  unfold Oper.wp execOp
  simp only [ho,resolve,invoke,builtin,Sem.run_bind,Sem.run_pure,Result.andThen_ok,List.map_toArray,List.map_cons,List.map_nil,hd,hs,hr]
  exact hK _ _ h
theorem zc_size (n:Nat):(Builtin.zeroCells (Value.agg #[.int .i64 0,.int .i64 0]).cells n).size=n * 2:=by
 show (Builtin.zeroCells #[.int .i64 0,.int .i64 0] n).size=_
 simp [Builtin.zeroCells]
set_option maxRecDepth 100000 in
theorem grw_any (n:Nat) (w:World) (h:n≤1000) :
 Calls Tryz.prog 94 #[.slice none 0 0,.int .i64 n] w fun e w'=>∃ u,e=.returned u∧Ob w' w.heap.size u []∧Below w.heap.size w w':=by
 rcases Nat.eq_zero_or_pos n with rfl | h0
 ·go_enter Tryz.func94,Tryz.ntmps94
  go_wp2
  go_ret
  exact ⟨_,rfl,World.ownsRow_nil _ _ _ _,Below.refl _ _⟩
 ·obtain ⟨i0,hi,hz0,hz1,hz2⟩:=info_parts info_bz
  obtain ⟨G,hG⟩:∃ G,G=grownCap w n 0 99:=⟨_,rfl⟩
  have hG1:n≤G:=by rw [hG];exact grownCap_ge w _ _ _
  have hG2:G≤maxLen:=by rw [hG];exact grownCap_le_maxLen w n 0 99 (by unfold maxLen;omega)
  obtain ⟨C,hC⟩:∃ C:Array Value,C=#[]++Builtin.zeroCells (Value.agg #[.int .i64 0,.int .i64 0]).cells n++Builtin.zeroCells (Value.agg #[.int .i64 0,.int .i64 0]).cells (G - n):=⟨_,rfl⟩
  have cs:C.size=G * 2:=by rw [hC,Array.size_append,Array.size_append,zc_size,zc_size];simp;omega
  have AW:Hid (∀ ty,(Builtin.append_ #[46,3] ty #[.slice none 0 0,.int .i64 n]).run Tryz.prog w=.ok (.slice (some ⟨w.heap.size,0,none⟩) n G) (w.drew.alloc (.cells C 99))):=Lib.hid (fun ty=>by
   have hc:Builtin.nextslicecap n 0 * 16≤281474976710656:=by
    have:Builtin.nextslicecap n 0=n:=by
     unfold Builtin.nextslicecap
     simp
     omega
    rw [this]
    omega
   have q:=Lib.run_append_grow_zeros (P:=Tryz.prog) w 46 3 ty 99 i0 _ .i64 .i64 Tryz.underlying46 Tryz.underlying3 hi hz0 none 0 0 [] (by simp [Builtin.firstCells]) n h0 (by omega) (by omega) (by omega) (by rw [hz2];omega) (by rw [hz2,Nat.zero_add];exact hc)
   rw [Nat.zero_add,← hG] at q
   rw [q,hC])
  have O1:Hid (Ob (w.drew.alloc (.cells C 99)) w.heap.size (.slice (some ⟨w.heap.size,0,none⟩) 0 G) []):=Lib.hid (World.ownsRow_made w.drew C G (Nat.le_refl _) hG2 cs)
  have B1:Hid (Below w.heap.size w (w.drew.alloc (.cells C 99))):=Lib.hid ((below_dr w 1).trans (below_one w.drew _))
  have g0:0≤G:=Nat.zero_le _
  clear hC cs hG hG2 hi hz0 hz1 hz2
  go_enter Tryz.func94,Tryz.ntmps94
  go_wp2_with (at_builtin;refine wpl_app2 _ rfl _ _ 46 3 rfl _ _ rfl rfl AW.out ?_)
  go_ret
  exact ⟨_,rfl,O1.out,B1.out⟩
end Go.Proofs.YtoncfgfjdlgfcaaGreatDoor.Bz
namespace Go.Proofs.YtoncfgfjdlgfcaaGreatDoor.Bz
open Go.RowKit
def nmL (l:List Bz):List Bz:=if bzF l=0 then nrm l else []
theorem nmL_yes {l:List Bz} (h:bzF l=0):nmL l=nrm l:=if_pos h
theorem nmL_no {l:List Bz} (h:¬ bzF l=0):nmL l=[]:=if_neg h
theorem nmL_len (l:List Bz):(nmL l).length≤200:=by
 unfold nmL
 split
 ·rename_i h
  exact Nat.le_trans (nrm_len (gd_rt (bzF_zero.1 h).2)) (bzF_zero.1 h).1
 ·simp
def NmA (w:World) (l:List Bz) (f:Int) (e:Ending) (w':World):Prop:=∃ u,e=.returned (.tuple #[u,fault f])∧Ob w' w.heap.size u l∧Below w.heap.size w w'
set_option maxRecDepth 100000 in
theorem nrm_any (hS:SrtH) (l:List Bz) (v:Value) (w:World) (hv:Rb w v l) (hl:l.length≤9223372036854775807) :
 Calls Tryz.prog 44 #[v] w (NmA w (nmL l) (bzF l)):=by
 have HV:=Lib.hid hv
 have HS:=Lib.hid hS
 have K:=Lib.hid (chk_any l v w hv hl)
 clear hv hS
 by_cases h:bzF l=0
 ·have NL:=Lib.hid (nmL_yes h)
  have GF:=Lib.hid (bzF_zero.1 h)
  have HF:=Lib.hid h
  rw [fault_zero h] at K
  go_enter Tryz.func44,Tryz.ntmps44
  go_wp2_with fail
  refine K.out.mono ?_
  rintro e w1 ⟨rfl,hb⟩
  have B1:=Lib.hid hb
  have K2:=Lib.hid (mrg_any HS.out l v w1 (HV.out.on hb) (Nat.le_trans GF.out.1 (by decide)) GF.out.2)
  clear hb K h
  go_wp2_with fail
  refine K2.out.mono ?_
  rintro e w2 ⟨u,rfl,ho,hb⟩
  have O2:=Lib.hid ho
  have B2:=Lib.hid (B1.out.trans (hb.mono B1.out.size))
  clear ho hb K2
  go_wp2
  go_ret2
  exact ⟨u,by rw [fault_zero HF.out];rfl,by rw [NL.out];exact own_mono O2.out B1.out.size,B2.out⟩
 ·have NL:=Lib.hid (nmL_no h)
  have HF:=Lib.hid h
  rw [fault_not h] at K
  generalize nmL l=L at NL ⊢
  generalize bzF l=F at K HF ⊢
  clear h
  go_enter Tryz.func44,Tryz.ntmps44
  go_wp2_with fail
  refine K.out.mono ?_
  rintro e w1 ⟨rfl,hb⟩
  have B1:=Lib.hid hb
  clear hb K
  go_wp2
  go_ret2
  exact ⟨_,by rw [fault_not HF.out];rfl,by rw [NL.out];exact World.ownsRow_nil _ _ _ _,B1.out⟩
def TtA (w:World) (n f:Int) (e:Ending) (w':World):Prop:=e=.returned (.tuple #[.int .i64 n,fault f])∧Below w.heap.size w w'
end Go.Proofs.YtoncfgfjdlgfcaaGreatDoor.Bz
namespace Go.Proofs.YtoncfgfjdlgfcaaGreatDoor.Bz
open Go.RowKit
structure Kb (n0 bf bl:Nat) (w w':World):Prop where
 os:w'.os=w.os
 tape:w'.tape=w.tape
 output:w'.output=w.output
 size:w.heap.size≤w'.heap.size
 block:∀ k,k<n0→k≠bf→k≠bl→w'.heap[k]?=w.heap[k]?
theorem Kb.refl (n0 bf bl:Nat) (w:World):Kb n0 bf bl w w:=⟨rfl,rfl,rfl,Nat.le_refl _,fun _ _ _ _=>rfl⟩
theorem Kb.on {n0 bf bl:Nat} {w w' w2:World} (h:Kb n0 bf bl w w') (q:Below n0 w' w2):Kb n0 bf bl w w2:=⟨q.os.trans h.os,q.tape.trans h.tape,q.output.trans h.output,Nat.le_trans h.size q.size,fun k hk h1 h2=>(q.block k hk).trans (h.block k hk h1 h2)⟩
theorem Kb.set {n0 bf bl:Nat} {w w':World} (h:Kb n0 bf bl w w') (b o:Nat) (v:Value) (hb:b=bf∨b=bl):Kb n0 bf bl w (w'.setCell ⟨b,o,none⟩ v):=
 ⟨h.os,h.tape,h.output,Nat.le_trans h.size (by simp),fun k hk h1 h2=>(Below.heap_setCell w' ⟨b,o,none⟩ v k (by show k≠b;omega)).trans (h.block k hk h1 h2)⟩
theorem Kb.below {n0 bf bl m:Nat} {w w':World} (h:Kb n0 bf bl w w') (hm:m≤n0) (h1:m≤bf) (h2:m≤bl):Below m w w':=⟨h.os,h.tape,h.output,h.size,fun k hk=>h.block k (by omega) (by omega) (by omega)⟩
theorem Kb.cell {n0 bf bl:Nat} {w w':World} (h:Kb n0 bf bl w w') {b o:Nat} (hb:b<n0) (h1:b≠bf) (h2:b≠bl):w'.cell? ⟨b,o,none⟩=w.cell? ⟨b,o,none⟩:=by simp [World.cell?,h.block b hb h1 h2]
theorem set_same {w:World} {b o:Nat} {v u:Value} (h:w.cell? ⟨b,o,none⟩=some u):(w.setCell ⟨b,o,none⟩ v).cell? ⟨b,o,none⟩=some v:=by
 exact World.cell?_setCell_same w ⟨b,o,none⟩ v h
theorem set_other {w:World} {b o c p:Nat} {v:Value} (h:c≠b):(w.setCell ⟨b,o,none⟩ v).cell? ⟨c,p,none⟩=w.cell? ⟨c,p,none⟩:=by
 simp [World.cell?,Below.heap_setCell w ⟨b,o,none⟩ v c (by show c≠b;exact h)]
theorem ob_set {w:World} {n0 b o:Nat} {v u:Value} {l:List Bz} (h:Ob w n0 u l) (hb:b<n0):Ob (w.setCell ⟨b,o,none⟩ v) n0 u l:=by
 refine ⟨h.1,?_⟩
 rcases h.2 with h2 | ⟨g,cap,cur,hv,hg,hh,hr⟩
 ·exact Or.inl h2
 ·exact Or.inr ⟨g,cap,cur,hv,hg,(Below.heap_setCell w ⟨b,o,none⟩ v g (by show g≠b;omega)).trans hh,hr⟩
structure Fs (w2:World) (n0 bf bl:Nat) (a:Int) (u:Value) (g:List Bz) (w:World):Prop where
 low:bf<n0∧bl<n0∧bf≠bl∧n0≤w.heap.size
 at_:w.cell? ⟨bf,0,none⟩=some (.int .i64 a)
 atf:w.frozen? ⟨bf,0,none⟩=false
 li:w.cell? ⟨bl,0,none⟩=some u
 lif:w.frozen? ⟨bl,0,none⟩=false
 row:Ob w n0 u g
 kb:Kb n0 bf bl w2 w
theorem Fs.on {w2:World} {n0 bf bl:Nat} {a:Int} {u:Value} {g:List Bz} {w w':World} (h:Fs w2 n0 bf bl a u g w) (q:Below w.heap.size w w'):Fs w2 n0 bf bl a u g w':=by
 obtain ⟨l1,l2,l3,l4⟩:=h.low
 exact ⟨⟨l1,l2,l3,Nat.le_trans l4 q.size⟩,(q.cell (p:=⟨bf,0,none⟩) (by show bf<_;omega)).trans h.at_,(q.frozen (p:=⟨bf,0,none⟩) (by show bf<_;omega)).trans h.atf,(q.cell (p:=⟨bl,0,none⟩) (by show bl<_;omega)).trans h.li,(q.frozen (p:=⟨bl,0,none⟩) (by show bl<_;omega)).trans h.lif,ow_below h.row q,h.kb.on (q.mono l4)⟩
theorem Fs.more {w2:World} {n0 bf bl:Nat} {a:Int} {u v:Value} {g g':List Bz} {w w':World} (h:Fs w2 n0 bf bl a u g w) (q:Below n0 w w') (o:Ob w' n0 v g'):Fs w2 n0 bf bl a v g' (w'.setCell ⟨bl,0,none⟩ v):=by
 obtain ⟨l1,l2,l3,l4⟩:=h.low
 have c1:=(q.cell (p:=⟨bf,0,none⟩) (by show bf<_;omega)).trans h.at_
 have c2:=(q.cell (p:=⟨bl,0,none⟩) (by show bl<_;omega)).trans h.li
 refine ⟨⟨l1,l2,l3,Nat.le_trans l4 (Nat.le_trans q.size (by simp))⟩,(set_other l3).trans c1,?_,set_same c2,?_,ob_set o l2,(h.kb.on q).set bl 0 v (Or.inr rfl)⟩
 ·rw [World.frozen?_setCell]
  exact (q.frozen (p:=⟨bf,0,none⟩) (by show bf<_;omega)).trans h.atf
 ·rw [World.frozen?_setCell]
  exact (q.frozen (p:=⟨bl,0,none⟩) (by show bl<_;omega)).trans h.lif
theorem Fs.go {w2:World} {n0 bf bl:Nat} {a:Int} {u:Value} {g:List Bz} {w:World} (h:Fs w2 n0 bf bl a u g w) (a':Int):Fs w2 n0 bf bl a' u g (w.setCell ⟨bf,0,none⟩ (.int .i64 a')):=by
 obtain ⟨l1,l2,l3,l4⟩:=h.low
 refine ⟨⟨l1,l2,l3,Nat.le_trans l4 (by simp)⟩,set_same h.at_,by rw [World.frozen?_setCell];exact h.atf,(set_other (Ne.symm l3)).trans h.li,by rw [World.frozen?_setCell];exact h.lif,ob_set h.row l1,h.kb.set bf 0 _ (Or.inl rfl)⟩
def frp (a e:Int):List Bz:=if a<e then [(a,e)] else []
set_option maxRecDepth 100000 in
theorem fup_any (w2:World) (n0 bf bl:Nat) (a e:Int) (u:Value) (g:List Bz) (w:World) (h:Fs w2 n0 bf bl a u g w) (hg:g.length≤1000) :
 Calls Tryz.prog 137 #[.int .i64 e,.pointer (some ⟨bf,0,none⟩),.pointer (some ⟨bl,0,none⟩)] w fun e' w'=>e'=.returned (.tuple #[])∧(∃ v,Fs w2 n0 bf bl a v (g++frp a e) w')∧(∀ k,k<w.heap.size→k≠bl→u.ownBlock≠some k→w'.heap[k]?=w.heap[k]?)∧w.heap.size≤w'.heap.size:=by
 have HF:=Lib.hid h
 obtain ⟨l1,l2,l3,l4⟩:=h.low
 have c1:=h.at_
 have c2:=h.li
 have c2f:=h.lif
 have k1:bf<w.heap.size:=by omega
 have k2:bl<w.heap.size:=by omega
 by_cases c:a<e
 ·obtain ⟨v6,w6,ap,o6,b6,k6⟩:=ap_own (a,e) h.row l4 (by omega)
  have AP:=Lib.hid ap
  have d2:=(b6.cell (p:=⟨bl,0,none⟩) (by show bl<_;omega)).trans c2
  have d2f:=(b6.frozen (p:=⟨bl,0,none⟩) (by show bl<_;omega)).trans c2f
  have kd2:=cell_in d2
  have NX:Hid (Fs w2 n0 bf bl a v6 (g++frp a e) (w6.setCell ⟨bl,0,none⟩ v6)):=Lib.hid (HF.out.more b6 (by unfold frp;rw [if_pos c];exact o6))
  have KK:Hid ((∀ k,k<w.heap.size→k≠bl→u.ownBlock≠some k→(w6.setCell ⟨bl,0,none⟩ v6).heap[k]?=w.heap[k]?)∧w.heap.size≤(w6.setCell ⟨bl,0,none⟩ v6).heap.size):=Lib.hid ⟨fun k hk h1 h3=>(Below.heap_setCell w6 ⟨bl,0,none⟩ v6 k (by show k≠bl;exact h1)).trans (k6 k hk h3),Nat.le_trans b6.size (by simp)⟩
  obtain ⟨p6,n6,q6,ev6⟩:∃ p6 n6 q6,v6=.slice p6 n6 q6:=by
   obtain ⟨p6,q6,ev6,_⟩:=Ob.rb o6
   exact ⟨p6,_,q6,ev6⟩
  subst ev6
  clear ap o6 b6 h k6
  go_enter Tryz.func137,Tryz.ntmps137
  go_wp2_with (at_builtin;refine wpl_app rfl _ _ 46 rfl _ _ _ _ rfl rfl AP.out ?_)
  go_end0
  exact ⟨rfl,⟨_,NX.out⟩,KK.out⟩
 ·have NX:Hid (Fs w2 n0 bf bl a u (g++frp a e) w):=Lib.hid (by unfold frp;rw [if_neg c,List.append_nil];exact HF.out)
  clear h
  go_enter Tryz.func137,Tryz.ntmps137
  go_wp2
  go_end0
  exact ⟨rfl,⟨_,NX.out⟩,fun _ _ _ _=>rfl,Nat.le_refl _⟩
def faF (l:List Bz) (fr t:Int):Int:=if reF l 0=0 then onF (fr,t) else reF l 0
def faL (l:List Bz) (fr t:Int):List Bz:=if faF l fr t=0 then fre t fr (nrm l) else []
theorem fre_step (e a:Int) (m:List Bz) (k:Nat) (h:k<m.length):fre e a (m.drop k)=frp a (min (m.getD k (0,0)).1 e)++fre e (max a (m.getD k (0,0)).2) (m.drop (k + 1)):=by
 rw [List.drop_eq_getElem_cons h,List.getD_eq_getElem?_getD,List.getElem?_eq_getElem h]
 rfl
theorem frp_len (a e:Int):(frp a e).length≤1:=by unfold frp;split <;> simp
set_option maxRecDepth 100000 in
set_option maxHeartbeats 4000000 in
theorem fra_yes (hS:SrtH) (l:List Bz) (fr t:Int) (v:Value) (w:World) (hv:Rb w v l) (hl:l.length≤900) (h:reF l 0=0) (h2:onF (fr,t)=0) :
 Calls Tryz.prog 82 #[v,.int .i64 fr,.int .i64 t] w (NmA w (fre t fr (nrm l)) 0):=by
 have b1:=below_one w (.cells #[.int .i64 fr] 3)
 have c1:(w.alloc (.cells #[.int .i64 fr] 3)).cell? ⟨w.heap.size,0,none⟩=some (.int .i64 fr):=by simp
 have c1f:(w.alloc (.cells #[.int .i64 fr] 3)).frozen? ⟨w.heap.size,0,none⟩=false:=by simp
 obtain ⟨W1,hW1⟩:∃ W1,W1=w.alloc (.cells #[.int .i64 fr] 3):=⟨_,rfl⟩
 rw [← hW1] at b1 c1 c1f
 have z1:w.heap.size<W1.heap.size:=cell_in c1
 have HW1:=Lib.hid hW1
 have B1:=Lib.hid b1
 have C1:=Lib.hid c1
 have C1f:=Lib.hid c1f
 have Z1:=Lib.hid z1
 have HV:=Lib.hid (hv.on b1)
 have HS:=Lib.hid hS
 have GD:=Lib.hid (reF_zero.1 h)
 have LL:=Lib.hid hl
 have K:=Lib.hid (eac_any l v W1 (hv.on b1) (Nat.le_trans hl (by decide)))
 rw [h] at K
 have M2:=nrm_len (gd_rt GD.out)
 have H2:=Lib.hid h2
 have MI:Hid (Wt 1 157785119 (nrm l)):=Lib.hid (nrm_in (gd_rt GD.out) (gd_wt GD.out))
 obtain ⟨M,hM⟩:∃ M,M=nrm l:=⟨_,rfl⟩
 rw [← hM] at M2 MI ⊢
 have HM:=Lib.hid hM
 have M3:M.length≤900:=Nat.le_trans M2 hl
 obtain ⟨R,hR⟩:∃ R,R=fre t fr M:=⟨_,rfl⟩
 rw [← hR]
 have HR:=Lib.hid hR
 have eg:∀ args w,(callFunc 137 args).run Tryz.prog w=.ok (.enter 137 args) w:=enters_of Tryz.func137 (by kernel_rfl) rfl
 clear b1 c1 c1f hW1 hv hS h h2 hM hR z1 hl M2
 go_enter Tryz.func82,Tryz.ntmps82
 go_upto_region 1 with fail
 rw [← HW1.out]
 go_wp2_with fail
 refine K.out.mono ?_
 rintro e w3 ⟨rfl,hb⟩
 have B3:=Lib.hid hb
 have c3:=(hb.cell (p:=⟨w.heap.size,0,none⟩) Z1.out).trans C1.out
 have z3:=cell_in c3
 have K2:=Lib.hid (one_any (fr,t) w3)
 rw [H2.out] at K2
 have fz:fault 0=.nilIface:=rfl
 rw [fz] at K2 ⊢
 clear hb K fz
 go_wp2_with fail
 refine K2.out.mono ?_
 rintro e w4 ⟨rfl,hb⟩
 have B4:=Lib.hid hb
 clear hb K2
 have b5:=below_one w4 (.cells #[.slice none 0 0] 46)
 have c5:(w4.alloc (.cells #[.slice none 0 0] 46)).cell? ⟨w4.heap.size,0,none⟩=some (.slice none 0 0):=by simp
 have c5f:(w4.alloc (.cells #[.slice none 0 0] 46)).frozen? ⟨w4.heap.size,0,none⟩=false:=by simp
 go_upto_region 8 with fail
 obtain ⟨W5,hW5⟩:∃ W5,W5=w4.alloc (.cells #[.slice none 0 0] 46):=⟨_,rfl⟩
 rw [← hW5] at b5 c5 c5f ⊢
 have q4:Below w3.heap.size w3 W5:=B4.out.trans (b5.mono B4.out.size)
 have q3:Below W1.heap.size W1 W5:=B3.out.trans (q4.mono B3.out.size)
 have K5:=Lib.hid (mrg_any HS.out l v W5 (HV.out.on q3) (Nat.le_trans LL.out (by decide)) GD.out)
 rw [← HM.out] at K5
 have q5:=Lib.hid b5
 have Q3:=Lib.hid q3
 have Q4:=Lib.hid q4
 have C5:=Lib.hid c5
 have C5f:=Lib.hid c5f
 have C3:=Lib.hid c3
 have ZA0:Hid (w.heap.size<W1.heap.size∧W1.heap.size≤w3.heap.size∧w3.heap.size≤w4.heap.size∧w4.heap.size<W5.heap.size):=Lib.hid ⟨Z1.out,B3.out.size,B4.out.size,cell_in c5⟩
 clear b5 c5 c5f hW5 q4 q3 c3 z3
 go_wp2_with fail
 refine K5.out.mono ?_
 rintro e w6 ⟨u,rfl,ho,hb⟩
 obtain ⟨a,cap,ev,_⟩:=ho.rb
 subst ev
 have z4:=ZA0.out
 have z5:W5.heap.size≤w6.heap.size:=hb.size
 have d1:w6.cell? ⟨w.heap.size,0,none⟩=some (.int .i64 fr):=(hb.cell (p:=⟨w.heap.size,0,none⟩) (by show w.heap.size<_;omega)).trans ((Q4.out.cell (p:=⟨w.heap.size,0,none⟩) (by show w.heap.size<_;omega)).trans C3.out)
 have d1f:w6.frozen? ⟨w.heap.size,0,none⟩=false:=(hb.frozen (p:=⟨w.heap.size,0,none⟩) (by show w.heap.size<_;omega)).trans ((Q3.out.frozen (p:=⟨w.heap.size,0,none⟩) Z1.out).trans C1f.out)
 have d5:w6.cell? ⟨w4.heap.size,0,none⟩=some (.slice none 0 0):=(hb.cell (p:=⟨w4.heap.size,0,none⟩) (by show w4.heap.size<_;omega)).trans C5.out
 have d5f:w6.frozen? ⟨w4.heap.size,0,none⟩=false:=(hb.frozen (p:=⟨w4.heap.size,0,none⟩) (by show w4.heap.size<_;omega)).trans C5f.out
 have F0:Hid (Fs w6 w6.heap.size w.heap.size w4.heap.size fr (.slice none 0 0) [] w6):=Lib.hid ⟨⟨by omega,by omega,by omega,Nat.le_refl _⟩,d1,d1f,d5,d5f,World.ownsRow_nil _ _ _ _,Kb.refl _ _ _ _⟩
 have O5:Hid (Ob w6 W5.heap.size (.slice a M.length cap) M):=Lib.hid ho
 have OA:Hid (∀ g,(Value.slice a M.length cap).ownBlock=some g→W5.heap.size≤g∧g<w6.heap.size):=Lib.hid (fun g hg=>O5.out.lt g hg)
 have BA:Hid (Below w.heap.size w w6):=Lib.hid (B1.out.trans ((Q3.out.mono B1.out.size).trans (hb.mono (Nat.le_trans B1.out.size Q3.out.size))))
 have ZA:Hid (w.heap.size<W5.heap.size∧w4.heap.size<W5.heap.size∧W5.heap.size≤w6.heap.size∧w.heap.size<w4.heap.size):=Lib.hid ⟨by omega,by omega,z5,by omega⟩
 clear z4 z5 d1 d1f d5 d5f ho hb C3 C5 C5f Q3 Q4 q5 ZA0 B4 B3 B1 HW1 C1 C1f Z1 K5
 obtain ⟨bl,hbl⟩:∃ bl,bl=w4.heap.size:=⟨_,rfl⟩
 obtain ⟨bf,hbf⟩:∃ bf,bf=w.heap.size:=⟨_,rfl⟩
 rw [← hbl,← hbf] at F0 ⊢
 have HBL:=Lib.hid hbl
 have HBF:=Lib.hid hbf
 clear hbl hbf
 go_wp2_with fail
 go_loopw [30,13] (fun i _ wr=>∃ (k:Nat) (x:Value) (at_:Int) (g:List Bz),k≤M.length∧i=.int .i64 k∧Hid (Fs w6 w6.heap.size bf bl at_ x g wr)∧Hid (g++fre t at_ (M.drop k)=R)∧Hid (g.length≤k)) (fun i _ _=>M.length - (intOf i).toNat)
 case atStart=>exact ⟨0,_,fr,[],Nat.zero_le _,rfl,F0,Lib.hid (by rw [HR.out];rfl),Lib.hid (by simp)⟩
 case round=>
  obtain ⟨k,x,at_,g,hk,rfl,HF,HE,HL⟩:=hrel
  by_cases hlt:k<M.length
  ·obtain ⟨b,off,rfl,_,c1,c2⟩:=rb_at O5.out.rb hlt
   obtain ⟨s1,s2⟩:=OA.out b rfl
   obtain ⟨s3,s4,s5,s6⟩:=ZA.out
   have e1:=(HF.out.kb.cell (o:=off + k * 2) (b:=b) (by omega) (by rw [HBF.out];omega) (by rw [HBL.out];omega)).trans c1
   have e2:=(HF.out.kb.cell (o:=off + k * 2 + 1) (b:=b) (by omega) (by rw [HBF.out];omega) (by rw [HBL.out];omega)).trans c2
   have el:=cell_in e1
   have ST:=Lib.hid (fre_step t at_ M k hlt)
   obtain ⟨X,hX⟩:∃ X,X=M.getD k (0,0):=⟨_,rfl⟩
   rw [← hX] at e1 e2 ST
   clear hX c1 c2 s1 s2 s3 s4 s5 s6
   have T3:=BBx.new wr X 99
   have b3:=below_one wr (.cells #[.int .i64 X.1,.int .i64 X.2] 99)
   obtain ⟨W7,hW7⟩:∃ W7,W7=wr.alloc (.cells #[.int .i64 X.1,.int .i64 X.2] 99):=⟨_,rfl⟩
   rw [← hW7] at T3 b3
   have HW7:=Lib.hid hW7
   have HT:=Lib.hid T3
   have F6:=Lib.hid (HF.out.on b3)
   have XB:Hid (wr.heap.size<W7.heap.size∧w6.heap.size≤wr.heap.size):=Lib.hid ⟨cell_in T3.1,HF.out.low.2.2.2⟩
   clear hW7 T3 b3
   go_upto_region 12 with fail
   rw [← HW7.out]
   clear HW7 e1 e2 el
   obtain ⟨t0,t1⟩:=HT.out
   have tl:=cell_in t0
   have K3:=Lib.hid (fup_any w6 w6.heap.size bf bl at_ (min X.1 t) x g W7 F6.out (by have:=HL.out;omega))
   go_wp2_with fail
   refine K3.out.mono ?_
   rintro e w7 ⟨rfl,⟨y,hF7⟩,hk7,hs7⟩
   have F7:=Lib.hid hF7
   have xk:w7.heap[wr.heap.size]?=W7.heap[wr.heap.size]?:=hk7 _ XB.out.1 (by have:=HF.out.low;omega) (fun e=>by have:=(HF.out.row.lt _ e).2;omega)
   have r0:w7.cell? ⟨wr.heap.size,0,none⟩=some (.int .i64 X.1):=by rw [← t0];simp [World.cell?,xk]
   have r1:w7.cell? ⟨wr.heap.size,1,none⟩=some (.int .i64 X.2):=by rw [← t1];simp [World.cell?,xk]
   have rl:=cell_in r0
   have p0:=hF7.at_
   have p0f:=hF7.atf
   have pl:=cell_in p0
   have F8:=Lib.hid (hF7.go (max at_ X.2))
   have E8:Hid ((g++frp at_ (min X.1 t))++fre t (max at_ X.2) (M.drop (k + 1))=R):=Lib.hid (by rw [List.append_assoc,← ST.out,HE.out])
   have L8:Hid ((g++frp at_ (min X.1 t)).length≤k + 1):=Lib.hid (by have:=HL.out;have:=frp_len at_ (min X.1 t);rw [List.length_append];omega)
   clear hF7 K3 hk7 hs7 xk t0 t1 tl
   go_wp2
   go_roundw
   case rel=>exact ⟨k + 1,y,_,_,by omega,by go_num,F8,E8,L8⟩
   case measure=>simp [intOf];omega
  ·have hk2:k=M.length:=by omega
   have E9:Hid (g++frp at_ t=R):=Lib.hid (by have:=HE.out;rwa [hk2,List.drop_length] at this)
   have L9:=HL.out
   have K3:=Lib.hid (fup_any w6 w6.heap.size bf bl at_ t x g wr HF.out (by omega))
   clear hk2
   go_wp2_with fail
   refine K3.out.mono ?_
   rintro e w7 ⟨rfl,⟨y,hF7⟩,_,_⟩
   have p0:=hF7.li
   have pl:=cell_in p0
   have O9:Hid (Ob w7 w.heap.size y R):=Lib.hid (by rw [← E9.out];exact own_mono hF7.row BA.out.size)
   have B9:Hid (Below w.heap.size w w7):=Lib.hid (BA.out.trans (hF7.kb.below BA.out.size (by rw [HBF.out];exact Nat.le_refl _) (by rw [HBL.out];have:=ZA.out;omega)))
   clear hF7 K3
   go_wp2
   go_ret2
   exact ⟨y,rfl,O9.out,B9.out⟩
end Go.Proofs.YtoncfgfjdlgfcaaGreatDoor.Bz
namespace Go.Proofs.YtoncfgfjdlgfcaaGreatDoor.Bz
open Go.RowKit
set_option maxRecDepth 100000 in
theorem fra_any (hS:SrtH) (l:List Bz) (fr t:Int) (v:Value) (w:World) (hv:Rb w v l) (hl:l.length≤900) :
 Calls Tryz.prog 82 #[v,.int .i64 fr,.int .i64 t] w (NmA w (faL l fr t) (faF l fr t)):=by
 by_cases h:reF l 0=0
 ·have e1:faF l fr t=onF (fr,t):=by unfold faF;rw [if_pos h]
  by_cases h2:onF (fr,t)=0
  ·have e2:faL l fr t=fre t fr (nrm l):=by unfold faL;rw [e1,if_pos h2]
   rw [e1,e2,h2]
   exact fra_yes hS l fr t v w hv hl h h2
  ·have e2:faL l fr t=[]:=by unfold faL;rw [e1,if_neg h2]
   rw [e1,e2]
   have b1:=below_one w (.cells #[.int .i64 fr] 3)
   have c1:(w.alloc (.cells #[.int .i64 fr] 3)).cell? ⟨w.heap.size,0,none⟩=some (.int .i64 fr):=by simp
   obtain ⟨W1,hW1⟩:∃ W1,W1=w.alloc (.cells #[.int .i64 fr] 3):=⟨_,rfl⟩
   rw [← hW1] at b1 c1
   have z1:w.heap.size<W1.heap.size:=cell_in c1
   have HW1:=Lib.hid hW1
   have B1:=Lib.hid b1
   have C1:=Lib.hid c1
   have K:=Lib.hid (eac_any l v W1 (hv.on b1) (Nat.le_trans hl (by decide)))
   rw [h] at K
   obtain ⟨F,hF⟩:∃ F,F=onF (fr,t):=⟨_,rfl⟩
   rw [← hF] at h2 ⊢
   have H2:=Lib.hid h2
   have HF:=Lib.hid hF
   clear b1 c1 hW1 hv hS h h2 e1 e2 hF hl
   go_enter Tryz.func82,Tryz.ntmps82
   go_upto_region 1 with fail
   rw [← HW1.out]
   go_wp2_with fail
   refine K.out.mono ?_
   rintro e w3 ⟨rfl,hb⟩
   have B3:=Lib.hid (B1.out.trans (hb.mono B1.out.size))
   have c3:=(hb.cell (p:=⟨w.heap.size,0,none⟩) z1).trans C1.out
   have z3:=cell_in c3
   have K2:=Lib.hid (one_any (fr,t) w3)
   rw [← HF.out,fault_not H2.out] at K2
   rw [show fault 0=.nilIface from rfl]
   clear hb K
   go_wp2_with fail
   refine K2.out.mono ?_
   rintro e w4 ⟨rfl,hb⟩
   have B4:=Lib.hid (B3.out.trans (hb.mono B3.out.size))
   clear hb K2
   go_wp2
   go_ret2
   exact ⟨_,by rw [fault_not H2.out];rfl,World.ownsRow_nil _ _ _ _,B4.out⟩
 ·have e1:faF l fr t=reF l 0:=by unfold faF;rw [if_neg h]
  have e2:faL l fr t=[]:=by unfold faL;rw [e1,if_neg h]
  rw [e1,e2]
  have b1:=below_one w (.cells #[.int .i64 fr] 3)
  obtain ⟨W1,hW1⟩:∃ W1,W1=w.alloc (.cells #[.int .i64 fr] 3):=⟨_,rfl⟩
  rw [← hW1] at b1
  have HW1:=Lib.hid hW1
  have B1:=Lib.hid b1
  have K:=Lib.hid (eac_any l v W1 (hv.on b1) (Nat.le_trans hl (by decide)))
  have H2:=Lib.hid h
  generalize reF l 0=F at K H2 ⊢
  clear b1 hW1 hv hS h e1 e2 hl
  go_enter Tryz.func82,Tryz.ntmps82
  go_upto_region 1 with fail
  rw [← HW1.out]
  go_wp2_with fail
  refine K.out.mono ?_
  rintro e w3 ⟨rfl,hb⟩
  have B3:=Lib.hid (B1.out.trans (hb.mono B1.out.size))
  rw [fault_not H2.out]
  clear hb K
  go_wp2
  go_ret2
  exact ⟨_,by rw [fault_not H2.out];rfl,World.ownsRow_nil _ _ _ _,B3.out⟩
def loB (n:Int) (x:Bz):Bool:=decide (n≤x.2 - x.1)
set_option maxRecDepth 100000 in
theorem lon_any (n:Int) (x:Bz) (b:Nat) (w:World) (h:Sm x) (hn:w.cell? ⟨b,0,none⟩=some (.int .i64 n)) :
 Calls Tryz.prog 84 #[agB x,.pointer (some ⟨b,0,none⟩)] w fun e w'=>e=.returned (.bool (loB n x))∧Below w.heap.size w w':=by
 have N:Hid (loB n x=decide (n≤x.2 - x.1)):=Lib.hid rfl
 generalize loB n x=R at N ⊢
 have T3:=BBx.new w x 99
 have b3:=below_one w (.cells #[.int .i64 x.1,.int .i64 x.2] 99)
 obtain ⟨W3,hW3⟩:∃ W3,W3=w.alloc (.cells #[.int .i64 x.1,.int .i64 x.2] 99):=⟨_,rfl⟩
 rw [← hW3] at T3 b3
 have HW3:=Lib.hid hW3
 have B3:=Lib.hid b3
 obtain ⟨t0,t1⟩:=T3
 have tl:=cell_in t0
 have n0:=(b3.cell (p:=⟨b,0,none⟩) (cell_in hn)).trans hn
 have nl:=cell_in n0
 have HS:=Lib.hid h
 clear hW3 b3 h hn
 go_enter Tryz.func84,Tryz.ntmps84
 go_upto_region 1 with fail
 rw [← HW3.out]
 have r0:=cell_regrown t0
 have r1:=cell_regrown t1
 have r2:=cell_regrown n0
 refine wp_region_quiet_below (by kernel_rfl) (by kernel_rfl) ?_
 repeat (go_big_quiet_step (first | (go_at_call 85;exact Calls.regrown_of (minB_any x _ HS.out))))
 refine wpQuiet_nil ?_
 intro _ hw'
 obtain ⟨⟨dq,osq⟩,hw''⟩:=hw'
 subst hw''
 have B4:=Lib.hid (B3.out.trans ((below_regrown W3 dq osq).mono B3.out.size))
 clear r0 r1 r2 t0 t1 tl n0 nl
 go_wp2
 go_ret
 exact ⟨ret_bool N.out.symm,B4.out⟩
set_option maxRecDepth 100000 in
set_option maxHeartbeats 1000000 in
theorem idxS (n:Int) (l:List Bz) (b0:Nat) (v:Value) (w:World) (hn:w.cell? ⟨b0,0,none⟩=some (.int .i64 n)) (hs:∀ x∈l,Sm x) (hh:Rb w v l) (hl:l.length≤1000000) :
 Calls Tryz.prog 83 #[v,.func (.func 84) #[] #[.pointer (some ⟨b0,0,none⟩)]] w (IdxA l (loB n) w):=by
 have HH:=Lib.hid hh
 have HC:Hid (∀ c∈l,∀ W,Below w.heap.size w W→Calls Tryz.prog 84 #[agB c,.pointer (some ⟨b0,0,none⟩)] W fun e w'=>e=.returned (.bool (loB n c))∧Below W.heap.size W w'):=Lib.hid (fun c hc W q=>lon_any n c b0 W (hs c hc) ((q.cell (p:=⟨b0,0,none⟩) (cell_in hn)).trans hn))
 obtain ⟨a,cap,rfl,_⟩:=hh
 generalize loB n=p at HC ⊢
 clear hn hs
 have eg:∀ args w,(callFunc 84 args).run Tryz.prog w=.ok (.enter 84 args) w:=enters_of Tryz.func84 (by kernel_rfl) rfl
 go_enter Tryz.func83,Tryz.ntmps83
 go_wp2
 go_loopw [8] (fun i wr=>∃ k:Nat,k≤l.length∧i=.int .i64 k∧Hid ((l.take k).any p=false)∧Below w.heap.size w wr) (fun i _=>l.length - (intOf i).toNat)
 case atStart=>exact ⟨0,Nat.zero_le _,rfl,Lib.hid rfl,Below.refl _ _⟩
 case round=>
  obtain ⟨k,hk,rfl,HF,hB⟩:=hrel
  have HB:=Lib.hid hB
  by_cases hlt:k<l.length
  ·obtain ⟨b,off,rfl,_,k1,k2⟩:=rb_at (HH.out.on hB) hlt
   have bl:=cell_in k1
   have K:=Lib.hid (HC.out (l.getD k (0,0)) (by rw [List.getD_eq_getElem?_getD,List.getElem?_eq_getElem hlt];exact List.getElem_mem _) wr hB)
   obtain ⟨X,hX⟩:∃ X,X=l.getD k (0,0):=⟨_,rfl⟩
   rw [← hX] at k1 k2 K
   have HX:=Lib.hid hX
   clear hX hB
   go_wp2_with fail
   refine K.out.mono ?_
   rintro e w2 ⟨rfl,hb⟩
   have HB2:=Lib.hid (HB.out.trans (hb.mono HB.out.size))
   clear hb K k1 k2 bl
   rcases hp:p X with _ | _
   ·have N1:=Lib.hid (any_tk p l k hlt HF.out (by rw [← HX.out];exact hp))
    go_wp2
    go_roundw
    case rel=>exact ⟨k + 1,by omega,by go_num,N1,HB2.out⟩
    case measure=>simp [intOf];omega
   ·have N1:Hid (p (l.getD k (0,0))=true):=Lib.hid (by rw [← HX.out];exact hp)
    go_wp2
    go_ret
    exact ⟨HB2.out,Or.inr ⟨k,rfl,hlt,HF.out,N1.out⟩⟩
  ·have N1:Hid (l.any p=false):=Lib.hid (by have:=HF.out;rwa [List.take_of_length_le (by omega)] at this)
   go_wp2
   go_ret
   exact ⟨HB.out,Or.inl ⟨rfl,N1.out⟩⟩
def slI (n:Int):List Bz→Int
 | []=>0
 | x :: r=>if loB n x=true then x.1 else slI n r
def slE (n:Int) (m:List Bz):Int:=if n<1∨1000000<n then 1 else if m.any (loB n)=true then 0 else 5
def slT (n:Int) (m:List Bz):Int:=if n<1∨1000000<n then 0 else slI n m
theorem slI_none {n:Int}:∀ {m:List Bz},m.any (loB n)=false→slI n m=0
 | [],_=>rfl
 | x :: r,h=>by
   rw [List.any_cons,Bool.or_eq_false_iff] at h
   unfold slI
   rw [if_neg (by rw [h.1];simp),slI_none h.2]
theorem slI_at {n:Int}:∀ {m:List Bz} {k:Nat},k<m.length→(m.take k).any (loB n)=false→loB n (m.getD k (0,0))=true→slI n m=(m.getD k (0,0)).1
 | [],k,h,_,_=>by simp at h
 | x :: r,0,_,_,hp=>by
   unfold slI
   rw [if_pos (by simpa using hp)]
   rfl
 | x :: r,k + 1,h,ha,hp=>by
   rw [List.take_succ_cons,List.any_cons,Bool.or_eq_false_iff] at ha
   unfold slI
   rw [if_neg (by rw [ha.1];simp),slI_at (k:=k) (by simpa using h) ha.2 (by simpa using hp)]
   simp
def saF (l:List Bz) (fr t n:Int):Int:=if faF l fr t=0 then slE n (faL l fr t) else faF l fr t
def saT (l:List Bz) (fr t n:Int):Int:=if faF l fr t=0 then slT n (faL l fr t) else 0
theorem faL_gd (l:List Bz) (fr t:Int):(∀ x∈faL l fr t,Gd x)∧(faL l fr t).length≤l.length + 1:=by
 unfold faL
 split
 ·rename_i h
  unfold faF at h
  split at h
  ·rename_i hz
   have gd:=onF_zero.1 h
   have RT:=gd_rt (reF_zero.1 hz)
   obtain ⟨i1,i2⟩:=fre_cn t (nrm l) fr (nrm_cn RT)
   refine ⟨fun x hx=>?_,?_⟩
   ·have a:=((i2 x.1).1 (i1.first hx)).1
    have b:=((i2 (x.2 - 1)).1 (i1.last hx)).1
    have c:=i1.2 x hx
    have d:1≤fr∧fr≤t∧t≤157785119:=gd
    exact ⟨by omega,by omega,by omega⟩
   ·have:=fre_len t (nrm l) fr
    have:=nrm_len RT
    omega
  ·omega
 ·exact ⟨fun x hx=>by simp at hx,by simp⟩
set_option maxRecDepth 100000 in
set_option maxHeartbeats 2000000 in
theorem sla_any (hS:SrtH) (l:List Bz) (fr t n:Int) (v:Value) (w:World) (hv:Rb w v l) (hl:l.length≤900) :
 Calls Tryz.prog 39 #[v,.int .i64 fr,.int .i64 t,.int .i64 n] w (TtA w (saT l fr t n) (saF l fr t n)):=by
 have b1:=below_one w (.cells #[.int .i64 n] 3)
 have c1:(w.alloc (.cells #[.int .i64 n] 3)).cell? ⟨w.heap.size,0,none⟩=some (.int .i64 n):=by simp
 obtain ⟨W1,hW1⟩:∃ W1,W1=w.alloc (.cells #[.int .i64 n] 3):=⟨_,rfl⟩
 rw [← hW1] at b1 c1
 have z1:w.heap.size<W1.heap.size:=cell_in c1
 have HW1:=Lib.hid hW1
 have B1:=Lib.hid b1
 have C1:=Lib.hid c1
 have Z1:=Lib.hid z1
 have K:=Lib.hid (fra_any hS l fr t v W1 (hv.on b1) hl)
 obtain ⟨gd,ln⟩:=faL_gd l fr t
 have GD:=Lib.hid gd
 have eT:saT l fr t n=if faF l fr t=0 then slT n (faL l fr t) else 0:=rfl
 have eF:saF l fr t n=if faF l fr t=0 then slE n (faL l fr t) else faF l fr t:=rfl
 rw [eT,eF]
 generalize faL l fr t=M at K GD ln ⊢
 generalize faF l fr t=F at K ⊢
 clear b1 c1 hW1 hv hS gd eT eF z1
 by_cases h:F=0
 ·subst h
  rw [if_pos rfl,if_pos rfl]
  by_cases h1:n<1∨1000000<n
  ·have EE:Hid (slE n M=1∧slT n M=0):=Lib.hid ⟨if_pos h1,if_pos h1⟩
   generalize slE n M=E1 at EE ⊢
   generalize slT n M=T1 at EE ⊢
   by_cases h2:n<1
   all_goals
    try (have h3:1000000<n:=by omega)
    clear h1
    go_enter Tryz.func39,Tryz.ntmps39
    go_upto_region 1 with fail
    rw [← HW1.out]
    go_wp2_with fail
    refine K.out.mono ?_
    rintro e w3 ⟨u,rfl,ho,hb⟩
    have B3:=Lib.hid (B1.out.trans (hb.mono B1.out.size))
    have c3:=(hb.cell (p:=⟨w.heap.size,0,none⟩) Z1.out).trans C1.out
    have z3:=cell_in c3
    rw [show fault 0=.nilIface from rfl]
    clear ho hb K
    go_wp2
    go_ret2
    exact ⟨by rw [EE.out.1,EE.out.2];rfl,B3.out⟩
  ·have h2:¬ n<1:=by omega
   have h3:¬ 1000000<n:=by omega
   have EE:Hid (slE n M=(if M.any (loB n)=true then 0 else 5)∧slT n M=slI n M):=Lib.hid ⟨if_neg h1,if_neg h1⟩
   generalize slE n M=E1 at EE ⊢
   generalize slT n M=T1 at EE ⊢
   clear h1
   go_enter Tryz.func39,Tryz.ntmps39
   go_upto_region 1 with fail
   rw [← HW1.out]
   go_wp2_with fail
   refine K.out.mono ?_
   rintro e w3 ⟨u,rfl,ho,hb⟩
   have B3:=Lib.hid (B1.out.trans (hb.mono B1.out.size))
   have O3:=Lib.hid ho
   have c3:=(hb.cell (p:=⟨w.heap.size,0,none⟩) Z1.out).trans C1.out
   have z3:=cell_in c3
   obtain ⟨a,cap,ev,_⟩:=ho.rb
   subst ev
   rw [show fault 0=.nilIface from rfl]
   have K2:=Lib.hid (idxS n M w.heap.size _ w3 c3 (fun x hx=>gd_sm (GD.out x hx)) ho.rb (by omega))
   clear ho hb K
   go_wp2_with fail
   refine K2.out.mono ?_
   rintro e w4 ⟨hb,hx⟩
   have B4:=Lib.hid (B3.out.trans (hb.mono B3.out.size))
   have O4:Hid (Ob w4 W1.heap.size (.slice a M.length cap) M):=Lib.hid (ow_below O3.out hb)
   clear hb K2 c3 z3 O3
   rcases hx with ⟨rfl,ha⟩ | ⟨k,rfl,hk,ha,hp⟩
   ·have N:Hid (E1=5∧T1=0):=Lib.hid ⟨by rw [EE.out.1,ha];rfl,by rw [EE.out.2,slI_none ha]⟩
    clear ha
    go_wp2
    go_ret2
    exact ⟨by rw [N.out.1,N.out.2];rfl,B4.out⟩
   ·have N:Hid (E1=0∧T1=(M.getD k (0,0)).1):=Lib.hid ⟨by
     rw [EE.out.1,if_pos (List.any_eq_true.2 ⟨_,by rw [List.getD_eq_getElem?_getD,List.getElem?_eq_getElem hk];exact List.getElem_mem _,hp⟩)],by rw [EE.out.2,slI_at hk ha hp]⟩
    obtain ⟨b,off,rfl,_,d1,d2⟩:=rb_at O4.out.rb hk
    have dl:=cell_in d1
    generalize M.getD k (0,0)=X at N d1 d2
    have kn:¬ (k:Int)<0:=by omega
    clear ha hp
    go_wp2
    go_ret2
    exact ⟨by rw [N.out.1,N.out.2];rfl,B4.out⟩
 ·rw [if_neg h,if_neg h]
  have H2:=Lib.hid h
  clear h
  go_enter Tryz.func39,Tryz.ntmps39
  go_upto_region 1 with fail
  rw [← HW1.out]
  go_wp2_with fail
  refine K.out.mono ?_
  rintro e w3 ⟨u,rfl,ho,hb⟩
  have B3:=Lib.hid (B1.out.trans (hb.mono B1.out.size))
  rw [fault_not H2.out]
  clear ho hb K
  go_wp2
  go_ret2
  exact ⟨by rw [fault_not H2.out];rfl,B3.out⟩
end Go.Proofs.YtoncfgfjdlgfcaaGreatDoor.Bz
