/-
  Texts of our own that serve the card of this claim, joined into one.
-/
import Derived.Test.YtoncfgfjdlgfcaaGreatDoorRJ
import Derived.Test.YtoncfgfjdlgfcaaGreatDoorPP
import Derived.Test.YtoncfgfjdlgfcaaGreatDoorBA
import Derived.Test.YtoncfgfjdlgfcaaGreatDoorRA
import Derived.Test.YtoncfgfjdlgfcaaGreatDoorBX
import Derived.OwnWalk
import Derived.Test.YtoncfgfjdlgfcaaGreatDoorRF
import Derived.Deep.RegionHeld3
import Derived.Deep.Cut
import Derived.Deep.CutRange
namespace Go.Proofs.YtoncfgfjdlgfcaaGreatDoor.Pp
open Go.RowKit Bz Cal Txt
set_option maxRecDepth 100000 in
set_option maxHeartbeats 4000000 in
theorem real_no (e:Evt) (s:Evs) (fr t:Int) (w:World) (hv:EvB w e s) (h:¬ evF e=0) :
 Calls Tryz.prog 61 #[.agg (ecells e s),.int .i64 fr,.int .i64 t] w fun x w'=>x=.returned (.tuple #[.slice none 0 0,fault (evF e)])∧Below w.heap.size w w':=by
 have B0:=(Below.refl w.heap.size w).alloc (Nat.le_refl _) (.cells (ecells e s) 33)
 have R0:=EBox.new w e s 33
 obtain ⟨W0,hW⟩:∃ W0,W0=w.alloc (.cells (ecells e s) 33):=⟨_,rfl⟩
 rw [← hW] at B0 R0
 have HW:=Lib.hid hW
 have HB:=Lib.hid B0
 have HE:=Lib.hid R0
 have KC:=Lib.hid (echeck_any e s W0 (hv.on B0))
 generalize evF e=F at h KC ⊢
 rw [fault_not h] at KC ⊢
 clear hv B0 R0 hW h
 go_enter Tryz.func61,Tryz.ntmps61
 go_upto_region 1 with fail
 rw [← HW.out]
 clear HW
 go_wp2_with (refine ev_load ?h1 (.tmp 3) ?h2 w.heap.size e s ?h3 HE.out ?h4;(case h1=>rfl);(case h2=>rfl);(case h3=>rfl))
 refine KC.out.mono ?_
 rintro y w1 ⟨rfl,hb⟩
 have B1:=Lib.hid (HB.out.trans (hb.mono HB.out.size))
 clear hb KC HB HE
 go_wp2
 go_ret2
 exact ⟨rfl,B1.out⟩
def isMn (y m:Int):Prop:=1900≤y∧y≤2199∧1≤m∧m≤12
theorem mn_one {y m:Int} (h:isMn y m):okD y m 1:=⟨h.1,h.2.1,h.2.2.1,h.2.2.2,by omega,by have:=ml_bd y m;omega⟩
theorem mn_bd {y m:Int} (h:isMn y m):1≤num y m 1∧num y m 1 + ml y m - 1≤109573:=by
 have a:=num_bd (mn_one h)
 have b:=ml_bd y m
 have c:=num_bd (y:=y) (m:=m) (d:=ml y m) ⟨h.1,h.2.1,h.2.2.1,h.2.2.2,by omega,by omega⟩
 have e:num y m (ml y m)=num y m 1 + ml y m - 1:=by unfold num;omega
 omega
def cnt1 (lo:Int) (l:List Int) (c:Int):List Int:=l.set ((c - lo) / 1440).toNat (l.getD ((c - lo) / 1440).toNat 0 + 1)
def cntL (lo:Int) (l:List Int) (cs:List Int):List Int:=cs.foldl (cnt1 lo) l
theorem cnt1_len (lo:Int) (l:List Int) (c:Int):(cnt1 lo l c).length=l.length:=by unfold cnt1;rw [List.length_set]
theorem cntL_len (lo:Int):∀ (cs l:List Int),(cntL lo l cs).length=l.length
 | [],_=>rfl
 | c :: r,l=>by
   show (cntL lo (cnt1 lo l c) r).length=_
   rw [cntL_len lo r,cnt1_len]
theorem cntL_step (lo:Int) (cs l:List Int) (k:Nat) (h:k<cs.length):cntL lo l (cs.take (k + 1))=cnt1 lo (cntL lo l (cs.take k)) (cs.getD k 0):=by
 unfold cntL
 rw [List.take_succ_eq_append_getElem h,List.foldl_append,List.getD_eq_getElem?_getD,List.getElem?_eq_getElem h]
 rfl
def Lb (n:Nat) (l:List Int):Prop:=∀ i,0≤l.getD i 0∧l.getD i 0≤n
theorem Lb.mono {n m:Nat} {l:List Int} (h:Lb n l) (q:n≤m):Lb m l:=fun i=>⟨(h i).1,by have:=(h i).2;omega⟩
theorem Lb.one {n:Nat} {l:List Int} (h:Lb n l) (lo c:Int):Lb (n + 1) (cnt1 lo l c):=fun i=>by
 unfold cnt1
 have a:=h i
 have b:=h ((c - lo) / 1440).toNat
 simp only [List.getD_eq_getElem?_getD,List.getElem?_set] at a b ⊢
 split
 ·split
  ·simp only [Option.getD_some]
   omega
  ·simp
   omega
 ·omega
theorem Lb.zero (n:Nat):Lb 0 (List.replicate n 0):=fun i=>by
 rw [List.getD_eq_getElem?_getD,List.getElem?_replicate]
 split <;> simp
def evC (lo hi:Int) (e:Evt):List Int:=(mom e (loE lo) (hiE hi)).map (·.2)
def ldG (lo hi:Int) (l:List Int) (L:List (Evt × Evs)):List Int:=L.foldl (fun l x=>cntL lo l (evC lo hi x.1)) l
theorem ldG_len (lo hi:Int):∀ (L:List (Evt × Evs)) (l:List Int),(ldG lo hi l L).length=l.length
 | [],_=>rfl
 | x :: r,l=>by
   show (ldG lo hi (cntL lo l (evC lo hi x.1)) r).length=_
   rw [ldG_len lo hi r,cntL_len]
theorem ldG_step (lo hi:Int) (l:List Int) (L:List (Evt × Evs)) (k:Nat) (h:k<L.length):ldG lo hi l (L.take (k + 1))=cntL lo (ldG lo hi l (L.take k)) (evC lo hi L[k].1):=by
 unfold ldG
 rw [List.take_succ_eq_append_getElem h,List.foldl_append]
 rfl
def mlo (y m:Int):Int:=(num y m 1 - 1) * 1440
def mhi (y m:Int):Int:=mlo y m + ml y m * 1440 - 1
instance (y m:Int):Decidable (isMn y m):=by unfold isMn;infer_instance
def ldF (y m:Int) (L:List (Evt × Evs)):Int:=if ¬ isMn y m then 1 else if 20<L.length then 4 else teG evF L
def ldL (y m:Int) (L:List (Evt × Evs)):List Int:=if ldF y m L=0 then ldG (mlo y m) (mhi y m) (List.replicate (ml y m).toNat 0) L else []
theorem mlo_bd {y m:Int} (h:isMn y m):0≤mlo y m∧mhi y m≤157785119∧1≤mhi y m∧hiE (mhi y m)=mhi y m:=by
 have a:=mn_bd h
 have b:=ml_bd y m
 unfold hiE mhi mlo
 refine ⟨by omega,by omega,by omega,?_⟩
 split <;> omega
theorem loE_le (lo:Int):lo≤loE lo:=by unfold loE;split <;> omega
theorem evC_mem {y m c:Int} {e:Evt} (hm:isMn y m) (he:evF e=0) (h:c∈evC (mlo y m) (mhi y m) e):mlo y m≤c∧c≤mhi y m∧(c - mlo y m) / 1440<ml y m:=by
 obtain ⟨h0,h1,h2,h3⟩:=mlo_bd hm
 obtain ⟨x,hx,rfl⟩:=List.mem_map.1 h
 rw [h3] at hx
 have ll:=loE_le (mlo y m)
 have hb:mhi y m=mlo y m + ml y m * 1440 - 1:=rfl
 have mb:=ml_bd y m
 have i1:ist (loE (mlo y m))=true:=ist_yes (by unfold loE;split <;> omega) (by unfold loE;split <;> omega)
 have i2:ist (mhi y m)=true:=ist_yes (by omega) (by omega)
 obtain ⟨_,_,q1,q2⟩:=(mom_mem he i1 i2).1 hx
 refine ⟨by omega,q2,?_⟩
 have:mhi y m=mlo y m + ml y m * 1440 - 1:=rfl
 omega
theorem evC_len {lo hi:Int} {e:Evt} (he:evF e=0):(evC lo hi e).length≤200200:=by
 unfold evC mom
 rw [List.length_map,List.length_append]
 have:=sty_len (fr:=loE lo) (t:=hiE hi) he
 have:=mvd_len (fr:=loE lo) (t:=hiE hi) he
 omega
set_option maxRecDepth 100000 in
set_option maxHeartbeats 4000000 in
theorem cnt_any (g bl bb mm n0:Nat) (lo c:Int) (k:Nat) (l:List Int) (w:World) (hl:w.cell? ⟨bl,0,none⟩=some (.slice (some ⟨g,0,none⟩) mm mm)) (hb:w.cell? ⟨bb,0,none⟩=some (.int .i64 lo)) (ho:w.ownsRow n0 3 1 (.slice (some ⟨g,0,none⟩) mm mm) mm (nums l)) (hn:l.length=mm)
 (h0:0≤lo) (h1:lo≤c) (h2:c≤157785119) (hk:(c - lo) / 1440=(k:Int)) (hk2:k<mm) (hx:0≤l.getD k 0∧l.getD k 0≤100000000) (_hmm:mm≤31) :
 Calls Tryz.prog 60 #[.int .i64 c,.pointer (some ⟨bl,0,none⟩),.pointer (some ⟨bb,0,none⟩)] w fun x w'=>x=.returned (.tuple #[])∧w'=w.setCell ⟨g,k,none⟩ (.int .i64 (l.getD k 0 + 1)):=by
 have ck:w.cell? ⟨g,k,none⟩=some (.int .i64 (l.getD k 0))∧w.frozen? ⟨g,k,none⟩=false:=by
  have hO2:=ho
  rw [← hn] at hO2
  rcases own_hol hO2 with ⟨q,_⟩ | ⟨g',cap',q,_,_,_,hh⟩
  ·cases q
  ·obtain ⟨rfl,_⟩:g=g'∧l.length=cap':=by simpa using q
   have:=hh k (by omega)
   rwa [Nat.zero_add] at this
 obtain ⟨c1,f1⟩:=ck
 have l1:=ecell_in hl
 have l2:=ecell_in hb
 have l3:=ecell_in c1
 generalize l.getD k 0=x at c1 hx ⊢
 clear ho hn
 go_enter Tryz.func60,Tryz.ntmps60
 go_wp2
 go_end0
 exact ⟨rfl,rfl⟩
end Go.Proofs.YtoncfgfjdlgfcaaGreatDoor.Pp
namespace Go.Proofs.YtoncfgfjdlgfcaaGreatDoor.Pp
open Go.RowKit Bz Cal Txt
theorem set_two (l:List Int) (i j:Nat):(l.set i (l.getD i 0 + 1)).set j ((l.set i (l.getD i 0 + 1)).getD j 0 + 1)=(l.set j (l.getD j 0 + 1)).set i ((l.set j (l.getD j 0 + 1)).getD i 0 + 1):=by
 by_cases e:i=j
 ·subst e;rfl
 ·apply List.ext_getElem?
  intro k
  simp only [List.getD_eq_getElem?_getD,List.getElem?_set,List.length_set]
  rw [if_neg e,if_neg (Ne.symm e)]
  have e2:¬ j=i:=fun q=>e q.symm
  by_cases h1:i=k
  ·subst h1
   simp [e2]
  ·simp [h1]
theorem cnt1_two (lo:Int) (l:List Int) (a b:Int):cnt1 lo (cnt1 lo l a) b=cnt1 lo (cnt1 lo l b) a:=set_two l _ _
theorem cntL_perm {lo:Int} {x y:List Int} (h:x.Perm y):∀ l:List Int,cntL lo l x=cntL lo l y:=by
 induction h with
 | nil=>exact fun _=>rfl
 | cons a _ ih=>exact fun l=>ih (cnt1 lo l a)
 | swap a b r=>
   intro l
   show cntL lo (cnt1 lo (cnt1 lo l b) a) r=cntL lo (cnt1 lo (cnt1 lo l a) b) r
   rw [cnt1_two]
 | trans _ _ i j=>exact fun l=>(i l).trans (j l)
theorem perm_ext:∀ {l m:List (Int × Int)},l.Nodup→m.Nodup→(∀ x,x∈l↔x∈m)→l.Perm m
 | [],m,_,_,h=>by
   have:m=[]:=List.eq_nil_iff_forall_not_mem.2 (fun x hx=>by simpa using (h x).2 hx)
   rw [this]
 | a :: r,m,hl,hm,h=>by
   obtain ⟨p1,p2⟩:=List.nodup_cons.1 hl
   have ha:a∈m:=(h a).1 (by simp)
   refine List.Perm.trans (List.Perm.cons a ?_) (List.perm_cons_erase ha).symm
   refine perm_ext p2 (hm.erase a) (fun x=>?_)
   rw [hm.mem_erase_iff]
   constructor
   ·intro hx
    exact ⟨fun e=>p1 (e ▸ hx),(h x).1 (List.mem_cons_of_mem _ hx)⟩
   ·rintro ⟨ne,hx⟩
    rcases List.mem_cons.1 ((h x).2 hx) with q | q
    ·exact absurd q ne
    ·exact q
def pkR (e:Evt) (lo hi x:Int):Option Int:=match rea e x with | none=>none | some n=>if lo≤n∧n≤hi then some n else none
theorem rea_on (e:Evt) (x:Int):rea e x=if onB e.chg x=true then some ((chOf e.chg x).getD x) else none:=by
 unfold rea onB
 rcases chOf e.chg x with _ | n
 ·rfl
 ·by_cases q:n=0
  ·simp [q]
  ·simp [q]
theorem pairs_snd (e:Evt) (lo hi:Int) (p:List Int):(p.filterMap (fun x=>(pkR e lo hi x).map (fun r=>(x,r)))).map (·.2)=p.filterMap (pkR e lo hi):=by
 rw [List.map_filterMap]
 congr 1
 funext x
 cases pkR e lo hi x <;> rfl
theorem nodup_of {l:List (Int × Int)} (h:l.Pairwise (fun a b=>a.1≠b.1)):l.Nodup:=h.imp (fun q e=>q (by rw [e]))
theorem cnt_doc {e:Evt} {y m:Int} {p:List Int} (hm:isMn y m) (h:evF e=0) (hr:p.Pairwise (·<·)) (hp:∀ x,x∈p↔x∈dcL e (mlo y m) (mhi y m)∨x∈chD e) (l:List Int) :
 cntL (mlo y m) l (p.filterMap (pkR e (mlo y m) (mhi y m)))=cntL (mlo y m) l (evC (mlo y m) (mhi y m) e):=by
 obtain ⟨h0,h1,h2,h3⟩:=mlo_bd hm
 have lb:(1≤mlo y m∧loE (mlo y m)=mlo y m)∨(mlo y m=0∧loE (mlo y m)=1):=by unfold loE;split <;> omega
 have hb:mhi y m=mlo y m + ml y m * 1440 - 1:=rfl
 have mb:=ml_bd y m
 have ii:∀ x,ist x=true→1≤x:=fun x q=>(of_decide_eq_true q).1
 have i1:ist (loE (mlo y m))=true:=ist_yes (by omega) (by omega)
 have i2:ist (mhi y m)=true:=ist_yes (by omega) (by omega)
 rw [← pairs_snd]
 unfold evC
 refine cntL_perm (List.Perm.map _ (perm_ext (nodup_of ?_) (nodup_of (mom_apart h i1 (by rw [h3];exact i2))) (fun c=>?_))) l
 ·rw [List.pairwise_filterMap]
  refine hr.imp (fun {a b} hab c hc d hd=>?_)
  obtain ⟨_,_,rfl⟩:=Option.map_eq_some_iff.1 hc
  obtain ⟨_,_,rfl⟩:=Option.map_eq_some_iff.1 hd
  show a≠b
  omega
 ·rw [h3,mom_mem h i1 i2,List.mem_filterMap]
  constructor
  ·rintro ⟨x,hx,hc⟩
   obtain ⟨r,hr2,rfl⟩:=Option.map_eq_some_iff.1 hc
   have hE:isE e x:=by
    rcases (hp x).1 hx with q | q
    ·exact ((dcL_mem h).1 q).1
    ·exact ((chD_mem h x).1 q).1
   unfold pkR at hr2
   split at hr2
   ·cases hr2
   ·rename_i n hn
    split at hr2
    ·rename_i q
     cases hr2
     have:=ii _ (rea_time h hE hn)
     exact ⟨hE,hn,by omega,q.2⟩
    ·cases hr2
  ·rintro ⟨hE,hr2,q1,q2⟩
   have hin:c.1∈p:=by
    refine (hp _).2 ?_
    rcases q:chOf e.chg c.1 with _ | n
    ·left
     have e2:c.2=c.1:=by
      unfold rea at hr2
      rw [q] at hr2
      simpa using hr2.symm
     exact (dcL_mem h).2 ⟨hE,by omega,by omega⟩
    ·exact Or.inr ((chD_mem h _).2 ⟨hE,n,q⟩)
   refine ⟨c.1,hin,?_⟩
   unfold pkR
   rw [hr2]
   simp only []
   rw [if_pos (by omega)]
   rfl
theorem cntL_app (lo:Int) (l a:List Int) (n:Int):cntL lo l (a++[n])=cnt1 lo (cntL lo l a) n:=by unfold cntL;rw [List.foldl_append];rfl
theorem pk_skip {e:Evt} {lo hi:Int} {p:List Int} {j:Nat} (hj:j<p.length) (h:pkR e lo hi (p.getD j 0)=none):(p.take (j + 1)).filterMap (pkR e lo hi)=(p.take j).filterMap (pkR e lo hi):=by
 rw [List.take_succ_eq_append_getElem hj,List.filterMap_append]
 rw [List.getD_eq_getElem?_getD,List.getElem?_eq_getElem hj] at h
 have h2:pkR e lo hi p[j]=none:=h
 simp [h2]
theorem pk_hit {e:Evt} {lo hi n:Int} {p:List Int} {j:Nat} (hj:j<p.length) (h:pkR e lo hi (p.getD j 0)=some n):(p.take (j + 1)).filterMap (pkR e lo hi)=(p.take j).filterMap (pkR e lo hi)++[n]:=by
 rw [List.take_succ_eq_append_getElem hj,List.filterMap_append]
 rw [List.getD_eq_getElem?_getD,List.getElem?_eq_getElem hj] at h
 have h2:pkR e lo hi p[j]=some n:=h
 simp [h2]
theorem pk_off {e:Evt} {lo hi x:Int} (h:onB e.chg x=false):pkR e lo hi x=none:=by
 unfold pkR
 rw [rea_on,h]
 rfl
theorem pk_in {e:Evt} {lo hi x:Int} (h:onB e.chg x=true) (q:lo≤(chOf e.chg x).getD x∧(chOf e.chg x).getD x≤hi):pkR e lo hi x=some ((chOf e.chg x).getD x):=by
 unfold pkR
 rw [rea_on,h]
 exact if_pos q
theorem pk_out {e:Evt} {lo hi x:Int} (h:onB e.chg x=true) (q:¬ (lo≤(chOf e.chg x).getD x∧(chOf e.chg x).getD x≤hi)):pkR e lo hi x=none:=by
 unfold pkR
 rw [rea_on,h]
 exact if_neg q
end Go.Proofs.YtoncfgfjdlgfcaaGreatDoor.Pp
namespace Go.Proofs.YtoncfgfjdlgfcaaGreatDoor.Pp
open Go.RowKit Bz Cal Txt
def LdA (w:World) (l:List Int) (f:Int) (x:Ending) (w':World):Prop:=∃ u,x=.returned (.tuple #[u,fault f])∧Wr w.heap.size w' u l∧Below w.heap.size w w'
theorem nums_set (l:List Int) (k:Nat) (x:Int):nums (l.set k x)=(nums l).set k (.int .i64 x):=by unfold nums;rw [List.map_set]
theorem made_ints (n:Nat):(madeCells #[Value.int .i64 0] n).toList=nums (List.replicate n 0):=by
 unfold nums
 rw [List.map_replicate]
 apply List.ext_getElem
 ·simp [madeCells]
 ·intro i h1 h2
  simp [madeCells,Nat.mod_one]
set_option maxRecDepth 100000 in
set_option maxHeartbeats 8000000 in
theorem load_any (L:List (Evt × Evs)) (y m:Int) (vl:Value) (w:World) (hL:Evl w vl L) (hl:L.length≤9223372036854775807) (hT:Tab w) :
 Calls Tryz.prog 22 #[vl,.int .i64 y,.int .i64 m] w (LdA w (ldL y m L) (ldF y m L)):=by
 have HL:=Lib.hid hL
 obtain ⟨ae,ce,rfl⟩:=hL.form
 by_cases hm:isMn y m
 case neg=>
  have N:Hid (ldF y m L=1∧ldL y m L=[]):=Lib.hid (by
   have e:ldF y m L=1:=by unfold ldF;rw [if_pos hm]
   exact ⟨e,by unfold ldL;rw [e];rfl⟩)
  generalize ldF y m L=F at N ⊢
  generalize ldL y m L=R at N ⊢
  have HM:=Lib.hid hm
  clear hm hL hT HL
  go_enter Tryz.func22,Tryz.ntmps22
  go_wp2_with (go_at_call 35;refine (days_no _ _ _ HM.out).mono ?_;rintro e w' ⟨rfl,rfl⟩)
  go_ret2
  exact ⟨_,by rw [N.out.1];rfl,by rw [N.out.2];exact Wr.nil _ _,Below.refl _ _⟩
 have HT:=Lib.hid hT
 obtain ⟨a1,a2,h1,h2⟩:=id hm
 by_cases h20:20<L.length
 ·have N:Hid (ldF y m L=4∧ldL y m L=[]):=Lib.hid (by
   have e:ldF y m L=4:=by unfold ldF;rw [if_neg (fun q=>q hm),if_pos h20]
   exact ⟨e,by unfold ldL;rw [e];rfl⟩)
  generalize ldF y m L=F at N ⊢
  generalize ldL y m L=R at N ⊢
  have n20:(20:Int)<(L.length:Int):=by omega
  clear hm hL HL
  go_enter Tryz.func22,Tryz.ntmps22
  go_wp2_with (go_at_call 35;refine (days_yes _ _ _ hT a1 a2 h1 h2).mono ?_;rintro e w' ⟨rfl,rfl⟩)
  go_ret2
  exact ⟨_,by rw [N.out.1];rfl,by rw [N.out.2];exact Wr.nil _ _,Below.refl _ _⟩
 have OK:=Lib.hid (mn_one hm)
 have HM:=Lib.hid hm
 have MB:=mlo_bd hm
 have EF:Hid (ldF y m L=teG evF L):=Lib.hid (by unfold ldF;rw [if_neg (fun q=>q hm),if_neg h20])
 have EL:Hid (ldL y m L=if ldF y m L=0 then ldG (mlo y m) (mhi y m) (List.replicate (ml y m).toNat 0) L else []):=Lib.hid rfl
 have EM:=Lib.hid (fun c e=>evC_mem (y:=y) (m:=m) (c:=c) (e:=e) hm)
 have D1:=days_yes y m w hT a1 a2 h1 h2
 have K1:=Lib.hid (of_yes y m 1 w hT OK.out)
 have mb:=ml_bd y m
 have hi0:mhi y m=mlo y m + ml y m * 1440 - 1:=rfl
 have lo0:mlo y m=(num y m 1 - 1) * 1440:=rfl
 have nb:=mn_bd hm
 obtain ⟨M,hM⟩:∃ M:Nat,ml y m=(M:Int):=⟨(ml y m).toNat,by omega⟩
 rw [hM] at D1 EL hi0 mb nb EM
 rw [Int.toNat_natCast] at EL
 generalize ldF y m L=RF at EF EL ⊢
 generalize ldL y m L=RL at EL ⊢
 generalize mhi y m=hi at hi0 MB EL EM
 generalize mlo y m=lo at hi0 lo0 MB EL EM
 generalize num y m 1=F at K1 lo0 nb
 have n20:¬ (20:Int)<(L.length:Int):=by omega
 have HD1:=Lib.hid D1
 have HLO:=Lib.hid lo0
 have HHI:=Lib.hid hi0
 obtain ⟨i0,hi1,hz0,hz1,hz2⟩:=info_parts info_ev_int
 have eg:∀ args w,(callFunc 60 args).run Tryz.prog w=.ok (.enter 60 args) w:=enters_of Tryz.func60 (by kernel_rfl) rfl
 clear hm hL D1 OK lo0 hi0 hT
 go_enter Tryz.func22,Tryz.ntmps22
 go_wp2_with (go_at_call 35;refine HD1.out.mono ?_;rintro e w' ⟨rfl,hw⟩;replace hw:=hw.symm;subst hw)
 refine K1.out.mono ?_
 rintro e w1 ⟨rfl,hb1⟩
 have B1:=Lib.hid hb1
 have b2:=below_one w1 (.cells #[(.int .i64 ((F - 1) * 1440))] 3)
 have c2:(w1.alloc (.cells #[(.int .i64 ((F - 1) * 1440))] 3)).cell? ⟨w1.heap.size,0,none⟩=some (.int .i64 ((F - 1) * 1440)):=by simp
 obtain ⟨W2,hW2⟩:∃ W2,W2=w1.alloc (.cells #[(.int .i64 ((F - 1) * 1440))] 3):=⟨_,rfl⟩
 rw [← hW2] at b2 c2
 have HW2:=Lib.hid hW2
 have B2:=Lib.hid b2
 have C2:=Lib.hid c2
 clear hb1 hW2 b2 c2 K1
 go_upto_region 10 with fail
 rw [← HW2.out]
 clear HW2
 go_wp2_with (at_make;refine wpList_make_full _ rfl _ _ 26 rfl w.heap.size 3 i0 (.int .i64 0) 1 Tryz.underlying26 hi1 hz0 hz1 _ _ _ _ M rfl rfl rfl rfl ?b2 ?b3 ?b4 ?_)
 case b2=>rw [hz2];omega
 case b3=>unfold maxLen;omega
 case b4=>exact Nat.le_trans B1.out.size B2.out.size
 intro w3 hown hgrow
 rw [made_ints] at hown
 have b23:Below W2.heap.size W2 w3:=(Below.refl _ _).grown hgrow (Nat.le_refl _) (fun k h=>by cases h)
 obtain ⟨g,hg⟩:∃ g,g=W2.heap.size:=⟨_,rfl⟩
 rw [← hg] at hown ⊢
 obtain ⟨bb,hbb⟩:∃ bb,bb=w1.heap.size:=⟨_,rfl⟩
 have b34:=below_one w3 (.cells #[(.slice (some ⟨g,0,none⟩) M M)] 26)
 have c4:(w3.alloc (.cells #[(.slice (some ⟨g,0,none⟩) M M)] 26)).cell? ⟨w3.heap.size,0,none⟩=some (.slice (some ⟨g,0,none⟩) M M):=by simp
 obtain ⟨bl,hbl⟩:∃ bl,bl=w3.heap.size:=⟨_,rfl⟩
 have l2:bb<W2.heap.size:=by rw [hbb];exact ecell_in C2.out
 have gl:g<w3.heap.size:=by
  rcases hown.2 with ⟨q,_⟩ | ⟨g',cap',cur,q,_,hc,_⟩
  ·cases q
  ·obtain ⟨rfl,_⟩:g=g'∧M=cap':=by simpa using q
   rcases Nat.lt_or_ge g w3.heap.size with k | k
   ·exact k
   ·rw [Array.getElem?_eq_none k] at hc;cases hc
 have c3:(w3.alloc (.cells #[(.slice (some ⟨g,0,none⟩) M M)] 26)).cell? ⟨bb,0,none⟩=some (.int .i64 ((F - 1) * 1440)):=(b34.cell (p:=⟨bb,0,none⟩) (Nat.lt_of_lt_of_le l2 b23.size)).trans ((b23.cell (p:=⟨bb,0,none⟩) l2).trans (by rw [hbb];exact C2.out))
 have B4:Below w.heap.size w (w3.alloc (.cells #[(.slice (some ⟨g,0,none⟩) M M)] 26)):=B1.out.trans ((B2.out.trans ((b23.mono B2.out.size).trans (b34.mono (Nat.le_trans B2.out.size b23.size)))).mono B1.out.size)
 obtain ⟨W4,hW4⟩:∃ W4,W4=w3.alloc (.cells #[(.slice (some ⟨g,0,none⟩) M M)] 26):=⟨_,rfl⟩
 rw [← hW4] at b34 c4 c3 B4
 have HW4:=Lib.hid hW4
 have LT:Hid (w.heap.size≤g∧w.heap.size≤bb∧w.heap.size≤bl∧bb<g∧g<bl∧bl<W4.heap.size):=Lib.hid (by
  have:=B1.out.size
  have:=ecell_in c4
  have:=b23.size
  omega)
 have O4:=Lib.hid (ow_below hown b34)
 have D4:Hid (W4.cell? ⟨bl,0,none⟩=some (.slice (some ⟨g,0,none⟩) M M)∧W4.cell? ⟨bb,0,none⟩=some (.int .i64 ((F - 1) * 1440))):=Lib.hid ⟨by rw [hbl];exact c4,c3⟩
 have HB4:=Lib.hid B4
 have ML:M≤31:=by omega
 rw [← hbb]
 clear hown b23 b34 c4 c3 B4 hW4 hgrow l2 gl C2 B2 B1 hg hbb
 go_upto_region 11 with fail
 rw [← HW4.out,← hbl]
 clear HW4 hbl
 go_wp2_with fail
 have ZS:=Lib.hid (Lb.zero M)
 have CT:=Lib.hid (fun c e (he:evF e=0) h=>EM.out c e he h)
 go_loopw [51,15,16,17,19] (fun iv _ _ _ _ wr=>∃ k:Nat,k≤L.length∧iv=.int .i64 k∧Hid (Apt g W4 wr)∧Hid (wr.ownsRow w.heap.size 3 1 (.slice (some ⟨g,0,none⟩) M M) M (nums (ldG lo hi (List.replicate M 0) (L.take k))))∧Hid (Lb (200200 * k) (ldG lo hi (List.replicate M 0) (L.take k)))∧Hid (teG evF L=teG evF (L.drop k))) (fun iv _ _ _ _ _=>L.length - (intOf iv).toNat)
 case atStart=>exact ⟨0,Nat.zero_le _,rfl,Lib.hid (Apt.refl _ _),O4,Lib.hid (by rw [Nat.mul_zero];exact ZS.out),Lib.hid rfl⟩
 case round=>
  obtain ⟨k,hk,rfl,HA,HO,HLB,HG⟩:=hrel
  obtain ⟨q1,q2,q3,q4,q5,q6⟩:=LT.out
  have BW:=Lib.hid (HB4.out.trans (HA.out.below q1 (by omega)))
  have cl:=(HA.out.cell (p:=⟨bl,0,none⟩) (by show bl<_;omega) (by show bl≠g;omega)).trans D4.out.1
  have cb:=(HA.out.cell (p:=⟨bb,0,none⟩) (by show bb<_;omega) (by show bb≠g;omega)).trans D4.out.2
  have cll:=ecell_in cl
  have cbl:=ecell_in cb
  by_cases hlt:k<L.length
  case neg=>
   have hk2:k=L.length:=by omega
   have G0:teG evF L=0:=by rw [HG.out,hk2,List.drop_length];rfl
   have N:Hid (RF=0∧RL=ldG lo hi (List.replicate M 0) L):=Lib.hid (by
    have e:RF=0:=by rw [EF.out,G0]
    exact ⟨e,by rw [EL.out,if_pos e]⟩)
   have O9:Hid (Wr w.heap.size wr (.slice (some ⟨g,0,none⟩) M M) RL):=Lib.hid (by
    have o:=HO.out
    rw [hk2,List.take_length,← N.out.2] at o
    have ln:RL.length=M:=by rw [N.out.2,ldG_len,List.length_replicate]
    unfold Wr
    rw [ln]
    exact o)
   clear q1 q2 q3 q4 q5 q6 hk2 G0
   go_wp2_with fail
   go_ret2
   exact ⟨_,by rw [N.out.1];rfl,O9.out,BW.out⟩
  obtain ⟨b,off,ea,_,bq,hr,hE⟩:=evl_at (HL.out.on BW.out) hlt
  subst ea
  have SG:=Lib.hid (teG_step evF hlt)
  have SL:=Lib.hid (ldG_step lo hi (List.replicate M 0) L k hlt)
  have LN:(ldG lo hi (List.replicate M 0) (L.take k)).length=M:=by rw [ldG_len,List.length_replicate]
  generalize L[k]=X at hr hE SG SL
  obtain ⟨e,s⟩:=X
  dsimp only at hE SG SL
  have NO:Hid (¬ evF e=0→RF=evF e∧RL=[]):=Lib.hid (fun q=>by
   have h9:teG evF L=evF e:=by rw [HG.out,SG.out,if_neg q]
   have e1:RF=evF e:=by rw [EF.out,h9]
   exact ⟨e1,by rw [EL.out,e1,if_neg q]⟩)
  have GN:Hid (evF e=0→teG evF L=teG evF (L.drop (k + 1))):=Lib.hid (fun q=>by rw [HG.out,SG.out,if_pos q])
  have OC:Hid ((ecells e s).all (fun x=>x.oneCell')=true):=Lib.hid (evB_one hE)
  have HR:=Lib.hid hr
  have HV:=Lib.hid hE
  have HTw:=Lib.hid (HT.out.below BW.out)
  generalize ldG lo hi (List.replicate M 0) (L.take k)=l0 at HO HLB SL LN
  clear hr hE SG HG q2 q3
  go_upto_region 15 with (first | (refine evr_load ?a1 (.tmp 53) ?a2 b (off + k * 17) e s ?a3 HR.out ?a4;(case a1=>rfl);(case a2=>rfl);(case a3=>rfl)) | (refine ev_store ?h1 (.tmp 15) (.tmp 54) ?h2 wr.heap.size _ _ ?h3 rfl e s ?h4 ?h5 ?h6 ?h7;(case h1=>rfl);(case h2=>rfl);(case h3=>rfl);(case h4=>exact OC.out);(case h5=>rfl);(case h6=>rfl);intro W5 r2 b2;have Q5:=Lib.hid (And.intro r2 b2);clear r2 b2))
  have c5:=(Q5.out.2.cell (p:=⟨bb,0,none⟩) cbl).trans cb
  have c5l:=ecell_in c5
  have V5:=Lib.hid (HV.out.on Q5.out.2)
  by_cases he:evF e=0
  case neg=>
   have KR:=real_no e s lo hi W5 V5.out he
   have N:=Lib.hid (NO.out he)
   have H1:=Lib.hid he
   rw [Bz.fault_not he,HHI.out,HLO.out] at KR
   have KH:=Lib.hid KR
   have B5:=Lib.hid (BW.out.trans (Q5.out.2.mono BW.out.size))
   clear KR he NO GN
   go_wp2_with (refine ev_load ?j1 (.tmp 15) ?j2 wr.heap.size e s ?j3 Q5.out.1.1 ?j4;(case j1=>rfl);(case j2=>rfl);(case j3=>rfl))
   refine KH.out.mono ?_
   rintro y w6 ⟨rfl,hb6⟩
   have B6:=Lib.hid (B5.out.trans (hb6.mono B5.out.size))
   clear hb6 KH c5 c5l
   go_wp2
   go_ret2
   exact ⟨_,by rw [N.out.1,Bz.fault_not H1.out];rfl,by rw [N.out.2];exact Wr.nil _ _,B6.out⟩
  have KR:=real_any e s lo hi W5 V5.out (HTw.out.below Q5.out.2) he
  have G2:=Lib.hid (GN.out he)
  have EE:Hid (evC lo hi e=(mom e (loE lo) (hiE hi)).map (·.2)):=Lib.hid rfl
  have CM:=Lib.hid (fun c h=>CT.out c e he h)
  have CN:=evC_len (lo:=lo) (hi:=hi) he
  generalize mom e (loE lo) (hiE hi)=ML9 at KR EE
  generalize evC lo hi e=C9 at EE CM CN SL
  have EQ:=EE.out
  subst EQ
  rw [HHI.out,HLO.out] at KR
  have KH:=Lib.hid KR
  clear KR he NO GN EE
  go_wp2_with (refine ev_load (by rfl) (.tmp 15) (by rfl) wr.heap.size e s (by rfl) Q5.out.1.1 ?_)
  refine KH.out.mono ?_
  rintro y w6 ⟨u6,rfl,ho6,hb6⟩
  obtain ⟨pa,pc,eu,hc⟩:=Zo.own_prs ho6
  subst eu
  have HC:=Lib.hid hc
  have ws:=HA.out.size
  have wq:=Q5.out.2.size
  have PG:Hid (∀ pb po,pa=some ⟨pb,po,none⟩→pb≠g):=Lib.hid (fun pb po q=>by
   rcases ho6.2 with ⟨z,_⟩ | ⟨g',cap',cur,z,hb',_⟩
   ·rw [q] at z;cases z
   ·rw [q] at z
    obtain ⟨⟨rfl,_⟩,_⟩:(pb=g'∧po=0)∧pc=cap':=by simpa using z
    omega)
  have b6:=Q5.out.2.trans (hb6.mono Q5.out.2.size)
  have A6:=Lib.hid (HA.out.trans (apt_below g b6))
  have O6:=Lib.hid (ow_below HO.out b6)
  have C6:=Lib.hid (And.intro ((b6.cell (p:=⟨bl,0,none⟩) cll).trans cl) ((b6.cell (p:=⟨bb,0,none⟩) cbl).trans cb))
  have LBL:Hid (bl<w6.heap.size∧bb<w6.heap.size∧bl≠g∧bb≠g):=Lib.hid ⟨by have:=b6.size;omega,by have:=b6.size;omega,by omega,by omega⟩
  clear ho6 hb6 hc b6 KH V5 c5 c5l cl cb cll cbl HA HO Q5 HV HR OC q1 q4 q5 q6 ws wq BW HTw
  rw [List.length_map] at CN
  go_wp2_with fail
  go_loopw [71,19] (fun jv _ wx=>∃ j:Nat,j≤ML9.length∧jv=.int .i64 j∧Hid (Apt g w6 wx)∧Hid (wx.ownsRow w.heap.size 3 1 (.slice (some ⟨g,0,none⟩) M M) M (nums (cntL lo l0 ((ML9.map (·.2)).take j))))∧Hid (Lb (200200 * k + j) (cntL lo l0 ((ML9.map (·.2)).take j)))) (fun jv _ _=>ML9.length - (intOf jv).toNat)
  case atStart=>exact ⟨0,Nat.zero_le _,rfl,Lib.hid (Apt.refl _ _),O6,HLB⟩
  case round=>
   obtain ⟨j,hj,rfl,HAx,HOx,HLx⟩:=hrel
   by_cases hlj:j<ML9.length
   case neg=>
    have hj2:j=ML9.length:=by omega
    have TK:(ML9.map (·.2)).take j=ML9.map (·.2):=by rw [hj2,← List.length_map (f:=fun x:Int × Int=>x.2),List.take_length]
    rw [TK,← SL.out] at HOx HLx
    have AX:=Lib.hid (A6.out.trans HAx.out)
    have LX:Hid (Lb (200200 * (k + 1)) (ldG lo hi (List.replicate M 0) (L.take (k + 1)))):=Lib.hid (HLx.out.mono (by omega))
    clear TK
    go_wp2_with fail
    go_roundw
    case rel=>exact ⟨k + 1,by omega,by go_num,AX,HOx,LX,G2⟩
    case measure=>simp [intOf];omega
   rcases HC.out with hc | ⟨pb,po,rfl,hc⟩
   ·rw [hc] at hlj;simp at hlj
   obtain ⟨k0,k1⟩:=hc j hlj
   have ne:=PG.out pb po rfl
   have x0:=(HAx.out.cell (p:=⟨pb,po + j * 2,none⟩) (ecell_in k0) ne).trans k0
   have x1:=(HAx.out.cell (p:=⟨pb,po + j * 2 + 1,none⟩) (ecell_in k1) ne).trans k1
   have xl:=ecell_in x0
   obtain ⟨l1,l2,l3,l4⟩:=LBL.out
   have y0:=(HAx.out.cell (p:=⟨bl,0,none⟩) l1 l3).trans C6.out.1
   have y1:=(HAx.out.cell (p:=⟨bb,0,none⟩) l2 l4).trans C6.out.2
   have hm:(ML9.map (·.2)).getD j 0=(ML9.getD j (0,0)).2:=by
    rw [List.getD_eq_getElem?_getD,List.getElem?_map,List.getD_eq_getElem?_getD,List.getElem?_eq_getElem hlj]
    rfl
   have hin:(ML9.getD j (0,0)).2∈ML9.map (·.2):=by
    rw [List.getD_eq_getElem?_getD,List.getElem?_eq_getElem hlj]
    exact List.mem_map.2 ⟨_,List.getElem_mem hlj,rfl⟩
   have SC:=Lib.hid (cntL_step lo (ML9.map (·.2)) l0 j (by rw [List.length_map];exact hlj))
   rw [hm] at SC
   obtain ⟨m1,m2,m3⟩:=CM.out _ hin
   have LC:(cntL lo l0 ((ML9.map (·.2)).take j)).length=M:=by rw [cntL_len];exact LN
   generalize cntL lo l0 ((ML9.map (·.2)).take j)=lc at HOx HLx SC LC
   generalize ML9.getD j (0,0)=X at x0 x1 SC m1 m2 m3
   obtain ⟨xa,c⟩:=X
   dsimp only at x0 x1 SC m1 m2 m3
   have b7:=below_one wr (.cells #[.int .i64 xa,.int .i64 c] 112)
   have t0:(wr.alloc (.cells #[.int .i64 xa,.int .i64 c] 112)).cell? ⟨wr.heap.size,0,none⟩=some (.int .i64 xa)∧(wr.alloc (.cells #[.int .i64 xa,.int .i64 c] 112)).cell? ⟨wr.heap.size,1,none⟩=some (.int .i64 c):=by constructor <;> simp
   obtain ⟨W7,hW7⟩:∃ W7,W7=wr.alloc (.cells #[.int .i64 xa,.int .i64 c] 112):=⟨_,rfl⟩
   rw [← hW7] at b7 t0
   have HW7:=Lib.hid hW7
   obtain ⟨kk,hkk⟩:∃ kk:Nat,(c - lo) / 1440=(kk:Int):=⟨((c - lo) / 1440).toNat,by omega⟩
   have lb:=HLx.out kk
   have CK:=cnt_any g bl bb M w.heap.size lo c kk lc W7 ((b7.cell (p:=⟨bl,0,none⟩) (Nat.lt_of_lt_of_le l1 HAx.out.size)).trans y0) (by rw [HLO.out];exact (b7.cell (p:=⟨bb,0,none⟩) (Nat.lt_of_lt_of_le l2 HAx.out.size)).trans y1) (ow_below HOx.out b7) LC MB.1 m1 (by have:=MB.2.1;omega) hkk (by omega) (by omega) ML
   have CH:=Lib.hid CK
   have A7:=Lib.hid (HAx.out.trans (apt_below g b7))
   have O7:=Lib.hid (ow_below HOx.out b7)
   have LX:Hid (Lb (200200 * k + (j + 1)) (cntL lo l0 ((ML9.map (·.2)).take (j + 1)))):=Lib.hid (by rw [SC.out];exact HLx.out.one lo c)
   have SS:Hid (cntL lo l0 ((ML9.map (·.2)).take (j + 1))=lc.set kk (lc.getD kk 0 + 1)):=Lib.hid (by rw [SC.out];unfold cnt1;rw [hkk,Int.toNat_natCast])
   clear k0 k1 hc hm hin hW7 b7 CK lb y0 y1 m1 m2 m3 l1 l2 l3 l4 ne hkk HAx HOx HLx SC LC
   go_upto_region 21 with fail
   rw [← HW7.out]
   clear HW7 x0 x1 xl
   obtain ⟨t1,t2⟩:=t0
   have tl:=ecell_in t1
   go_wp2_with fail
   refine CH.out.mono ?_
   rintro y w8 ⟨rfl,rfl⟩
   have A8:=Lib.hid (A7.out.trans (apt_set g kk (.int .i64 (lc.getD kk 0 + 1)) W7))
   have O8:Hid ((W7.setCell ⟨g,kk,none⟩ (.int .i64 (lc.getD kk 0 + 1))).ownsRow w.heap.size 3 1 (.slice (some ⟨g,0,none⟩) M M) M (nums (cntL lo l0 ((ML9.map (·.2)).take (j + 1))))):=Lib.hid (by rw [SS.out,nums_set];exact own_set O7.out kk _)
   clear CH A7 O7 SS t1 t2 tl
   go_wp2_with fail
   go_roundw
   case rel=>exact ⟨j + 1,by omega,by go_num,A8,O8,LX⟩
   case measure=>simp [intOf];omega
end Go.Proofs.YtoncfgfjdlgfcaaGreatDoor.Pp
namespace Go.Proofs.YtoncfgfjdlgfcaaGreatDoor.Pp
open Go.RowKit Bz Cal Txt
theorem own_lt {w:World} {n0 n g c m:Nat} {xs:List Value} {t:TypeId} {k:Nat} (h:w.ownsRow n0 t k (.slice (some ⟨g,0,none⟩) m c) n xs):g<w.heap.size:=by
 rcases h.2 with ⟨q,_⟩ | ⟨g',cap',cur,q,_,hc,_⟩
 ·cases q
 ·have e:g=g':=by
   have:=congrArg Value.ownBlock q
   simpa [Value.ownBlock] using this
  rcases Nat.lt_or_ge g w.heap.size with z | z
  ·exact z
  ·rw [← e,Array.getElem?_eq_none z] at hc;cases hc
set_option maxRecDepth 100000 in
set_option maxHeartbeats 16000000 in
theorem refLoad_any (L:List (Evt × Evs)) (y m:Int) (vl:Value) (w:World) (hL:Evl w vl L) (hl:L.length≤20) (hE:∀ x∈L,evF x.1=0) (hm:isMn y m) :
 Calls Tryz.prog 21 #[vl,.int .i64 y,.int .i64 m] w fun x w'=>∃ u,x=.returned u∧Ints w' u (ldG (mlo y m) (mhi y m) (List.replicate (ml y m).toNat 0) L)∧Below w.heap.size w w':=by
 have HL:=Lib.hid hL
 have HE:=Lib.hid hE
 obtain ⟨ae,ce,rfl⟩:=hL.form
 have MB:=mlo_bd hm
 obtain ⟨a1,a2,h1,h2⟩:=id hm
 have OK:=Lib.hid (mn_one hm)
 have D1:=refDays_yes y m w a1 a2 h1 h2
 have K1:Hid (∀ W,Calls Tryz.prog 55 #[.agg #[.int .i64 y,.int .i64 m,.int .i64 1]] W fun e w'=>e=.returned (.int .i64 (num y m 1))∧Below W.heap.size W w'):=Lib.hid (fun W=>refOf_yes y m 1 W OK.out)
 have mb:=ml_bd y m
 have hi0:mhi y m=mlo y m + ml y m * 1440 - 1:=rfl
 have lo0:mlo y m=(num y m 1 - 1) * 1440:=rfl
 have nb:=mn_bd hm
 have CD:=Lib.hid (fun e p (he:evF e=0) hr hp l=>cnt_doc (e:=e) (y:=y) (m:=m) (p:=p) hm he hr hp l)
 have EM:=Lib.hid (fun c e=>evC_mem (y:=y) (m:=m) (c:=c) (e:=e) hm)
 obtain ⟨M,hM⟩:∃ M:Nat,ml y m=(M:Int):=⟨(ml y m).toNat,by omega⟩
 rw [hM] at D1 hi0 mb nb EM ⊢
 rw [Int.toNat_natCast]
 generalize mhi y m=hi at hi0 MB EM CD ⊢
 generalize mlo y m=lo at hi0 lo0 MB EM CD ⊢
 generalize num y m 1=F at K1 lo0 nb
 have HD1:=Lib.hid D1
 obtain ⟨i0,hi1,hz0,hz1,hz2⟩:=info_parts info_ev_int
 clear hm hL D1 OK hE a1 a2 h1 h2 hM
 go_enter Tryz.func21,Tryz.ntmps21
 go_wp2_with (first | (go_at_call 19;refine HD1.out.mono ?_;rintro e w' ⟨rfl,hw⟩;replace hw:=hw.symm;subst hw) | (at_make;refine wpList_make_full _ rfl _ _ 26 rfl w.heap.size 3 i0 (.int .i64 0) 1 Tryz.underlying26 hi1 hz0 hz1 _ _ _ _ M rfl rfl rfl rfl ?b2 ?b3 ?b4 ?_))
 case b2=>rw [hz2];omega
 case b3=>unfold maxLen;omega
 case b4=>exact Nat.le_refl _
 intro w3 hown hgrow
 rw [made_ints] at hown
 have B3:Hid (Below w.heap.size w w3):=Lib.hid ((Below.refl _ _).grown hgrow (Nat.le_refl _) (fun k h=>by cases h))
 have O3:=Lib.hid hown
 clear hown hgrow HD1
 go_wp2_with fail
 refine (K1.out w3).mono ?_
 rintro e w4 ⟨rfl,hb⟩
 have B4:=Lib.hid (B3.out.trans (hb.mono B3.out.size))
 have O4:=Lib.hid (ow_below O3.out hb)
 clear hb K1 O3 B3
 obtain ⟨g,hg⟩:∃ g,g=w.heap.size:=⟨_,rfl⟩
 have HG:=Lib.hid hg
 rw [← hg] at O4 ⊢
 clear hg
 have ML:M≤31:=by omega
 have HLO:=Lib.hid lo0
 have HHI:=Lib.hid hi0
 have ZS:=Lib.hid (Lb.zero M)
 go_wp2_with fail
 rw [← HLO.out,← HHI.out]
 clear lo0 hi0 nb
 go_loopw [11,12,13,14,15,16,17] (fun iv _ _ _ _ _ _ wr=>∃ k:Nat,k≤L.length∧iv=.int .i64 k∧Hid (Apt g w4 wr)∧Hid (wr.ownsRow g 3 1 (.slice (some ⟨g,0,none⟩) M M) M (nums (ldG lo hi (List.replicate M 0) (L.take k))))∧Hid (Lb (200300 * k) (ldG lo hi (List.replicate M 0) (L.take k)))) (fun iv _ _ _ _ _ _ _=>L.length - (intOf iv).toNat)
 case atStart=>exact ⟨0,Nat.zero_le _,rfl,Lib.hid (Apt.refl _ _),O4,Lib.hid (by rw [Nat.mul_zero];exact ZS.out)⟩
 case round=>
  obtain ⟨k,hk,rfl,HA,HO,HLB⟩:=hrel
  have BW:=Lib.hid (B4.out.trans (HA.out.below (by rw [HG.out];exact Nat.le_refl _) B4.out.size))
  by_cases hlt:k<L.length
  case neg=>
   have hk2:k=L.length:=by omega
   have O9:Hid (Ints wr (.slice (some ⟨g,0,none⟩) M M) (ldG lo hi (List.replicate M 0) L)):=Lib.hid (by
    have o:=HO.out
    rw [hk2,List.take_length] at o
    have ln:(ldG lo hi (List.replicate M 0) L).length=M:=by rw [ldG_len,List.length_replicate]
    have o2:Wr g wr (.slice (some ⟨g,0,none⟩) M M) (ldG lo hi (List.replicate M 0) L):=by
     unfold Wr
     rw [ln]
     exact o
    exact o2.ints)
   clear hk2
   go_wp2_with fail
   go_ret
   exact ⟨_,rfl,O9.out,BW.out⟩
  obtain ⟨b,off,ea,_,bq,hr,hE⟩:=evl_at HL.out hlt
  subst ea
  have he:=HE.out _ (List.getElem_mem hlt)
  have SL:=Lib.hid (ldG_step lo hi (List.replicate M 0) L k hlt)
  have LN:(ldG lo hi (List.replicate M 0) (L.take k)).length=M:=by rw [ldG_len,List.length_replicate]
  generalize L[k]=X at hr hE SL he
  obtain ⟨e,s⟩:=X
  dsimp only at hE SL he
  have HR:Hid (∀ X,Below w.heap.size w X→X.rangeAt b (off + k * 17) (encE (e,s))):=Lib.hid (fun X q j v hj=>(q.cell (p:=⟨b,off + k * 17 + j,none⟩) bq).trans (hr j v hj))
  have HV:=Lib.hid (fun W (q:Below w.heap.size w W)=>hE.on q)
  have H0:=Lib.hid he
  generalize ldG lo hi (List.replicate M 0) (L.take k)=l0 at HO HLB SL LN
  have K5:=Lib.hid (refLocal_fre e s lo hi wr (HV.out _ BW.out) he (by omega) (by omega))
  have KC:=Lib.hid (fun W (q:Below w.heap.size w W)=>refChg_any e s W (HV.out _ q) H0.out)
  have DR:=Lib.hid (dcL_rise e lo hi)
  have DN:=Lib.hid (evL_len (fr:=lo) (t:=hi) he (show (dbL e hi).length≤200000 by have:=dbL_len (t:=hi) he;omega))
  have CN:Hid ((chD e).length≤100):=Lib.hid (by
   have cl:=(evF_lens he).2.2.2.2.1
   unfold chD
   split
   ·simp
   ·exact Nat.le_trans (chK_len _ _ _) cl)
  have CL:=(evF_lens he).2.2.2.2.1
  have CDe:=Lib.hid (fun p hr hp l=>CD.out e p he hr hp l)
  have EMe:=Lib.hid (fun c h=>EM.out c e he h)
  have ED:evL (dbL e hi) e lo hi=dcL e lo hi:=rfl
  rw [ED] at DN
  generalize dcL e lo hi=D at K5 DR DN CDe
  generalize chD e=CH at KC CN CDe
  clear hr hE ED
  go_upto_region 9 with (first | (refine evr_load (by rfl) (.tmp 43) (by rfl) b (off + k * 17) e s (by rfl) (HR.out _ BW.out) ?_) | (go_at_call 56;refine K5.out.mono ?_;rintro y w5 ⟨v5,rfl,hi5,hb5,hf5,hn5⟩))
  have B5:=Lib.hid (BW.out.trans (hb5.mono BW.out.size))
  have A5:=Lib.hid (HA.out.trans (apt_below g hb5))
  have O5:=Lib.hid (ow_below HO.out hb5)
  have I5:=Lib.hid hi5
  have F5:=Lib.hid hf5
  have N5:Hid (∀ g',v5.ownBlock=some g'→g<g'):=Lib.hid (fun g' q=>Nat.lt_of_lt_of_le (own_lt HO.out) (hn5 g' q))
  clear hb5 hi5 hf5 hn5 K5 HA HO BW
  have K6:=Lib.hid (KC.out _ B5.out)
  clear KC
  go_upto_region 10 with (first | (refine evr_load (by rfl) (.tmp 50) (by rfl) b (off + k * 17) e s (by rfl) (HR.out _ B5.out) ?_) | (go_at_call 57;refine K6.out.mono ?_;rintro y w6 ⟨v6,rfl,hi6,hb6⟩))
  have B6:=Lib.hid (B5.out.trans (hb6.mono B5.out.size))
  have A6:=Lib.hid (A5.out.trans (apt_below g hb6))
  have O6:=Lib.hid (ow_below O5.out hb6)
  have I6:=Lib.hid (I5.out.on hb6)
  obtain ⟨ca,cc,rfl,hc⟩:=hi6
  have HC:=Lib.hid hc
  clear hb6 hc K6 I5 A5 O5 B5
  go_wp2_with fail
  go_loopw [12,14] (fun lv iv wr=>∃ j:Nat,j≤CH.length∧iv=.int .i64 j∧(∃ p,Ints wr lv p∧Frl lv p∧PutI D CH j p)∧Hid (∀ g',lv.ownBlock=some g'→g<g')∧Below w6.heap.size w6 wr) (fun _ iv _=>CH.length - (intOf iv).toNat)
  case atStart=>exact ⟨0,Nat.zero_le _,rfl,⟨D,I6.out,F5.out,PutI.start DR.out⟩,N5,Below.refl _ _⟩
  case round=>
   obtain ⟨j,hj,rfl,⟨p,hp1,hp2,hp3⟩,HN,hB⟩:=hrel
   have HBr:=Lib.hid hB
   have cn:=CN.out
   by_cases hlj:j<CH.length
   ·rcases HC.out with hc | ⟨cb,co,rfl,hc⟩
    ·rw [hc] at hlj;simp at hlj
    have ck:=(hB.cell (p:=⟨cb,co + j,none⟩) (ecell_in (hc j hlj))).trans (hc j hlj)
    have kl:=ecell_in ck
    have KP:=Lib.hid (refPut_own _ p (CH.getD j 0) wr hp1 hp2 (by have:=hp3.2.2;have:=DN.out;omega))
    have NX:=Lib.hid (fun r (q:PutR p (CH.getD j 0) r)=>hp3.next hlj q)
    generalize CH.getD j 0=x at ck KP NX
    clear hc hp1 hp2 hp3 hB
    go_wp2_with fail
    clear ck kl
    refine KP.out.mono ?_
    rintro y w7 ⟨u7,r7,rfl,h1,h2,h3,hb,h4⟩
    have Q:=Lib.hid (show ∃ p,Ints w7 u7 p∧Frl u7 p∧PutI D CH (j + 1) p from ⟨r7,h1,h2,NX.out r7 h3⟩)
    have B7:=Lib.hid (HBr.out.trans (hb.mono HBr.out.size))
    have N7:Hid (∀ g',u7.ownBlock=some g'→g<g'):=Lib.hid (fun g' q=>(h4 g' q).elim (HN.out g') (fun z=>by have:=own_lt O6.out;have:=HBr.out.size;omega))
    clear h1 h2 h3 h4 hb KP NX
    go_wp2
    go_roundw
    case rel=>exact ⟨j + 1,by omega,by go_num,Q.out,N7,B7.out⟩
    case measure=>simp [intOf];omega
   have ej:j=CH.length:=by omega
   rw [ej] at hp3
   obtain ⟨pr,pm,pn⟩:=hp3
   have PM:Hid (∀ x,x∈p↔x∈D∨x∈CH):=Lib.hid (fun x=>by rw [pm x,List.take_length])
   have PN:p.length≤200300:=by have:=DN.out;omega
   have END:=Lib.hid (CDe.out p pr PM.out l0)
   obtain ⟨w7,hw7⟩:∃ w7,w7=wr:=⟨_,rfl⟩
   subst hw7
   have B7:=Lib.hid (B6.out.trans (hB.mono B6.out.size))
   have A7:=Lib.hid (A6.out.trans (apt_below g hB))
   have O7:=Lib.hid (ow_below O6.out hB)
   obtain ⟨pa,pc,rfl,hpc⟩:=hp1
   have PG:Hid (∀ pb po,pa=some ⟨pb,po,none⟩→pb≠g):=Lib.hid (fun pb po q z=>by
    have:=HN.out pb (by rw [q];rfl)
    omega)
   have HP:=Lib.hid hpc
   clear hp2 pr pm pn hB HBr HC I6 F5 B6 A6 O6 hpc cn ej DR DN CN CDe PM
   go_wp2_with fail
   go_loopw [15,16,17] (fun iv _ _ wr=>∃ j:Nat,j≤p.length∧iv=.int .i64 j∧Hid (Apt g w7 wr)∧Hid (wr.ownsRow g 3 1 (.slice (some ⟨g,0,none⟩) M M) M (nums (cntL lo l0 ((p.take j).filterMap (pkR e lo hi)))))∧Hid (Lb (200300 * k + j) (cntL lo l0 ((p.take j).filterMap (pkR e lo hi))))) (fun iv _ _ _=>p.length - (intOf iv).toNat)
   case atStart=>exact ⟨0,Nat.zero_le _,rfl,Lib.hid (Apt.refl _ _),O7,HLB⟩
   case round=>
    obtain ⟨j,hj,rfl,HA,HO,HLx⟩:=hrel
    have BX:=Lib.hid (B7.out.trans (HA.out.below (by rw [HG.out];exact Nat.le_refl _) B7.out.size))
    by_cases hlj:j<p.length
    case neg=>
     have hj2:j=p.length:=by omega
     have TK:p.take j=p:=by rw [hj2,List.take_length]
     rw [TK,END.out,← SL.out] at HO HLx
     have AX:=Lib.hid (A7.out.trans HA.out)
     have LX:Hid (Lb (200300 * (k + 1)) (ldG lo hi (List.replicate M 0) (L.take (k + 1)))):=Lib.hid (HLx.out.mono (by omega))
     clear TK
     go_wp2_with fail
     go_roundw
     case rel=>exact ⟨k + 1,by omega,by go_num,AX,HO,LX⟩
     case measure=>simp [intOf];omega
    rcases HP.out with hc | ⟨pb,po,rfl,hc⟩
    ·rw [hc] at hlj;simp at hlj
    have x0:=(HA.out.cell (p:=⟨pb,po + j,none⟩) (ecell_in (hc j hlj)) (PG.out pb po rfl)).trans (hc j hlj)
    have SKIP:=Lib.hid (fun h=>pk_skip (e:=e) (lo:=lo) (hi:=hi) hlj h)
    have HIT:=Lib.hid (fun n h=>pk_hit (e:=e) (lo:=lo) (hi:=hi) (n:=n) hlj h)
    have LC:(cntL lo l0 ((p.take j).filterMap (pkR e lo hi))).length=M:=by rw [cntL_len];exact LN
    have CAP:=Lib.hid (fun n=>cntL_app lo l0 ((p.take j).filterMap (pkR e lo hi)) n)
    generalize p.getD j 0=x at x0 SKIP HIT
    generalize (p.take j).filterMap (pkR e lo hi)=cs at HO HLx SKIP HIT LC CAP
    have OFF:=Lib.hid (fun q=>pk_off (e:=e) (lo:=lo) (hi:=hi) (x:=x) q)
    have IN:=Lib.hid (fun q=>pk_in (e:=e) (lo:=lo) (hi:=hi) (x:=x) q)
    have OUT:=Lib.hid (fun q=>pk_out (e:=e) (lo:=lo) (hi:=hi) (x:=x) q)
    have KY:Hid (∀ W,Below wr.heap.size wr W→Calls Tryz.prog 59 #[.agg (ecells e s),.int .i64 x] W fun y w'=>y=.returned (.tuple #[.int .i64 ((chOf e.chg x).getD x),.bool (onB e.chg x)])∧Below W.heap.size W w'):=Lib.hid (fun W q=>by
     have V:=HV.out W (BX.out.trans (q.mono BX.out.size))
     exact refReally_any e s x W V.2.2.2.2.2.2.1 (by omega))
    have HS9:Hid (∀ X,Below wr.heap.size wr X→(X.cell? ⟨b,off + k * 17,none⟩=some (.string e.name)∧X.cell? ⟨b,off + k * 17 + 1,none⟩=some (.string e.text)∧X.cell? ⟨b,off + k * 17 + 2,none⟩=some (.int .i64 e.start)∧X.cell? ⟨b,off + k * 17 + 3,none⟩=some (.int .i64 e.len)∧X.cell? ⟨b,off + k * 17 + 4,none⟩=some (.bool e.rep)∧X.cell? ⟨b,off + k * 17 + 5,none⟩=some (.int .i64 e.rule.freq)∧X.cell? ⟨b,off + k * 17 + 6,none⟩=some (.int .i64 e.rule.every)∧X.cell? ⟨b,off + k * 17 + 7,none⟩=some (.int .i64 e.rule.count)∧X.cell? ⟨b,off + k * 17 + 8,none⟩=some (.int .i64 e.rule.till)∧X.cell? ⟨b,off + k * 17 + 9,none⟩=some (s.vm)∧X.cell? ⟨b,off + k * 17 + 10,none⟩=some (s.vd)∧X.cell? ⟨b,off + k * 17 + 11,none⟩=some (s.vw)∧X.cell? ⟨b,off + k * 17 + 12,none⟩=some (s.vp)∧X.cell? ⟨b,off + k * 17 + 13,none⟩=some (s.vo)∧X.cell? ⟨b,off + k * 17 + 14,none⟩=some (s.vn)∧X.cell? ⟨b,off + k * 17 + 15,none⟩=some (s.vc)∧X.cell? ⟨b,off + k * 17 + 16,none⟩=some (s.va))∧X.cell? ⟨pb,po + j,none⟩=some (.int .i64 x)):=Lib.hid (fun X q=>by
     have rg:=HR.out X (BX.out.trans (q.mono BX.out.size))
     exact ⟨⟨rg 0 _ rfl,rg 1 _ rfl,rg 2 _ rfl,rg 3 _ rfl,rg 4 _ rfl,rg 5 _ rfl,rg 6 _ rfl,rg 7 _ rfl,rg 8 _ rfl,rg 9 _ rfl,rg 10 _ rfl,rg 11 _ rfl,rg 12 _ rfl,rg 13 _ rfl,rg 14 _ rfl,rg 15 _ rfl,rg 16 _ rfl⟩,(q.cell (p:=⟨pb,po + j,none⟩) (ecell_in x0)).trans x0⟩)
    generalize pkR e lo hi x=PK at SKIP HIT OFF IN OUT
    generalize (chOf e.chg x).getD x=N at KY IN OUT
    generalize onB e.chg x=ON at KY OFF IN OUT
    clear hc x0
    go_upto_region 17 with fail
    go_region_held3 (fun X=>(X.cell? ⟨b,off + k * 17,none⟩=some (.string e.name)∧X.cell? ⟨b,off + k * 17 + 1,none⟩=some (.string e.text)∧X.cell? ⟨b,off + k * 17 + 2,none⟩=some (.int .i64 e.start)∧X.cell? ⟨b,off + k * 17 + 3,none⟩=some (.int .i64 e.len)∧X.cell? ⟨b,off + k * 17 + 4,none⟩=some (.bool e.rep)∧X.cell? ⟨b,off + k * 17 + 5,none⟩=some (.int .i64 e.rule.freq)∧X.cell? ⟨b,off + k * 17 + 6,none⟩=some (.int .i64 e.rule.every)∧X.cell? ⟨b,off + k * 17 + 7,none⟩=some (.int .i64 e.rule.count)∧X.cell? ⟨b,off + k * 17 + 8,none⟩=some (.int .i64 e.rule.till)∧X.cell? ⟨b,off + k * 17 + 9,none⟩=some (s.vm)∧X.cell? ⟨b,off + k * 17 + 10,none⟩=some (s.vd)∧X.cell? ⟨b,off + k * 17 + 11,none⟩=some (s.vw)∧X.cell? ⟨b,off + k * 17 + 12,none⟩=some (s.vp)∧X.cell? ⟨b,off + k * 17 + 13,none⟩=some (s.vo)∧X.cell? ⟨b,off + k * 17 + 14,none⟩=some (s.vn)∧X.cell? ⟨b,off + k * 17 + 15,none⟩=some (s.vc)∧X.cell? ⟨b,off + k * 17 + 16,none⟩=some (s.va))∧X.cell? ⟨pb,po + j,none⟩=some (.int .i64 x))
     (first | exact HS9.out _ (Below.drew (Below.refl _ wr)) | exact HS9.out _ hb3)
     (first | (go_at_call 59;refine (KY.out _ (Below.drew (Below.refl _ wr))).mono ?_;rintro y w9 ⟨rfl,hb3'⟩;have hb3:Below wr.heap.size wr w9:=Below.trans (Below.drew (Below.refl _ wr)) hb3';clear hb3'))
    rename_i hHeld
    clear hHeld
    have A9:=Lib.hid (HA.out.trans (apt_below g hb3))
    have O9:=Lib.hid (ow_below HO.out hb3)
    clear hb3 HS9 KY HA HO BX
    cases ON
    case false=>
     have E:=Lib.hid (SKIP.out (OFF.out rfl))
     have OX:Hid (w9.ownsRow g 3 1 (.slice (some ⟨g,0,none⟩) M M) M (nums (cntL lo l0 ((p.take (j + 1)).filterMap (pkR e lo hi))))):=Lib.hid (by rw [E.out];exact O9.out)
     have LX:Hid (Lb (200300 * k + (j + 1)) (cntL lo l0 ((p.take (j + 1)).filterMap (pkR e lo hi)))):=Lib.hid (by rw [E.out];exact HLx.out.mono (by omega))
     clear SKIP HIT OFF IN OUT
     go_wp2_with fail
     go_roundw
     case rel=>exact ⟨j + 1,by omega,by go_num,A9,OX,LX⟩
     case measure=>simp [intOf];omega
    by_cases q1:lo≤N
    case neg=>
     have E:=Lib.hid (SKIP.out (OUT.out rfl (fun z=>q1 z.1)))
     have OX:Hid (w9.ownsRow g 3 1 (.slice (some ⟨g,0,none⟩) M M) M (nums (cntL lo l0 ((p.take (j + 1)).filterMap (pkR e lo hi))))):=Lib.hid (by rw [E.out];exact O9.out)
     have LX:Hid (Lb (200300 * k + (j + 1)) (cntL lo l0 ((p.take (j + 1)).filterMap (pkR e lo hi)))):=Lib.hid (by rw [E.out];exact HLx.out.mono (by omega))
     clear SKIP HIT OFF IN OUT
     go_wp2_with fail
     go_roundw
     case rel=>exact ⟨j + 1,by omega,by go_num,A9,OX,LX⟩
     case measure=>simp [intOf];omega
    by_cases q2:N≤hi
    case neg=>
     have E:=Lib.hid (SKIP.out (OUT.out rfl (fun z=>q2 z.2)))
     have OX:Hid (w9.ownsRow g 3 1 (.slice (some ⟨g,0,none⟩) M M) M (nums (cntL lo l0 ((p.take (j + 1)).filterMap (pkR e lo hi))))):=Lib.hid (by rw [E.out];exact O9.out)
     have LX:Hid (Lb (200300 * k + (j + 1)) (cntL lo l0 ((p.take (j + 1)).filterMap (pkR e lo hi)))):=Lib.hid (by rw [E.out];exact HLx.out.mono (by omega))
     clear SKIP HIT OFF IN OUT
     go_wp2_with fail
     go_roundw
     case rel=>exact ⟨j + 1,by omega,by go_num,A9,OX,LX⟩
     case measure=>simp [intOf];omega
    have E:=Lib.hid (HIT.out N (IN.out rfl ⟨q1,q2⟩))
    have hi9:=HHI.out
    obtain ⟨kk,hkk⟩:∃ kk:Nat,(N - lo) / 1440=(kk:Int):=⟨((N - lo) / 1440).toNat,by omega⟩
    have hk3:kk<M:=by omega
    have CE:=CAP.out N
    rw [← E.out] at CE
    have LL:=HLx.out.one lo N
    rw [← CE] at LL
    have lb:=HLx.out kk
    have ck:w9.cell? ⟨g,kk,none⟩=some (.int .i64 ((cntL lo l0 cs).getD kk 0))∧w9.frozen? ⟨g,kk,none⟩=false:=by
     have hO2:=O9.out
     rw [← LC] at hO2
     rcases own_hol hO2 with ⟨q,_⟩ | ⟨g',cap',q,_,_,_,hh⟩
     ·cases q
     ·have e1:g=g':=by
       have:=congrArg Value.ownBlock q
       simpa [Value.ownBlock] using this
      have:=hh kk (by omega)
      rw [← e1] at this
      rwa [Nat.zero_add] at this
    have SS:cntL lo l0 ((p.take (j + 1)).filterMap (pkR e lo hi))=(cntL lo l0 cs).set kk ((cntL lo l0 cs).getD kk 0 + 1):=by
     rw [CE]
     unfold cnt1
     rw [hkk,Int.toNat_natCast]
    have OS:=own_set O9.out kk (.int .i64 ((cntL lo l0 cs).getD kk 0 + 1))
    rw [← nums_set,← SS] at OS
    have OX:=Lib.hid OS
    have LX:=Lib.hid LL
    generalize (cntL lo l0 cs).getD kk 0=c0 at ck lb OX
    have AX:=Lib.hid (A9.out.trans (apt_set g kk (.int .i64 (c0 + 1)) w9))
    obtain ⟨ck1,ck2⟩:=ck
    have ckl:=ecell_in ck1
    obtain ⟨m0,m1,_⟩:=MB
    clear SKIP HIT OFF IN OUT E CE LL SS OS CAP O9 A9 HLx LC
    go_wp2_with fail
    go_roundw
    case rel=>exact ⟨j + 1,by omega,by go_num,AX,OX,LX⟩
    case measure=>simp [intOf];omega
end Go.Proofs.YtoncfgfjdlgfcaaGreatDoor.Pp
