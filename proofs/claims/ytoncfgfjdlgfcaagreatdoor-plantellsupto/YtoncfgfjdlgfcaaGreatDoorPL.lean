/-
  Texts of our own that serve the card of this claim, joined into one.
-/
import Derived.Test.YtoncfgfjdlgfcaaGreatDoorPlRef
import Derived.Test.YtoncfgfjdlgfcaaGreatDoorRA
import Derived.Test.YtoncfgfjdlgfcaaGreatDoorRC
import Derived.Test.YtoncfgfjdlgfcaaGreatDoorBR
import Derived.Test.YtoncfgfjdlgfcaaGreatDoorBF
import Derived.Test.YtoncfgfjdlgfcaaGreatDoorPP
import Derived.Test.YtoncfgfjdlgfcaaGreatDoorPF
import Derived.Test.YtoncfgfjdlgfcaaGreatDoorLD
namespace Go.Proofs.YtoncfgfjdlgfcaaGreatDoor.Pl
open Go.RowKit Cal Txt
theorem tms_row {w:World} {v:Value} {T:List Tm} (h:Tms w v T):∃ s:Sv,v=svV s∧RowK enc3 w (svV s) T:=by
 obtain ⟨a,cap,rfl,hc⟩:=h
 refine ⟨(a,T.length,cap),rfl,a,cap,rfl,?_⟩
 rcases hc with hc | ⟨b,off,ea,hc⟩
 ·exact Or.inl hc
 ·refine Or.inr ⟨b,off,ea,fun j u hu=>?_⟩
  have hj:j<T.length * 3:=by have:=(List.getElem?_eq_some_iff.1 hu).1;rwa [flat_len enc3 3 enc3_len] at this
  have q:=flat_at enc3 3 enc3_len T (j / 3) (j % 3) (by omega) (by omega)
  rw [show j / 3 * 3 + j % 3=j by omega,hu] at q
  obtain ⟨k0,k1,k2⟩:=hc (j / 3) (by omega)
  rcases (by omega:j % 3=0∨j % 3=1∨j % 3=2) with z | z | z
  ·rw [z] at q
   rw [show off + j=off + j / 3 * 3 by omega,k0]
   exact q.symm
  ·rw [z] at q
   rw [show off + j=off + j / 3 * 3 + 1 by omega,k1]
   exact q.symm
  ·rw [z] at q
   rw [show off + j=off + j / 3 * 3 + 2 by omega,k2]
   exact q.symm
theorem refAll_any (a:Int) (l:List (Int × Int)) (L:List (Evt × Evs)) (fr t:Int) (v vl:Value) (w:World) (hz:ZoneIn w v a l) (hL:Evl w vl L) (hl:L.length≤9223372036854775807)
 (hs:∀ x∈L,x.1.rule.months.length + x.1.rule.days.length + x.1.rule.weeks.length + x.1.rule.pick.length≤9223372036854775807) :
 Calls Tryz.prog 13 #[v,vl,.int .i64 fr,.int .i64 t] w (PaA w (paL (ezF a l) (seF fr t) (fun e=>tmA a l e fr t) L) (paF (ezF a l) (seF fr t) (fun e=>tmA a l e fr t) L)):=by
 refine all_of (ezF a l) (seF fr t) (fun e=>tmA a l e fr t) a l L fr t v vl w hz hL hl (fun x hx W q=>refReady_any a l v x.1 x.2 W (hz.on q) ((hL.2 x hx).on q) (hs x hx)) (fun W=>refStretch_any fr t W) (fun x hx h1 h2 W q=>?_)
 have e1:evF x.1=0∧Zo.zf a l=0:=by
  unfold ezF at h1
  by_cases c:evF x.1=0
  ·rw [if_neg (fun z=>z c)] at h1
   exact ⟨c,h1⟩
  ·rw [if_pos c] at h1
   exact absurd h1 c
 have e2:strB fr t=true:=by
  unfold seF at h2
  split at h2
  ·assumption
  ·omega
 unfold strB ist at e2
 simp at e2
 refine (refBtw_own a l v x.1 x.2 fr t W (hz.on q) e1.2 ((hL.2 x hx).on q) e1.1 (by omega) (by omega) (by omega) (by omega)).mono ?_
 rintro y w' ⟨u,rfl,h3,h4,h5⟩
 obtain ⟨s,rfl,hr⟩:=tms_row h3
 exact ⟨s,rfl,hr,h4,h5⟩
end Go.Proofs.YtoncfgfjdlgfcaaGreatDoor.Pl
namespace Go.Proofs.YtoncfgfjdlgfcaaGreatDoor.Pl
open Go.RowKit Cal Txt
def tkB (T:List Tt):List Bz.Bz:=T.map (fun x=>(x.2.1,x.2.2))
def tkA (LL:List (List Tt)):List Bz.Bz:=LL.flatMap tkB
theorem tkA_step {LL:List (List Tt)} {k:Nat} (h:k<LL.length):tkA (LL.take (k + 1))=tkA (LL.take k)++tkB (LL.getD k []):=by
 unfold tkA
 rw [List.take_succ_eq_append_getElem h,List.flatMap_append,List.getD_eq_getElem?_getD,List.getElem?_eq_getElem h]
 simp
theorem tkB_step {T:List Tt} {k:Nat} (h:k<T.length):tkB (T.take (k + 1))=tkB (T.take k)++[((T.getD k (0,0,0)).2.1,(T.getD k (0,0,0)).2.2)]:=by
 unfold tkB
 rw [List.take_succ_eq_append_getElem h,List.map_append,List.getD_eq_getElem?_getD,List.getElem?_eq_getElem h]
 rfl
def lnA:List (List Tt)→Nat
 | []=>0
 | T :: r=>T.length + lnA r
theorem tkA_len (LL:List (List Tt)):(tkA LL).length=lnA LL:=by
 induction LL with
 | nil=>rfl
 | cons T r ih=>show (tkB T++tkA r).length=_;rw [List.length_append,ih];simp [tkB,lnA]
theorem sv_at {w:World} {a:Option Addr} {n c:Nat} {us:List Sv} (h:RowK encS w (.slice a n c) us) {i:Nat} (hi:i<us.length):∃ b off,a=some ⟨b,off,none⟩∧n=us.length∧w.cell? ⟨b,off + i,none⟩=some (svV (us.getD i (none,0,0))):=by
 obtain ⟨a',c',e,hc⟩:=h
 simp only [Value.slice.injEq] at e
 obtain ⟨rfl,rfl,rfl⟩:=e
 rcases hc with hc | ⟨b,off,rfl,hc⟩
 ·rw [hc] at hi
  simp at hi
 ·have q:=flat_at encS 1 encS_len us i 0 hi (by decide)
  exact ⟨b,off,rfl,rfl,hc i _ (by rw [Nat.mul_one,Nat.add_zero] at q;exact q)⟩
theorem t3_at {w:World} {a:Option Addr} {n c:Nat} {T:List Tt} (h:RowK enc3 w (.slice a n c) T) {i:Nat} (hi:i<T.length):∃ b off,a=some ⟨b,off,none⟩∧n=T.length∧w.cell? ⟨b,off + i * 3,none⟩=some (.int .i64 (T.getD i (0,0,0)).1)∧w.cell? ⟨b,off + i * 3 + 1,none⟩=some (.int .i64 (T.getD i (0,0,0)).2.1)∧w.cell? ⟨b,off + i * 3 + 2,none⟩=some (.int .i64 (T.getD i (0,0,0)).2.2):=by
 obtain ⟨a',c',e,hc⟩:=h
 simp only [Value.slice.injEq] at e
 obtain ⟨rfl,rfl,rfl⟩:=e
 rcases hc with hc | ⟨b,off,rfl,hc⟩
 ·rw [hc] at hi
  simp at hi
 ·have q0:=flat_at enc3 3 enc3_len T i 0 hi (by decide)
  have q1:=flat_at enc3 3 enc3_len T i 1 hi (by decide)
  have q2:=flat_at enc3 3 enc3_len T i 2 hi (by decide)
  refine ⟨b,off,rfl,rfl,hc _ _ q0,?_,?_⟩
  ·have:=hc _ _ q1
   rwa [← Nat.add_assoc] at this
  ·have:=hc _ _ q2
   rwa [← Nat.add_assoc] at this
theorem news2 (W:World) (x y:Int) (t:TypeId):∀ j u,([.int .i64 x,.int .i64 y]:List Value)[j]?=some u→((W.alloc (.cells #[.int .i64 x,.int .i64 y] t)).drew).cell? ((⟨W.heap.size,0,none⟩:Addr).add j)=some u:=fun j u hu=>by
 have hj:j<2:=(List.getElem?_eq_some_iff.1 hu).1
 rw [add_off]
 show (W.alloc (.cells #[.int .i64 x,.int .i64 y] t)).cell? ⟨W.heap.size,0 + j,none⟩=some u
 rcases (by omega:j=0∨j=1) with rfl | rfl
 ·simp at hu
  subst hu
  simp
 ·simp at hu
  subst hu
  simp
set_option maxRecDepth 100000 in
set_option maxHeartbeats 8000000 in
theorem tak_of (LL:List (List Tt)) (F:Int) (a:Int) (l:List (Int × Int)) (fr t:Int) (v vl:Value) (w:World) (hz:ZoneIn w v a l)
 (hA:∀ W,Below w.heap.size w W→Calls Tryz.prog 13 #[v,vl,.int .i64 fr,.int .i64 t] W (PaA W LL F))
 (hn:lnA LL≤1000) (hl:LL.length≤1000) (hr:Bz.Rt (tkA LL)) :
 Calls Tryz.prog 9 #[v,vl,.int .i64 fr,.int .i64 t] w fun e w'=>∃ u,e=.returned (.tuple #[u,.int .i64 F])∧Bz.Ob w' w.heap.size u (Bz.nrm (tkA LL))∧Below w.heap.size w w':=by
 have HR:=Lib.hid hr
 have HN:=Lib.hid hn
 have HTK:=Lib.hid (tkA_len LL)
 obtain ⟨sa,sc,rfl⟩:=hz.form
 have b0:Below w.heap.size w (w.alloc (.cells #[.int .i64 a,.slice sa l.length sc] 24)):=(Below.refl _ _).alloc (Nat.le_refl _) _
 have z0:(w.alloc (.cells #[.int .i64 a,.slice sa l.length sc] 24)).cell? ⟨w.heap.size,0,none⟩=some (.int .i64 a)∧(w.alloc (.cells #[.int .i64 a,.slice sa l.length sc] 24)).cell? ⟨w.heap.size,1,none⟩=some (.slice sa l.length sc):=⟨by simp,by simp⟩
 obtain ⟨W0,hW0⟩:∃ W0,W0=w.alloc (.cells #[.int .i64 a,.slice sa l.length sc] 24):=⟨_,rfl⟩
 rw [← hW0] at b0 z0
 have HW0:=Lib.hid hW0
 have B0:=Lib.hid b0
 have K:=Lib.hid (hA W0 b0)
 obtain ⟨y0,y1⟩:=z0
 have yl:=Bz.cell_in y0
 clear hz hA hW0 b0 hr hn
 go_enter Tryz.func9,Tryz.ntmps9
 go_upto_region 1 with fail
 rw [← HW0.out]
 go_wp2_with fail
 refine K.out.mono ?_
 rintro e w1 ⟨u1,rfl,⟨us,hus,hec⟩,hb⟩
 have B1:=Lib.hid (B0.out.trans (hb.mono B0.out.size))
 have EC:=Lib.hid hec
 have UL:us.length=LL.length:=hec.1
 have US:=Lib.hid hus
 obtain ⟨ua,uc,eu,_⟩:=hus
 subst eu
 clear hb K HW0 y0 y1 yl hec
 go_wp2_with fail
 go_loopw [12,13,14] (fun xv iv _ wr=>∃ (i:Nat) (x:Value),i≤us.length∧iv=.int .i64 i∧xv=x∧Hid (Bz.Ob wr w1.heap.size x (tkA (LL.take i)))∧Below w1.heap.size w1 wr) (fun _ iv _ _=>us.length - (intOf iv).toNat)
 case atStart=>exact ⟨0,_,Nat.zero_le _,rfl,rfl,Lib.hid (World.ownsRow_nil _ _ _ _),Below.refl _ _⟩
 case round=>
  obtain ⟨i,x,hi,rfl,hx,HO,hB⟩:=hrel
  replace hx:=hx.symm
  subst hx
  have HB:=Lib.hid hB
  by_cases hlt:i<us.length
  case neg=>
   have O9:Hid (Bz.Ob wr w1.heap.size x (tkA LL)):=Lib.hid (by have:=HO.out;rwa [List.take_of_length_le (by omega)] at this)
   have K2:=Lib.hid (Bz.rNorm_any (tkA LL) x wr O9.out.rb (by rw [HTK.out];exact HN.out) HR.out)
   have B9:=Lib.hid (B1.out.trans (hB.mono B1.out.size))
   clear hB HO O9
   go_wp2_with fail
   refine K2.out.mono ?_
   rintro e w9 ⟨u9,rfl,ho,hb⟩
   have O9:=Lib.hid (own_mono ho B9.out.size)
   have B10:=Lib.hid (B9.out.trans (hb.mono B9.out.size))
   clear ho hb K2
   go_wp2
   go_ret2
   exact ⟨u9,rfl,O9.out,B10.out⟩
  have SA:=Lib.hid (tkA_step (LL:=LL) (k:=i) (by omega))
  have RT:=Lib.hid (EC.out.2 i (by omega))
  obtain ⟨T,hT⟩:∃ T,T=LL.getD i []:=⟨_,rfl⟩
  rw [← hT] at SA RT
  have TL:T.length≤1000:=by
   have key:∀ (M:List (List Tt)) (j:Nat),j<M.length→(M.getD j []).length≤lnA M:=fun M=>by
    induction M with
    | nil=>intro j hj;simp at hj
    | cons P r ih=>
      intro j hj
      rcases j with _ | j
      ·show P.length≤P.length + lnA r;omega
      ·have:=ih j (by simpa using hj)
       show ((P :: r).getD (j + 1) []).length≤P.length + lnA r
       simp only [List.getD_cons_succ]
       omega
   rw [hT]
   exact Nat.le_trans (key LL i (by omega)) HN.out
  have PL:Hid ((tkA (LL.take i)).length + T.length≤1000):=Lib.hid (by
   have e:(tkA (LL.take (i + 1))).length≤(tkA LL).length:=by
    have:tkA LL=tkA (LL.take (i + 1))++tkA (LL.drop (i + 1)):=by
     unfold tkA
     rw [← List.flatMap_append,List.take_append_drop]
    rw [this,List.length_append]
    omega
   rw [SA.out,List.length_append,HTK.out] at e
   have:=HN.out
   simp [tkB] at e
   omega)
  obtain ⟨ub,uoff,ea,_,_⟩:=sv_at US.out hlt
  subst ea
  have CU:Hid (∀ W,Below w1.heap.size w1 W→W.cell? ⟨ub,uoff + i,none⟩=some (svV (us.getD i (none,0,0)))∧ub<W.heap.size):=Lib.hid (fun W q=>by
   obtain ⟨b',o',e',_,c'⟩:=sv_at (US.out.on q) hlt
   simp only [Option.some.injEq,Addr.mk.injEq,and_true] at e'
   obtain ⟨rfl,rfl⟩:=e'
   exact ⟨c',Bz.cell_in c'⟩)
  generalize us.getD i (none,0,0)=S at RT CU
  obtain ⟨ta,tn,tc⟩:=S
  obtain ⟨ta',tc',et,_⟩:=id RT.out
  simp only [svV,Value.slice.injEq] at et
  obtain ⟨rfl,rfl,rfl⟩:=et
  generalize tkA (LL.take i)=P at HO SA PL
  clear hT hB
  go_wp2_with fail
  go_loopw [12,14] (fun xv jv wj=>∃ (j:Nat) (x:Value),j≤T.length∧jv=.int .i64 j∧xv=x∧Hid (Bz.Ob wj w1.heap.size x (P++tkB (T.take j)))∧Below w1.heap.size w1 wj) (fun _ jv _=>T.length - (intOf jv).toNat)
  case atStart=>exact ⟨0,x,Nat.zero_le _,rfl,rfl,Lib.hid (by simpa [tkB] using HO.out),HB.out⟩
  case round=>
   obtain ⟨j,x2,hj,rfl,hx,HO2,hB⟩:=hrel
   replace hx:=hx.symm
   subst hx
   have HB2:=Lib.hid hB
   obtain ⟨cu,cl⟩:=CU.out _ hB
   by_cases hjl:j<T.length
   case neg=>
    have O9:Hid (Bz.Ob wr w1.heap.size x2 (tkA (LL.take (i + 1)))):=Lib.hid (by have:=HO2.out;rw [List.take_of_length_le (by omega)] at this;rw [SA.out];exact this)
    clear hB
    go_wp2
    go_roundw
    case rel=>exact ⟨i + 1,x2,by omega,by go_num,rfl,O9,HB2.out⟩
    case measure=>simp [intOf];omega
   obtain ⟨tb,toff,et,_,d0,d1,d2⟩:=t3_at (RT.out.on hB) hjl
   subst et
   have ST:=Lib.hid (tkB_step hjl)
   have SS:Hid (∀ X,Below w1.heap.size w1 X→X.cell? ⟨ub,uoff + i,none⟩=some (.slice (some ⟨tb,toff,none⟩) T.length tc)∧X.cell? ⟨tb,toff + j * 3 + 1,none⟩=some (.int .i64 (T.getD j (0,0,0)).2.1)∧X.cell? ⟨tb,toff + j * 3 + 2,none⟩=some (.int .i64 (T.getD j (0,0,0)).2.2)):=Lib.hid (fun X q=>by
    obtain ⟨b',o',e',_,_,g1,g2⟩:=t3_at (RT.out.on q) hjl
    simp only [Option.some.injEq,Addr.mk.injEq,and_true] at e'
    obtain ⟨rfl,rfl⟩:=e'
    exact ⟨(CU.out X q).1,g1,g2⟩)
   have QL:(P++tkB (T.take j)).length≤1000:=by
    rw [List.length_append]
    have:=PL.out
    simp [tkB]
    omega
   obtain ⟨Q,hQ⟩:∃ Q,Q=P++tkB (T.take j):=⟨_,rfl⟩
   have NX:Hid (P++tkB (T.take (j + 1))=Q++[((T.getD j (0,0,0)).2.1,(T.getD j (0,0,0)).2.2)]):=Lib.hid (by rw [hQ,ST.out,List.append_assoc])
   rw [← hQ] at HO2 QL
   generalize T.getD j (0,0,0)=X at d0 d1 d2 SS NX
   obtain ⟨x0,X1,X2⟩:=X
   dsimp only at d0 d1 d2 SS NX
   have dl:=Bz.cell_in d1
   obtain ⟨i0,hi0,hz0,hz1,hz2⟩:=info_parts Bz.info_bz
   have szx:w1.heap.size≤wr.heap.size:=hB.size
   clear hQ ST hB d0
   go_upto_region 9 with fail
   go_region_held3 (fun X=>X.cell? ⟨ub,uoff + i,none⟩=some (.slice (some ⟨tb,toff,none⟩) T.length tc)∧X.cell? ⟨tb,toff + j * 3 + 1,none⟩=some (.int .i64 X1)∧X.cell? ⟨tb,toff + j * 3 + 2,none⟩=some (.int .i64 X2))
    (first | exact SS.out _ (Below.drew HB2.out) | exact SS.out _ (Below.alloc (Below.drew HB2.out) szx _) | exact SS.out _ (Below.drew (Below.alloc HB2.out szx _)) | exact SS.out _ hb3)
    (first
    | (refine Zo.step_append_own rfl _ _ 46 rfl w1.heap.size 99 i0 (.agg #[.int .i64 0,.int .i64 0]) 2 16 Tryz.underlying46 hi0 hz0 hz1 hz2 rfl (by decide) _ Q.length (Q.flatMap Bz.encB) rfl (ow_below HO2.out (Below.drew (Below.alloc (Below.refl _ _) (Nat.le_refl _) _))) ⟨wr.heap.size,0,none⟩ 1 1 [.int .i64 X1,.int .i64 X2] rfl rfl (news2 _ _ _ _) (fun u hu=>by simp at hu;rcases hu with rfl | rfl <;> rfl) (by unfold maxLen;omega) (by omega) (Nat.le_trans szx (by simp)) ?_;intro v' w3 R1 R2;have hb3:Below w1.heap.size w1 w3:=Below.grown (Below.drew (Below.alloc HB2.out szx _)) R2 (Nat.le_trans szx (by simp)) (fun j hj=>(HO2.out.lt j hj).1);have Q1:=Lib.hid R1;clear R1 R2))
   all_goals
    have Q2:=Lib.hid hb3
    have Q3:Hid (Bz.Ob w3 w1.heap.size v' (P++tkB (T.take (j + 1)))):=Lib.hid (by
     rw [NX.out]
     show w3.ownsRow w1.heap.size 99 2 v' (Q++[(X1,X2)]).length ((Q++[(X1,X2)]).flatMap Bz.encB)
     rw [List.length_append,List.flatMap_append]
     exact Q1.out)
    clear hb3 cu cl d1 d2 dl Q1
    go_wp2
    go_roundw
    case rel=>exact ⟨j + 1,v',by omega,by go_num,rfl,Q3,Q2.out⟩
    case measure=>simp [intOf];omega
end Go.Proofs.YtoncfgfjdlgfcaaGreatDoor.Pl
namespace Go.Proofs.YtoncfgfjdlgfcaaGreatDoor.Pp
open Go.RowKit Bz Cal Txt
def mmB (x y:Tm):Bool:=decide (max x.2.1 y.2.1<x.2.2∧max x.2.1 y.2.1<y.2.2)
def mmL (a b:List Tm):Bool:=a.any (fun x=>b.any (mmB x))
theorem mm_tk (a b:List Tm):mmL a b=shB (tkb a) (tkb b):=by
 unfold mmL shB tkb
 rw [List.any_map]
 congr 1
 funext x
 show b.any (mmB x)=(b.map (fun y=>(y.2.1,y.2.2))).any (mtB (x.2.1,x.2.2))
 rw [List.any_map]
 congr 1
 funext y
 show decide (max x.2.1 y.2.1<x.2.2∧max x.2.1 y.2.1<y.2.2)=decide (max x.2.1 y.2.1<min x.2.2 y.2.2)
 rw [decide_eq_decide]
 omega
theorem any_step (b:List Tm) (f:Tm→Bool) (k:Nat) (h:k<b.length):(b.drop k).any f=(f (b.getD k (0,0,0)) || (b.drop (k + 1)).any f):=by
 rw [List.drop_eq_getElem_cons h,List.any_cons,List.getD_eq_getElem?_getD,List.getElem?_eq_getElem h]
 rfl
set_option maxRecDepth 100000 in
set_option maxHeartbeats 4000000 in
theorem meetT_any (a b:List Tm) (va vb:Value) (w:World) (ha:Tms w va a) (hb:Tms w vb b) (la:a.length≤1000000) (lb:b.length≤1000000) :
 Calls Tryz.prog 14 #[va,vb] w fun e w'=>e=.returned (.bool (mmL a b))∧w'=w:=by
 obtain ⟨pa,ca,rfl,hca⟩:=ha
 obtain ⟨pb,cb,rfl,hcb⟩:=hb
 have HA:=Lib.hid hca
 have HB:=Lib.hid hcb
 have EM:Hid (mmL a b=a.any (fun x=>b.any (mmB x))):=Lib.hid rfl
 generalize mmL a b=R at EM ⊢
 clear hca hcb
 go_enter Tryz.func14,Tryz.ntmps14
 go_wp2_with fail
 go_loop [5,6,7] (fun iv _ _=>∃ i:Nat,i≤a.length∧iv=.int .i64 i∧Hid (R=(a.drop i).any (fun x=>b.any (mmB x)))) (fun iv _ _=>a.length - (intOf iv).toNat)
 case atStart=>exact ⟨0,Nat.zero_le _,rfl,EM⟩
 case round=>
  obtain ⟨i,hi,rfl,HI⟩:=hrel
  by_cases hlt:i<a.length
  case neg=>
   have N:Hid (R=false):=Lib.hid (by rw [HI.out,show i=a.length by omega,List.drop_length];rfl)
   go_wp2_with fail
   go_ret
   exact ⟨by rw [N.out];rfl,rfl⟩
  rcases HA.out with hc | ⟨ba,oa,rfl,hc⟩
  ·rw [hc] at hlt;simp at hlt
  obtain ⟨_,x1,x2⟩:=hc i hlt
  have SX:=any_step a (fun x=>b.any (mmB x)) i hlt
  generalize a.getD i (0,0,0)=X at x1 x2 SX
  have HS:=Lib.hid (HI.out.trans SX)
  have xl:=ecell_in x1
  clear hc SX
  go_wp2_with fail
  go_loop [6,7] (fun jv _=>∃ j:Nat,j≤b.length∧jv=.int .i64 j∧Hid (R=((b.drop j).any (mmB X) || (a.drop (i + 1)).any (fun x=>b.any (mmB x))))) (fun jv _=>b.length - (intOf jv).toNat)
  case atStart=>exact ⟨0,Nat.zero_le _,rfl,HS⟩
  case round=>
   obtain ⟨j,hj,rfl,HJ⟩:=hrel
   by_cases hlj:j<b.length
   case neg=>
    have N:Hid (R=(a.drop (i + 1)).any (fun x=>b.any (mmB x))):=Lib.hid (by rw [HJ.out,show j=b.length by omega,List.drop_length];rfl)
    go_wp2_with fail
    go_round
    case rel=>exact ⟨i + 1,by omega,by go_num,N⟩
    case measure=>simp [intOf];omega
   rcases HB.out with hc | ⟨bb,ob,rfl,hc⟩
   ·rw [hc] at hlj;simp at hlj
   obtain ⟨_,y1,y2⟩:=hc j hlj
   have SY:=any_step b (mmB X) j hlj
   generalize b.getD j (0,0,0)=Y at y1 y2 SY
   have yl:=ecell_in y1
   have HY:=Lib.hid SY
   clear hc SY
   by_cases c1:X.2.1<Y.2.1
   case neg=>
    have mx:max X.2.1 Y.2.1=X.2.1:=by omega
    by_cases c2:X.2.1<X.2.2
    case neg=>
     have N:Hid (R=((b.drop (j + 1)).any (mmB X) || (a.drop (i + 1)).any (fun x=>b.any (mmB x)))):=Lib.hid (by
      have e:mmB X Y=false:=by unfold mmB;rw [mx];simp;omega
      rw [HJ.out,HY.out,e,Bool.false_or])
     clear mx HY HJ
     go_wp2_with fail
     go_round
     case rel=>exact ⟨j + 1,by omega,by go_num,N⟩
     case measure=>simp [intOf];omega
    by_cases c3:X.2.1<Y.2.2
    case neg=>
     have N:Hid (R=((b.drop (j + 1)).any (mmB X) || (a.drop (i + 1)).any (fun x=>b.any (mmB x)))):=Lib.hid (by
      have e:mmB X Y=false:=by unfold mmB;rw [mx];simp;omega
      rw [HJ.out,HY.out,e,Bool.false_or])
     clear mx HY HJ
     go_wp2_with fail
     go_round
     case rel=>exact ⟨j + 1,by omega,by go_num,N⟩
     case measure=>simp [intOf];omega
    have N:Hid (R=true):=Lib.hid (by
     have e:mmB X Y=true:=by unfold mmB;rw [mx];simp;omega
     rw [HJ.out,HY.out,e,Bool.true_or,Bool.true_or])
    clear mx HY HJ
    go_wp2_with fail
    go_ret
    exact ⟨by rw [N.out];rfl,rfl⟩
   have mx:max X.2.1 Y.2.1=Y.2.1:=by omega
   by_cases c2:Y.2.1<X.2.2
   case neg=>
    have N:Hid (R=((b.drop (j + 1)).any (mmB X) || (a.drop (i + 1)).any (fun x=>b.any (mmB x)))):=Lib.hid (by
     have e:mmB X Y=false:=by unfold mmB;rw [mx];simp;omega
     rw [HJ.out,HY.out,e,Bool.false_or])
    clear mx HY HJ
    go_wp2_with fail
    go_round
    case rel=>exact ⟨j + 1,by omega,by go_num,N⟩
    case measure=>simp [intOf];omega
   by_cases c3:Y.2.1<Y.2.2
   case neg=>
    have N:Hid (R=((b.drop (j + 1)).any (mmB X) || (a.drop (i + 1)).any (fun x=>b.any (mmB x)))):=Lib.hid (by
     have e:mmB X Y=false:=by unfold mmB;rw [mx];simp;omega
     rw [HJ.out,HY.out,e,Bool.false_or])
    clear mx HY HJ
    go_wp2_with fail
    go_round
    case rel=>exact ⟨j + 1,by omega,by go_num,N⟩
    case measure=>simp [intOf];omega
   have N:Hid (R=true):=Lib.hid (by
    have e:mmB X Y=true:=by unfold mmB;rw [mx];simp;omega
    rw [HJ.out,HY.out,e,Bool.true_or,Bool.true_or])
   clear mx HY HJ
   go_wp2_with fail
   go_ret
   exact ⟨by rw [N.out];rfl,rfl⟩
end Go.Proofs.YtoncfgfjdlgfcaaGreatDoor.Pp
namespace Go.Proofs.YtoncfgfjdlgfcaaGreatDoor.Pp
open Go.RowKit Bz Cal Txt
section
variable (a:Int) (l:List (Int × Int)) (fr t:Int)
abbrev dF (L:List (Evt × Evs)):Int:=Pl.paF (ezF a l) (seF fr t) (fun e=>tmA a l e fr t) L
abbrev dL (L:List (Evt × Evs)):List (List Pl.Tt):=Pl.paL (ezF a l) (seF fr t) (fun e=>tmA a l e fr t) L
abbrev eF (L:List (Evt × Evs)):Int:=teF (fun e=>tbF a l e fr t) (fun e=>tbL a l e fr t) L
abbrev eL (L:List (Evt × Evs)):List (List Bz):=teL (fun e=>tbF a l e fr t) (fun e=>tbL a l e fr t) L
theorem tm_same {e:Evt} (h1:ezF a l e=0) (h2:strB fr t=true):tmA a l e fr t=tmL a l e fr t:=by
 obtain ⟨⟨b1,b2⟩,b3,_⟩:=strB_ends h2
 exact tmA_eq (ez_good h1).1 (ez_good h1).2 (by unfold okS;omega)
theorem pa_tb (x:Evt × Evs):Pl.paE (ezF a l) (seF fr t) (fun e=>tmA a l e fr t) x=tbF a l x.1 fr t:=by
 unfold Pl.paE tbF seF
 by_cases h1:ezF a l x.1=0
 ·by_cases h2:strB fr t=true
  ·have e:=tm_same a l fr t h1 h2
   simp [h1,h2,e]
  ·simp [h1,h2]
 ·simp [h1]
theorem pa_tm {e:Evt} (h:tbF a l e fr t=0):tmA a l e fr t=tbL a l e fr t:=by
 obtain ⟨⟨h1,h0⟩,h2,h3,_⟩:=tb_good h
 rw [h3,tm_same a l fr t (by unfold ezF;rw [if_neg (fun z=>z h1)];exact h0) h2]
theorem pa_G (L:List (Evt × Evs)):Pl.paG (ezF a l) (seF fr t) (fun e=>tmA a l e fr t) L=teG (fun e=>tbF a l e fr t) L:=by
 unfold Pl.paG teG
 rw [show L.map (Pl.paE (ezF a l) (seF fr t) (fun e=>tmA a l e fr t))=L.map (fun x=>tbF a l x.1 fr t) from List.map_congr_left (fun x _=>pa_tb a l fr t x)]
theorem teG_all (g:Evt→Int):∀ L:List (Evt × Evs),teG g L=0→∀ x∈L,g x.1=0
 | [],_,x,hx=>by simp at hx
 | b :: r,h,x,hx=>by
   have q:(if g b.1=0 then teG g r else g b.1)=0:=h
   split at q
   ·rename_i z
    rcases List.mem_cons.1 hx with rfl | hx
    ·exact z
    ·exact teG_all g r q x hx
   ·rename_i z;exact absurd q z
theorem paN_same (f g:Evt→List Tm):∀ L:List (Evt × Evs),(∀ x∈L,f x.1=g x.1)→Pl.paN f L=teN g L
 | [],_=>rfl
 | b :: r,h=>by
   show (f b.1).length + Pl.paN f r=(g b.1).length + teN g r
   rw [h b (by simp),paN_same f g r (fun x hx=>h x (List.mem_cons_of_mem _ hx))]
theorem d_F (L:List (Evt × Evs)):dF a l fr t L=eF a l fr t L:=by
 have e:=pa_G a l fr t L
 unfold dF eF Pl.paF teF
 rw [e]
 by_cases h0:20<L.length
 ·simp [h0]
 ·by_cases h1:teG (fun e=>tbF a l e fr t) L=0
  ·have e2:=paN_same (fun e=>tmA a l e fr t) (fun e=>tbL a l e fr t) L (fun x hx=>pa_tm a l fr t (teG_all _ L h1 x hx))
   simp [h0,h1,e2]
  ·simp [h0,h1]
theorem eF_all {L:List (Evt × Evs)} (h:eF a l fr t L=0):L.length≤20∧(∀ x∈L,tbF a l x.1 fr t=0)∧teN (fun e=>tbL a l e fr t) L≤200:=by
 unfold eF teF at h
 split at h
 ·cases h
 ·split at h
  ·rename_i q;exact absurd h q
  ·rename_i q
   split at h
   ·cases h
   ·exact ⟨by omega,teG_all _ L (Decidable.byContradiction q),by omega⟩
theorem d_L (L:List (Evt × Evs)):eL a l fr t L=(dL a l fr t L).map tkb:=by
 have e:=d_F a l fr t L
 unfold dF eF at e
 unfold eL dL teL Pl.paL
 rw [e]
 split
 ·rename_i h
  have q:=(eF_all a l fr t h).2.1
  unfold teM Pl.paM
  rw [List.map_map]
  refine List.map_congr_left (fun x hx=>?_)
  show tkb (tbL a l x.1 fr t)=tkb (tmA a l x.1 fr t)
  rw [pa_tm a l fr t (q x hx)]
 ·rfl
theorem d_flat (L:List (Evt × Evs)):Pl.tkA (dL a l fr t L)=(eL a l fr t L).flatten:=by
 rw [d_L,List.flatten_eq_flatMap,List.flatMap_map]
 rfl
theorem tb_gd {e:Evt} (h:tbF a l e fr t=0):∀ x∈tkb (tbL a l e fr t),Gd x:=fun x hx=>by
 obtain ⟨⟨h1,h0⟩,h2,h3,_⟩:=tb_good h
 obtain ⟨⟨b1,b2⟩,b3,_⟩:=strB_ends h2
 rw [h3] at hx
 obtain ⟨y,hy,rfl⟩:=List.mem_map.1 hx
 have m:=(tmL_mem h1 h0 (by unfold okS;omega)).1 hy
 have tt:=isTm_time m
 obtain ⟨_,⟨r,_,ht⟩,_,_⟩:=m
 obtain ⟨_,_,t3,t4⟩:=tim_some ht
 have:=(evF_lens h1).2.2.2.2.2.1
 unfold Gd
 dsimp only
 omega
theorem e_gd (L:List (Evt × Evs)):∀ x∈(eL a l fr t L).flatten,Gd x:=fun x hx=>by
 unfold eL teL at hx
 split at hx
 ·rename_i h
  obtain ⟨T,hT,hx⟩:=List.mem_flatten.1 hx
  obtain ⟨z,hz,rfl⟩:=List.mem_map.1 hT
  exact tb_gd a l fr t ((eF_all a l fr t h).2.1 z hz) x hx
 ·simp at hx
theorem b_F (L:List (Evt × Evs)):bsF a l fr t L=dF a l fr t L:=by
 rw [d_F]
 unfold bsF pbF
 split
 ·rename_i h
  rw [bzF_zero.2 ⟨teL_flat _ _ L,e_gd a l fr t L⟩]
  exact h.symm
 ·rfl
theorem b_L (L:List (Evt × Evs)):bsL a l fr t L=nrm (Pl.tkA (dL a l fr t L)):=by
 rw [d_flat]
 unfold bsL pbL
 split
 ·exact nmL_yes (bzF_zero.2 ⟨teL_flat _ _ L,e_gd a l fr t L⟩)
 ·rename_i h
  have:eL a l fr t L=[]:=by unfold eL teL;rw [if_neg h]
  rw [this]
  rfl
theorem d_rt (L:List (Evt × Evs)):Rt (Pl.tkA (dL a l fr t L)):=by rw [d_flat];exact gd_rt (e_gd a l fr t L)
theorem lnA_tk:∀ LL:List (List Pl.Tt),Pl.lnA LL=(Pl.tkA LL).length
 | []=>rfl
 | T :: r=>by
   show T.length + Pl.lnA r=(Pl.tkA (T :: r)).length
   have e:Pl.tkA (T :: r)=Pl.tkB T++Pl.tkA r:=by unfold Pl.tkA;rw [List.flatMap_cons]
   rw [lnA_tk r,e,List.length_append]
   unfold Pl.tkB
   rw [List.length_map]
theorem d_few (L:List (Evt × Evs)):Pl.lnA (dL a l fr t L)≤1000∧(dL a l fr t L).length≤20∧∀ T∈dL a l fr t L,T.length≤200:=by
 refine ⟨?_,?_,fun T hT=>?_⟩
 ·rw [lnA_tk,d_flat]
  exact Nat.le_trans (teL_flat _ _ L) (by decide)
 ·have h:=(teL_ok (fun e=>tbF a l e fr t) (fun e=>tbL a l e fr t) L (fun _ _=>tb_few2)).1
  have e:=congrArg List.length (d_L a l fr t L)
  rw [List.length_map] at e
  rw [← e]
  exact h
 ·unfold dL Pl.paL at hT
  split at hT
  ·rename_i h
   have e:=d_F a l fr t L
   unfold dF at e
   rw [e] at h
   obtain ⟨x,hx,rfl⟩:=List.mem_map.1 hT
   show (tmA a l x.1 fr t).length≤200
   rw [pa_tm a l fr t ((eF_all a l fr t h).2.1 x hx)]
   exact tb_few2
  ·simp at hT
theorem b_gd (L:List (Evt × Evs)):∀ x∈bsL a l fr t L,Gd x:=fun x hx=>by
 rw [b_L,d_flat] at hx
 have g:=e_gd a l fr t L
 have w:=nrm_in (gd_rt g) (gd_wt g) x hx
 have c:=nrm_cn (gd_rt g)
 have:=c.2 x hx
 unfold Gd
 omega
theorem c_L (L:List (Evt × Evs)):clL (eF a l fr t L) (eL a l fr t L)=cOut ((dL a l fr t L).map tkb) 0:=by
 rw [← d_L]
 unfold clL
 split
 ·rfl
 ·rename_i h
  have:eL a l fr t L=[]:=by unfold eL teL;rw [if_neg h]
  rw [this]
  rfl
end
theorem nrm_two {x y:List Bz} (hx:∀ z∈x,Gd z) (hy:∀ z∈y,Gd z):nrm (x++y)=nrm (y++x):=by
 have g1:∀ z∈x++y,Gd z:=fun z hz=>(List.mem_append.1 hz).elim (hx z) (hy z)
 have g2:∀ z∈y++x,Gd z:=fun z hz=>(List.mem_append.1 hz).elim (hy z) (hx z)
 refine cn_ext (nrm_cn (gd_rt g1)) (nrm_cn (gd_rt g2)) (fun t=>?_)
 rw [nrm_cov (gd_rt g1),nrm_cov (gd_rt g2),cov_app,cov_app]
 exact Or.comm
def d2F (fx fy:Int) (x y:List Bz) (fr t len:Int):Int:=if fx≠0 then fx else if fy≠0 then fy else if ist fr=false∨ist t=false then 1 else if t<fr then 3 else slE len (fre t fr (nrm (y++x)))
def d2T (fx fy:Int) (x y:List Bz) (fr t len:Int):Int:=if fx≠0 then 0 else if fy≠0 then 0 else if ist fr=false∨ist t=false then 0 else if t<fr then 0 else slT len (fre t fr (nrm (y++x)))
theorem meet_doc (BF:Nat→Int) (BL:Nat→List Bz) (fr t len:Int) (h0:∀ z∈BL 0,Gd z) (h1:∀ z∈BL 1,Gd z) :
 meF BL BF 2 fr t len=d2F (BF 0) (BF 1) (BL 0) (BL 1) fr t len∧meT BL BF 2 fr t len=d2T (BF 0) (BF 1) (BL 0) (BL 1) fr t len:=by
 have eC:meC BL 2=BL 0++BL 1:=by show ([]++BL 0)++BL 1=_;rw [List.nil_append]
 have g1:∀ z∈BL 0++BL 1,Gd z:=fun z hz=>(List.mem_append.1 hz).elim (h0 z) (h1 z)
 have eN:=nrm_two h0 h1
 have r0:reF (BL 0++BL 1) 0=0:=reF_zero.2 g1
 have eG:meG BF 0 2=if BF 0=0 then (if BF 1=0 then 0 else BF 1) else BF 0:=rfl
 unfold meF meT d2F d2T
 rw [eG,eC]
 by_cases a0:BF 0=0
 ·by_cases a1:BF 1=0
  ·have f0:faF (BL 0++BL 1) fr t=onF (fr,t):=by unfold faF;rw [if_pos r0]
   have f1:onF (fr,t)=if ist fr=false∨ist t=false then 1 else if t<fr then 3 else 0:=rfl
   have f2:faL (BL 0++BL 1) fr t=if onF (fr,t)=0 then fre t fr (nrm (BL 1++BL 0)) else []:=by unfold faL;rw [f0,eN]
   simp only [a0,a1,ne_eq,not_true_eq_false,if_false,if_true]
   unfold saF saT
   rw [f0,f2,f1]
   by_cases b0:ist fr=false∨ist t=false
   ·simp [b0]
   ·by_cases b1:t<fr
    ·simp [b0,b1]
    ·simp [b0,b1]
  ·simp [a0,a1]
 ·simp [a0]
end Go.Proofs.YtoncfgfjdlgfcaaGreatDoor.Pp
