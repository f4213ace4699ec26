/-
  Texts of our own that serve the card of this claim, joined into one.
-/
import Derived.Test.YtoncfgfjdlgfcaaGreatDoorPU
import Derived.Test.YtoncfgfjdlgfcaaGreatDoorBQ
import Derived.Deep.MidRow
import Derived.Test.YtoncfgfjdlgfcaaGreatDoorRE
import Derived.Deep.Cut
import Derived.Deep.CutRange
import Derived.Shelf.Abstract
import Derived.BigQuiet
import Derived.Lib.QuietBelow
namespace Go.Proofs.YtoncfgfjdlgfcaaGreatDoor.Bz
abbrev Bz:=Int × Int
def cov (l:List Bz) (t:Int):Prop:=∃ x∈l,x.1≤t∧t<x.2
def Cn (m:List Bz):Prop:=m.Pairwise (fun x y=>x.2<y.1)∧∀ x∈m,x.1<x.2
theorem cn_nil:Cn []:=⟨List.Pairwise.nil,fun x h=>by simp at h⟩
theorem cn_cons {a:Bz} {r:List Bz}:Cn (a :: r)↔a.1<a.2∧(∀ y∈r,a.2<y.1)∧Cn r:=by
 unfold Cn
 rw [List.pairwise_cons]
 constructor
 ·rintro ⟨⟨h1,h2⟩,h3⟩
  exact ⟨h3 a (by simp),h1,h2,fun x hx=>h3 x (by simp [hx])⟩
 ·rintro ⟨h1,h2,h3,h4⟩
  refine ⟨⟨h2,h3⟩,fun x hx=>?_⟩
  rcases List.mem_cons.1 hx with rfl | hx
  ·exact h1
  ·exact h4 x hx
theorem cov_nil (t:Int):¬ cov [] t:=fun ⟨x,h,_⟩=>by simp at h
theorem cov_cons {a:Bz} {r:List Bz} {t:Int}:cov (a :: r) t↔(a.1≤t∧t<a.2)∨cov r t:=by
 unfold cov
 constructor
 ·rintro ⟨x,hx,h⟩
  rcases List.mem_cons.1 hx with rfl | hx
  ·exact Or.inl h
  ·exact Or.inr ⟨x,hx,h⟩
 ·rintro (h | ⟨x,hx,h⟩)
  ·exact ⟨a,by simp,h⟩
  ·exact ⟨x,by simp [hx],h⟩
theorem cov_app {a b:List Bz} {t:Int}:cov (a++b) t↔cov a t∨cov b t:=by
 induction a with
 | nil=>simp [cov_nil]
 | cons x r ih=>rw [List.cons_append,cov_cons,cov_cons,ih,or_assoc]
theorem cov_one {a:Bz} {t:Int}:cov [a] t↔a.1≤t∧t<a.2:=by
 rw [cov_cons]
 simp [cov_nil]
theorem Cn.first {m:List Bz} (h:Cn m) {x:Bz} (hx:x∈m):cov m x.1:=⟨x,hx,Int.le_refl _,h.2 x hx⟩
theorem Cn.last {m:List Bz} (h:Cn m) {x:Bz} (hx:x∈m):cov m (x.2 - 1):=⟨x,hx,by have:=h.2 x hx;omega,by omega⟩
theorem cn_ext:∀ {m n:List Bz},Cn m→Cn n→(∀ t,cov m t↔cov n t)→m=n
 | [],[],_,_,_=>rfl
 | [],b :: s,_,hn,h=>absurd ((h b.1).2 (hn.first (by simp))) (cov_nil _)
 | a :: r,[],hm,_,h=>absurd ((h a.1).1 (hm.first (by simp))) (cov_nil _)
 | a :: r,b :: s,hm,hn,h=>by
   obtain ⟨a1,a2,a3⟩:=cn_cons.1 hm
   obtain ⟨b1,b2,b3⟩:=cn_cons.1 hn
   have ra:∀ t,cov r t→a.2<t:=fun t ⟨x,hx,k⟩=>by have:=a2 x hx;omega
   have sb:∀ t,cov s t→b.2<t:=fun t ⟨x,hx,k⟩=>by have:=b2 x hx;omega
   have e1:a.1=b.1:=by
    have p:=cov_cons.1 ((h a.1).1 (hm.first (by simp)))
    have q:=cov_cons.1 ((h b.1).2 (hn.first (by simp)))
    rcases p with p | p
    ·rcases q with q | q
     ·omega
     ·have:=ra _ q
      omega
    ·have:=sb _ p
     rcases q with q | q
     ·omega
     ·have:=ra _ q
      omega
   have e2:a.2=b.2:=by
    rcases Int.lt_trichotomy a.2 b.2 with k | k | k
    ·rcases cov_cons.1 ((h a.2).2 (cov_cons.2 (Or.inl ⟨by omega,k⟩))) with p | p
     ·omega
     ·have:=ra _ p
      omega
    ·exact k
    ·rcases cov_cons.1 ((h b.2).1 (cov_cons.2 (Or.inl ⟨by omega,k⟩))) with p | p
     ·omega
     ·have:=sb _ p
      omega
   have e3:r=s:=cn_ext a3 b3 (fun t=>by
    constructor
    ·intro k
     have:=ra _ k
     rcases cov_cons.1 ((h t).1 (cov_cons.2 (Or.inr k))) with p | p
     ·omega
     ·exact p
    ·intro k
     have:=sb _ k
     rcases cov_cons.1 ((h t).2 (cov_cons.2 (Or.inr k))) with p | p
     ·omega
     ·exact p)
   rw [e3,Prod.ext e1 e2]
def pt1 (b:Bz):List Bz→List Bz
 | []=>[b]
 | o :: r=>if o.2<b.1 then o :: pt1 b r else if b.2<o.1 then b :: o :: r else pt1 (min o.1 b.1,max o.2 b.2) r
theorem pt1_cn:∀ (out:List Bz) (b:Bz),Cn out→b.1<b.2→Cn (pt1 b out)∧∀ t,cov (pt1 b out) t↔(b.1≤t∧t<b.2)∨cov out t
 | [],b,_,hb=>⟨cn_cons.2 ⟨hb,fun y h=>by simp at h,cn_nil⟩,fun t=>cov_cons⟩
 | o :: r,b,hm,hb=>by
   obtain ⟨o1,o2,o3⟩:=cn_cons.1 hm
   unfold pt1
   by_cases c1:o.2<b.1
   ·rw [if_pos c1]
    obtain ⟨i1,i2⟩:=pt1_cn r b o3 hb
    refine ⟨cn_cons.2 ⟨o1,fun y hy=>?_,i1⟩,fun t=>?_⟩
    ·rcases (i2 y.1).1 (i1.first hy) with k | ⟨z,hz,k⟩
     ·omega
     ·have:=o2 z hz
      omega
    ·rw [cov_cons,i2,cov_cons]
     constructor
     ·rintro (k | k | k)
      ·exact Or.inr (Or.inl k)
      ·exact Or.inl k
      ·exact Or.inr (Or.inr k)
     ·rintro (k | k | k)
      ·exact Or.inr (Or.inl k)
      ·exact Or.inl k
      ·exact Or.inr (Or.inr k)
   ·rw [if_neg c1]
    by_cases c2:b.2<o.1
    ·rw [if_pos c2]
     refine ⟨cn_cons.2 ⟨hb,fun y hy=>?_,hm⟩,fun t=>cov_cons⟩
     rcases List.mem_cons.1 hy with rfl | hy
     ·exact c2
     ·have:=o2 y hy
      omega
    ·rw [if_neg c2]
     obtain ⟨i1,i2⟩:=pt1_cn r (min o.1 b.1,max o.2 b.2) o3 (by show min o.1 b.1<max o.2 b.2;omega)
     refine ⟨i1,fun t=>?_⟩
     rw [i2,cov_cons]
     show (min o.1 b.1≤t∧t<max o.2 b.2)∨cov r t↔_
     constructor
     ·rintro (k | k)
      ·by_cases q:b.1≤t∧t<b.2
       ·exact Or.inl q
       ·exact Or.inr (Or.inl (by omega))
      ·exact Or.inr (Or.inr k)
     ·rintro (k | k | k)
      ·exact Or.inl (by omega)
      ·exact Or.inl (by omega)
      ·exact Or.inr k
theorem pt1_len:∀ (out:List Bz) (b:Bz),(pt1 b out).length≤out.length + 1
 | [],b=>Nat.le_refl _
 | o :: r,b=>by
   unfold pt1
   split
   ·have:=pt1_len r b
    simp only [List.length_cons]
    omega
   ·split
    ·simp
    ·have:=pt1_len r (min o.1 b.1,max o.2 b.2)
     simp only [List.length_cons]
     omega
def nrF (out:List Bz) (b:Bz):List Bz:=if b.1=b.2 then out else pt1 b out
def nrm (l:List Bz):List Bz:=l.foldl nrF []
def Rt (l:List Bz):Prop:=∀ x∈l,x.1≤x.2
theorem nrF_all:∀ (l out:List Bz),Cn out→Rt l→Cn (l.foldl nrF out)∧(∀ t,cov (l.foldl nrF out) t↔cov out t∨cov l t)∧(l.foldl nrF out).length≤out.length + l.length
 | [],out,h,_=>⟨h,fun t=>by simp [cov_nil],Nat.le_refl _⟩
 | b :: r,out,h,hr=>by
   have hb:=hr b (by simp)
   have hr':Rt r:=fun x hx=>hr x (by simp [hx])
   rw [List.foldl_cons]
   have key:Cn (nrF out b)∧(∀ t,cov (nrF out b) t↔cov out t∨(b.1≤t∧t<b.2))∧(nrF out b).length≤out.length + 1:=by
    unfold nrF
    by_cases c:b.1=b.2
    ·rw [if_pos c]
     refine ⟨h,fun t=>⟨Or.inl,?_⟩,by omega⟩
     rintro (k | k)
     ·exact k
     ·omega
    ·rw [if_neg c]
     obtain ⟨i1,i2⟩:=pt1_cn out b h (by omega)
     exact ⟨i1,fun t=>by rw [i2,or_comm],pt1_len out b⟩
   obtain ⟨k1,k2,k3⟩:=key
   obtain ⟨j1,j2,j3⟩:=nrF_all r (nrF out b) k1 hr'
   refine ⟨j1,fun t=>by rw [j2,k2,cov_cons,or_assoc],?_⟩
   rw [List.length_cons]
   omega
theorem nrm_cn {l:List Bz} (h:Rt l):Cn (nrm l):=(nrF_all l [] cn_nil h).1
theorem nrm_cov {l:List Bz} (h:Rt l) (t:Int):cov (nrm l) t↔cov l t:=by
 rw [show cov (nrm l) t↔_ from (nrF_all l [] cn_nil h).2.1 t]
 simp [cov_nil]
theorem nrm_len {l:List Bz} (h:Rt l):(nrm l).length≤l.length:=by
 have:=(nrF_all l [] cn_nil h).2.2
 simpa [nrm] using this
theorem nrm_is {l m:List Bz} (h:Rt l) (hm:Cn m) (hc:∀ t,cov m t↔cov l t):m=nrm l:=cn_ext hm (nrm_cn h) (fun t=>by rw [hc,nrm_cov h])
def Wt (lo hi:Int) (l:List Bz):Prop:=∀ x∈l,lo≤x.1∧x.2≤hi
theorem nrm_in {l:List Bz} {lo hi:Int} (h:Rt l) (hw:Wt lo hi l):Wt lo hi (nrm l):=fun x hx=>by
 obtain ⟨y,hy,k⟩:=(nrm_cov h x.1).1 ((nrm_cn h).first hx)
 obtain ⟨z,hz,q⟩:=(nrm_cov h (x.2 - 1)).1 ((nrm_cn h).last hx)
 have:=hw y hy
 have:=hw z hz
 omega
def stp (out:List Bz) (b:Bz):List Bz:=
 if out=[] then [b] else if (out.getD (out.length - 1) (0,0)).2<b.1 then out++[b] else out.set (out.length - 1) ((out.getD (out.length - 1) (0,0)).1,max (out.getD (out.length - 1) (0,0)).2 b.2)
theorem stp_last (i:List Bz) (z b:Bz):stp (i++[z]) b=if z.2<b.1 then i++[z]++[b] else i++[(z.1,max z.2 b.2)]:=by
 have e:(i++[z]).getD ((i++[z]).length - 1) (0,0)=z:=by simp
 unfold stp
 rw [if_neg (by simp),e]
 split
 ·rfl
 ·simp
def MgI (d out:List Bz):Prop:=Cn out∧(∀ t,cov out t↔cov d t)∧out.length≤d.length
theorem cn_snoc {i:List Bz} {z:Bz}:Cn (i++[z])↔Cn i∧z.1<z.2∧∀ x∈i,x.2<z.1:=by
 unfold Cn
 rw [List.pairwise_append]
 constructor
 ·rintro ⟨⟨h1,_,h3⟩,h4⟩
  exact ⟨⟨h1,fun x hx=>h4 x (by simp [hx])⟩,h4 z (by simp),fun x hx=>h3 x hx z (by simp)⟩
 ·rintro ⟨⟨h1,h2⟩,h3,h4⟩
  refine ⟨⟨h1,by simp,fun x hx y hy=>by simp at hy;subst hy;exact h4 x hx⟩,fun x hx=>?_⟩
  rcases List.mem_append.1 hx with k | k
  ·exact h2 x k
  ·simp at k
   subst k
   exact h3
theorem MgI.step {d out:List Bz} {b:Bz} (h:MgI d out) (hb:b.1<b.2) (ho:∀ y∈d,y.1≤b.1):MgI (d++[b]) (stp out b):=by
 obtain ⟨h1,h2,h3⟩:=h
 rcases List.eq_nil_or_concat out with rfl | ⟨i,z,rfl⟩
 ·refine ⟨?_,fun t=>?_,by simp [stp]⟩
  ·simp only [stp]
   exact cn_cons.2 ⟨hb,fun y h=>by simp at h,cn_nil⟩
  ·simp only [stp]
   rw [cov_app,← h2]
   simp [cov_nil]
 ·rw [List.concat_eq_append] at h1 h2 h3 ⊢
  obtain ⟨c1,c2,c3⟩:=cn_snoc.1 h1
  have zb:z.1≤b.1:=by
   obtain ⟨y,hy,k⟩:=(h2 z.1).1 (h1.first (by simp))
   obtain ⟨y2,hy2,k2⟩:=(h2 z.1).1 (h1.first (by simp))
   have:=ho y hy
   rcases Int.lt_or_le y.1 z.1 with q | q
   ·obtain ⟨u,hu,k3⟩:=(h2 y.1).2 ⟨y,hy,Int.le_refl _,by omega⟩
    rcases List.mem_append.1 hu with g | g
    ·obtain ⟨u4,hu4,k4⟩:=(h2 (z.1 - 1)).2 ⟨y,hy,by omega,by omega⟩
     rcases List.mem_append.1 hu4 with g4 | g4
     ·have:=c3 u4 g4
      omega
     ·simp at g4
      subst g4
      omega
    ·simp at g
     subst g
     omega
   ·omega
  rw [stp_last]
  by_cases c:z.2<b.1
  ·rw [if_pos c]
   refine ⟨cn_snoc.2 ⟨h1,hb,fun x hx=>?_⟩,fun t=>by rw [cov_app (a:=i++[z]),cov_app (a:=d),h2],by simp at h3 ⊢;omega⟩
   rcases List.mem_append.1 hx with g | g
   ·have:=c3 x g
    omega
   ·simp at g
    subst g
    exact c
  ·rw [if_neg c]
   refine ⟨cn_snoc.2 ⟨c1,by show z.1<max z.2 b.2;omega,c3⟩,fun t=>?_,by simp at h3 ⊢;omega⟩
   rw [cov_app,cov_app,← h2,cov_app,cov_one,cov_one,cov_one]
   show cov i t∨(z.1≤t∧t<max z.2 b.2)↔_
   constructor
   ·rintro (k | k)
    ·exact Or.inl (Or.inl k)
    ·by_cases q:z.1≤t∧t<z.2
     ·exact Or.inl (Or.inr q)
     ·exact Or.inr (by omega)
   ·rintro ((k | k) | k)
    ·exact Or.inl k
    ·exact Or.inr (by omega)
    ·exact Or.inr (by omega)
theorem mgI_done {l B out:List Bz} (hr:Rt l) (hp:(l.filter (fun x=>!decide (x.2 - x.1=0))).Perm B) (h:MgI B out):out=nrm l:=by
 refine nrm_is hr h.1 (fun t=>?_)
 rw [h.2.1]
 unfold cov
 constructor
 ·rintro ⟨x,hx,k⟩
  exact ⟨x,(List.mem_filter.1 (hp.mem_iff.2 hx)).1,k⟩
 ·rintro ⟨x,hx,k⟩
  exact ⟨x,hp.mem_iff.1 (List.mem_filter.2 ⟨hx,by simp;omega⟩),k⟩
def fre (e:Int):Int→List Bz→List Bz
 | a,[]=>if a<e then [(a,e)] else []
 | a,b :: r=>(if a<min b.1 e then [(a,min b.1 e)] else [])++fre e (max a b.2) r
theorem fre_cn (e:Int):∀ (m:List Bz) (a:Int),Cn m→Cn (fre e a m)∧∀ t,cov (fre e a m) t↔(a≤t∧t<e)∧¬ cov m t
 | [],a,_=>by
   unfold fre
   by_cases c:a<e
   ·rw [if_pos c]
    exact ⟨cn_cons.2 ⟨c,fun y h=>by simp at h,cn_nil⟩,fun t=>by rw [cov_one];simp [cov_nil]⟩
   ·rw [if_neg c]
    refine ⟨cn_nil,fun t=>⟨fun h=>absurd h (cov_nil _),fun h=>?_⟩⟩
    omega
 | b :: r,a,h=>by
   obtain ⟨b1,b2,b3⟩:=cn_cons.1 h
   obtain ⟨i1,i2⟩:=fre_cn e r (max a b.2) b3
   have rb:∀ t,cov r t→b.2<t:=fun t ⟨x,hx,k⟩=>by have:=b2 x hx;omega
   unfold fre
   have hc:∀ t,(a≤t∧t<min b.1 e)∨cov (fre e (max a b.2) r) t↔(a≤t∧t<e)∧¬ cov (b :: r) t:=fun t=>by
    rw [i2,cov_cons]
    constructor
    ·rintro (k | ⟨k,k2⟩)
     ·refine ⟨by omega,?_⟩
      rintro (q | q)
      ·omega
      ·have:=rb t q
       omega
     ·refine ⟨by omega,?_⟩
      rintro (q | q)
      ·omega
      ·exact k2 q
    ·rintro ⟨k,k2⟩
     by_cases q:t<b.1
     ·exact Or.inl (by omega)
     ·have q2:¬ (b.1≤t∧t<b.2):=fun g=>k2 (Or.inl g)
      exact Or.inr ⟨by omega,fun g=>k2 (Or.inr g)⟩
   by_cases c:a<min b.1 e
   ·rw [if_pos c]
    refine ⟨cn_cons.2 ⟨c,fun y hy=>?_,i1⟩,fun t=>by rw [List.singleton_append,cov_cons];exact hc t⟩
    have:=((i2 y.1).1 (i1.first hy)).1
    show min b.1 e<y.1
    omega
   ·rw [if_neg c]
    refine ⟨i1,fun t=>?_⟩
    rw [List.nil_append,← hc t]
    constructor
    ·exact Or.inr
    ·rintro (k | k)
     ·omega
     ·exact k
theorem fre_len (e:Int):∀ (m:List Bz) (a:Int),(fre e a m).length≤m.length + 1
 | [],a=>by unfold fre;split <;> simp
 | b :: r,a=>by
   have:=fre_len e r (max a b.2)
   unfold fre
   rw [List.length_append,List.length_cons]
   split <;> simp <;> omega
def cnt (p:Int→Bool) (lo:Int):Nat→Int
 | 0=>0
 | n + 1=>cnt p lo n + (if p (lo + n)=true then 1 else 0)
end Go.Proofs.YtoncfgfjdlgfcaaGreatDoor.Bz
namespace Go.Proofs.YtoncfgfjdlgfcaaGreatDoor.Bz
open Go.RowKit
def encB (x:Bz):List Value:=[.int .i64 x.1,.int .i64 x.2]
abbrev agB (x:Bz):Value:=.agg #[.int .i64 x.1,.int .i64 x.2]
theorem encB_len (x:Bz):(encB x).length=2:=rfl
theorem encB_one (x:Bz):∀ u∈encB x,u.oneCell'=true:=fun u hu=>by
 simp [encB] at hu
 rcases hu with rfl | rfl <;> rfl
abbrev Rb (w:World) (v:Value) (l:List Bz):Prop:=RowK encB w v l
abbrev Ob (w:World) (n0:Nat) (v:Value) (l:List Bz):Prop:=w.ownsRow n0 99 2 v l.length (l.flatMap encB)
theorem Ob.rb {w:World} {n0:Nat} {v:Value} {l:List Bz} (h:Ob w n0 v l):Rb w v l:=own_rowK (enc:=encB) (k:=2) encB_len (by decide) h
theorem info_bz:(Tryz.prog.info? 99).map (fun i=>(i.zero,i.size,i.bytes))=some (some (.agg #[.int .i64 0,.int .i64 0]),2,16):=by kernel_rfl
theorem flatB_len (l:List Bz):(l.flatMap encB).length=l.length * 2:=flat_len encB 2 encB_len l
theorem flatB_at (l:List Bz) (i:Nat) (h:i<l.length):(l.flatMap encB)[i * 2]?=some (.int .i64 (l.getD i (0,0)).1)∧(l.flatMap encB)[i * 2 + 1]?=some (.int .i64 (l.getD i (0,0)).2):=
 ⟨flat_at encB 2 encB_len l i 0 h (by decide),flat_at encB 2 encB_len l i 1 h (by decide)⟩
theorem rb_at {w:World} {a:Option Addr} {n cap:Nat} {l:List Bz} (h:Rb w (.slice a n cap) l) {i:Nat} (hi:i<l.length):∃ b off,a=some ⟨b,off,none⟩∧n=l.length∧w.cell? ⟨b,off + i * 2,none⟩=some (.int .i64 (l.getD i (0,0)).1)∧w.cell? ⟨b,off + i * 2 + 1,none⟩=some (.int .i64 (l.getD i (0,0)).2):=by
 obtain ⟨a',c',e,hc⟩:=h
 simp only [Value.slice.injEq] at e
 obtain ⟨rfl,rfl,rfl⟩:=e
 rcases hc with rfl | ⟨b,off,rfl,hc⟩
 ·simp at hi
 ·obtain ⟨q1,q2⟩:=flatB_at l i hi
  exact ⟨b,off,rfl,rfl,hc _ _ q1,by have:=hc _ _ q2;rwa [← Nat.add_assoc] at this⟩
theorem cell_in {w:World} {b o:Nat} {v:Value} (h:w.cell? ⟨b,o,none⟩=some v):b<w.heap.size:=World.block_lt_of_cell? _ _ h
theorem appB_own {w:World} {n0:Nat} {v vo:Value} {l mo:List Bz} (h:Ob w n0 v l) (hm:Rb w vo mo) (hn:n0≤w.heap.size) (hl:l.length + mo.length≤1000000000) :
 ∃ v' w',(∀ ty,(Builtin.append_ #[46,46] ty #[v,vo]).run Tryz.prog w=.ok v' w')∧Ob w' n0 v' (l++mo)∧w.grownBy w' v.ownBlock:=by
 obtain ⟨i0,hi,hz0,hz1,hz2⟩:=info_parts info_bz
 obtain ⟨a,cap,rfl,hc⟩:=hm
 have own:∀ (v':Value) (w':World),w'.ownsRow n0 99 2 v' (l.length + mo.length) (l.flatMap encB++mo.flatMap encB)→Ob w' n0 v' (l++mo):=fun v' w' q=>by
  show w'.ownsRow n0 99 2 v' (l++mo).length ((l++mo).flatMap encB)
  rw [List.length_append,List.flatMap_append];exact q
 have some_:∀ ad:Addr,(∀ j u,(mo.flatMap encB)[j]?=some u→w.cell? (ad.add j)=some u)→∃ (v':Value) (w':World),(∀ ty,(Builtin.append_ #[46,46] ty #[v,.slice (some ad) mo.length cap]).run Tryz.prog w=.ok v' w')∧Ob w' n0 v' (l++mo)∧w.grownBy w' v.ownBlock:=fun ad hcell=>by
  obtain ⟨v',w',hr,r1,r2,_,_⟩:=run_append_own_at (P:=Tryz.prog) w n0 46 46 99 i0 (.agg #[.int .i64 0,.int .i64 0]) 2 16 Tryz.underlying46 hi hz0 hz1 hz2 rfl (by decide) v l.length (l.flatMap encB) h ad mo.length cap (mo.flatMap encB) (flat_len encB 2 encB_len mo) hcell (fun u hu'=>by
   obtain ⟨x,_,hx⟩:=List.mem_flatMap.1 hu'
   exact encB_one x u hx) (by unfold maxLen;omega) (by omega) hn
  exact ⟨v',w',fun ty=>hr,own v' w' r1,r2⟩
 rcases hc with rfl | ⟨b,off,rfl,hc⟩
 ·rcases a with _ | ad
  ·refine ⟨v,w,fun ty=>?_,own v w (by simpa using h),⟨rfl,rfl,rfl,Nat.le_refl _,fun _ _ _=>rfl⟩⟩
   rcases h.2 with ⟨rfl,h0⟩ | ⟨g,cp,cur,rfl,_,hg,hnc,_,_,_⟩
   ·simp [Builtin.append_,run_underlying Tryz.underlying46,sizeOf,typeInfo,hi,Builtin.lenOf,Builtin.firstCells]
   ·simp [Builtin.append_,run_underlying Tryz.underlying46,sizeOf,typeInfo,hi,Builtin.lenOf,Builtin.firstCells,hnc,storeCells]
  ·exact some_ ad (fun j u hu'=>by simp at hu')
 ·exact some_ ⟨b,off,none⟩ (fun j u hu'=>by rw [add_off];exact hc j u hu')
theorem appB_any {w:World} {n0:Nat} {v vo:Value} {l mo:List Bz} (h:Ob w n0 v l) (hm:Rb w vo mo) (hn:n0≤w.heap.size) (hl:l.length + mo.length≤1000000000) :
 ∃ v' w',(∀ ty,(Builtin.append_ #[46,46] ty #[v,vo]).run Tryz.prog w=.ok v' w')∧Ob w' n0 v' (l++mo)∧Below n0 w w':=by
 obtain ⟨v',w',hr,r1,r2⟩:=appB_own h hm hn hl
 exact ⟨v',w',hr,r1,(Below.refl n0 w).grown r2 hn (fun j hj=>(h.lt j hj).1)⟩
theorem wpl_app {w:World} {ops:Array Oper} {rest:List Oper} {o:Oper} {a:Act} {Q:Exit→Act→World→Prop} (hgd:o.guard=none) (s x:Operand) (t:TypeId)
 (ho:o.op=.call { callee:=.builtin .append,args:=#[s,x],argTypes:=#[t,t] }) (v vo v':Value) (w':World) (hs:a.eval s=v) (hx:a.eval x=vo)
 (hr:∀ ty,(Builtin.append_ #[t,t] ty #[v,vo]).run Tryz.prog w=.ok v' w') (h:wpList Tryz.prog ops Q rest (a.put o.dst v') w'):wpList Tryz.prog ops Q (o :: rest) a w:=by
 refine wpList_plain hgd fun K hK=>?_
 unfold Oper.wp execOp
 simp only [ho,resolve,invoke,builtin,Sem.run_bind,Sem.run_pure,Result.andThen_ok,List.map_toArray,List.map_cons,List.map_nil,hs,hx,hr]
 exact hK _ _ h
def BBx (W:World) (b:Nat) (x:Bz):Prop:=W.cell? ⟨b,0,none⟩=some (.int .i64 x.1)∧W.cell? ⟨b,1,none⟩=some (.int .i64 x.2)
theorem BBx.on {W W':World} {b:Nat} {x:Bz} (h:BBx W b x) (q:Below W.heap.size W W'):BBx W' b x:=by
 have l:=cell_in h.1
 exact ⟨(q.cell (p:=⟨b,0,none⟩) l).trans h.1,(q.cell (p:=⟨b,1,none⟩) l).trans h.2⟩
theorem BBx.new (W:World) (x:Bz) (t:TypeId):BBx (W.alloc (.cells #[.int .i64 x.1,.int .i64 x.2] t)) W.heap.size x:=⟨by simp,by simp⟩
theorem rb_one (W:World) (x:Bz):Rb (W.alloc (.cells #[.int .i64 x.1,.int .i64 x.2] 99)) (.slice (some ⟨W.heap.size,0,none⟩) 1 1) [x]:=by
 refine ⟨_,_,rfl,Or.inr ⟨W.heap.size,0,rfl,fun j u hu=>?_⟩⟩
 have hj:j<2:=(List.getElem?_eq_some_iff.1 hu).1
 rcases (by omega:j=0∨j=1) with rfl | rfl
 ·simp [encB] at hu
  subst hu
  simp
 ·simp [encB] at hu
  subst hu
  simp
theorem below_one (w:World) (o:Obj):Below w.heap.size w (w.alloc o):=(Below.refl _ _).alloc (Nat.le_refl _) _
theorem Ob.blk {w:World} {n0 n cap g:Nat} {l:List Bz} (h:Ob w n0 (.slice (some ⟨g,0,none⟩) n cap) l):n=l.length∧n0≤g∧l.length≤cap∧∃ cur:Array Value,w.heap[g]?=some (.cells cur 99 (0,0))∧cap≤maxLen∧cur.size=cap * 2∧cur.toList.take (l.length * 2)=l.flatMap encB:=by
 rcases h.2 with ⟨e,_⟩ | ⟨g',cap',cur,e,hb,hg,hn,hm,hs,ht⟩
 ·cases e
 ·simp only [Value.slice.injEq,Option.some.injEq,Addr.mk.injEq] at e
  obtain ⟨⟨rfl,_⟩,rfl,rfl⟩:=e
  exact ⟨rfl,hb,hn,cur,hg,hm,hs,ht⟩
theorem Ob.open {w:World} {n0:Nat} {v:Value} {l:List Bz} (h:Ob w n0 v l):(v=.slice none 0 0∧l=[])∨∃ g cap,v=.slice (some ⟨g,0,none⟩) l.length cap:=by
 rcases h.2 with ⟨e,h0⟩ | ⟨g,cap,cur,e,_⟩
 ·exact Or.inl ⟨e,List.eq_nil_of_length_eq_zero h0⟩
 ·exact Or.inr ⟨g,cap,e⟩
theorem Ob.cell {w:World} {n0 n cap g:Nat} {l:List Bz} (h:Ob w n0 (.slice (some ⟨g,0,none⟩) n cap) l) {i:Nat} (hi:i<l.length):w.cell? ⟨g,i * 2,none⟩=some (.int .i64 (l.getD i (0,0)).1)∧w.cell? ⟨g,i * 2 + 1,none⟩=some (.int .i64 (l.getD i (0,0)).2):=by
 obtain ⟨b,off,e,_,c1,c2⟩:=rb_at h.rb hi
 simp only [Option.some.injEq,Addr.mk.injEq] at e
 obtain ⟨rfl,rfl,_⟩:=e
 rw [Nat.zero_add] at c1 c2
 exact ⟨c1,c2⟩
theorem Ob.there {w:World} {n0 n cap g:Nat} {l:List Bz} (h:Ob w n0 (.slice (some ⟨g,0,none⟩) n cap) l) {o m:Nat} (hi:o + m≤l.length * 2):w.there g o m:=fun j hj=>by
 obtain ⟨_,_,hc,cur,hg,_,hs,_⟩:=h.blk
 have:l.length * 2≤cap * 2:=Nat.mul_le_mul_right 2 hc
 refine ⟨?_,by simp [World.frozen?,hg]⟩
 have e:o + j<cur.size:=by omega
 simp [World.cell?,hg,e]
theorem setCells_heap (g:Nat) (T:TypeId):∀ (vs:List Value) (o:Nat) (cur:Array Value) (w:World),w.heap[g]?=some (.cells cur T (0,0))→o + vs.length≤cur.size→
 (w.setCells g o vs).heap[g]?=some (.cells (cur.toList.take o++vs++cur.toList.drop (o + vs.length)).toArray T (0,0))
 | [],o,cur,w,h,hl=>by
   simp only [World.setCells,List.append_nil,List.length_nil,Nat.add_zero,List.take_append_drop]
   simpa using h
 | v :: r,o,cur,w,h,hl=>by
   have hs:o<cur.size:=by simp at hl;omega
   have h1:(w.setCell ⟨g,o,none⟩ v).heap[g]?=some (.cells (cur.setIfInBounds o v) T (0,0)):=by
    simp [World.setCell,Array.getElem?_modify,h]
   have ih:=setCells_heap g T r (o + 1) (cur.setIfInBounds o v) _ h1 (by simp at hl ⊢;omega)
   simp only [World.setCells]
   rw [ih]
   have e1:(cur.setIfInBounds o v).toList.take (o + 1)=cur.toList.take o++[v]:=by
    rw [Array.toList_setIfInBounds,List.take_succ_eq_append_getElem (by simpa using hs),List.take_set_of_le (Nat.le_refl _)]
    simp
   have e2:(cur.setIfInBounds o v).toList.drop (o + 1 + r.length)=cur.toList.drop (o + (v :: r).length):=by
    rw [Array.toList_setIfInBounds,List.drop_set_of_lt (by omega),List.length_cons,show o + 1 + r.length=o + (r.length + 1) by omega]
   rw [e1,e2]
   simp
theorem Ob.put {w:World} {n0 n cap g:Nat} {l:List Bz} (h:Ob w n0 (.slice (some ⟨g,0,none⟩) n cap) l) {i:Nat} (hi:i<l.length) (x:Bz):Ob (w.setCells g (i * 2) (encB x)) n0 (.slice (some ⟨g,0,none⟩) n cap) (l.set i x):=by
 obtain ⟨rfl,hb,hc,cur,hg,hm,hs,ht⟩:=h.blk
 have hcap:l.length * 2≤cap * 2:=Nat.mul_le_mul_right 2 hc
 have q:=setCells_heap g 99 (encB x) (i * 2) cur w hg (by rw [encB_len];omega)
 refine ⟨by rw [flatB_len],Or.inr ⟨g,cap,_,by rw [List.length_set],hb,q,by rw [List.length_set];exact hc,hm,?_,?_⟩⟩
 ·simp [encB]
  omega
 ·rw [List.length_set]
  show ((cur.toList.take (i * 2)++encB x++cur.toList.drop (i * 2 + 2)).take (l.length * 2))=_
  have e1:cur.toList.take (i * 2)=(l.take i).flatMap encB:=by
   have:=congrArg (List.take (i * 2)) ht
   rw [List.take_take,Nat.min_eq_left (by omega)] at this
   rw [this]
   have e:l.flatMap encB=(l.take i).flatMap encB++(l.drop i).flatMap encB:=by rw [← List.flatMap_append,List.take_append_drop]
   rw [e,List.take_append_of_le_length (by rw [flatB_len,List.length_take];omega),List.take_of_length_le (by rw [flatB_len,List.length_take];omega)]
  have e2:(cur.toList.drop (i * 2 + 2)).take (l.length * 2 - (i * 2 + 2))=(l.drop (i + 1)).flatMap encB:=by
   rw [← List.drop_take,ht]
   have e:l.flatMap encB=(l.take (i + 1)).flatMap encB++(l.drop (i + 1)).flatMap encB:=by rw [← List.flatMap_append,List.take_append_drop]
   rw [e,List.drop_append_of_le_length (by rw [flatB_len,List.length_take];omega),List.drop_eq_nil_of_le (by rw [flatB_len,List.length_take];omega),List.nil_append]
  rw [List.set_eq_take_append_cons_drop,if_pos hi,List.flatMap_append,List.flatMap_cons,List.take_append,List.take_of_length_le (by rw [List.length_append,List.length_take,encB_len];simp;omega),e1,List.append_assoc]
  congr 2
  rw [← e2]
  congr 1
  rw [List.length_append,flatB_len,encB_len,List.length_take]
  omega
theorem Ob.cut {w:World} {n0 n cap g:Nat} {l:List Bz} (h:Ob w n0 (.slice (some ⟨g,0,none⟩) n cap) l) {i:Nat} (hi:i≤l.length) (vs:List Value) (hv:i * 2 + vs.length≤l.length * 2):Ob (w.setCells g (i * 2) vs) n0 (.slice (some ⟨g,0,none⟩) i cap) (l.take i):=by
 obtain ⟨rfl,hb,hc,cur,hg,hm,hs,ht⟩:=h.blk
 have hcap:l.length * 2≤cap * 2:=Nat.mul_le_mul_right 2 hc
 have q:=setCells_heap g 99 vs (i * 2) cur w hg (by omega)
 have li:(l.take i).length=i:=by rw [List.length_take];omega
 refine ⟨by rw [flatB_len],Or.inr ⟨g,cap,_,by rw [li],hb,q,by rw [li];omega,hm,?_,?_⟩⟩
 ·simp
  omega
 ·rw [li]
  show ((cur.toList.take (i * 2)++vs++cur.toList.drop (i * 2 + vs.length)).take (i * 2))=_
  rw [List.append_assoc,List.take_append_of_le_length (by simp;omega),List.take_take,Nat.min_self]
  have:=congrArg (List.take (i * 2)) ht
  rw [List.take_take,Nat.min_eq_left (by omega)] at this
  rw [this]
  have e:l.flatMap encB=(l.take i).flatMap encB++(l.drop i).flatMap encB:=by rw [← List.flatMap_append,List.take_append_drop]
  rw [e,List.take_append_of_le_length (by rw [flatB_len,List.length_take];omega),List.take_of_length_le (by rw [flatB_len,List.length_take];omega)]
theorem grown_set (g:Nat):∀ (vs:List Value) (o:Nat) (w:World) (n0:Nat),n0≤g→n0≤w.heap.size→Below n0 w (w.setCells g o vs)
 | [],_,w,n0,_,_=>Below.refl n0 w
 | v :: r,o,w,n0,hg,hn=>by
   have a:Below n0 w (w.setCell ⟨g,o,none⟩ v):=⟨rfl,rfl,rfl,by simp,fun k hk=>Below.heap_setCell w ⟨g,o,none⟩ v k (by show k≠g;omega)⟩
   exact a.trans (grown_set g r (o + 1) _ n0 hg (Nat.le_trans hn a.size))
def zrs (n:Nat):List Value:=List.replicate (n * 2) (.int .i64 0)
theorem zrs_len (n:Nat):(zrs n).length=n * 2:=by simp [zrs]
theorem run_clearB (w:World) (ty:TypeId) (b o n c:Nat) (hn:0<n) (ht:w.there b o (n * 2)) :
 (Builtin.clear_ #[46] ty #[.slice (some ⟨b,o,none⟩) n c]).run Tryz.prog w=.ok (.tuple #[]) (w.setCells b o (zrs n)):=by
 have hv:∀ w,(zeroValue 99).run Tryz.prog w=.ok (.agg #[.int .i64 0,.int .i64 0]) w:=fun _=>by kernel_rfl
 have hzc:(Builtin.zeroCells (Value.agg #[.int .i64 0,.int .i64 0]).cells n).toList=zrs n:=by
  show (Builtin.zeroCells #[.int .i64 0,.int .i64 0] n).toList=_
  simp only [Builtin.zeroCells,Array.toList_map,zrs]
  apply List.ext_getElem
  ·simp
  ·intro i h1 h2
   have:i % 2<2:=Nat.mod_lt _ (by decide)
   rcases (by omega:i % 2=0∨i % 2=1) with q | q <;> simp [q]
 have hst:=run_storeCells_cells (P:=Tryz.prog) b o (zrs n) 0 w (fun j hj=>by rw [zrs_len] at hj;simpa using (ht j hj).1) (fun j hj=>by rw [zrs_len] at hj;simpa using (ht j hj).2) (fun u hu=>by unfold zrs at hu;rw [List.eq_of_mem_replicate hu];rfl)
 simp only [Nat.add_zero] at hst
 obtain ⟨m,rfl⟩:∃ m,n=m + 1:=⟨n - 1,by omega⟩
 simp [Builtin.clear_,run_underlying Tryz.underlying46,hv,hzc,hst]
theorem bz_store {ops:Array Oper} {rest:List Oper} {op:Oper} {a:Act} {W:World} {Q:Exit→Act→World→Prop} (hgd:op.guard=none) (x y:Operand) (ho:op.op=.store 99 x y) (hd:op.dst=none)
 (b o:Nat) (c:Bz) (hx:a.eval x=.pointer (some ⟨b,o,none⟩)) (hy:a.eval y=agB c) (ht:W.there b o 2)
 (h:wpList Tryz.prog ops Q rest a (W.setCells b o (encB c))):wpList Tryz.prog ops Q (op :: rest) a W:=by
 refine wpList_store_mid hgd 99 x y ho b o #[.int .i64 c.1,.int .i64 c.2] hx hy ht (by kernel_rfl) (by simp [Value.oneCell']) ?_
 rw [hd]
 exact h
theorem ap_own {W:World} {n0:Nat} {u:Value} {M:List Bz} (X:Bz) (h:Ob W n0 u M) (hn:n0≤W.heap.size) (hl:M.length≤1000000):∃ v' w',(∀ ty,(Builtin.append_ #[46,46] ty #[u,.slice (some ⟨W.heap.size,0,none⟩) 1 1]).run Tryz.prog (W.alloc (.cells #[.int .i64 X.1,.int .i64 X.2] 99))=.ok v' w')∧Ob w' n0 v' (M++[X])∧Below n0 W w'∧∀ k,k<W.heap.size→u.ownBlock≠some k→w'.heap[k]?=W.heap[k]?:=by
 have b5:=below_one W (.cells #[.int .i64 X.1,.int .i64 X.2] 99)
 obtain ⟨v6,w6,ap,o6,b6⟩:=appB_own (ow_below h b5) (rb_one W X) (Nat.le_trans hn b5.size) (by simp;omega)
 exact ⟨v6,w6,ap,o6,(b5.mono hn).trans ((Below.refl n0 _).grown b6 (Nat.le_trans hn b5.size) (fun j hj=>(h.lt j hj).1)),fun k hk hne=>(b6.block k (Nat.lt_of_lt_of_le hk b5.size) (fun e=>hne e.symm)).trans (b5.block k hk)⟩
theorem ap_next {W:World} {n0:Nat} {u:Value} {M:List Bz} (X:Bz) (h:Ob W n0 u M) (hn:n0≤W.heap.size) (hl:M.length≤1000000):∃ v' w',(∀ ty,(Builtin.append_ #[46,46] ty #[u,.slice (some ⟨W.heap.size,0,none⟩) 1 1]).run Tryz.prog (W.alloc (.cells #[.int .i64 X.1,.int .i64 X.2] 99))=.ok v' w')∧Ob w' n0 v' (M++[X])∧Below n0 W w':=by
 obtain ⟨v',w',r1,r2,r3,_⟩:=ap_own X h hn hl
 exact ⟨v',w',r1,r2,r3⟩
end Go.Proofs.YtoncfgfjdlgfcaaGreatDoor.Bz
namespace Go.Proofs.YtoncfgfjdlgfcaaGreatDoor.Bz
open Go.RowKit
def onF (x:Bz):Int:=if ist x.1=false∨ist x.2=false then 1 else if x.2<x.1 then 3 else 0
def bzF (l:List Bz):Int:=if 200<l.length then 4 else (l.map onF).foldr (fun f r=>if f=0 then r else f) 0
def Gd (x:Bz):Prop:=1≤x.1∧x.1≤x.2∧x.2≤157785119
theorem onF_zero {x:Bz}:onF x=0↔Gd x:=by
 unfold onF Gd ist
 by_cases a:1≤x.1∧x.1≤157785119
 ·by_cases b:1≤x.2∧x.2≤157785119
  ·simp [a,b]
  ·simp [b]
   omega
 ·simp [a]
  omega
theorem bzF_all:∀ l:List Bz,(l.map onF).foldr (fun f r=>if f=0 then r else f) 0=0↔∀ x∈l,Gd x
 | []=>by simp
 | a :: r=>by
   have ih:=bzF_all r
   rw [List.map_cons,List.foldr_cons]
   by_cases c:onF a=0
   ·rw [if_pos c,ih]
    have:=onF_zero.1 c
    simp [this]
   ·rw [if_neg c]
    simp only [c,false_iff]
    intro h
    exact c (onF_zero.2 (h a (by simp)))
theorem bzF_zero {l:List Bz}:bzF l=0↔l.length≤200∧∀ x∈l,Gd x:=by
 unfold bzF
 split
 ·constructor
  ·intro h
   omega
  ·intro h
   omega
 ·rw [bzF_all]
  constructor
  ·intro h
   exact ⟨by omega,h⟩
  ·exact fun h=>h.2
theorem gd_rt {l:List Bz} (h:∀ x∈l,Gd x):Rt l:=fun x hx=>(h x hx).2.1
theorem gd_wt {l:List Bz} (h:∀ x∈l,Gd x):Wt 1 157785119 l:=fun x hx=>⟨(h x hx).1,(h x hx).2.2⟩
def reF (l:List Bz) (k:Nat):Int:=((l.drop k).map onF).foldr (fun f r=>if f=0 then r else f) 0
theorem reF_step {l:List Bz} {k:Nat} (h:k<l.length):reF l k=if onF (l.getD k (0,0))=0 then reF l (k + 1) else onF (l.getD k (0,0)):=by
 unfold reF
 rw [List.drop_eq_getElem_cons h,List.map_cons,List.foldr_cons,List.getD_eq_getElem?_getD,List.getElem?_eq_getElem h]
 rfl
theorem reF_end (l:List Bz):reF l l.length=0:=by simp [reF]
def Sm (x:Bz):Prop:=(-1000000000000≤x.1∧x.1≤1000000000000)∧-1000000000000≤x.2∧x.2≤1000000000000
theorem gd_sm {x:Bz} (h:Gd x):Sm x:=by unfold Gd at h;unfold Sm;omega
theorem min_any (x:Bz) (w:World) (h:Sm x) :
 Calls Tryz.prog 85 #[agB x] w fun e w'=>e=.returned (.int .i64 (x.2 - x.1))∧∃ o,w'=w.alloc o:=by
 obtain ⟨⟨a1,a2⟩,a3,a4⟩:=h
 go_enter Tryz.func85,Tryz.ntmps85
 go_wp2
 go_ret
 exact ⟨rfl,_,rfl⟩
theorem minB_any (x:Bz) (w:World) (h:Sm x) :
 Calls Tryz.prog 85 #[agB x] w fun e w'=>e=.returned (.int .i64 (x.2 - x.1))∧Below w.heap.size w w':=
 (min_any x w h).mono fun _ _ ⟨he,o,hw⟩=>⟨he,by rw [hw];exact below_one w o⟩
theorem one_any (x:Bz) (w:World) :
 Calls Tryz.prog 136 #[agB x] w fun e w'=>e=.returned (fault (onF x))∧Below w.heap.size w w':=by
 have HB:=Lib.hid (below_one w (.cells #[.int .i64 x.1,.int .i64 x.2] 99))
 rcases h1:ist x.1 with _ | _
 ·have N:Hid (onF x=1):=Lib.hid (by unfold onF;simp [h1])
  generalize onF x=F at N ⊢
  go_enter Tryz.func136,Tryz.ntmps136
  go_wp2_with (go_at_call 71;refine (isTime_any _ _).mono ?_;rintro e w' ⟨rfl,rfl⟩)
  go_ret
  exact ⟨by rw [N.out];rfl,HB.out⟩
 rcases h2:ist x.2 with _ | _
 ·have N:Hid (onF x=1):=Lib.hid (by unfold onF;simp [h2])
  generalize onF x=F at N ⊢
  go_enter Tryz.func136,Tryz.ntmps136
  go_wp2_with (go_at_call 71;refine (isTime_any _ _).mono ?_;rintro e w' ⟨rfl,rfl⟩)
  go_ret
  exact ⟨by rw [N.out];rfl,HB.out⟩
 by_cases h3:x.2<x.1
 ·have N:Hid (onF x=3):=Lib.hid (by unfold onF;simp [h1,h2,h3])
  generalize onF x=F at N ⊢
  go_enter Tryz.func136,Tryz.ntmps136
  go_wp2_with (go_at_call 71;refine (isTime_any _ _).mono ?_;rintro e w' ⟨rfl,rfl⟩)
  go_ret
  exact ⟨by rw [N.out];rfl,HB.out⟩
 ·have N:Hid (onF x=0):=Lib.hid (by unfold onF;simp [h1,h2,h3])
  generalize onF x=F at N ⊢
  go_enter Tryz.func136,Tryz.ntmps136
  go_wp2_with (go_at_call 71;refine (isTime_any _ _).mono ?_;rintro e w' ⟨rfl,rfl⟩)
  go_ret
  exact ⟨by rw [N.out];rfl,HB.out⟩
theorem fault_zero {k:Int} (h:k=0):fault k=.nilIface:=if_pos h
theorem fault_not {k:Int} (h:¬ k=0):fault k=.iface 95 (.int .i64 k):=if_neg h
def mnF (l:List Bz):Int:=if 200<l.length then 4 else 0
theorem bzF_many {l:List Bz} (h:200<l.length):bzF l=4:=if_pos h
theorem bzF_few {l:List Bz} (h:¬ 200<l.length):bzF l=reF l 0:=if_neg h
theorem reF_zero {l:List Bz}:reF l 0=0↔∀ x∈l,Gd x:=bzF_all l
theorem mny_any (l:List Bz) (v:Value) (w:World) (hv:Rb w v l) (hl:l.length≤9223372036854775807) :
 Calls Tryz.prog 141 #[v] w fun e w'=>e=.returned (fault (mnF l))∧w'=w:=by
 obtain ⟨a,cap,rfl,_⟩:=hv
 by_cases h2:200<l.length
 ·have N:Hid (mnF l=4):=Lib.hid (if_pos h2)
  generalize mnF l=F at N ⊢
  go_enter Tryz.func141,Tryz.ntmps141
  go_wp2
  go_ret
  exact ⟨by rw [N.out];rfl,rfl⟩
 ·have N:Hid (mnF l=0):=Lib.hid (if_neg h2)
  generalize mnF l=F at N ⊢
  go_enter Tryz.func141,Tryz.ntmps141
  go_wp2
  go_ret
  exact ⟨by rw [N.out];rfl,rfl⟩
set_option maxRecDepth 100000 in
theorem eac_any (l:List Bz) (v:Value) (w:World) (hv:Rb w v l) (hl:l.length≤9223372036854775807) :
 Calls Tryz.prog 135 #[v] w fun e w'=>e=.returned (fault (reF l 0))∧Below w.heap.size w w':=by
 have HV:=Lib.hid hv
 obtain ⟨a,cap,rfl,_⟩:=hv
 obtain ⟨F,hF⟩:∃ F,F=reF l 0:=⟨_,rfl⟩
 have N:=Lib.hid hF
 rw [← hF]
 clear hF
 go_enter Tryz.func135,Tryz.ntmps135
 go_wp2
 go_loopw [8,4,5] (fun i _ _ wr=>∃ k:Nat,k≤l.length∧i=.int .i64 k∧Hid (F=reF l k)∧Below w.heap.size w wr) (fun i _ _ _=>l.length - (intOf i).toNat)
 case atStart=>exact ⟨0,Nat.zero_le _,rfl,N,Below.refl _ _⟩
 case round=>
  obtain ⟨k,hk,rfl,HF,hB⟩:=hrel
  have HB:=Lib.hid hB
  by_cases hlt:k<l.length
  ·obtain ⟨b,off,rfl,_,c1,c2⟩:=rb_at (HV.out.on hB) hlt
   have ST:=Lib.hid (reF_step hlt)
   obtain ⟨X,hX⟩:∃ X,X=l.getD k (0,0):=⟨_,rfl⟩
   rw [← hX] at c1 c2 ST
   clear hX hB
   have bl:=cell_in c1
   have T3:=BBx.new wr X 99
   have b3:=below_one wr (.cells #[.int .i64 X.1,.int .i64 X.2] 99)
   obtain ⟨W3,hW3⟩:∃ W3,W3=wr.alloc (.cells #[.int .i64 X.1,.int .i64 X.2] 99):=⟨_,rfl⟩
   rw [← hW3] at T3 b3
   have HW3:=Lib.hid hW3
   have HT3:=Lib.hid T3
   have B3:=Lib.hid (HB.out.trans (b3.mono HB.out.size))
   clear hW3 T3 b3
   go_upto_region 4 with fail
   rw [← HW3.out]
   clear HW3 c1 c2 bl
   obtain ⟨t0,t1⟩:=HT3.out
   have tl:=cell_in t0
   go_wp2_with fail
   refine (one_any X _).mono ?_
   rintro e w4 ⟨rfl,hb⟩
   have B4:=Lib.hid (B3.out.trans (hb.mono B3.out.size))
   clear t0 t1 tl hb HT3 B3
   by_cases hf:onF X=0
   ·have N2:Hid (F=reF l (k + 1)):=Lib.hid (by rw [HF.out,ST.out,if_pos hf])
    rw [fault_zero hf]
    go_wp2
    go_roundw
    case rel=>exact ⟨k + 1,by omega,by go_num,N2,B4.out⟩
    case measure=>simp [intOf];omega
   ·have N2:Hid (F=onF X):=Lib.hid (by rw [HF.out,ST.out,if_neg hf])
    have N3:Hid (¬ onF X=0):=Lib.hid hf
    rw [fault_not hf]
    generalize onF X=G at N2 N3 ⊢
    clear hf ST
    go_wp2
    go_ret
    exact ⟨by rw [N2.out,fault_not N3.out];rfl,B4.out⟩
  ·have N2:Hid (F=0):=Lib.hid (by rw [HF.out,show k=l.length by omega,reF_end])
   go_wp2
   go_ret
   exact ⟨by rw [N2.out];rfl,HB.out⟩
theorem chk_any (l:List Bz) (v:Value) (w:World) (hv:Rb w v l) (hl:l.length≤9223372036854775807) :
 Calls Tryz.prog 92 #[v] w fun e w'=>e=.returned (fault (bzF l))∧Below w.heap.size w w':=by
 have K:=Lib.hid (mny_any l v w hv hl)
 have K2:=Lib.hid (eac_any l v w hv hl)
 clear hv hl
 by_cases h:200<l.length
 ·rw [bzF_many h]
  rw [show mnF l=4 from if_pos h] at K
  rw [fault_not (by decide)] at K ⊢
  clear K2 h
  go_enter Tryz.func92,Tryz.ntmps92
  go_wp2_with fail
  refine K.out.mono ?_
  rintro e w1 ⟨rfl,hw⟩
  subst hw
  clear K
  go_wp2
  go_ret
  exact ⟨rfl,Below.refl _ _⟩
 ·rw [bzF_few h]
  rw [show mnF l=0 from if_neg h,fault_zero rfl] at K
  generalize reF l 0=F at K2 ⊢
  clear h
  go_enter Tryz.func92,Tryz.ntmps92
  go_wp2_with fail
  refine K.out.mono ?_
  rintro e w1 ⟨rfl,hw⟩
  subst hw
  clear K
  go_wp2_with fail
  refine K2.out.mono ?_
  rintro e w2 ⟨rfl,hb⟩
  have B2:=Lib.hid hb
  clear hb K2
  go_wp2
  go_ret
  exact ⟨rfl,B2.out⟩
set_option maxRecDepth 100000 in
theorem cln_any (v:Value) (l:List Bz) (w:World) (hv:Rb w v l) (hl:l.length≤1000000) :
 Calls Tryz.prog 143 #[v] w fun e w'=>∃ u,e=.returned u∧Ob w' w.heap.size u l∧Below w.heap.size w w':=by
 obtain ⟨a,cap,rfl,hc⟩:=id hv
 rcases a with _ | ad
 ·have l0:l=[]:=by
   rcases hc with q | ⟨b,off,q,_⟩
   ·exact q
   ·cases q
  subst l0
  have hn:∀ w,(binOp .eql 46 (.slice none 0 cap) (.slice none 0 0)).run Tryz.prog w=.ok (.bool true) w:=fun w=>Lib.run_eql_slice_nil w _ _ none _ _ _ _ Tryz.underlying46
  go_enter Tryz.func143,Tryz.ntmps143
  go_wp2
  go_ret
  exact ⟨_,rfl,World.ownsRow_nil _ _ _ _,Below.refl _ _⟩
 ·have b1:Below w.heap.size w (w.alloc (.cells #[] 99)):=below_one w _
  have O0:Ob (w.alloc (.cells #[] 99)) w.heap.size (.slice (some ⟨w.heap.size,0,none⟩) 0 0) []:=
   ⟨rfl,Or.inr ⟨w.heap.size,0,#[],rfl,Nat.le_refl _,heap_alloc_new w _,Nat.le_refl _,Nat.zero_le _,rfl,rfl⟩⟩
  obtain ⟨v2,w2,ap,o2,b2⟩:=appB_any (mo:=l) O0 (hv.on b1) (by rw [World.size_alloc];omega) (by simp;omega)
  rw [List.nil_append] at o2
  have AP:=Lib.hid ap
  have O2:=Lib.hid o2
  have B2:=Lib.hid (b1.trans b2)
  have hn:∀ w,(binOp .eql 46 (.slice (some ad) l.length cap) (.slice none 0 0)).run Tryz.prog w=.ok (.bool false) w:=fun w=>Lib.run_eql_slice_nil w _ _ (some ad) _ _ _ _ Tryz.underlying46
  clear hv hc O0 ap o2 b2 b1
  go_enter Tryz.func143,Tryz.ntmps143
  go_wp2_with (at_builtin;refine wpl_app rfl _ _ 46 rfl _ _ _ _ rfl rfl AP.out ?_)
  go_ret
  exact ⟨_,rfl,O2.out,B2.out⟩
end Go.Proofs.YtoncfgfjdlgfcaaGreatDoor.Bz
namespace Go.Proofs.YtoncfgfjdlgfcaaGreatDoor.Bz
open Go.RowKit
theorem any_tk (p:Bz→Bool) (l:List Bz) (k:Nat) (h:k<l.length) (ha:(l.take k).any p=false) (hp:p (l.getD k (0,0))=false):(l.take (k + 1)).any p=false:=by
 rw [List.take_succ_eq_append_getElem h,List.any_append,ha,List.any_cons,List.any_nil]
 rw [List.getD_eq_getElem?_getD,List.getElem?_eq_getElem h] at hp
 simpa using hp
def IdxA (l:List Bz) (p:Bz→Bool) (w:World) (e:Ending) (w':World):Prop:=Below w.heap.size w w'∧
 ((e=.returned (.int .i64 (-1))∧l.any p=false)∨∃ k:Nat,e=.returned (.int .i64 k)∧k<l.length∧(l.take k).any p=false∧p (l.getD k (0,0))=true)
set_option maxRecDepth 100000 in
set_option maxHeartbeats 1000000 in
theorem idxM (p:Bz→Bool) (l:List Bz) (v:Value) (w:World) (hC:∀ c∈l,∀ W,Below w.heap.size w W→Calls Tryz.prog 144 #[agB c] W fun e w'=>e=.returned (.bool (p c))∧Below W.heap.size W w') (hh:Rb w v l) (hl:l.length≤1000000) :
 Calls Tryz.prog 83 #[v,.func (.func 144) #[] #[]] w (IdxA l p w):=by
 have HH:=Lib.hid hh
 have HC:=Lib.hid hC
 obtain ⟨a,cap,rfl,_⟩:=hh
 clear hC
 have eg:∀ args w,(callFunc 144 args).run Tryz.prog w=.ok (.enter 144 args) w:=enters_of Tryz.func144 (by kernel_rfl) rfl
 go_enter Tryz.func83,Tryz.ntmps83
 go_wp2
 go_loopw [8] (fun i wr=>∃ k:Nat,k≤l.length∧i=.int .i64 k∧Hid ((l.take k).any p=false)∧Below w.heap.size w wr) (fun i _=>l.length - (intOf i).toNat)
 case atStart=>exact ⟨0,Nat.zero_le _,rfl,Lib.hid rfl,Below.refl _ _⟩
 case round=>
  obtain ⟨k,hk,rfl,HF,hB⟩:=hrel
  have HB:=Lib.hid hB
  by_cases hlt:k<l.length
  ·obtain ⟨b,off,rfl,_,k1,k2⟩:=rb_at (HH.out.on hB) hlt
   have bl:=cell_in k1
   have K:=Lib.hid (HC.out (l.getD k (0,0)) (by rw [List.getD_eq_getElem?_getD,List.getElem?_eq_getElem hlt];exact List.getElem_mem _) wr hB)
   obtain ⟨X,hX⟩:∃ X,X=l.getD k (0,0):=⟨_,rfl⟩
   rw [← hX] at k1 k2 K
   have HX:=Lib.hid hX
   clear hX hB
   go_wp2_with fail
   refine K.out.mono ?_
   rintro e w2 ⟨rfl,hb⟩
   have HB2:=Lib.hid (HB.out.trans (hb.mono HB.out.size))
   clear hb K k1 k2 bl
   rcases hp:p X with _ | _
   ·have N1:=Lib.hid (any_tk p l k hlt HF.out (by rw [← HX.out];exact hp))
    go_wp2
    go_roundw
    case rel=>exact ⟨k + 1,by omega,by go_num,N1,HB2.out⟩
    case measure=>simp [intOf];omega
   ·have N1:Hid (p (l.getD k (0,0))=true):=Lib.hid (by rw [← HX.out];exact hp)
    go_wp2
    go_ret
    exact ⟨HB2.out,Or.inr ⟨k,rfl,hlt,HF.out,N1.out⟩⟩
  ·have N1:Hid (l.any p=false):=Lib.hid (by have:=HF.out;rwa [List.take_of_length_le (by omega)] at this)
   go_wp2
   go_ret
   exact ⟨HB.out,Or.inl ⟨rfl,N1.out⟩⟩
def DI (l:List Bz) (p:Bz→Bool) (j i:Nat) (d:List Bz):Prop:=
 d.length=l.length∧i<j∧j≤l.length∧d.take i=(l.take j).filter (fun x=>!p x)∧∀ t,j≤t→d.getD t (0,0)=l.getD t (0,0)
theorem DI.begin {l:List Bz} {p:Bz→Bool} {k:Nat} (hk:k<l.length) (ha:(l.take k).any p=false) (hp:p (l.getD k (0,0))=true):DI l p (k + 1) k l:=by
 refine ⟨rfl,by omega,by omega,?_,fun t _=>rfl⟩
 rw [List.take_succ_eq_append_getElem hk,List.filter_append]
 rw [List.getD_eq_getElem?_getD,List.getElem?_eq_getElem hk] at hp
 have hp':p l[k]=true:=hp
 rw [List.filter_eq_self.2 (fun x hx=>by have:=List.any_eq_false.1 ha x hx;simpa using this)]
 simp [hp']
theorem DI.skip {l:List Bz} {p:Bz→Bool} {j i:Nat} {d:List Bz} (h:DI l p j i d) (hj:j<l.length) (hp:p (l.getD j (0,0))=true):DI l p (j + 1) i d:=by
 obtain ⟨a,b,c,e,f⟩:=h
 refine ⟨a,by omega,by omega,?_,fun t ht=>f t (by omega)⟩
 rw [List.getD_eq_getElem?_getD,List.getElem?_eq_getElem hj] at hp
 have hp':p l[j]=true:=hp
 rw [List.take_succ_eq_append_getElem hj,List.filter_append,← e]
 simp [hp']
theorem DI.keep {l:List Bz} {p:Bz→Bool} {j i:Nat} {d:List Bz} (h:DI l p j i d) (hj:j<l.length) (hp:p (l.getD j (0,0))=false):DI l p (j + 1) (i + 1) (d.set i (l.getD j (0,0))):=by
 obtain ⟨a,b,c,e,f⟩:=h
 refine ⟨by simpa using a,by omega,by omega,?_,fun t ht=>?_⟩
 ·rw [List.take_succ_eq_append_getElem (l:=l) hj,List.filter_append,← e]
  rw [List.getD_eq_getElem?_getD,List.getElem?_eq_getElem hj] at hp ⊢
  have hp':p l[j]=false:=hp
  rw [List.take_succ_eq_append_getElem (by rw [List.length_set];omega),List.take_set_of_le (Nat.le_refl _)]
  simp [hp']
 ·rw [List.getD_eq_getElem?_getD,List.getElem?_set_ne (by omega),← List.getD_eq_getElem?_getD]
  exact f t (by omega)
theorem DI.done {l:List Bz} {p:Bz→Bool} {i:Nat} {d:List Bz} (h:DI l p l.length i d):d.take i=l.filter (fun x=>!p x):=by
 have:=h.2.2.2.1
 rwa [List.take_length] at this
set_option maxRecDepth 100000 in
set_option maxHeartbeats 4000000 in
theorem delM (p:Bz→Bool) (l:List Bz) (n0:Nat) (v:Value) (w:World) (hC:∀ c∈l,∀ W,Below n0 w W→Calls Tryz.prog 144 #[agB c] W fun e w'=>e=.returned (.bool (p c))∧Below W.heap.size W w') (hh:Ob w n0 v l) (hn:n0≤w.heap.size) (hl:l.length≤1000000) :
 Calls Tryz.prog 142 #[v,.func (.func 144) #[] #[]] w fun e w'=>∃ u,e=.returned u∧Ob w' n0 u (l.filter (fun x=>!p x))∧Below n0 w w':=by
 have K:=Lib.hid (idxM p l v w (fun c hc W hW=>hC c hc W (hW.mono hn)) hh.rb hl)
 have HH:=Lib.hid hh
 have HC:=Lib.hid hC
 have HN:=Lib.hid hn
 have eg:∀ args w,(callFunc 144 args).run Tryz.prog w=.ok (.enter 144 args) w:=enters_of Tryz.func144 (by kernel_rfl) rfl
 have FO:∃ a cap,v=.slice a l.length cap:=by
  rcases hh.open with ⟨rfl,rfl⟩ | ⟨g,cap,rfl⟩
  ·exact ⟨none,0,rfl⟩
  ·exact ⟨_,cap,rfl⟩
 obtain ⟨a,cap,rfl⟩:=FO
 clear hC hh hn
 go_enter Tryz.func142,Tryz.ntmps142
 go_wp2_with fail
 refine K.out.mono ?_
 rintro e w1 ⟨hb1,hx⟩
 have B1:=Lib.hid hb1
 clear K hb1
 rcases hx with ⟨rfl,ha⟩ | ⟨k,rfl,hk,ha,hp⟩
 ·have N:Hid (l.filter (fun x=>!p x)=l):=Lib.hid (List.filter_eq_self.2 (fun x hx=>by have:=List.any_eq_false.1 ha x hx;simpa using this))
  clear ha
  go_wp2
  go_ret
  exact ⟨_,rfl,by rw [N.out];exact ow_below HH.out B1.out,B1.out.mono HN.out⟩
 ·have D0:=Lib.hid (DI.begin hk ha hp)
  have nk:((k:Int) == -1)=false:=by simp
  clear ha hp
  obtain ⟨g,rfl⟩:∃ g,a=some ⟨g,0,none⟩:=by
   rcases HH.out.open with ⟨_,h0⟩ | ⟨g,c2,e2⟩
   ·rw [h0] at hk;simp at hk
   ·simp only [Value.slice.injEq] at e2
    exact ⟨g,e2.1⟩
  have GN:=Lib.hid HH.out.blk.2.1
  have gn:=GN.out
  have cl:=HH.out.blk.2.2.1
  have O1:=Lib.hid (ow_below HH.out B1.out)
  go_wp2_with fail
  go_loopw [5,6,7] (fun iv jv _ wr=>∃ (i j:Nat) (d:List Bz),iv=.int .i64 i∧jv=.int .i64 j∧DI l p j i d∧Ob wr n0 (.slice (some ⟨g,0,none⟩) l.length cap) d∧Below n0 w wr) (fun _ jv _ _=>l.length - (intOf jv).toNat)
  case atStart=>exact ⟨k,k + 1,l,rfl,by go_num,D0.out,O1.out,B1.out.mono HN.out⟩
  case round=>
   obtain ⟨i,j,d,rfl,rfl,hD,hh,hB⟩:=hrel
   have ij:=hD.2.1
   have jl:=hD.2.2.1
   have dl:=hD.1
   have HD:=Lib.hid hD
   have HHd:=Lib.hid hh
   have HB:=Lib.hid hB
   have HNr:=Lib.hid (Nat.le_trans HN.out hB.size)
   clear hD hh hB D0 B1 O1
   by_cases hlt:j<l.length
   ·obtain ⟨k1,k2⟩:=HHd.out.cell (i:=j) (by omega)
    rw [HD.out.2.2.2.2 j (Nat.le_refl _)] at k1 k2
    have bw:=cell_in k1
    have XM:Hid (l.getD j (0,0)∈l):=Lib.hid (by rw [List.getD_eq_getElem?_getD,List.getElem?_eq_getElem hlt];exact List.getElem_mem _)
    obtain ⟨X,hX⟩:∃ X,X=l.getD j (0,0):=⟨_,rfl⟩
    rw [← hX] at k1 k2 XM
    have HX:=Lib.hid hX
    have T3:=BBx.new wr X 99
    have b3:=below_one wr (.cells #[.int .i64 X.1,.int .i64 X.2] 99)
    obtain ⟨W3,hW3⟩:∃ W3,W3=wr.alloc (.cells #[.int .i64 X.1,.int .i64 X.2] 99):=⟨_,rfl⟩
    rw [← hW3] at T3 b3
    have HW3:=Lib.hid hW3
    have HT3:=Lib.hid T3
    have B3:=Lib.hid b3
    have K:=Lib.hid (HC.out X XM.out W3 (HB.out.trans (b3.mono HNr.out)))
    clear hX hW3 T3 b3
    go_upto_region 8 with fail
    rw [← HW3.out]
    clear HW3 k1 k2
    obtain ⟨t0,t1⟩:=HT3.out
    have tl:=cell_in t0
    go_wp2_with fail
    clear t0 t1 tl
    refine K.out.mono ?_
    rintro e w4 ⟨rfl,hb⟩
    have B4:=Lib.hid (B3.out.trans (hb.mono B3.out.size))
    obtain ⟨t0,t1⟩:=HT3.out.on hb
    have tl:=cell_in t0
    clear hb K B3 HT3
    have H4:Hid (Ob w4 n0 (.slice (some ⟨g,0,none⟩) l.length cap) d):=Lib.hid (ow_below HHd.out B4.out)
    have A4:=Lib.hid (HB.out.trans (B4.out.mono HNr.out))
    rcases hp:p X with _ | _
    ·have N1:=Lib.hid (HD.out.keep hlt (by rw [← HX.out];exact hp))
     rw [← HX.out] at N1
     have SH:=Lib.hid (H4.out.put (i:=i) (by omega) X)
     have SA:=Lib.hid (A4.out.trans (grown_set g (encB X) (i * 2) w4 n0 GN.out (Nat.le_trans HNr.out B4.out.size)))
     have TH:=Lib.hid (H4.out.there (o:=i * 2) (m:=2) (by omega))
     go_wp2_with (refine bz_store ?s1 (.tmp 33) (.tmp 32) ?s2 ?s9 g (i * 2) X ?s3 ?s4 ?s6 ?s5;(case s1=>rfl);(case s2=>rfl);(case s9=>rfl);(case s3=>rfl);(case s4=>rfl);(case s6=>exact TH.out))
     go_roundw
     case rel=>exact ⟨i + 1,j + 1,d.set i X,by go_num,by go_num,N1.out,SH.out,SA.out⟩
     case measure=>simp [intOf];omega
    ·have N1:=Lib.hid (HD.out.skip hlt (by rw [← HX.out];exact hp))
     go_wp2
     go_roundw
     case rel=>exact ⟨i,j + 1,d,rfl,by go_num,N1.out,H4.out,A4.out⟩
     case measure=>simp [intOf];omega
   ·obtain rfl:j=l.length:=by omega
    have hcl:∀ ty,(Builtin.clear_ #[46] ty #[.slice (some ⟨g,i * 2,none⟩) (l.length - i) (cap - i)]).run Tryz.prog wr=.ok (.tuple #[]) (wr.setCells g (i * 2) (zrs (l.length - i))):=
     fun ty=>run_clearB wr ty g (i * 2) _ _ (by omega) (HHd.out.there (by omega))
    have S:=HHd.out.cut (i:=i) (by omega) (zrs (l.length - i)) (by rw [zrs_len];omega)
    have N:=HD.out.done
    rw [N] at S
    have SH:=Lib.hid S
    have SA:=Lib.hid (HB.out.trans (grown_set g (zrs (l.length - i)) (i * 2) wr n0 GN.out HNr.out))
    clear S N
    go_wp2
    go_ret
    exact ⟨_,rfl,SH.out,SA.out⟩
end Go.Proofs.YtoncfgfjdlgfcaaGreatDoor.Bz
