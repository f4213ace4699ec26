/-
  Texts of our own that serve the card of this claim, joined into one.
-/
import Derived.Test.YtcadomjkjoiakaaGreatDoorPU
import Derived.OwnWalk
import Derived.Test.YtcadomjkjoiakaaGreatDoorRB
import Derived.Test.YtcadomjkjoiakaaGreatDoorQB
import Derived.Lib.AtoiAllCases
namespace Go.Proofs.YtcadomjkjoiakaaGreatDoor
open Go.RowKit Cal
def tb (l:List UInt8):ByteArray:=⟨l.toArray⟩
theorem tb_data (l:List UInt8):(tb l).data.toList=l:=by simp [tb]
theorem own_below {W W':World} {base:Nat} {e:TypeId} {size:Nat} {v:Value} {n:Nat} {xs:List Value} (h:W.ownsRow base e size v n xs) (q:Below W.heap.size W W'):W'.ownsRow base e size v n xs:=by
 refine ⟨h.1,?_⟩
 rcases h.2 with a | ⟨g,cap,cur,hv,hb,hg,r⟩
 ·exact Or.inl a
 ·have hlt:g<W.heap.size:=by
   rcases Nat.lt_or_ge g W.heap.size with k | k
   ·exact k
   ·rw [Array.getElem?_eq_none k] at hg;cases hg
  exact Or.inr ⟨g,cap,cur,hv,hb,(q.block g hlt).trans hg,r⟩
def strs (xs:List ByteArray):List Value:=xs.map Value.string
theorem own_texts {W:World} {base:Nat} {e:TypeId} {v:Value} {n:Nat} {xs:List ByteArray} (h:W.ownsRow base e 1 v n (strs xs)) (hn:0<n) :
 ∃ g cap,v=.slice (some ⟨g,0,none⟩) n cap∧g<W.heap.size∧n≤cap∧∀ (j:Nat) x,xs[j]?=some x→W.cell? ⟨g,0 + j,none⟩=some (.string x):=by
 rcases h.2 with ⟨_,h0⟩ | ⟨g,cap,cur,hv,hb,hg,hc,hm,hs,ht⟩
 ·omega
 ·refine ⟨g,cap,hv,?_,hc,fun j x hj=>?_⟩
  ·rcases Nat.lt_or_ge g W.heap.size with k | k
   ·exact k
   ·rw [Array.getElem?_eq_none k] at hg;cases hg
  ·have:=h.cells (g:=g) (by rw [hv];rfl) j (.string x) (by unfold strs;rw [List.getElem?_map,hj];rfl)
   have hadd:(⟨g,0,none⟩:Addr).add j=⟨g,0 + j,none⟩:=by unfold Addr.add;split <;> simp_all
   rw [hadd] at this
   exact this
theorem info_str:(Tryz.prog.info? 9).map (fun i=>(i.zero,i.size,i.bytes))=some (some (.string ByteArray.empty),1,16):=by kernel_rfl
theorem own_next {w wr w1 w2:World} {B:Nat} {e:TypeId} {v v':Value} {k:Nat} {xs:List ByteArray} {x:ByteArray} {o:Obj} (hB:B≤wr.heap.size) (hb:Below B w wr) (hx:Below wr.heap.size wr w1)
 (hown:wr.ownsRow B e 1 v k (strs xs)) (hown':w2.ownsRow B e 1 v' (k + 1) (strs xs++[.string x])) (hgrow:(w1.alloc o).grownBy w2 v.ownBlock) :
 w2.ownsRow B e 1 v' (k + 1) (strs (xs++[x]))∧Below B w w2:=by
 refine ⟨by unfold strs;rw [List.map_append];exact hown',?_⟩
 have h1:Below B w w1:=hb.trans (hx.mono hB)
 have hs:=hx.size
 refine (h1.alloc (by omega) o).grown hgrow (by simp;omega) (fun j hj=>?_)
 have:=(hown.lt j hj).1
 omega
end Go.Proofs.YtcadomjkjoiakaaGreatDoor
namespace Go.Proofs.YtcadomjkjoiakaaGreatDoor
open Ln
namespace Cb
theorem at1_app {c:UInt8}:∀ {p:List UInt8} (r:List UInt8),c ∉ p→at1 c (p++c :: r)=p.length
 | [],r,_=>by show at1 c (c :: r)=0;unfold at1;rw [if_pos rfl]
 | b :: p,r,h=>by
   have hb:¬ b=c:=fun e=>h (by rw [e];exact List.mem_cons_self)
   show at1 c (b :: (p++c :: r))=_
   unfold at1
   rw [if_neg hb,at1_app r (fun q=>h (List.mem_cons_of_mem _ q))]
   rfl
def lns (l:List UInt8):List (List UInt8):=if _h:l=[] then [] else l.take (at1 10 l) :: lns (l.drop (at1 10 l + 1))
termination_by l.length
decreasing_by
 rw [List.length_drop]
 have:=List.length_pos_iff.2 _h
 omega
theorem lns_nil:lns []=[]:=by rw [lns];rfl
theorem lns_cons {l:List UInt8} (h:l≠[]):lns l=l.take (at1 10 l) :: lns (l.drop (at1 10 l + 1)):=by rw [lns,dif_neg h]
def unl (ps:List (List UInt8)):List UInt8:=ps.flatMap (fun p=>p++[10])
theorem unl_cons (p:List UInt8) (ps:List (List UInt8)):unl (p :: ps)=p++10 :: unl ps:=by simp [unl]
theorem lns_unl:∀ {ps:List (List UInt8)},(∀ p∈ps,(10:UInt8) ∉ p)→lns (unl ps)=ps
 | [],_=>lns_nil
 | p :: ps,h=>by
   have a:=at1_app (unl ps) (h p (by simp))
   rw [unl_cons,lns_cons (by simp),a,List.take_left]
   congr 1
   rw [show p++10 :: unl ps=(p++[10])++unl ps by simp,show p.length + 1=(p++[10]).length by simp,List.drop_left]
   exact lns_unl (fun q hq=>h q (List.mem_cons_of_mem _ hq))
def bl (p:List UInt8):Bool:=p.head? == some 32
def grp:List (List UInt8)→List (List UInt8)→List (List (List UInt8))
 | a,[]=>if a=[] then [] else [a]
 | a,p :: ps=>if a≠[]∧bl p=false then a :: grp [p] ps else grp (a++[p]) ps
theorem grp_nil (a:List (List UInt8)) (h:a≠[]):grp a []=[a]:=by unfold grp;rw [if_neg h]
theorem grp_nil0:grp [] []=[]:=by unfold grp;rw [if_pos rfl]
theorem grp_new {a:List (List UInt8)} {p:List UInt8} (ps:List (List UInt8)) (h:a≠[]) (hp:bl p=false):grp a (p :: ps)=a :: grp [p] ps:=by
 conv=>lhs;unfold grp
 rw [if_pos ⟨h,hp⟩]
theorem grp_more {a:List (List UInt8)} {p:List UInt8} (ps:List (List UInt8)) (h:¬ (a≠[]∧bl p=false)):grp a (p :: ps)=grp (a++[p]) ps:=by
 conv=>lhs;unfold grp
 rw [if_neg h]
theorem grp_flat:∀ (ps a:List (List UInt8)),(grp a ps).flatten=a++ps
 | [],a=>by
   by_cases h:a=[]
   ·rw [h,grp_nil0];rfl
   ·rw [grp_nil a h];simp
 | p :: ps,a=>by
   by_cases h:a≠[]∧bl p=false
   ·rw [grp_new ps h.1 h.2,List.flatten_cons,grp_flat ps [p]];simp
   ·rw [grp_more ps h,grp_flat ps (a++[p])];simp
theorem grp_run:∀ (qs a rest:List (List UInt8)),(∀ q∈qs,bl q=true)→grp a (qs++rest)=grp (a++qs) rest
 | [],a,rest,_=>by simp
 | q :: qs,a,rest,h=>by
   rw [List.cons_append,grp_more _ (fun z=>by rw [h q (by simp)] at z;exact absurd z.2 (by decide)),grp_run qs _ rest (fun x hx=>h x (List.mem_cons_of_mem _ hx))]
   simp
theorem fr_bl:∀ (n:Nat) {l:List UInt8},l.length≤n→∀ q∈fr l,bl q=true
 | _,[],_,q,hq=>by rw [fr_nil] at hq;cases hq
 | 0,_ :: _,h,_,_=>by simp at h
 | n + 1,b :: r,h,q,hq=>by
   rw [fr_cons (by simp)] at hq
   rcases List.mem_cons.1 hq with rfl | hq
   ·rfl
   ·exact fr_bl n (by rw [List.length_drop];simp at h ⊢;omega) q hq
theorem bl_take {l:List UInt8} (h:bl l=false):bl (l.take 40)=false:=by
 cases l with
 | nil=>exact h
 | cons b r=>exact h
theorem grp_one (l:List UInt8) (rest:List (List UInt8)):grp [] (fold l++rest)=grp (fold l) rest:=by
 show grp [] (l.take 40 :: (fr (l.drop 40)++rest))=_
 rw [grp_more _ (fun z=>z.1 rfl),List.nil_append,grp_run _ _ _ (fr_bl _ (Nat.le_refl _))]
 rfl
theorem fold_ne (l:List UInt8):fold l≠[]:=by unfold fold;simp
theorem grp_fold:∀ (ls:List (List UInt8)),(∀ l∈ls,bl l=false)→grp [] (ls.flatMap fold)=ls.map fold
 | [],_=>by simp [grp_nil0]
 | [l],h=>by
   rw [List.flatMap_cons,grp_one]
   simp [grp_nil _ (fold_ne l)]
 | l :: m :: ls,h=>by
   have ih:=grp_fold (m :: ls) (fun x hx=>h x (List.mem_cons_of_mem _ hx))
   rw [List.flatMap_cons,grp_one,List.map_cons,← ih]
   have e:(m :: ls).flatMap fold=m.take 40 :: (fr (m.drop 40)++ls.flatMap fold):=by rw [List.flatMap_cons];rfl
   rw [e,grp_new _ (fold_ne l) (bl_take (h m (by simp))),grp_more _ (fun z=>z.1 rfl),List.nil_append]
def whl (s:List UInt8):List (List UInt8):=(grp [] (lns s)).map unf
def okF (s:List UInt8):Prop:=∀ g∈grp [] (lns s),fold (unf g)=g
def ends (s:List UInt8):Bool:=s.getLast? == some 10
def txl (ls:List (List UInt8)):List UInt8:=ls.flatMap (fun l=>unl (fold l))
theorem txl_unl (ls:List (List UInt8)):txl ls=unl (ls.flatMap fold):=by
 unfold txl unl
 rw [List.flatMap_assoc]
theorem fr_no:∀ (n:Nat) {l:List UInt8},l.length≤n→(10:UInt8) ∉ l→∀ q∈fr l,(10:UInt8) ∉ q
 | _,[],_,_,q,hq=>by rw [fr_nil] at hq;cases hq
 | 0,_ :: _,h,_,_,_=>by simp at h
 | n + 1,b :: r,h,hn,q,hq=>by
   rw [fr_cons (by simp)] at hq
   rcases List.mem_cons.1 hq with rfl | hq
   ·intro z
    rcases List.mem_cons.1 z with e | z
    ·exact absurd e (by decide)
    ·exact hn (List.mem_of_mem_take z)
   ·exact fr_no n (by rw [List.length_drop];simp at h ⊢;omega) (fun z=>hn (List.mem_of_mem_drop z)) q hq
theorem fold_no {l:List UInt8} (hn:(10:UInt8) ∉ l):∀ q∈fold l,(10:UInt8) ∉ q:=by
 intro q hq
 rcases List.mem_cons.1 hq with rfl | hq
 ·exact fun z=>hn (List.mem_of_mem_take z)
 ·exact fr_no _ (Nat.le_refl _) (fun z=>hn (List.mem_of_mem_drop z)) q hq
theorem txl_read {ls:List (List UInt8)} (h1:∀ l∈ls,bl l=false) (h2:∀ l∈ls,(10:UInt8) ∉ l):okF (txl ls)∧whl (txl ls)=ls:=by
 have e:lns (txl ls)=ls.flatMap fold:=by
  rw [txl_unl]
  refine lns_unl (fun p hp=>?_)
  obtain ⟨l,hl,hq⟩:=List.mem_flatMap.1 hp
  exact fold_no (h2 l hl) p hq
 have g:grp [] (lns (txl ls))=ls.map fold:=by rw [e];exact grp_fold ls h1
 constructor
 ·intro x hx
  rw [g] at hx
  obtain ⟨l,_,rfl⟩:=List.mem_map.1 hx
  rw [unf_fold]
 ·unfold whl
  rw [g,List.map_map]
  conv=>rhs;rw [← List.map_id ls]
  exact List.map_congr_left (fun l _=>unf_fold l)
theorem unl_ends {ps:List (List UInt8)} (h:ps≠[]):(unl ps).getLast?=some 10:=by
 have:ps=ps.dropLast++[ps.getLast h]:=(List.dropLast_concat_getLast h).symm
 rw [this]
 unfold unl
 rw [List.flatMap_append,List.getLast?_append]
 simp
theorem txl_ends {ls:List (List UInt8)} (h:ls≠[]):ends (txl ls)=true:=by
 rw [txl_unl]
 unfold ends
 rw [unl_ends]
 ·rfl
 ·cases ls with
  | nil=>exact absurd rfl h
  | cons l r=>rw [List.flatMap_cons];intro z;exact fold_ne l (List.append_eq_nil_iff.1 z).1
end Cb
end Go.Proofs.YtcadomjkjoiakaaGreatDoor
namespace Go.Proofs.YtcadomjkjoiakaaGreatDoor.Txt
open Go.Lib
theorem parse_dg:∀ (l:List UInt8) (acc k:Nat),(∀ c∈l,isDg c=true)→acc<10 ^ k→l.length + k≤10→parseUint10 acc l=.ok (l.foldl (fun n c=>n * 10 + (c.toNat - 48)) acc)
 | [],_,_,_,_,_=>rfl
 | c :: r,acc,k,hd,ha,hl=>by
   have hc:=isDg_iff.1 (hd c (by simp))
   rw [List.length_cons] at hl
   have h10:10 ^ k≤10 ^ 9:=Nat.pow_le_pow_right (by decide) (by omega)
   have h9:(10:Nat) ^ 9=1000000000:=by decide
   unfold parseUint10
   rw [if_pos hc,if_neg (by omega),if_neg (by omega)]
   rw [parse_dg r (acc * 10 + (c.toNat - 48)) (k + 1) (fun x hx=>hd x (by simp [hx])) (by rw [Nat.pow_succ];omega) (by omega)]
   rfl
theorem mag_dec (u:Nat) (h:u<10000):parseMag (decDigits u)=.ok u:=by
 unfold parseMag
 rw [if_neg (dec_ne u),parse_dg (decDigits u) 0 0 (dec_is u) (by decide) (by have:=dec_len u 3 (by omega);omega)]
 congr 1
 exact dec_val u
theorem atoi_nt (n:Int) (h:n.natAbs<10000):atoiAll (nt n)=.ok n:=by
 unfold nt
 by_cases hn:n<0
 ·rw [if_pos hn,atoiAll_minus,mag_dec _ h]
  unfold signed
  simp only []
  rw [if_neg (by omega)]
  congr 1
  omega
 ·rw [if_neg hn]
  obtain ⟨c,hc,hd⟩:=dec_head_dg n.natAbs
  obtain ⟨r,hr⟩:∃ r,decDigits n.natAbs=c :: r:=by
   cases e:decDigits n.natAbs with
   | nil=>exact absurd e (dec_ne _)
   | cons a r=>rw [e] at hc;simp at hc;exact ⟨r,by rw [hc]⟩
  have hc':=isDg_iff.1 hd
  rw [hr,atoiAll_plain c r (by omega) (by omega),← hr,mag_dec _ h]
  unfold signless
  simp only []
  rw [if_neg (by omega)]
  congr 1
  omega
theorem nr_some {l:List UInt8} {n:Int} (h:nr 4 l=some n):nt n=l∧n.natAbs<10000:=by
 have:=nt_nr h
 exact ⟨this.1,by have:=this.2;omega⟩
end Go.Proofs.YtcadomjkjoiakaaGreatDoor.Txt
namespace Go.Proofs.YtcadomjkjoiakaaGreatDoor
open Cal Txt Ln
namespace Cb
def ky (k:Nat):List UInt8:=
 if k=0 then [78,65,77,69] else if k=1 then [84,69,88,84] else if k=2 then [83,84,65,82,84] else if k=3 then [76,69,78,71,84,72] else if k=4 then [82,85,76,69]
 else if k=5 then [77,79,82,69] else if k=6 then [78,79,84] else if k=7 then [77,79,86,69] else if k=8 then [65,76,65,82,77] else []
def mu (k:Nat):Bool:=k == 0 || k == 2 || k == 3
def plcF:Nat→Nat→Nat→List UInt8→Option Nat
 | 0,_,_,_=>none
 | f + 1,i,nx,key=>if i<nx then plcF f (i + 1) nx key else if ky i=key then some i else if mu i=true then none else plcF f (i + 1) nx key
def plc (nx:Nat) (key:List UInt8):Option Nat:=plcF 9 0 nx key
theorem plcF_in:∀ (f i nx k:Nat) (key:List UInt8),plcF f i nx key=some k→i≤k∧k<i + f∧nx≤k∧ky k=key∧∀ j,i≤j→nx≤j→j<k→mu j=false
 | 0,_,_,_,_,h=>by cases h
 | f + 1,i,nx,k,key,h=>by
   unfold plcF at h
   split at h
   ·rename_i q
    obtain ⟨a,b,c,d,e⟩:=plcF_in f (i + 1) nx k key h
    refine ⟨by omega,by omega,c,d,fun j h1 h2 h3=>e j (by omega) h2 h3⟩
   ·split at h
    ·rename_i q1 q2
     have e:=Option.some.inj h
     subst e
     exact ⟨Nat.le_refl _,by omega,by omega,q2,fun j h1 _ h3=>by omega⟩
    ·split at h
     ·cases h
     ·rename_i q1 q2 q3
      obtain ⟨a,b,c,d,e⟩:=plcF_in f (i + 1) nx k key h
      refine ⟨by omega,by omega,c,d,fun j h1 h2 h3=>?_⟩
      rcases Nat.lt_or_ge i j with z | z
      ·exact e j z h2 h3
      ·rw [show j=i by omega];simpa using q3
theorem plc_in {nx k:Nat} {key:List UInt8} (h:plc nx key=some k):k<9∧nx≤k∧key=ky k∧∀ j,nx≤j→j<k→mu j=false:=by
 obtain ⟨_,b,c,d,e⟩:=plcF_in 9 0 nx k key h
 exact ⟨by omega,c,d.symm,fun j h1 h2=>e j (Nat.zero_le _) h1 h2⟩
theorem plc_ok:∀ nx,nx<9→∀ k,k<9→4≤nx→nx≤k→plc nx (ky k)=some k:=by decide
theorem plc_0:plc 0 (ky 0)=some 0:=by decide
theorem plc_1:plc 1 (ky 1)=some 1:=by decide
theorem plc_2:plc 1 (ky 2)=some 2∧plc 2 (ky 2)=some 2:=by decide
theorem plc_3:plc 3 (ky 3)=some 3:=by decide
noncomputable def tmO (l:List UInt8):Option Int:=open Classical in if frm l=true∧good l then some (raw l) else none
def spO (l:List UInt8):Option Int:=if (spn l).2=0 then some (spn l).1 else none
def ruO (l:List UInt8):Option Rl:=match rr l with
 | none=>none
 | some r=>if rf r=0 then some r else none
noncomputable def chO (l:List UInt8):Option (Int × Int):=
 if at1 62 l<l.length then
  match tmO (l.take (at1 62 l)) with
  | none=>none
  | some a=>if l.drop (at1 62 l + 1)=[45] then some (a,0) else
    match tmO (l.drop (at1 62 l + 1)) with
    | none=>none
    | some b=>some (a,b)
 else none
def nuO (l:List UInt8):Option Int:=match Go.Lib.atoiAll l with
 | .ok n=>if nt n=l then some n else none
 | _=>none
def alO (l:List UInt8):Option (Int × Bool × Int × Int):=match cutAt 32 l with
 | [a,b,c,d]=>if b=[115]∨b=[101] then
  match spO a with
  | none=>none
  | some o=>match nuO c with
    | none=>none
    | some n=>match spO d with
      | none=>none
      | some t=>some (o,decide (b=[101]),n,t)
  else none
 | _=>none
def teO (l:List UInt8):Option (List UInt8):=if l=[] then none else pln l
noncomputable def rd (k:Nat) (e:Evt) (v:List UInt8):Option Evt:=
 if k=0 then some { e with name:=tb v }
 else if k=1 then (teO v).map fun t=>{ e with text:=tb t }
 else if k=2 then (tmO v).map fun t=>{ e with start:=t }
 else if k=3 then (spO v).map fun n=>{ e with len:=n }
 else if k=4 then (ruO v).map fun r=>{ e with rep:=true,rule:=r }
 else if k=5 then (tmO v).map fun t=>{ e with more:=e.more++[t] }
 else if k=6 then (tmO v).map fun t=>{ e with nots:=e.nots++[t] }
 else if k=7 then (chO v).map fun c=>{ e with chg:=e.chg++[c] }
 else (alO v).map fun a=>{ e with alm:=e.alm++[a] }
def nxt (k:Nat):Nat:=if 5≤k then k else k + 1
def pr (w:List UInt8):Bool:=decide (at1 58 w<w.length) && keB (w.take (at1 58 w))
noncomputable def tk1 (st:Evt × Nat) (w:List UInt8):Option (Evt × Nat):=
 if pr w=true then
  match plc st.2 (w.take (at1 58 w)) with
  | none=>none
  | some k=>match rd k st.1 (w.drop (at1 58 w + 1)) with
    | none=>none
    | some e=>some (e,nxt k)
 else none
noncomputable def tkL:Evt × Nat→List (List UInt8)→Option (Evt × Nat)
 | st,[]=>some st
 | st,w :: ws=>match tk1 st w with
   | none=>none
   | some st'=>tkL st' ws
theorem tkL_nil (st:Evt × Nat):tkL st []=some st:=rfl
theorem tkL_cons {st st':Evt × Nat} {w:List UInt8} (h:tk1 st w=some st') (ws:List (List UInt8)):tkL st (w :: ws)=tkL st' ws:=by
 show (match tk1 st w with | none=>none | some st'=>tkL st' ws)=_
 rw [h]
theorem tkL_no {st:Evt × Nat} {w:List UInt8} (h:tk1 st w=none) (ws:List (List UInt8)):tkL st (w :: ws)=none:=by
 show (match tk1 st w with | none=>none | some st'=>tkL st' ws)=_
 rw [h]
theorem tkL_app:∀ (a b:List (List UInt8)) {st st1:Evt × Nat},tkL st a=some st1→tkL st (a++b)=tkL st1 b
 | [],b,st,st1,h=>by rw [Option.some.inj h];rfl
 | w :: a,b,st,st1,h=>by
   cases hw:tk1 st w with
   | none=>rw [tkL_no hw] at h;cases h
   | some st'=>
     rw [tkL_cons hw] at h
     rw [List.cons_append,tkL_cons hw]
     exact tkL_app a b h
theorem ky_no (c:UInt8) (hc:c=58∨c=10):∀ k,k<9→c ∉ ky k:=by
 rcases hc with rfl | rfl <;> decide
theorem ky_ke:∀ k,k<9→keB (ky k)=true:=by decide
theorem tk1_line {st:Evt × Nat} {k:Nat} (hk:k<9) (hp:plc st.2 (ky k)=some k) (v:List UInt8) {e:Evt} (hr:rd k st.1 v=some e):tk1 st (ky k++58 :: v)=some (e,nxt k):=by
 have a:=at1_app v (ky_no 58 (Or.inl rfl) k hk)
 have d:(ky k++58 :: v).drop ((ky k).length + 1)=v:=by
  rw [show ky k++58 :: v=(ky k++[58])++v by simp,show (ky k).length + 1=(ky k++[58]).length by simp,List.drop_left]
 have p:pr (ky k++58 :: v)=true:=by
  unfold pr
  rw [a,List.take_left,ky_ke k hk]
  simp
 unfold tk1
 rw [if_pos p,a,List.take_left,hp]
 dsimp only
 rw [d,hr]
theorem tk1_in {st st':Evt × Nat} {w:List UInt8} (h:tk1 st w=some st'):∃ k v e,k<9∧st.2≤k∧(∀ j,st.2≤j→j<k→mu j=false)∧w=ky k++58 :: v∧rd k st.1 v=some e∧st'=(e,nxt k):=by
 unfold tk1 at h
 split at h
 ·rename_i hp
  unfold pr at hp
  rw [Bool.and_eq_true,decide_eq_true_eq] at hp
  split at h
  ·cases h
  ·rename_i k hk
   obtain ⟨a,b,c,d⟩:=plc_in hk
   split at h
   ·cases h
   ·rename_i e he
    refine ⟨k,_,e,a,b,d,?_,he,(Option.some.inj h).symm⟩
    rw [← c]
    exact at1_hit 58 hp.1
 ·cases h
theorem tmO_txt {t:Int} (h:ist t=true):tmO (txt t)=some t:=by
 have q:1≤t∧t≤157785119:=of_decide_eq_true h
 obtain ⟨a,b,c⟩:=txt_read q.1 (show t<last from by show t<157785120;omega)
 unfold tmO
 rw [if_pos ⟨a,b⟩,c]
theorem spO_spt {n:Int} (h1:-1000000≤n) (h2:n≤1000000):spO (spt n)=some n:=by
 unfold spO
 rw [spt_read n h1 h2]
 rfl
theorem nuO_nt {n:Int} (h:n.natAbs<10000):nuO (nt n)=some n:=by
 unfold nuO
 rw [atoi_nt n h]
 exact if_pos rfl
def vM (c:Int × Int):List UInt8:=txt c.1++62 :: (if c.2=0 then [45] else txt c.2)
def vA (x:Int × Bool × Int × Int):List UInt8:=joinBy 32 [spt x.1,if x.2.1=true then [101] else [115],nt x.2.2.1,spt x.2.2.2]
theorem frm_no {l:List UInt8} (h:frm l=true) (c:UInt8) (hc:c=10∨c=62):c ∉ l:=by
 obtain ⟨h1,h2⟩:=frm_iff.1 h
 intro q
 obtain ⟨i,hi,e⟩:=List.getElem_of_mem q
 have k:=h2 i (by omega)
 have k2:l.getD i 0=c:=by simp [List.getD_eq_getElem?_getD,List.getElem?_eq_getElem hi,e]
 rw [k2] at k
 have hh:∀ i,i<16→fit (fm.getD i 0) 10=false∧fit (fm.getD i 0) 62=false:=by decide
 have:=hh i (by omega)
 rcases hc with rfl | rfl
 ·rw [this.1] at k;cases k
 ·rw [this.2] at k;cases k
theorem txt_no {t:Int} (h:ist t=true) (c:UInt8) (hc:c=10∨c=62):c ∉ txt t:=by
 have q:1≤t∧t≤157785119:=of_decide_eq_true h
 exact frm_no (txt_read q.1 (show t<last from by show t<157785120;omega)).1 c hc
theorem ist_of {t:Int} (h:1≤t∧t≤157785119):ist t=true:=decide_eq_true h
theorem txt_dash {t:Int} (h:ist t=true):¬ txt t=[45]:=fun e=>by
 have q:1≤t∧t≤157785119:=of_decide_eq_true h
 have:=txt_len16 q.1 q.2
 rw [e] at this
 cases this
theorem drop_at {a b:List UInt8} {c:UInt8}:(a++c :: b).drop (a.length + 1)=b:=by
 rw [show a++c :: b=(a++[c])++b by simp,show a.length + 1=(a++[c]).length by simp,List.drop_left]
theorem chO_vM {c:Int × Int} (h:chB c=true):chO (vM c)=some c:=by
 obtain ⟨a,b⟩:=c
 unfold chB at h
 rw [Bool.and_eq_true,Bool.or_eq_true] at h
 obtain ⟨h1,h2⟩:=h
 dsimp only at h1 h2
 have p:=at1_app (if b=0 then [45] else txt b) (txt_no h1 62 (Or.inr rfl))
 unfold chO vM
 dsimp only
 rw [p,if_pos (by simp),List.take_left,tmO_txt h1,drop_at]
 dsimp only
 by_cases z:b=0
 ·rw [if_pos z,if_pos rfl,z]
 ·have h2:ist b=true:=h2.resolve_left (by simpa using z)
  rw [if_neg z,if_neg (txt_dash h2),tmO_txt h2]
theorem nt_no (n:Int) (c:UInt8) (hc:c=10∨c=32):c ∉ nt n:=by
 intro h
 unfold nt at h
 have dg:∀ u,c ∉ Go.Lib.decDigits u:=fun u q=>by
  have:=isDg_iff.1 (dec_is u c q)
  rcases hc with rfl | rfl <;> exact absurd this (by decide)
 split at h
 ·rcases List.mem_cons.1 h with e | h
  ·rcases hc with rfl | rfl <;> exact absurd e (by decide)
  ·exact dg _ h
 ·exact dg _ h
theorem spt_no (n:Int) (c:UInt8) (hc:c=10∨c=32):c ∉ spt n:=by
 have dg:∀ u,c ∉ Go.Lib.decDigits u:=fun u q=>by
  have:=isDg_iff.1 (dec_is u c q)
  rcases hc with rfl | rfl <;> exact absurd this (by decide)
 have pcn:∀ k d,c≠d→c ∉ pc k d:=fun k d hd q=>by
  unfold pc at q
  split at q
  ·cases q
  ·rcases List.mem_append.1 q with q | q
   ·exact dg _ q
   ·exact hd (List.mem_singleton.1 q)
 intro h
 unfold spt at h
 split at h
 ·rcases hc with rfl | rfl <;> revert h <;> decide
 ·rcases List.mem_append.1 h with h | h
  ·split at h
   ·rcases hc with rfl | rfl <;> revert h <;> decide
   ·cases h
  ·unfold prts at h
   rcases List.mem_append.1 h with h | h
   ·exact pcn _ _ (by rcases hc with rfl | rfl <;> decide) h
   ·rcases List.mem_append.1 h with h | h
    ·exact pcn _ _ (by rcases hc with rfl | rfl <;> decide) h
    ·exact pcn _ _ (by rcases hc with rfl | rfl <;> decide) h
theorem alO_vA {x:Int × Bool × Int × Int} (h:alF x=0):alO (vA x)=some x:=by
 obtain ⟨o,b,n,t⟩:=x
 unfold alF at h
 split at h
 ·rename_i q
  clear h
  dsimp only at q
  have cj:=cut_join 32 [spt o,if b=true then [101] else [115],nt n,spt t] (by simp) (by
   intro w hw
   simp only [List.mem_cons,List.not_mem_nil,or_false] at hw
   rcases hw with rfl | rfl | rfl | rfl
   ·exact spt_no _ _ (Or.inr rfl)
   ·cases b <;> decide
   ·exact nt_no _ _ (Or.inr rfl)
   ·exact spt_no _ _ (Or.inr rfl))
  have e1:=spO_spt (n:=o) (by omega) (by omega)
  have e2:=spO_spt (n:=t) (by omega) (by omega)
  have e3:=nuO_nt (n:=n) (by omega)
  unfold alO vA
  dsimp only
  rw [cj]
  dsimp only
  rw [if_pos (by cases b <;> simp),e1,e3,e2]
  cases b <;> simp
 ·cases h
theorem teO_esc {t:List UInt8} (h:¬ t=[]):teO (esc t)=some t:=by
 unfold teO
 rw [if_neg ?_,pln_esc]
 intro z
 have:=pln_esc t
 rw [z,pln_nil] at this
 exact h (Option.some.inj this).symm
end Cb
end Go.Proofs.YtcadomjkjoiakaaGreatDoor
namespace Go.Proofs.YtcadomjkjoiakaaGreatDoor
open Cal Txt Ln
namespace Cb
abbrev r00:Rl:=⟨0,0,0,0,[],[],[],[]⟩
abbrev e00:Evt:=⟨⟨#[]⟩,⟨#[]⟩,0,0,false,r00,[],[],[],[]⟩
theorem cdM_ky (c:Int × Int):cdM c=ky 7++58 :: vM c:=by
 unfold cdM vM
 simp [kwMove,ky]
theorem nt_pos {n:Int} (h:0≤n):nt n=Go.Lib.decDigits n.toNat:=by
 unfold nt
 rw [if_neg (by omega),show n.natAbs=n.toNat by omega]
theorem cdA_ky {x:Int × Bool × Int × Int} (h:0≤x.2.2.1):cdA x=ky 8++58 :: vA x:=by
 unfold cdA vA
 rw [nt_pos h]
 cases x.2.1 <;> simp [kwAlarm,ky,joinBy]
theorem alF_pos {x:Int × Bool × Int × Int} (h:alF x=0):0≤x.2.2.1:=by
 unfold alF at h
 split at h
 ·rename_i q;omega
 ·cases h
theorem ky_app (k:Nat) (v:List UInt8):ky k++58 :: v=(ky k++[58])++v:=by simp
theorem kw0:kwName=ky 0++[58]:=rfl
theorem kw1:kwText=ky 1++[58]:=rfl
theorem kw2:kwStart=ky 2++[58]:=rfl
theorem kw3:kwLen=ky 3++[58]:=rfl
theorem kw4:kwRule=ky 4++[58]:=rfl
theorem kw5:kwMore=ky 5++[58]:=rfl
theorem kw6:kwNot=ky 6++[58]:=rfl
theorem tk_many {α:Type} (k:Nat) (h5:5≤k) (hk:k<9) (vl:α→List UInt8) (put:Evt→List α→Evt) (h0:∀ E,put E []=E) (ha:∀ E l x,put (put E l) [x]=put E (l++[x])) (ok:α→Prop)
 (hr:∀ E x,ok x→rd k E (vl x)=some (put E [x])):∀ (l:List α) (E:Evt) (nx:Nat),4≤nx→nx≤k→(∀ x∈l,ok x)→∃ nx',4≤nx'∧nx'≤k∧tkL (E,nx) (l.map fun x=>ky k++58 :: vl x)=some (put E l,nx'):=by
 intro l E nx h4 hx hl
 obtain ⟨n,hn⟩:∃ n,n=l.length:=⟨_,rfl⟩
 induction n generalizing l with
 | zero=>
   have:l=[]:=List.eq_nil_of_length_eq_zero hn.symm
   subst this
   exact ⟨nx,h4,hx,by rw [h0];rfl⟩
 | succ n ih=>
   have hne:l≠[]:=fun z=>by rw [z] at hn;cases hn
   obtain ⟨l',x,rfl⟩:∃ l' x,l=l'++[x]:=⟨l.dropLast,l.getLast hne,(List.dropLast_concat_getLast hne).symm⟩
   obtain ⟨n1,a,b,c⟩:=ih l' (fun y hy=>hl y (by simp [hy])) (by simp at hn;omega)
   refine ⟨k,by omega,Nat.le_refl _,?_⟩
   rw [List.map_append,tkL_app _ _ c]
   have t:=tk1_line (st:=(put E l',n1)) hk (plc_ok n1 (by omega) k hk a b) (vl x) (hr _ x (hl x (by simp)))
   rw [List.map_cons,List.map_nil,tkL_cons t,tkL_nil,ha,nxt,if_pos h5]
theorem em_r00 {r:Rl} (h:emB r=true):r=r00:=by
 have q:=of_decide_eq_true h
 obtain ⟨⟨a,b,c,d⟩,e,f,g,i⟩:=q
 obtain ⟨f1,f2,f3,f4,f5,f6,f7,f8⟩:=r
 dsimp only at *
 rw [a,b,c,d,List.eq_nil_of_length_eq_zero e,List.eq_nil_of_length_eq_zero f,List.eq_nil_of_length_eq_zero g,List.eq_nil_of_length_eq_zero i]
theorem text_nil {s:ByteArray} (h:s.data.toList=[]):s=⟨#[]⟩:=by
 have:s=tb s.data.toList:=rfl
 rw [this,h]
 rfl
theorem rd5 (E:Evt) (v:List UInt8):rd 5 E v=(tmO v).map fun t=>{ E with more:=E.more++[t] }:=rfl
theorem rd6 (E:Evt) (v:List UInt8):rd 6 E v=(tmO v).map fun t=>{ E with nots:=E.nots++[t] }:=rfl
theorem rd7 (E:Evt) (v:List UInt8):rd 7 E v=(chO v).map fun t=>{ E with chg:=E.chg++[t] }:=rfl
theorem rd8 (E:Evt) (v:List UInt8):rd 8 E v=(alO v).map fun t=>{ E with alm:=E.alm++[t] }:=rfl
set_option maxHeartbeats 4000000 in
theorem lines_read {e:Evt} (h:evF e=0) (HS:∀ r:Rl,rf r=0→Syn r):∃ nx,4≤nx∧nx≤8∧tkL (e00,0) (cdL e)=some (e,nx):=by
 obtain ⟨⟨n1,n2⟩,t1,⟨l1,l2⟩,hru,-,m1,m2,m3,m4⟩:=evF_card h
 obtain ⟨name,text,start,len,rep,rule,more,nots,chg,alm⟩:=e
 dsimp only at *
 have s1:tkL (e00,0) [kwName++name.data.toList]=some ({ e00 with name:=name },1):=by
  rw [kw0,← ky_app,tkL_cons (tk1_line (by decide) plc_0 _ (show rd 0 e00 name.data.toList=some { e00 with name:=name } from rfl))]
  rfl
 obtain ⟨x2,hx2,s2⟩:∃ x2,(x2=1∨x2=2)∧tkL ({ e00 with name:=name },1) (if text.data.toList=[] then [] else [kwText++esc text.data.toList])=some ({ e00 with name:=name,text:=text },x2):=by
  by_cases z:text.data.toList=[]
  ·exact ⟨1,Or.inl rfl,by rw [if_pos z,text_nil z];rfl⟩
  ·refine ⟨2,Or.inr rfl,?_⟩
   rw [if_neg z,kw1,← ky_app,tkL_cons (tk1_line (st:=({ e00 with name:=name },1)) (by decide) plc_1 _ (show rd 1 { e00 with name:=name } (esc text.data.toList)=some { e00 with name:=name,text:=text } from by
    show (teO (esc text.data.toList)).map _=_
    rw [teO_esc z];rfl))]
   rfl
 have s3:tkL ({ e00 with name:=name,text:=text },x2) [kwStart++txt start]=some ({ e00 with name:=name,text:=text,start:=start },3):=by
  rw [kw2,← ky_app,tkL_cons (tk1_line (st:=({ e00 with name:=name,text:=text },x2)) (by decide) (by rcases hx2 with rfl | rfl;exact plc_2.1;exact plc_2.2) _ (show rd 2 { e00 with name:=name,text:=text } (txt start)=some { e00 with name:=name,text:=text,start:=start } from by
   show (tmO (txt start)).map _=_
   rw [tmO_txt (ist_of t1)];rfl))]
  rfl
 have s4:tkL ({ e00 with name:=name,text:=text,start:=start },3) [kwLen++spt len]=some ({ e00 with name:=name,text:=text,start:=start,len:=len },4):=by
  rw [kw3,← ky_app,tkL_cons (tk1_line (st:=({ e00 with name:=name,text:=text,start:=start },3)) (by decide) plc_3 _ (show rd 3 { e00 with name:=name,text:=text,start:=start } (spt len)=some { e00 with name:=name,text:=text,start:=start,len:=len } from by
   show (spO (spt len)).map _=_
   rw [spO_spt (by omega) (by omega)];rfl))]
  rfl
 obtain ⟨x5,hx5,hx5',s5⟩:∃ x5,4≤x5∧x5≤5∧tkL ({ e00 with name:=name,text:=text,start:=start,len:=len },4) (if rep=true then [kwRule++rt rule] else [])=some ({ e00 with name:=name,text:=text,start:=start,len:=len,rep:=rep,rule:=rule },x5):=by
  unfold ruF at hru
  dsimp only at hru
  by_cases z:rep=true
  ·refine ⟨5,by decide,by decide,?_⟩
   rw [if_pos z] at hru
   rw [if_pos z,kw4,← ky_app,tkL_cons (tk1_line (st:=({ e00 with name:=name,text:=text,start:=start,len:=len },4)) (by decide) (plc_ok 4 (by decide) 4 (by decide) (by decide) (by decide)) _ (show rd 4 { e00 with name:=name,text:=text,start:=start,len:=len } (rt rule)=some { e00 with name:=name,text:=text,start:=start,len:=len,rep:=rep,rule:=rule } from by
    show (ruO (rt rule)).map _=_
    have e:ruO (rt rule)=some rule:=by unfold ruO;rw [rr_rt rule (HS _ hru)];exact if_pos hru
    rw [e,z];rfl))]
   rfl
  ·refine ⟨4,by decide,by decide,?_⟩
   rw [if_neg z] at hru
   have q:emB rule=true:=by
    by_cases k:emB rule=true
    ·exact k
    ·rw [if_neg k] at hru;cases hru
   rw [if_neg z,em_r00 q,show rep=false by simpa using z]
   rfl
 obtain ⟨x6,a6,b6,s6⟩:=tk_many 5 (by decide) (by decide) txt (fun E l=>{ E with more:=E.more++l }) (fun E=>by simp) (fun E l x=>by simp) (fun t=>ist t=true) (fun E x hx=>by
  rw [rd5,tmO_txt hx];rfl) more { e00 with name:=name,text:=text,start:=start,len:=len,rep:=rep,rule:=rule } x5 hx5 (by omega) m1
 obtain ⟨x7,a7,b7,s7⟩:=tk_many 6 (by decide) (by decide) txt (fun E l=>{ E with nots:=E.nots++l }) (fun E=>by simp) (fun E l x=>by simp) (fun t=>ist t=true) (fun E x hx=>by
  rw [rd6,tmO_txt hx];rfl) nots { e00 with name:=name,text:=text,start:=start,len:=len,rep:=rep,rule:=rule,more:=more } x6 a6 (by omega) m2
 obtain ⟨x8,a8,b8,s8⟩:=tk_many 7 (by decide) (by decide) vM (fun E l=>{ E with chg:=E.chg++l }) (fun E=>by simp) (fun E l x=>by simp) (fun c=>chB c=true) (fun E x hx=>by
  rw [rd7,chO_vM hx];rfl) chg { e00 with name:=name,text:=text,start:=start,len:=len,rep:=rep,rule:=rule,more:=more,nots:=nots } x7 a7 (by omega) m3
 obtain ⟨x9,a9,b9,s9⟩:=tk_many 8 (by decide) (by decide) vA (fun E l=>{ E with alm:=E.alm++l }) (fun E=>by simp) (fun E l x=>by simp) (fun x=>alF x=0) (fun E x hx=>by
  rw [rd8,alO_vA hx];rfl) alm { e00 with name:=name,text:=text,start:=start,len:=len,rep:=rep,rule:=rule,more:=more,nots:=nots,chg:=chg } x8 a8 (by omega) m4
 refine ⟨x9,a9,b9,?_⟩
 have q6:more.map (fun t=>kwMore++txt t)=more.map (fun x=>ky 5++58 :: txt x):=List.map_congr_left (fun t _=>by rw [kw5,← ky_app])
 have q7:nots.map (fun t=>kwNot++txt t)=nots.map (fun x=>ky 6++58 :: txt x):=List.map_congr_left (fun t _=>by rw [kw6,← ky_app])
 have q8:chg.map cdM=chg.map (fun x=>ky 7++58 :: vM x):=List.map_congr_left (fun t _=>cdM_ky t)
 have q9:alm.map cdA=alm.map (fun x=>ky 8++58 :: vA x):=List.map_congr_left (fun t ht=>cdA_ky (alF_pos (m4 t ht)))
 unfold cdL cdH
 dsimp only
 rw [q6,q7,q8,q9]
 simp only [List.append_assoc]
 rw [tkL_app _ _ s1,tkL_app _ _ s2,tkL_app _ _ s3,tkL_app _ _ s4,tkL_app _ _ s5]
 exact (tkL_app _ _ s6).trans ((tkL_app _ _ s7).trans ((tkL_app _ _ s8).trans s9))
end Cb
end Go.Proofs.YtcadomjkjoiakaaGreatDoor
namespace Go.Proofs.YtcadomjkjoiakaaGreatDoor
open Cal Txt Ln
namespace Cb
theorem rd0 (E:Evt) (v:List UInt8):rd 0 E v=some { E with name:=tb v }:=rfl
theorem rd1 (E:Evt) (v:List UInt8):rd 1 E v=(teO v).map fun t=>{ E with text:=tb t }:=rfl
theorem rd2 (E:Evt) (v:List UInt8):rd 2 E v=(tmO v).map fun t=>{ E with start:=t }:=rfl
theorem rd3 (E:Evt) (v:List UInt8):rd 3 E v=(spO v).map fun t=>{ E with len:=t }:=rfl
theorem rd4 (E:Evt) (v:List UInt8):rd 4 E v=(ruO v).map fun r=>{ E with rep:=true,rule:=r }:=rfl
theorem nine {k:Nat} (h:k<9):k=0∨k=1∨k=2∨k=3∨k=4∨k=5∨k=6∨k=7∨k=8:=by omega
theorem crd_txl (e:Evt):crd e=txl (cdL e):=rfl
theorem join_no {c d:UInt8} (hd:c≠d):∀ {ws:List (List UInt8)},(∀ w∈ws,c ∉ w)→c ∉ joinBy d ws
 | [],_=>by simp [joinBy]
 | [w],h=>by simpa [joinBy] using h w (by simp)
 | w :: x :: ws,h=>by
   rw [joinBy_cons d w (by simp)]
   intro q
   rcases List.mem_append.1 q with q | q
   ·exact h w (by simp) q
   ·rcases List.mem_cons.1 q with q | q
    ·exact hd q
    ·exact join_no hd (fun y hy=>h y (List.mem_cons_of_mem _ hy)) q
theorem dt_no (n:Int):(10:UInt8) ∉ dt n:=by
 intro hc
 have dg:∀ m,(10:UInt8) ∉ d2 m:=fun m q=>absurd (isDg_iff.1 (d2_is m 10 q)) (by decide)
 unfold dt dt3 at hc
 simp only [List.mem_append,List.mem_singleton] at hc
 rcases hc with ((((hc | hc) | hc) | hc) | hc) | hc
 ·exact dg _ hc
 ·exact dg _ hc
 ·exact absurd hc (by decide)
 ·exact dg _ hc
 ·exact absurd hc (by decide)
 ·exact dg _ hc
theorem dn_no (k:Int):(10:UInt8) ∉ dn k:=by
 unfold dn
 repeat (split;decide)
 decide
theorem wt_no (x:Int × Int):(10:UInt8) ∉ wt x:=by
 intro hc
 unfold wt at hc
 rcases List.mem_append.1 hc with hc | hc
 ·split at hc
  ·cases hc
  ·exact nt_no _ _ (Or.inl rfl) hc
 ·exact dn_no _ hc
theorem lt_no {α:Type} (tx:α→List UInt8) (xs:List α) (h:∀ x,(10:UInt8) ∉ tx x):(10:UInt8) ∉ lt tx xs:=
 join_no (by decide) (fun w hw=>by obtain ⟨x,_,rfl⟩:=List.mem_map.1 hw;exact h x)
theorem kw_no (k:Nat):(10:UInt8) ∉ kw k:=by
 unfold kw
 repeat (split;decide)
 decide
theorem fq_no (k:Int):(10:UInt8) ∉ fq k:=by
 unfold fq
 repeat (split;decide)
 decide
theorem nt_no' (n:Int):(10:UInt8) ∉ nt n:=nt_no n 10 (Or.inl rfl)
theorem part_no (k:Nat) (r:Rl):∀ w∈Txt.part k r,(10:UInt8) ∉ w:=by
 intro w hw
 unfold Txt.part at hw
 repeat (split at hw;(split at hw;(simp at hw);(simp only [List.mem_cons,List.not_mem_nil,or_false] at hw;rcases hw with rfl | rfl;(exact kw_no _);first | exact nt_no' _ | exact dt_no _ | exact lt_no _ _ nt_no' | exact lt_no _ _ wt_no)))
 split at hw
 ·simp at hw
 ·simp only [List.mem_cons,List.not_mem_nil,or_false] at hw
  rcases hw with rfl | rfl
  ·exact kw_no _
  ·exact lt_no _ _ nt_no'
theorem parts_no (m:Nat) (r:Rl):∀ w∈parts m r,(10:UInt8) ∉ w:=by
 induction m with
 | zero=>intro w hw;simp [parts] at hw
 | succ m ih=>
   intro w hw
   rcases List.mem_append.1 hw with hw | hw
   ·exact part_no _ r w hw
   ·exact ih w hw
theorem rt_no (r:Rl):(10:UInt8) ∉ rt r:=
 join_no (by decide) (fun w hw=>by
  rcases List.mem_cons.1 hw with rfl | hw
  ·exact fq_no _
  ·exact parts_no 7 r w hw)
theorem esc_no {l:List UInt8} (h:(10:UInt8) ∉ l):(10:UInt8) ∉ esc l:=by
 intro q
 unfold esc at q
 obtain ⟨b,hb,q⟩:=List.mem_flatMap.1 q
 unfold esc1 at q
 split at q
 ·rename_i c hc
  have:=lof_bof hc
  simp only [List.mem_cons,List.not_mem_nil,or_false] at q
  rcases q with q | q
  ·exact absurd q (by decide)
  ·subst q
   exact absurd this (by unfold bof;simp)
 ·rw [List.mem_singleton] at q
  exact h (q ▸ hb)
theorem ky_bl:∀ k,k<9→∀ v,bl (ky k++58 :: v)=false:=by
 intro k hk v
 rcases nine hk with rfl | rfl | rfl | rfl | rfl | rfl | rfl | rfl | rfl <;> rfl
theorem ln_no {k:Nat} (hk:k<9) {v:List UInt8} (h:(10:UInt8) ∉ v):(10:UInt8) ∉ ky k++58 :: v:=by
 intro q
 rcases List.mem_append.1 q with q | q
 ·exact ky_no 10 (Or.inr rfl) k hk q
 ·rcases List.mem_cons.1 q with q | q
  ·exact absurd q (by decide)
  ·exact h q
theorem vM_no {c:Int × Int} (h:chB c=true):(10:UInt8) ∉ vM c:=by
 unfold chB at h
 rw [Bool.and_eq_true,Bool.or_eq_true] at h
 intro q
 unfold vM at q
 rcases List.mem_append.1 q with q | q
 ·exact txt_no h.1 10 (Or.inl rfl) q
 ·rcases List.mem_cons.1 q with q | q
  ·exact absurd q (by decide)
  ·split at q
   ·exact absurd q (by decide)
   ·rename_i z
    exact txt_no (h.2.resolve_left (by simpa using z)) 10 (Or.inl rfl) q
theorem vA_no (x:Int × Bool × Int × Int):(10:UInt8) ∉ vA x:=by
 refine join_no (by decide) (fun w hw=>?_)
 simp only [List.mem_cons,List.not_mem_nil,or_false] at hw
 rcases hw with rfl | rfl | rfl | rfl
 ·exact spt_no _ _ (Or.inl rfl)
 ·cases x.2.1 <;> decide
 ·exact nt_no' _
 ·exact spt_no _ _ (Or.inl rfl)
theorem name_no {s:ByteArray} (h:nmB s=true):(10:UInt8) ∉ s.data.toList:=fun q=>by
 unfold nmB at h
 rw [Bool.and_eq_true] at h
 exact absurd (List.all_eq_true.1 h.2 10 q) (by decide)
theorem text_no {s:ByteArray} (h:txB s=true):(10:UInt8) ∉ s.data.toList:=fun q=>by
 unfold txB at h
 rw [Bool.and_eq_true] at h
 exact absurd (List.all_eq_true.1 h.2 10 q) (by decide)
theorem evF_nm {e:Evt} (h:evF e=0):nmB e.name=true∧txB e.text=true:=by
 unfold evF at h
 split at h
 ·cases h
 ·rename_i q
  simpa using q
theorem cdL_ok {e:Evt} (h:evF e=0):∀ l∈cdL e,bl l=false∧(10:UInt8) ∉ l:=by
 obtain ⟨-,t1,-,-,-,m1,m2,m3,m4⟩:=evF_card h
 obtain ⟨nm1,nm2⟩:=evF_nm h
 have key:∀ {k:Nat} {v l:List UInt8},k<9→l=ky k++58 :: v→(10:UInt8) ∉ v→bl l=false∧(10:UInt8) ∉ l:=fun hk e hv=>by
  subst e
  exact ⟨ky_bl _ hk _,ln_no hk hv⟩
 intro x hx
 unfold cdL cdH at hx
 simp only [List.mem_append,List.mem_singleton,List.mem_map] at hx
 rcases hx with ((((((((rfl | hx) | rfl) | rfl) | hx) | ⟨t,q,rfl⟩) | ⟨t,q,rfl⟩) | ⟨c,q,rfl⟩) | ⟨y,q,rfl⟩)
 ·exact key (k:=0) (by decide) (by rw [kw0,← ky_app]) (name_no nm1)
 ·split at hx
  ·cases hx
  ·rw [List.mem_singleton] at hx
   exact key (k:=1) (by decide) (by rw [hx,kw1,← ky_app]) (esc_no (text_no nm2))
 ·exact key (k:=2) (by decide) (by rw [kw2,← ky_app]) (txt_no (ist_of t1) 10 (Or.inl rfl))
 ·exact key (k:=3) (by decide) (by rw [kw3,← ky_app]) (spt_no _ 10 (Or.inl rfl))
 ·split at hx
  ·rw [List.mem_singleton] at hx
   exact key (k:=4) (by decide) (by rw [hx,kw4,← ky_app]) (rt_no _)
  ·cases hx
 ·exact key (k:=5) (by decide) (by rw [kw5,← ky_app]) (txt_no (m1 t q) 10 (Or.inl rfl))
 ·exact key (k:=6) (by decide) (by rw [kw6,← ky_app]) (txt_no (m2 t q) 10 (Or.inl rfl))
 ·exact key (k:=7) (by decide) (cdM_ky c) (vM_no (m3 c q))
 ·exact key (k:=8) (by decide) (cdA_ky (alF_pos (m4 y q))) (vA_no y)
theorem cdL_ne (e:Evt):cdL e≠[]:=by unfold cdL cdH;simp
theorem card_read {e:Evt} (h:evF e=0) (HS:∀ r:Rl,rf r=0→Syn r):okF (crd e)∧ends (crd e)=true∧∃ nx,4≤nx∧nx≤8∧tkL (e00,0) (whl (crd e))=some (e,nx):=by
 have o:=cdL_ok h
 obtain ⟨r1,r2⟩:=txl_read (ls:=cdL e) (fun l hl=>(o l hl).1) (fun l hl=>(o l hl).2)
 obtain ⟨nx,a,b,c⟩:=lines_read h HS
 rw [crd_txl]
 exact ⟨r1,txl_ends (cdL_ne e),nx,a,b,by rw [r2];exact c⟩
end Cb
end Go.Proofs.YtcadomjkjoiakaaGreatDoor
