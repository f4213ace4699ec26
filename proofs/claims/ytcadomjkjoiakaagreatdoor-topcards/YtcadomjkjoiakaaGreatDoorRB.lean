/-
  Texts of our own that serve the card of this claim, joined into one.
-/
import Derived.Test.YtcadomjkjoiakaaGreatDoorRL
import Derived.Test.YtcadomjkjoiakaaGreatDoorQB
namespace Go.Proofs.YtcadomjkjoiakaaGreatDoor
namespace Ln
def lof (b:UInt8):Option UInt8:=if b=92 then some 92 else if b=59 then some 59 else if b=44 then some 44 else if b=10 then some 110 else none
def bof (c:UInt8):Option UInt8:=if c=92 then some 92 else if c=59 then some 59 else if c=44 then some 44 else if c=110 then some 10 else none
theorem lof_bof {b c:UInt8} (h:lof b=some c):bof c=some b:=by
 unfold lof at h
 split at h
 ·cases h;subst b;rfl
 split at h
 ·cases h;subst b;rfl
 split at h
 ·cases h;subst b;rfl
 split at h
 ·cases h;subst b;rfl
 cases h
def esc1 (b:UInt8):List UInt8:=match lof b with
 | some c=>[92,c]
 | none=>[b]
def esc (l:List UInt8):List UInt8:=l.flatMap esc1
theorem esc1_some {b c:UInt8} (h:lof b=some c):esc1 b=[92,c]:=by unfold esc1;rw [h]
theorem esc1_none {b:UInt8} (h:lof b=none):esc1 b=[b]:=by unfold esc1;rw [h]
theorem esc_len (l:List UInt8):(esc l).length≤2 * l.length:=by
 induction l with
 | nil=>simp [esc]
 | cons b r ih=>
   show (esc1 b++esc r).length≤_
   rw [List.length_append,List.length_cons]
   have:(esc1 b).length≤2:=by unfold esc1;split <;> simp
   omega
theorem esc_snoc (l:List UInt8) (b:UInt8):esc (l++[b])=esc l++esc1 b:=by simp [esc]
def fb:List UInt8→UInt8 × Nat
 | []=>(0,0)
 | b :: r=>match lof b with
   | none=>(b,1)
   | some _=>if b=92 then match r with
      | []=>(0,0)
      | c :: _=>match bof c with
        | some p=>(p,2)
        | none=>(0,0)
     else (0,0)
theorem fb_plain {b:UInt8} {r:List UInt8} (h:lof b=none):fb (b :: r)=(b,1):=by simp [fb,h]
theorem fb_other {b c:UInt8} {r:List UInt8} (h:lof b=some c) (hb:b≠92):fb (b :: r)=(0,0):=by simp [fb,h,hb]
theorem lof_92:lof 92=some 92:=rfl
theorem fb_last:fb [92]=(0,0):=by simp [fb,lof_92]
theorem fb_bad {d:UInt8} {r:List UInt8} (h:bof d=none):fb (92 :: d :: r)=(0,0):=by simp [fb,lof_92,h]
theorem fb_two {d p:UInt8} {r:List UInt8} (h:bof d=some p):fb (92 :: d :: r)=(p,2):=by simp [fb,lof_92,h]
theorem fb_le:∀ (l:List UInt8),(fb l).2≤l.length
 | []=>Nat.le_refl _
 | b :: r=>by
   cases hl:lof b with
   | none=>rw [fb_plain hl];simp
   | some c=>
     by_cases hb:b=92
     ·subst hb
      cases r with
      | nil=>rw [fb_last];simp
      | cons d r=>
        cases hd:bof d with
        | none=>rw [fb_bad hd];simp
        | some p=>rw [fb_two hd];simp
     ·rw [fb_other hl hb];simp
def pln (l:List UInt8):Option (List UInt8):=
 if l=[] then some [] else if _h:(fb l).2=0 then none else (pln (l.drop (fb l).2)).map ((fb l).1 :: ·)
termination_by l.length
decreasing_by
 have:=fb_le l
 rw [List.length_drop]
 omega
theorem pln_nil:pln []=some []:=by rw [pln];rfl
theorem pln_no {l:List UInt8} (h:l≠[]) (h0:(fb l).2=0):pln l=none:=by rw [pln,if_neg h,dif_pos h0]
theorem pln_yes {l:List UInt8} (h:l≠[]) (h0:¬ (fb l).2=0):pln l=(pln (l.drop (fb l).2)).map ((fb l).1 :: ·):=by rw [pln,if_neg h,dif_neg h0]
theorem fb_esc (b:UInt8) (r:List UInt8):fb (esc1 b++r)=(b,(esc1 b).length):=by
 cases h:lof b with
 | none=>
   rw [esc1_none h]
   exact fb_plain h
 | some c=>
   rw [esc1_some h]
   show fb (92 :: c :: r)=_
   exact fb_two (lof_bof h)
theorem esc1_ne (b:UInt8):(esc1 b).length≠0:=by unfold esc1;split <;> simp
theorem pln_esc:∀ (l:List UInt8),pln (esc l)=some l
 | []=>pln_nil
 | b :: r=>by
   have e:esc (b :: r)=esc1 b++esc r:=rfl
   have f:=fb_esc b (esc r)
   have n1:esc1 b++esc r≠[]:=by
    intro k
    exact esc1_ne b (by rw [(List.append_eq_nil_iff.1 k).1];rfl)
   rw [e,pln_yes n1 (by rw [f];exact esc1_ne b),f]
   show (pln ((esc1 b++esc r).drop (esc1 b).length)).map _=_
   rw [List.drop_left,pln_esc r]
   rfl
def PK (s x t:List UInt8):Prop:=pln s=(pln x).map (t++·)
theorem PK_start (s:List UInt8):PK s s []:=by
 unfold PK
 cases pln s <;> rfl
theorem PK_next {s x t:List UInt8} (h:PK s x t) (hx:x≠[]) (h0:¬ (fb x).2=0):PK s (x.drop (fb x).2) (t++[(fb x).1]):=by
 unfold PK at h ⊢
 rw [h,pln_yes hx h0]
 cases pln (x.drop (fb x).2) <;> simp
theorem PK_no {s x t:List UInt8} (h:PK s x t) (hx:x≠[]) (h0:(fb x).2=0):pln s=none:=by
 unfold PK at h
 rw [h,pln_no hx h0];rfl
theorem PK_end {s t:List UInt8} (h:PK s [] t):pln s=some t:=by
 unfold PK at h
 rw [h,pln_nil];simp
end Ln
end Go.Proofs.YtcadomjkjoiakaaGreatDoor
namespace Go.Proofs.YtcadomjkjoiakaaGreatDoor
namespace Ln
def fr (l:List UInt8):List (List UInt8):=if _h:l=[] then [] else (32 :: l.take 39) :: fr (l.drop 39)
termination_by l.length
decreasing_by
 rw [List.length_drop]
 have:=List.length_pos_iff.2 _h
 omega
theorem fr_nil:fr []=[]:=by rw [fr];rfl
theorem fr_cons {l:List UInt8} (h:l≠[]):fr l=(32 :: l.take 39) :: fr (l.drop 39):=by rw [fr,dif_neg h]
def fold (l:List UInt8):List (List UInt8):=l.take 40 :: fr (l.drop 40)
theorem fr_len:∀ (n:Nat) (l:List UInt8),l.length≤n→(fr l).length=(l.length + 38) / 39
 | n,[],_=>by rw [fr_nil];rfl
 | 0,_ :: _,h=>by simp at h
 | n + 1,b :: r,h=>by
   rw [fr_cons (by simp),List.length_cons,fr_len n ((b :: r).drop 39) (by rw [List.length_drop];simp at h ⊢;omega),List.length_drop]
   simp only [List.length_cons]
   omega
theorem fold_len (l:List UInt8):(fold l).length=1 + (l.length - 40 + 38) / 39:=by
 unfold fold
 rw [List.length_cons,fr_len _ _ (Nat.le_refl _),List.length_drop]
 omega
theorem fr_most:∀ (n:Nat) (l:List UInt8),l.length≤n→∀ p∈fr l,p.length≤40
 | n,[],_,p,hp=>by rw [fr_nil] at hp;cases hp
 | 0,_ :: _,h,_,_=>by simp at h
 | n + 1,b :: r,h,p,hp=>by
   rw [fr_cons (by simp)] at hp
   rcases List.mem_cons.1 hp with rfl | hp
   ·rw [List.length_cons,List.length_take];omega
   ·exact fr_most n _ (by rw [List.length_drop];simp at h ⊢;omega) p hp
theorem fold_most (l:List UInt8):∀ p∈fold l,p.length≤40:=by
 intro p hp
 rcases List.mem_cons.1 hp with rfl | hp
 ·rw [List.length_take];omega
 ·exact fr_most _ _ (Nat.le_refl _) p hp
def trim:List UInt8→List UInt8
 | []=>[]
 | b :: r=>if b=32 then r else b :: r
def unf:List (List UInt8)→List UInt8
 | []=>[]
 | p :: ps=>p++ps.flatMap trim
theorem fr_back:∀ (n:Nat) (l:List UInt8),l.length≤n→(fr l).flatMap trim=l
 | n,[],_=>by rw [fr_nil];rfl
 | 0,_ :: _,h=>by simp at h
 | n + 1,b :: r,h=>by
   rw [fr_cons (by simp),List.flatMap_cons,fr_back n _ (by rw [List.length_drop];simp at h ⊢;omega)]
   have e:trim (32 :: (b :: r).take 39)=(b :: r).take 39:=by simp [trim]
   rw [e,List.take_append_drop]
theorem unf_fold (l:List UInt8):unf (fold l)=l:=by
 show l.take 40++(fr (l.drop 40)).flatMap trim=l
 rw [fr_back _ _ (Nat.le_refl _),List.take_append_drop]
def FK (s x:List UInt8) (xs:List (List UInt8)):Prop:=xs++fr x=fold s
theorem FK_start (s:List UInt8):FK s (s.drop 40) [s.take 40]:=rfl
theorem FK_next {s x:List UInt8} {xs:List (List UInt8)} (h:FK s x xs) (hx:x≠[]):FK s (x.drop 39) (xs++[32 :: x.take 39]):=by
 unfold FK at h ⊢
 rw [← h,fr_cons hx,List.append_assoc]
 rfl
theorem FK_end {s:List UInt8} {xs:List (List UInt8)} (h:FK s [] xs):xs=fold s:=by
 have:=h
 unfold FK at this
 rwa [fr_nil,List.append_nil] at this
theorem FK_len {s x:List UInt8} {xs:List (List UInt8)} (h:FK s x xs):xs.length * 39≤s.length + 77:=by
 have e:=congrArg List.length h
 rw [List.length_append,fold_len] at e
 omega
end Ln
end Go.Proofs.YtcadomjkjoiakaaGreatDoor
namespace Go.Proofs.YtcadomjkjoiakaaGreatDoor
open Go.RowKit Cal Txt Ln
def kwName:List UInt8:=[78,65,77,69,58]
def kwText:List UInt8:=[84,69,88,84,58]
def kwStart:List UInt8:=[83,84,65,82,84,58]
def kwLen:List UInt8:=[76,69,78,71,84,72,58]
def kwRule:List UInt8:=[82,85,76,69,58]
def kwMore:List UInt8:=[77,79,82,69,58]
def kwNot:List UInt8:=[78,79,84,58]
def kwMove:List UInt8:=[77,79,86,69,58]
def kwAlarm:List UInt8:=[65,76,65,82,77,58]
def cdM (c:Int × Int):List UInt8:=kwMove++txt c.1++[62]++(if c.2=0 then [45] else txt c.2)
def cdA (x:Int × Bool × Int × Int):List UInt8:=kwAlarm++spt x.1++(if x.2.1=true then [32,101,32] else [32,115,32])++Lib.decDigits x.2.2.1.toNat++[32]++spt x.2.2.2
def cdH (e:Evt):List (List UInt8):=[kwName++e.name.data.toList]++(if e.text.data.toList=[] then [] else [kwText++esc e.text.data.toList])++[kwStart++txt e.start]++[kwLen++spt e.len]++(if e.rep=true then [kwRule++rt e.rule] else [])
def cdL (e:Evt):List (List UInt8):=cdH e++e.more.map (fun t=>kwMore++txt t)++e.nots.map (fun t=>kwNot++txt t)++e.chg.map cdM++e.alm.map cdA
def crd1 (l:List UInt8):List UInt8:=(fold l).flatMap (fun p=>p++[10])
def crd (e:Evt):List UInt8:=(cdL e).flatMap crd1
theorem txt_len16 {t:Int} (h1:1≤t) (h2:t≤157785119):(txt t).length=16:=by
 have h:=(txt_read h1 (by show t<157785120;omega)).1
 unfold frm at h
 simp only [Bool.and_eq_true,beq_iff_eq] at h
 exact h.1
theorem pc_len9 (k:Nat) (c:UInt8) (h:k<1000000000):(pc k c).length≤10:=by
 unfold pc
 split
 ·simp
 ·have:=dec_len k 8 h
  simp
  omega
theorem sptC_len {n:Int} (h1:-1000000≤n) (h2:n≤1000000):(spt n).length≤31:=by
 have a1:=pc_len9 (n.natAbs / 1440) 100 (by omega)
 have a2:=pc_len9 (n.natAbs % 1440 / 60) 104 (by omega)
 have a3:=pc_len9 (n.natAbs % 60) 109 (by omega)
 unfold spt
 split
 ·simp
 ·unfold prts
  simp only [List.length_append]
  split <;> simp <;> omega
theorem amC_all:∀ {l:List (Int × Bool × Int × Int)},amF l=0→∀ x∈l,alF x=0
 | [],_,x,hx=>by cases hx
 | y :: l,h,x,hx=>by
   unfold amF at h
   split at h
   ·rename_i q
    rcases List.mem_cons.1 hx with rfl | hx
    ·exact q
    ·exact amC_all h x hx
   ·rename_i q;exact absurd h q
theorem evF_card {e:Evt} (h:evF e=0):(e.name.size≤8∧e.text.size≤60)∧(1≤e.start∧e.start≤157785119)∧(0≤e.len∧e.len≤100000)∧ruF e=0∧(e.more.length≤100∧e.nots.length≤100∧e.chg.length≤100∧e.alm.length≤4)∧(∀ t∈e.more,ist t=true)∧(∀ t∈e.nots,ist t=true)∧(∀ c∈e.chg,chB c=true)∧(∀ x∈e.alm,alF x=0):=by
 unfold evF at h
 split at h
 ·cases h
 rename_i h1
 split at h
 ·cases h
 rename_i h2
 split at h
 ·rename_i q;exact absurd h q
 rename_i h3
 split at h
 ·rename_i q;exact absurd h q
 rename_i h4
 have h4':liF e=0:=Decidable.byContradiction h4
 have h3':ruF e=0:=Decidable.byContradiction h3
 unfold liF at h4'
 split at h4'
 ·cases h4'
 rename_i l1
 split at h4'
 ·cases h4'
 rename_i l2
 clear h4'
 simp only [Bool.not_eq_false,Bool.and_eq_true] at h1 h2 l2
 have n1:=h1.1
 have n2:=h1.2
 unfold nmB at n1
 unfold txB at n2
 simp only [Bool.and_eq_true,decide_eq_true_eq] at n1 n2 h2
 have s1:1≤e.start∧e.start≤157785119:=of_decide_eq_true h2.1
 unfold full at l1
 simp only [decide_eq_true_eq] at l1
 refine ⟨⟨n1.1.2,n2.1⟩,s1,h2.2,h3',by omega,?_,?_,?_,amC_all h⟩
 ·exact List.all_eq_true.1 l2.1.1
 ·exact List.all_eq_true.1 l2.1.2
 ·exact List.all_eq_true.1 l2.2
end Go.Proofs.YtcadomjkjoiakaaGreatDoor
namespace Go.Proofs.YtcadomjkjoiakaaGreatDoor
open Ln
def at1 (c:UInt8):List UInt8→Nat
 | []=>0
 | b :: r=>if b=c then 0 else at1 c r + 1
theorem at1_le (c:UInt8):∀ l,at1 c l≤l.length
 | []=>Nat.le_refl _
 | b :: r=>by
   unfold at1
   split
   ·simp
   ·have:=at1_le c r;simp;omega
theorem at1_hit (c:UInt8):∀ {l},at1 c l<l.length→l=l.take (at1 c l)++c :: l.drop (at1 c l + 1)
 | [],h=>by simp [at1] at h
 | b :: r,h=>by
   by_cases k:b=c
   ·have e:at1 c (b :: r)=0:=by unfold at1;rw [if_pos k]
    rw [e];simp [k]
   ·have e:at1 c (b :: r)=at1 c r + 1:=if_neg k
    rw [e] at h ⊢
    have ih:=at1_hit c (l:=r) (by simpa using h)
    rw [List.take_succ_cons,List.drop_succ_cons]
    show b :: r=b :: (r.take (at1 c r)++c :: r.drop (at1 c r + 1))
    rw [← ih]
def keB (l:List UInt8):Bool:=decide (1≤l.length) && decide (l.length≤12) && l.all fun b=>decide (65≤b.toNat∧b.toNat≤90)
theorem ke_long {l:List UInt8} (h:¬ (1≤l.length∧l.length≤12)):keB l=false:=by
 unfold keB
 rcases Nat.lt_or_ge l.length 1 with k | k
 ·rw [decide_eq_false (by omega)];rfl
 ·rw [decide_eq_false (show ¬ l.length≤12 by omega)];simp
theorem ke_all {l:List UInt8} (h1:1≤l.length) (h2:l.length≤12) (h:∀ j (hj:j<l.length),65≤l[j].toNat∧l[j].toNat≤90):keB l=true:=by
 unfold keB
 rw [decide_eq_true h1,decide_eq_true h2]
 simp only [Bool.and_self,Bool.true_and,List.all_eq_true]
 intro x hx
 obtain ⟨j,hj,rfl⟩:=List.getElem_of_mem hx
 exact decide_eq_true (h j hj)
theorem ke_bad {l:List UInt8} (j:Nat) (hj:j<l.length) (h:¬ (65≤l[j].toNat∧l[j].toNat≤90)):keB l=false:=by
 unfold keB
 have:(l.all fun b=>decide (65≤b.toNat∧b.toNat≤90))=false:=by
  rw [List.all_eq_false]
  exact ⟨l[j],List.getElem_mem hj,by simpa using h⟩
 rw [this,Bool.and_false]
end Go.Proofs.YtcadomjkjoiakaaGreatDoor
