/-
  Texts of our own that serve the card of this claim, joined into one.
-/
import Derived.Lib.ItoaNum
import Derived.Test.YtoncfgfjdlgfcaaGreatDoorPU
namespace Go.Proofs.YtoncfgfjdlgfcaaGreatDoor.Txt
open Go.Lib
def isDg (c:UInt8):Bool:=decide (48≤c.toNat∧c.toNat≤57)
theorem isDg_iff {c:UInt8}:isDg c=true↔48≤c.toNat∧c.toNat≤57:=by simp [isDg]
def val (l:List UInt8):Nat:=l.foldl (fun n c=>n * 10 + (c.toNat - 48)) 0
theorem val_snoc (l:List UInt8) (c:UInt8):val (l++[c])=val l * 10 + (c.toNat - 48):=by simp [val]
theorem dg_toNat {i:Nat} (h:i<10):(UInt8.ofNat (48 + i)).toNat=48 + i:=by
 rw [UInt8.toNat_ofNat'];omega
theorem dg_is {i:Nat} (h:i<10):isDg (UInt8.ofNat (48 + i))=true:=isDg_iff.2 (by rw [dg_toNat h];omega)
theorem dec_is (u:Nat):∀ c∈decDigits u,isDg c=true:=by
 induction u using Nat.strongRecOn with
 | _ u ih=>
   intro c hc
   rw [decDigits] at hc
   split at hc
   ·rename_i k
    rw [List.mem_singleton.1 hc];exact dg_is k
   ·rcases List.mem_append.1 hc with hc | hc
    ·exact ih (u / 10) (by omega) c hc
    ·rw [List.mem_singleton.1 hc];exact dg_is (by omega)
theorem dec_val (u:Nat):val (decDigits u)=u:=by
 induction u using Nat.strongRecOn with
 | _ u ih=>
   rw [decDigits]
   split
   ·rename_i h
    show 0 * 10 + ((UInt8.ofNat (48 + u)).toNat - 48)=u
    rw [dg_toNat h];omega
   ·rename_i h;rw [val_snoc,ih (u / 10) (by omega),dg_toNat (by omega)];omega
theorem dec_ne (u:Nat):decDigits u≠[]:=by
 rw [decDigits];split <;> simp
theorem head_app {l r:List UInt8} (h:l≠[]):(l++r).head?=l.head?:=by
 cases l with
 | nil=>exact absurd rfl h
 | cons a l=>rfl
theorem dec_head (u:Nat) (h:1≤u):(decDigits u).head?≠some 48:=by
 induction u using Nat.strongRecOn with
 | _ u ih=>
   rw [decDigits]
   split
   ·rename_i k
    intro e
    have e1:UInt8.ofNat (48 + u)=48:=Option.some.inj e
    have e2:=congrArg UInt8.toNat e1
    rw [dg_toNat k] at e2
    have:(48:UInt8).toNat=48:=by decide
    omega
   ·have:=ih (u / 10) (by omega) (by omega)
    rwa [head_app (dec_ne _)]
theorem dec_len (u k:Nat) (h:u<10 ^ (k + 1)):(decDigits u).length≤k + 1:=by
 induction k generalizing u with
 | zero=>rw [decDigits_one (by simpa using h)];simp
 | succ k ih=>
   rw [decDigits]
   split
   ·simp
   ·have:=ih (u / 10) (by rw [Nat.pow_succ] at h;omega)
    simp;omega
def d2 (n:Nat):List UInt8:=[UInt8.ofNat (48 + n / 10 % 10),UInt8.ofNat (48 + n % 10)]
end Go.Proofs.YtoncfgfjdlgfcaaGreatDoor.Txt
namespace Go.Proofs.YtoncfgfjdlgfcaaGreatDoor.Txt
open Go.Lib
def cutAt (c:UInt8):List UInt8→List (List UInt8)
 | []=>[[]]
 | b :: l=>if b=c then [] :: cutAt c l else (b :: (cutAt c l).headD []) :: (cutAt c l).tail
def joinBy (c:UInt8):List (List UInt8)→List UInt8
 | []=>[]
 | [a]=>a
 | a :: b :: l=>a++c :: joinBy c (b :: l)
theorem joinBy_cons (c:UInt8) (a:List UInt8) {l:List (List UInt8)} (h:l≠[]):joinBy c (a :: l)=a++c :: joinBy c l:=by
 cases l with
 | nil=>exact absurd rfl h
 | cons b l=>rfl
theorem cut_plain (c:UInt8) (a:List UInt8) (h:c ∉ a):cutAt c a=[a]:=by
 induction a with
 | nil=>rfl
 | cons b a ih=>
   have hb:¬ b=c:=fun e=>h (by simp [e])
   have:=ih (fun k=>h (by simp [k]))
   unfold cutAt
   rw [if_neg hb,this];rfl
theorem cut_app (c:UInt8) (a l:List UInt8) (h:c ∉ a):cutAt c (a++c :: l)=a :: cutAt c l:=by
 induction a with
 | nil=>simp [cutAt]
 | cons b a ih=>
   have hb:¬ b=c:=fun e=>h (by simp [e])
   have:=ih (fun k=>h (by simp [k]))
   show cutAt c (b :: (a++c :: l))=_
   conv=>lhs;unfold cutAt
   rw [if_neg hb,this];rfl
theorem cut_join (c:UInt8) (ws:List (List UInt8)) (hn:ws≠[]) (h:∀ w∈ws,c ∉ w):cutAt c (joinBy c ws)=ws:=by
 induction ws with
 | nil=>exact absurd rfl hn
 | cons a l ih=>
   cases l with
   | nil=>exact cut_plain c a (h a (by simp))
   | cons b l=>
     rw [joinBy_cons c a (by simp),cut_app c a _ (h a (by simp)),ih (by simp) (fun w hw=>h w (by simp [hw]))]
def nt (n:Int):List UInt8:=if n<0 then 45 :: decDigits n.natAbs else decDigits n.natAbs
def okDg (less:Bool) (most:Nat) (l:List UInt8):Bool:=decide (l≠[]∧l.length≤most∧¬ (l.head?=some 48∧(1<l.length∨less=true))) && l.all isDg
def nr (most:Nat) (l:List UInt8):Option Int:=
 if 1<l.length∧l.head?=some 45 then (if okDg true most l.tail then some (-(val l.tail:Int)) else none)
 else (if okDg false most l then some (val l:Int) else none)
theorem dec_zero:decDigits 0=[48]:=by rw [decDigits];rfl
theorem dec_head_dg (u:Nat):∃ c,(decDigits u).head?=some c∧isDg c=true:=by
 cases h:decDigits u with
 | nil=>exact absurd h (dec_ne u)
 | cons c l=>exact ⟨c,rfl,dec_is u c (by rw [h];simp)⟩
theorem dec_ok (u most:Nat) (h:u<10 ^ (most + 1)) (less:Bool) (hl:less=true→1≤u):okDg less (most + 1) (decDigits u)=true:=by
 unfold okDg
 rw [Bool.and_eq_true,decide_eq_true_eq,List.all_eq_true]
 refine ⟨⟨dec_ne u,dec_len u most h,?_⟩,dec_is u⟩
 rintro ⟨h0,h1⟩
 rcases Nat.eq_zero_or_pos u with rfl | hu
 ·rw [dec_zero] at h1
  rcases h1 with h1 | h1
  ·simp at h1
  ·have:=hl h1;omega
 ·exact dec_head u hu h0
theorem nr_nt (n:Int) (most:Nat) (h:n.natAbs<10 ^ (most + 1)):nr (most + 1) (nt n)=some n:=by
 unfold nt
 by_cases hn:n<0
 ·rw [if_pos hn]
  have hlen:1≤(decDigits n.natAbs).length:=by
   cases hh:decDigits n.natAbs with
   | nil=>exact absurd hh (dec_ne _)
   | cons a l=>simp
  unfold nr
  rw [if_pos ⟨by simp;omega,rfl⟩,List.tail_cons,if_pos (dec_ok _ _ h true (fun _=>by omega)),dec_val]
  congr 1;omega
 ·rw [if_neg hn]
  obtain ⟨c,hc,hd⟩:=dec_head_dg n.natAbs
  unfold nr
  rw [if_neg (by
   rintro ⟨_,e⟩
   rw [hc] at e
   have e:=Option.some.inj e
   rw [e] at hd
   exact absurd hd (by decide)),if_pos (dec_ok _ _ h false (fun e=>by cases e)),dec_val]
  congr 1;omega
end Go.Proofs.YtoncfgfjdlgfcaaGreatDoor.Txt
namespace Go.Proofs.YtoncfgfjdlgfcaaGreatDoor.Txt
open Go.Lib Cal
def fm:List UInt8:=[48,48,48,48,45,48,48,45,48,48,32,48,48,58,48,48]
def fit (f c:UInt8):Bool:=if f=48 then isDg c else c == f
def frm (l:List UInt8):Bool:=(l.length == 16) && (List.range 16).all fun i=>fit (fm.getD i 0) (l.getD i 0)
def nm (l:List UInt8) (a b:Nat):Nat:=val ((l.drop a).take (b - a))
abbrev last:Int:=157785120
end Go.Proofs.YtoncfgfjdlgfcaaGreatDoor.Txt
namespace Go.Proofs.YtoncfgfjdlgfcaaGreatDoor.Txt
open Go.Lib Cal
def dt3 (y m d:Nat):List UInt8:=d2 (y / 100)++d2 y++[45]++d2 m++[45]++d2 d
def dt (n:Int):List UInt8:=dt3 (yr n).toNat (mo n).toNat (da n).toNat
def mid:List UInt8:=[32,48,48,58,48,48]
def dfB (l:List UInt8):Bool:=frm (l++mid)
def okB (y m d:Int):Bool:=decide (1900≤y∧y≤2199∧1≤m∧m≤12∧1≤d∧d≤ml y m)
def dr (l:List UInt8):Option Int:=if (dfB l && okB (nm l 0 4) (nm l 5 7) (nm l 8 10))=true then some (num (nm l 0 4) (nm l 5 7) (nm l 8 10)) else none
def dn (k:Int):List UInt8:=if k=1 then [109,111] else if k=2 then [116,117] else if k=3 then [119,101] else if k=4 then [116,104] else if k=5 then [102,114] else if k=6 then [115,97] else if k=7 then [115,117] else []
def dk (l:List UInt8):Int:=if l=[109,111] then 1 else if l=[116,117] then 2 else if l=[119,101] then 3 else if l=[116,104] then 4 else if l=[102,114] then 5 else if l=[115,97] then 6 else if l=[115,117] then 7 else 0
theorem dn_len {k:Int} (h1:1≤k) (h7:k≤7):(dn k).length=2:=by
 rcases (by omega:k=1∨k=2∨k=3∨k=4∨k=5∨k=6∨k=7) with rfl | rfl | rfl | rfl | rfl | rfl | rfl <;> rfl
theorem dk_dn {k:Int} (h1:1≤k) (h7:k≤7):dk (dn k)=k:=by
 rcases (by omega:k=1∨k=2∨k=3∨k=4∨k=5∨k=6∨k=7) with rfl | rfl | rfl | rfl | rfl | rfl | rfl <;> decide
def wt (x:Int × Int):List UInt8:=(if x.1=0 then [] else nt x.1)++dn x.2
def wr (l:List UInt8):Option (Int × Int):=
 if l.length<2 then none else if dk (l.drop (l.length - 2))=0 then none else
 if l.length=2 then some (0,dk (l.drop (l.length - 2))) else
 match nr 4 (l.take (l.length - 2)) with
 | some n=>if n=0 then none else some (n,dk (l.drop (l.length - 2)))
 | none=>none
theorem nt_ne (n:Int):nt n≠[]:=by
 unfold nt;split
 ·simp
 ·exact dec_ne _
theorem wr_wt {N k:Int} (h1:1≤k) (h7:k≤7) (hN:N.natAbs<10000):wr (wt (N,k))=some (N,k):=by
 have L:=dn_len h1 h7
 have K:=dk_dn h1 h7
 unfold wr wt
 by_cases hz:N=0
 ·subst hz
  simp only [if_true,List.nil_append,L,Nat.sub_self,List.drop_zero,K]
  rw [if_neg (by omega),if_neg (by omega)]
 ·have hl:1≤(nt N).length:=by
   cases hh:nt N with
   | nil=>exact absurd hh (nt_ne N)
   | cons a l=>simp
  have e1:((nt N++dn k).length - 2)=(nt N).length:=by rw [List.length_append,L];omega
  simp only [if_neg hz,e1,List.drop_left,List.take_left,K,nr_nt N 3 hN]
  rw [if_neg (by rw [List.length_append,L];omega),if_neg (by omega),if_neg (by rw [List.length_append,L];omega)]
def mapO {α:Type} (rd:List UInt8→Option α):List (List UInt8)→Option (List α)
 | []=>some []
 | w :: ws=>match rd w with
   | some x=>(mapO rd ws).map (x :: ·)
   | none=>none
def lr {α:Type} (rd:List UInt8→Option α) (l:List UInt8):Option (List α):=mapO rd (cutAt 44 l)
def lt {α:Type} (tx:α→List UInt8) (xs:List α):List UInt8:=joinBy 44 (xs.map tx)
theorem mapO_map {α:Type} (rd:List UInt8→Option α) (tx:α→List UInt8) (xs:List α) (h:∀ x∈xs,rd (tx x)=some x):mapO rd (xs.map tx)=some xs:=by
 induction xs with
 | nil=>rfl
 | cons x xs ih=>
   rw [List.map_cons]
   unfold mapO
   rw [h x (by simp),ih (fun y hy=>h y (by simp [hy]))]
   rfl
theorem lr_lt {α:Type} (rd:List UInt8→Option α) (tx:α→List UInt8) (xs:List α) (hn:xs≠[]) (h:∀ x∈xs,rd (tx x)=some x∧(44:UInt8) ∉ tx x):lr rd (lt tx xs)=some xs:=by
 unfold lr lt
 rw [cut_join 44 (xs.map tx) (by simpa using hn) (fun w hw=>by
  obtain ⟨x,hx,rfl⟩:=List.mem_map.1 hw
  exact (h x hx).2)]
 exact mapO_map rd tx xs (fun x hx=>(h x hx).1)
def word (c:UInt8):Bool:=decide (c≠44∧c≠32)
theorem word_dg {c:UInt8} (h:isDg c=true):word c=true:=by
 have:=isDg_iff.1 h
 unfold word
 rw [decide_eq_true_eq]
 refine ⟨fun e=>?_,fun e=>?_⟩ <;> subst e <;> exact absurd h (by decide)
theorem nt_word (n:Int):∀ c∈nt n,word c=true:=by
 intro c hc
 unfold nt at hc
 split at hc
 ·rcases List.mem_cons.1 hc with rfl | hc
  ·decide
  ·exact word_dg (dec_is _ c hc)
 ·exact word_dg (dec_is _ c hc)
theorem dn_word (k:Int):∀ c∈dn k,word c=true:=by
 unfold dn
 repeat (split;(intro c hc;simp only [List.mem_cons,List.not_mem_nil,or_false] at hc;rcases hc with rfl | rfl <;> decide))
 intro c hc;simp at hc
theorem wt_word (x:Int × Int):∀ c∈wt x,word c=true:=by
 intro c hc
 unfold wt at hc
 rcases List.mem_append.1 hc with hc | hc
 ·split at hc
  ·simp at hc
  ·exact nt_word _ c hc
 ·exact dn_word _ c hc
theorem no_comma {l:List UInt8} (h:∀ c∈l,word c=true):(44:UInt8) ∉ l:=fun k=>absurd (h 44 k) (by decide)
end Go.Proofs.YtoncfgfjdlgfcaaGreatDoor.Txt
namespace Go.Proofs.YtoncfgfjdlgfcaaGreatDoor.Txt
open Go.Lib Cal
structure Rl where
 freq:Int
 every:Int
 count:Int
 till:Int
 months:List Int
 days:List Int
 weeks:List (Int × Int)
 pick:List Int
def kw (k:Nat):List UInt8:=if k=0 then [101,118,101,114,121] else if k=1 then [99,111,117,110,116] else if k=2 then [117,110,116,105,108] else if k=3 then [109,111,110,116,104,115] else if k=4 then [100,97,121,115] else if k=5 then [111,110] else [112,105,99,107]
def fq (k:Int):List UInt8:=if k=1 then [100,97,105,108,121] else if k=2 then [119,101,101,107,108,121] else if k=3 then [109,111,110,116,104,108,121] else if k=4 then [121,101,97,114,108,121] else []
def fk (l:List UInt8):Int:=if l=[100,97,105,108,121] then 1 else if l=[119,101,101,107,108,121] then 2 else if l=[109,111,110,116,104,108,121] then 3 else if l=[121,101,97,114,108,121] then 4 else 0
def part (k:Nat) (r:Rl):List (List UInt8):=
 if k=0 then (if r.every=1 then [] else [kw 0,nt r.every])
 else if k=1 then (if r.count=0 then [] else [kw 1,nt r.count])
 else if k=2 then (if r.till=0 then [] else [kw 2,dt r.till])
 else if k=3 then (if r.months=[] then [] else [kw 3,lt nt r.months])
 else if k=4 then (if r.days=[] then [] else [kw 4,lt nt r.days])
 else if k=5 then (if r.weeks=[] then [] else [kw 5,lt wt r.weeks])
 else (if r.pick=[] then [] else [kw 6,lt nt r.pick])
def parts:Nat→Rl→List (List UInt8)
 | 0,_=>[]
 | m + 1,r=>part (6 - m) r++parts m r
def rt (r:Rl):List UInt8:=joinBy 32 (fq r.freq :: parts 7 r)
def ap (k:Nat) (v:List UInt8) (r:Rl):Option Rl:=
 if k=0 then (match nr 4 v with | some n=>if n=1 then none else some { r with every:=n } | none=>none)
 else if k=1 then (match nr 4 v with | some n=>if n=0 then none else some { r with count:=n } | none=>none)
 else if k=2 then (match dr v with | some n=>some { r with till:=n } | none=>none)
 else if k=3 then (match lr (nr 4) v with | some l=>some { r with months:=l } | none=>none)
 else if k=4 then (match lr (nr 4) v with | some l=>some { r with days:=l } | none=>none)
 else if k=5 then (match lr wr v with | some l=>some { r with weeks:=l } | none=>none)
 else (match lr (nr 4) v with | some l=>some { r with pick:=l } | none=>none)
def rdF:Nat→Rl→List (List UInt8)→Option Rl
 | 0,r,ws=>if ws=[] then some r else none
 | m + 1,r,ws=>match ws with
   | []=>some r
   | [_]=>none
   | w :: v :: rest=>if w=kw (6 - m) then (match ap (6 - m) v r with | some r'=>rdF m r' rest | none=>none) else rdF m r ws
def r0 (f:Int):Rl:={ freq:=f,every:=1,count:=0,till:=0,months:=[],days:=[],weeks:=[],pick:=[] }
def rr (s:List UInt8):Option Rl:=match cutAt 32 s with
 | []=>none
 | w :: ws=>if fk w=0 then none else rdF 7 (r0 (fk w)) ws
def base (m:Nat) (r:Rl):Rl where
 freq:=r.freq
 every:=if 7≤m then 1 else r.every
 count:=if 6≤m then 0 else r.count
 till:=if 5≤m then 0 else r.till
 months:=if 4≤m then [] else r.months
 days:=if 3≤m then [] else r.days
 weeks:=if 2≤m then [] else r.weeks
 pick:=if 1≤m then [] else r.pick
theorem seven {m:Nat} (h:m<7):m=0∨m=1∨m=2∨m=3∨m=4∨m=5∨m=6:=by omega
theorem part_two (k:Nat) (hk:k<7) (r:Rl):part k r=[]∨∃ v,part k r=[kw k,v]:=by
 rcases seven hk with rfl | rfl | rfl | rfl | rfl | rfl | rfl <;> simp only [part] <;> simp <;> split <;> simp_all
theorem lws {l:List (Int × Int)} (hn:l≠[]) (h:∀ x∈l,x.1.natAbs<10000∧1≤x.2∧x.2≤7):lr wr (lt wt l)=some l:=
 lr_lt wr wt l hn (fun x hm=>⟨wr_wt (h x hm).2.1 (h x hm).2.2 (h x hm).1,no_comma (wt_word x)⟩)
end Go.Proofs.YtoncfgfjdlgfcaaGreatDoor.Txt
