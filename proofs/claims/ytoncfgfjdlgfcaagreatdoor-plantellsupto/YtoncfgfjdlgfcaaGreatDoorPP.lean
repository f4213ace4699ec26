/-
  Texts of our own that serve the card of this claim, joined into one.
-/
import Derived.Test.YtoncfgfjdlgfcaaGreatDoorRL
import Derived.Deep.MidRow
import Derived.Test.YtoncfgfjdlgfcaaGreatDoorBQ
import Derived.Test.YtoncfgfjdlgfcaaGreatDoorBZR
import Derived.Test.YtoncfgfjdlgfcaaGreatDoorDA
import Derived.Test.YtoncfgfjdlgfcaaGreatDoorBF
import Derived.Deep.RegionHeld3
import Derived.Test.YtoncfgfjdlgfcaaGreatDoorBV
import Derived.Deep.Cut
import Derived.Deep.CutRange
namespace Go.Proofs.YtoncfgfjdlgfcaaGreatDoor
open Go.RowKit Cal Txt
def encE (x:Evt × Evs):List Value:=(ecells x.1 x.2).toList
theorem encE_len (x:Evt × Evs):(encE x).length=17:=rfl
def Evl (w:World) (v:Value) (L:List (Evt × Evs)):Prop:=RowK encE w v L∧∀ x∈L,EvB w x.1 x.2
theorem Evl.on {w w':World} {v:Value} {L:List (Evt × Evs)} (h:Evl w v L) (q:Below w.heap.size w w'):Evl w' v L:=⟨h.1.on q,fun x hx=>(h.2 x hx).on q⟩
theorem Evl.form {w:World} {v:Value} {L:List (Evt × Evs)} (h:Evl w v L):∃ a cap,v=.slice a L.length cap:=h.1.form
theorem flatE_at:∀ (L:List (Evt × Evs)) (i c:Nat) (hi:i<L.length),c<17→(L.flatMap encE)[i * 17 + c]?=(encE L[i])[c]?
 | [],i,c,h,_=>by simp at h
 | a :: r,0,c,_,hc=>by
   rw [List.flatMap_cons,Nat.zero_mul,Nat.zero_add,List.getElem?_append_left (by rw [encE_len];exact hc)]
   rfl
 | a :: r,i + 1,c,h,hc=>by
   have ih:=flatE_at r i c (by simpa using h) hc
   rw [List.flatMap_cons,List.getElem?_append_right (by rw [encE_len];omega),encE_len,show (i + 1) * 17 + c - 17=i * 17 + c by omega,ih]
   rfl
theorem evl_at {w:World} {a:Option Addr} {n cap:Nat} {L:List (Evt × Evs)} (h:Evl w (.slice a n cap) L) {i:Nat} (hi:i<L.length):∃ b off,a=some ⟨b,off,none⟩∧n=L.length∧b<w.heap.size∧w.rangeAt b (off + i * 17) (encE L[i])∧EvB w L[i].1 L[i].2:=by
 obtain ⟨a',c',e,hc⟩:=h.1
 simp only [Value.slice.injEq] at e
 obtain ⟨rfl,rfl,rfl⟩:=e
 rcases hc with hc | ⟨b,off,rfl,hc⟩
 ·rw [hc] at hi
  simp at hi
 ·have hr:w.rangeAt b (off + i * 17) (encE L[i]):=fun j u hu=>by
   have hj:j<17:=(List.getElem?_eq_some_iff.1 hu).1
   have q:=flatE_at L i j hi hj
   rw [hu] at q
   have:=hc _ _ q
   rwa [← Nat.add_assoc] at this
  exact ⟨b,off,rfl,rfl,World.block_lt_of_cell? _ _ (hr 0 _ rfl),hr,h.2 _ (List.getElem_mem hi)⟩
theorem evr_load {ops:Array Oper} {rest:List Oper} {op:Oper} {a:Act} {w:World} {Q:Exit→Act→World→Prop} (hgd:op.guard=none) (x:Operand) (ho:op.op=.load 33 x)
 (b o:Nat) (e:Evt) (s:Evs) (hx:a.eval x=.pointer (some ⟨b,o,none⟩)) (hE:w.rangeAt b o (encE (e,s))) (h:wpList Tryz.prog ops Q rest (a.put op.dst (.agg (ecells e s))) w):wpList Tryz.prog ops Q (op :: rest) a w:=
 wpList_load_mid hgd 33 x ho b o hx (ecells e s).toList _ hE Tryz.underlying33 rfl (by kernel_rfl) h
end Go.Proofs.YtoncfgfjdlgfcaaGreatDoor
namespace Go.Proofs.YtoncfgfjdlgfcaaGreatDoor.Pp
open Go.RowKit Bz
abbrev Sv:=Option Addr × Nat × Nat
abbrev svV (s:Sv):Value:=.slice s.1 s.2.1 s.2.2
def encS (s:Sv):List Value:=[svV s]
theorem encS_len (s:Sv):(encS s).length=1:=rfl
def Ech (w:World) (us:List Sv) (LL:List (List Bz)):Prop:=us.length=LL.length∧∀ i,i<LL.length→RowK encB w (svV (us.getD i (none,0,0))) (LL.getD i [])
theorem Ech.on {w w':World} {us:List Sv} {LL:List (List Bz)} (h:Ech w us LL) (q:Below w.heap.size w w'):Ech w' us LL:=⟨h.1,fun i hi=>(h.2 i hi).on q⟩
theorem Ech.nil (w:World):Ech w [] []:=⟨rfl,fun i hi=>by simp at hi⟩
theorem Ech.snoc {w:World} {us:List Sv} {LL:List (List Bz)} (h:Ech w us LL) {u:Sv} {T:List Bz} (hu:RowK encB w (svV u) T):Ech w (us++[u]) (LL++[T]):=by
 refine ⟨by simp [h.1],fun i hi=>?_⟩
 rcases Nat.lt_or_ge i LL.length with g | g
 ·rw [List.getD_eq_getElem?_getD,List.getD_eq_getElem?_getD,List.getElem?_append_left (by rw [h.1];exact g),List.getElem?_append_left g,← List.getD_eq_getElem?_getD,← List.getD_eq_getElem?_getD]
  exact h.2 i g
 ·obtain rfl:i=LL.length:=by simp at hi;omega
  rw [List.getD_eq_getElem?_getD,List.getD_eq_getElem?_getD,List.getElem?_append_right (by rw [h.1];exact Nat.le_refl _),List.getElem?_append_right (Nat.le_refl _),h.1,Nat.sub_self]
  exact hu
def Bss (w:World) (v:Value) (LL:List (List Bz)):Prop:=∃ us:List Sv,RowK encS w v us∧Ech w us LL
theorem Bss.on {w w':World} {v:Value} {LL:List (List Bz)} (h:Bss w v LL) (q:Below w.heap.size w w'):Bss w' v LL:=by
 obtain ⟨us,h1,h2⟩:=h
 exact ⟨us,h1.on q,h2.on q⟩
theorem Bss.nil (w:World):Bss w (.slice none 0 0) []:=⟨[],RowK.nil _ _,Ech.nil w⟩
theorem info_bzs:(Tryz.prog.info? 46).map (fun i=>(i.zero,i.size,i.bytes))=some (some (.slice none 0 0),1,24):=by kernel_rfl
abbrev Os (w:World) (n0:Nat) (v:Value) (us:List Sv):Prop:=w.ownsRow n0 46 1 v us.length (us.flatMap encS)
theorem os_one (W:World) (s:Sv):RowK encS (W.alloc (.cells #[svV s] 46)) (.slice (some ⟨W.heap.size,0,none⟩) 1 1) [s]:=by
 refine ⟨_,_,rfl,Or.inr ⟨W.heap.size,0,rfl,fun j u hu=>?_⟩⟩
 have hj:j<1:=(List.getElem?_eq_some_iff.1 hu).1
 obtain rfl:j=0:=by omega
 simp [encS] at hu
 subst hu
 simp
theorem ap_row {W:World} {n0:Nat} {u:Value} {us:List Sv} (s:Sv) (h:Os W n0 u us) (hn:n0≤W.heap.size) (hl:us.length≤1000000):∃ v' w',(∀ ty,(Builtin.append_ #[101,101] ty #[u,.slice (some ⟨W.heap.size,0,none⟩) 1 1]).run Tryz.prog (W.alloc (.cells #[svV s] 46))=.ok v' w')∧Os w' n0 v' (us++[s])∧Below n0 W w'∧W.heap.size≤w'.heap.size∧(∀ k,k<W.heap.size→u.ownBlock≠some k→w'.heap[k]?=W.heap[k]?)∧(v'.ownBlock=u.ownBlock∨v'.ownBlock=some (W.heap.size + 1)):=by
 have b5:Below W.heap.size W (W.alloc (.cells #[svV s] 46)):=(Below.refl _ _).alloc (Nat.le_refl _) _
 obtain ⟨i0,hi,hz0,hz1,hz2⟩:=info_parts info_bzs
 obtain ⟨a',c',e',hc⟩:=os_one W s
 have h':Os (W.alloc (.cells #[svV s] 46)) n0 u us:=ow_below h b5
 obtain ⟨v',w',hr,r1,r2,_,r4⟩:=run_append_own_at (P:=Tryz.prog) (W.alloc (.cells #[svV s] 46)) n0 101 101 46 i0 (.slice none 0 0) 1 24 Tryz.underlying101 hi hz0 hz1 hz2 rfl (by decide) u us.length (us.flatMap encS) h' ⟨W.heap.size,0,none⟩ 1 1 [svV s] rfl (fun j x hx=>by
  have hj:j<1:=(List.getElem?_eq_some_iff.1 hx).1
  obtain rfl:j=0:=by omega
  simp at hx
  subst hx
  rw [add_off]
  simp) (fun x hx=>by simp at hx;subst hx;rfl) (by unfold maxLen;omega) (by omega) (Nat.le_trans hn b5.size)
 refine ⟨v',w',fun ty=>hr,?_,(b5.mono hn).trans ((Below.refl n0 _).grown r2 (Nat.le_trans hn b5.size) (fun j hj=>(h.lt j hj).1)),Nat.le_trans b5.size r2.size,fun k hk hne=>(r2.block k (Nat.lt_of_lt_of_le hk b5.size) (fun e=>hne e.symm)).trans (b5.block k hk),?_⟩
 ·show w'.ownsRow n0 46 1 v' (us++[s]).length ((us++[s]).flatMap encS)
  rw [List.length_append,List.flatMap_append]
  exact r1
 ·rwa [World.size_alloc] at r4
def Apz (w:World) (us:List Sv) (o:Value):Prop:=∀ x∈us,∀ g,(svV x).ownBlock=some g→g<w.heap.size∧o.ownBlock≠some g
theorem rowK_kept {w w':World} {v:Value} {T:List Bz} (h:RowK encB w v T) (q:∀ g,v.ownBlock=some g→w'.heap[g]?=w.heap[g]?):RowK encB w' v T:=by
 obtain ⟨a,cap,e,hc⟩:=h
 refine ⟨a,cap,e,?_⟩
 rcases hc with hc | ⟨b,off,ea,hc⟩
 ·exact Or.inl hc
 ·refine Or.inr ⟨b,off,ea,fun j u hu=>?_⟩
  have:=hc j u hu
  have e2:=q b (by rw [e,ea];rfl)
  rw [← this]
  simp [World.cell?,e2]
theorem getD_mem {us:List Sv} {i:Nat} (h:i<us.length):us.getD i (none,0,0)∈us:=by
 rw [List.getD_eq_getElem?_getD,List.getElem?_eq_getElem h]
 exact List.getElem_mem h
theorem Ech.kept {w w':World} {us:List Sv} {LL:List (List Bz)} (h:Ech w us LL) (q:∀ x∈us,∀ g,(svV x).ownBlock=some g→w'.heap[g]?=w.heap[g]?):Ech w' us LL:=
 ⟨h.1,fun i hi=>rowK_kept (h.2 i hi) (q _ (getD_mem (by rw [h.1];exact hi)))⟩
theorem Apz.on {w w':World} {us:List Sv} {o:Value} (h:Apz w us o) (q:w.heap.size≤w'.heap.size):Apz w' us o:=fun x hx g hg=>⟨Nat.lt_of_lt_of_le (h x hx g hg).1 q,(h x hx g hg).2⟩
theorem sv_at {w:World} {a:Option Addr} {n c:Nat} {us:List Sv} (h:RowK encS w (.slice a n c) us) {i:Nat} (hi:i<us.length):∃ b off,a=some ⟨b,off,none⟩∧n=us.length∧w.cell? ⟨b,off + i,none⟩=some (svV (us.getD i (none,0,0))):=by
 obtain ⟨a',c',e,hc⟩:=h
 simp only [Value.slice.injEq] at e
 obtain ⟨rfl,rfl,rfl⟩:=e
 rcases hc with hc | ⟨b,off,rfl,hc⟩
 ·rw [hc] at hi
  simp at hi
 ·have q:=flat_at encS 1 encS_len us i 0 hi (by decide)
  exact ⟨b,off,rfl,rfl,hc i _ (by rw [Nat.mul_one,Nat.add_zero] at q;exact q)⟩
end Go.Proofs.YtoncfgfjdlgfcaaGreatDoor.Pp
namespace Go.Proofs.YtoncfgfjdlgfcaaGreatDoor.Pp
open Go.RowKit Bz
def tkb (T:List Tm):List Bz:=T.map (fun x=>(x.2.1,x.2.2))
theorem tkb_len (T:List Tm):(tkb T).length=T.length:=by simp [tkb]
theorem tkb_step {T:List Tm} {k:Nat} (h:k<T.length):tkb (T.take (k + 1))=tkb (T.take k)++[((T.getD k (0,0,0)).2.1,(T.getD k (0,0,0)).2.2)]:=by
 unfold tkb
 rw [List.take_succ_eq_append_getElem h,List.map_append,List.getD_eq_getElem?_getD,List.getElem?_eq_getElem h]
 rfl
theorem tms_at {w:World} {a:Option Addr} {n cap:Nat} {T:List Tm} (h:Tms w (.slice a n cap) T) {i:Nat} (hi:i<T.length):∃ b off,a=some ⟨b,off,none⟩∧n=T.length∧w.cell? ⟨b,off + i * 3,none⟩=some (.int .i64 (T.getD i (0,0,0)).1)∧w.cell? ⟨b,off + i * 3 + 1,none⟩=some (.int .i64 (T.getD i (0,0,0)).2.1)∧w.cell? ⟨b,off + i * 3 + 2,none⟩=some (.int .i64 (T.getD i (0,0,0)).2.2):=by
 obtain ⟨a',c',e,hc⟩:=h
 simp only [Value.slice.injEq] at e
 obtain ⟨rfl,rfl,rfl⟩:=e
 rcases hc with hc | ⟨b,off,rfl,hc⟩
 ·rw [hc] at hi
  simp at hi
 ·exact ⟨b,off,rfl,rfl,hc i hi⟩
theorem tbx_new (w:World) (x y z:Int):(w.alloc (.cells #[.int .i64 x,.int .i64 y,.int .i64 z] 44)).cell? ⟨w.heap.size,1,none⟩=some (.int .i64 y)∧(w.alloc (.cells #[.int .i64 x,.int .i64 y,.int .i64 z] 44)).cell? ⟨w.heap.size,2,none⟩=some (.int .i64 z):=⟨by simp,by simp⟩
set_option maxRecDepth 100000 in
set_option maxHeartbeats 4000000 in
theorem tkb_any (T:List Tm) (v:Value) (w:World) (hv:Tms w v T) (hl:T.length≤1000) :
 Calls Tryz.prog 91 #[v] w fun e w'=>∃ u,e=.returned u∧Ob w' w.heap.size u (tkb T)∧Below w.heap.size w w':=by
 have HV:=Lib.hid hv
 obtain ⟨a,cap,rfl,_⟩:=hv
 go_enter Tryz.func91,Tryz.ntmps91
 go_wp2
 go_loopw [8,3,5] (fun iv xv _ wr=>∃ (i:Nat) (x:Value),i≤T.length∧iv=.int .i64 i∧xv=x∧Hid (Ob wr w.heap.size x (tkb (T.take i)))∧Below w.heap.size w wr) (fun iv _ _ _=>T.length - (intOf iv).toNat)
 case atStart=>exact ⟨0,_,Nat.zero_le _,rfl,rfl,Lib.hid (World.ownsRow_nil _ _ _ _),Below.refl _ _⟩
 case round=>
  obtain ⟨i,x,hi,rfl,hx,HO,hB⟩:=hrel
  replace hx:=hx.symm
  subst hx
  have HB:=Lib.hid hB
  by_cases hlt:i<T.length
  case neg=>
   have O9:Hid (Ob wr w.heap.size x (tkb T)):=Lib.hid (by have:=HO.out;rwa [List.take_of_length_le (by omega)] at this)
   clear hB HO
   go_wp2
   go_ret
   exact ⟨x,rfl,O9.out,HB.out⟩
  obtain ⟨tb,toff,ea,_,d0,d1,d2⟩:=tms_at (HV.out.on hB) hlt
  subst ea
  have ST:=Lib.hid (tkb_step hlt)
  have QL:(tkb (T.take i)).length≤1000:=by rw [tkb_len,List.length_take];omega
  generalize tkb (T.take i)=Q at HO ST QL
  generalize T.getD i (0,0,0)=X at d0 d1 d2 ST
  obtain ⟨X0,X1,X2⟩:=X
  dsimp only at d0 d1 d2 ST
  have dl:=cell_in d0
  have TB:=tbx_new wr X0 X1 X2
  have b1:=below_one wr (.cells #[.int .i64 X0,.int .i64 X1,.int .i64 X2] 44)
  obtain ⟨W1,hW1⟩:∃ W1,W1=wr.alloc (.cells #[.int .i64 X0,.int .i64 X1,.int .i64 X2] 44):=⟨_,rfl⟩
  rw [← hW1] at TB b1
  have HW1:=Lib.hid hW1
  have HTB:=Lib.hid TB
  have B1:=Lib.hid (HB.out.trans (b1.mono HB.out.size))
  have O1:Hid (Ob W1 w.heap.size x Q):=Lib.hid (ow_below HO.out b1)
  clear hW1 b1 hB TB
  go_upto_region 5 with fail
  rw [← HW1.out]
  clear HW1 d0 d1 d2 dl
  obtain ⟨v6,w6,ap,o6,b6⟩:=ap_next (X1,X2) O1.out B1.out.size (by omega)
  have AP:=Lib.hid ap
  have O6:Hid (Ob w6 w.heap.size v6 (tkb (T.take (i + 1)))):=Lib.hid (by rw [ST.out];exact o6)
  have B6:=Lib.hid (B1.out.trans b6)
  obtain ⟨t1,t2⟩:=HTB.out
  have tl:=cell_in t1
  clear ap o6 b6
  go_wp2_with (at_builtin;refine wpl_app rfl _ _ 46 rfl _ _ _ _ rfl rfl AP.out ?_)
  go_roundw
  case rel=>exact ⟨i + 1,v6,by omega,by go_num,rfl,O6,B6.out⟩
  case measure=>simp [intOf];omega
end Go.Proofs.YtoncfgfjdlgfcaaGreatDoor.Pp
namespace Go.Proofs.YtoncfgfjdlgfcaaGreatDoor.Pp
open Go.RowKit Bz Cal Txt
section
variable (g:Evt→Int) (tm:Evt→List Tm)
def teG (L:List (Evt × Evs)):Int:=(L.map (fun x=>g x.1)).foldr (fun f r=>if f=0 then r else f) 0
def teN:List (Evt × Evs)→Nat
 | []=>0
 | x :: r=>(tm x.1).length + teN r
def teF (L:List (Evt × Evs)):Int:=if 20<L.length then 4 else if ¬ teG g L=0 then teG g L else if 200<teN tm L then 4 else 0
def teM (L:List (Evt × Evs)):List (List Bz):=L.map (fun x=>tkb (tm x.1))
def teL (L:List (Evt × Evs)):List (List Bz):=if teF g tm L=0 then teM tm L else []
theorem teG_step {L:List (Evt × Evs)} {k:Nat} (h:k<L.length):teG g (L.drop k)=if g L[k].1=0 then teG g (L.drop (k + 1)) else g L[k].1:=by
 unfold teG
 rw [List.drop_eq_getElem_cons h,List.map_cons,List.foldr_cons]
theorem teN_step {L:List (Evt × Evs)} {k:Nat} (h:k<L.length):teN tm (L.take (k + 1))=teN tm (L.take k) + (tm L[k].1).length:=by
 have app:∀ (p:List (Evt × Evs)) (x:Evt × Evs),teN tm (p++[x])=teN tm p + (tm x.1).length:=fun p x=>by
  induction p with
  | nil=>simp [teN]
  | cons y r ih=>show (tm y.1).length + teN tm (r++[x])=(tm y.1).length + teN tm r + _;rw [ih];omega
 rw [List.take_succ_eq_append_getElem h,app]
theorem teM_step {L:List (Evt × Evs)} {k:Nat} (h:k<L.length):teM tm (L.take (k + 1))=teM tm (L.take k)++[tkb (tm L[k].1)]:=by
 unfold teM
 rw [List.take_succ_eq_append_getElem h,List.map_append]
 rfl
end
theorem evB_one {w:World} {e:Evt} {s:Evs} (h:EvB w e s):(ecells e s).all (fun x=>x.oneCell')=true:=by
 obtain ⟨⟨_,_,q1,_⟩,⟨_,_,q2,_⟩,⟨_,_,q3,_⟩,⟨_,_,q4,_⟩,⟨_,_,q5,_⟩,⟨_,_,q6,_⟩,⟨_,_,q7,_⟩,⟨_,_,q8,_⟩⟩:=h
 simp [Value.oneCell',q1,q2,q3,q4,q5,q6,q7,q8]
def TeA (w:World) (LL:List (List Bz)) (f:Int) (e:Ending) (w':World):Prop:=∃ u,e=.returned (.tuple #[u,fault f])∧Bss w' u LL∧Below w.heap.size w w'
set_option maxRecDepth 100000 in
set_option maxHeartbeats 8000000 in
theorem each_of (g:Evt→Int) (tm:Evt→List Tm) (a:Int) (l:List (Int × Int)) (L:List (Evt × Evs)) (fr t:Int) (v vl:Value) (w:World) (hz:ZoneIn w v a l) (hL:Evl w vl L) (hl:L.length≤9223372036854775807)
 (hm:∀ x∈L,g x.1=0→(tm x.1).length≤200)
 (hB:∀ x∈L,∀ W,Below w.heap.size w W→Calls Tryz.prog 8 #[v,.agg (ecells x.1 x.2),.int .i64 fr,.int .i64 t] W (TbA W (tm x.1) (g x.1))) :
 Calls Tryz.prog 43 #[v,vl,.int .i64 fr,.int .i64 t] w (TeA w (teL g tm L) (teF g tm L)):=by
 have HL:=Lib.hid hL
 have HB:=Lib.hid hB
 have HM:=Lib.hid hm
 obtain ⟨sa,sc,rfl⟩:=hz.form
 obtain ⟨ae,ce,rfl⟩:=hL.form
 have b0:Below w.heap.size w (w.alloc (.cells #[.int .i64 a,.slice sa l.length sc] 24)):=(Below.refl _ _).alloc (Nat.le_refl _) _
 have z0:(w.alloc (.cells #[.int .i64 a,.slice sa l.length sc] 24)).cell? ⟨w.heap.size,0,none⟩=some (.int .i64 a)∧(w.alloc (.cells #[.int .i64 a,.slice sa l.length sc] 24)).cell? ⟨w.heap.size,1,none⟩=some (.slice sa l.length sc):=⟨by simp,by simp⟩
 obtain ⟨W0,hW0⟩:∃ W0,W0=w.alloc (.cells #[.int .i64 a,.slice sa l.length sc] 24):=⟨_,rfl⟩
 rw [← hW0] at b0 z0
 have HW0:=Lib.hid hW0
 have B0:=Lib.hid b0
 have Z0:=Lib.hid z0
 clear hz hL hB hW0 b0 z0 hm
 by_cases h20:20<L.length
 ·have N:Hid (teF g tm L=4∧teL g tm L=[]):=Lib.hid (by
   have e:teF g tm L=4:=by unfold teF;rw [if_pos h20]
   exact ⟨e,by unfold teL;rw [e];rfl⟩)
  generalize teF g tm L=F at N ⊢
  generalize teL g tm L=LL at N ⊢
  have n20:(20:Int)<(L.length:Int):=by omega
  go_enter Tryz.func43,Tryz.ntmps43
  go_upto_region 1 with fail
  rw [← HW0.out]
  go_wp2
  go_ret2
  exact ⟨_,by rw [N.out.1];rfl,by rw [N.out.2];exact Bss.nil _,B0.out⟩
 have EF:Hid (teF g tm L=if ¬ teG g L=0 then teG g L else if 200<teN tm L then 4 else 0):=Lib.hid (by unfold teF;rw [if_neg h20])
 have EL:Hid (teL g tm L=if teF g tm L=0 then teM tm L else []):=Lib.hid rfl
 generalize teF g tm L=F at EF EL ⊢
 generalize teL g tm L=LL at EL ⊢
 have n20:¬ (20:Int)<(L.length:Int):=by omega
 go_enter Tryz.func43,Tryz.ntmps43
 go_upto_region 1 with fail
 rw [← HW0.out]
 clear HW0
 go_wp2_with fail
 go_loopw [22,10,11,13,14,15] (fun iv ov nv _ _ _ wr=>∃ (k:Nat) (o:Value) (us:List Sv),k≤L.length∧iv=.int .i64 k∧ov=o∧nv=.int .i64 (teN tm (L.take k))∧Hid (Os wr W0.heap.size o us)∧Hid (Ech wr us (teM tm (L.take k))∧Apz wr us o)∧Hid (teG g L=teG g (L.drop k))∧Hid (teN tm (L.take k)≤200 * k)∧Below W0.heap.size W0 wr) (fun iv _ _ _ _ _ _=>L.length - (intOf iv).toNat)
 case atStart=>exact ⟨0,_,[],Nat.zero_le _,rfl,rfl,rfl,Lib.hid (World.ownsRow_nil _ _ _ _),Lib.hid ⟨Ech.nil _,fun x hx=>by simp at hx⟩,Lib.hid rfl,Lib.hid (Nat.le_refl _),Below.refl _ _⟩
 case round=>
  obtain ⟨k,o,us,hk,rfl,ho,rfl,HO,HE,HG,HN,hB⟩:=hrel
  replace ho:=ho.symm
  subst ho
  have HBB:=Lib.hid hB
  have B1:=Lib.hid (B0.out.trans (hB.mono B0.out.size))
  by_cases hlt:k<L.length
  case neg=>
   have hk2:k=L.length:=by omega
   have EF2:F=if 200<teN tm L then 4 else 0:=by
    have e0:teG g L=0:=by rw [HG.out,hk2,List.drop_length];rfl
    rw [EF.out,if_neg (fun z=>z e0)]
   have TK:L.take k=L:=by rw [hk2,List.take_length]
   rw [TK] at HE HN ⊢
   by_cases h200:200<teN tm L
   ·have N:Hid (F=4∧LL=[]):=Lib.hid (by
     have e:F=4:=by rw [EF2,if_pos h200]
     exact ⟨e,by rw [EL.out,e];rfl⟩)
    have n2:(200:Int)<(teN tm L:Int):=by omega
    clear EF2 TK hB
    go_wp2
    go_ret2
    exact ⟨_,by rw [N.out.1];rfl,by rw [N.out.2];exact Bss.nil _,B1.out⟩
   ·have N:Hid (F=0∧LL=teM tm L):=Lib.hid (by
     have e:F=0:=by rw [EF2,if_neg h200]
     exact ⟨e,by rw [EL.out,if_pos e]⟩)
    have n2:¬ (200:Int)<(teN tm L:Int):=by omega
    have RR:Hid (Bss wr o (teM tm L)):=Lib.hid ⟨us,own_rowK (enc:=encS) (k:=1) encS_len (by decide) HO.out,HE.out.1⟩
    clear EF2 TK hB
    go_wp2
    go_ret2
    exact ⟨o,by rw [N.out.1];rfl,by rw [N.out.2];exact RR.out,B1.out⟩
  obtain ⟨b,off,ea,_,bl,hr,hE⟩:=evl_at (HL.out.on B1.out) hlt
  subst ea
  have XM:L[k]∈L:=List.getElem_mem hlt
  have KB:=Lib.hid (HB.out _ XM)
  have MM:=Lib.hid (HM.out _ XM)
  have SG:=Lib.hid (teG_step g hlt)
  have SN:=Lib.hid (teN_step tm hlt)
  have SM:=Lib.hid (teM_step tm hlt)
  generalize L[k]=X at hr hE KB SG SN SM MM
  obtain ⟨e,s⟩:=X
  dsimp only at KB SG SN SM MM hE
  have NO:Hid (¬ g e=0→F=g e∧LL=[]):=Lib.hid (fun q=>by
   have h9:teG g L=g e:=by rw [HG.out,SG.out,if_neg q]
   have e:F=g e:=by rw [EF.out,h9,if_pos q]
   exact ⟨e,by rw [EL.out,e,if_neg q]⟩)
  have GN:Hid (g e=0→teG g L=teG g (L.drop (k + 1))):=Lib.hid (fun q=>by rw [HG.out,SG.out,if_pos q])
  have OC:Hid ((ecells e s).all (fun x=>x.oneCell')=true):=Lib.hid (evB_one hE)
  have HR:=Lib.hid hr
  have KB3:=Lib.hid (fun W (q:Below wr.heap.size wr W)=>KB.out W (B1.out.trans (q.mono B1.out.size)))
  generalize g e=E1 at KB3 NO GN MM
  generalize tm e=T at KB3 MM SN SM
  clear hE HM HB EF EL SG KB hB hr
  go_upto_region 8 with (first | (refine evr_load ?a1 (.tmp 24) ?a2 b (off + k * 17) e s ?a3 HR.out ?a4;(case a1=>rfl);(case a2=>rfl);(case a3=>rfl)) | (refine ev_store ?h1 (.tmp 13) (.tmp 25) ?h2 wr.heap.size _ _ ?h3 rfl e s ?h4 ?h5 ?h6 ?h7;(case h1=>rfl);(case h2=>rfl);(case h3=>rfl);(case h4=>exact OC.out);(case h5=>rfl);(case h6=>rfl);intro W2 r2 b2;have Q2:=Lib.hid (And.intro r2 b2);clear r2 b2))
  have zl:=cell_in Z0.out.1
  have q0:=HBB.out.trans (Q2.out.2.mono HBB.out.size)
  have y0:=(q0.cell (p:=⟨w.heap.size,0,none⟩) zl).trans Z0.out.1
  have y1:=(q0.cell (p:=⟨w.heap.size,1,none⟩) zl).trans Z0.out.2
  have yl:=cell_in y0
  have KB2:=Lib.hid (KB3.out W2 Q2.out.2)
  clear KB3 zl q0 OC HR
  go_wp2_with (refine ev_load ?j1 (.tmp 13) ?j2 wr.heap.size e s ?j3 Q2.out.1.1 ?j4;(case j1=>rfl);(case j2=>rfl);(case j3=>rfl))
  refine KB2.out.mono ?_
  rintro y w3 ⟨u3,rfl,ht3,hb3,ho3⟩
  have B3:Hid (Below wr.heap.size wr w3):=Lib.hid (Q2.out.2.trans (hb3.mono Q2.out.2.size))
  have B5:=Lib.hid (B1.out.trans (B3.out.mono B1.out.size))
  have T3:=Lib.hid ht3
  obtain ⟨ta,tc,et,_⟩:=ht3
  subst et
  clear hb3 ho3 KB2 y0 y1 yl Q2
  by_cases q1:E1=0
  case neg=>
   have N:Hid (F=E1∧LL=[]):=Lib.hid (NO.out q1)
   have H1:=Lib.hid q1
   rw [fault_not q1]
   clear q1 NO GN MM
   go_wp2
   go_ret2
   exact ⟨_,by rw [N.out.1,fault_not H1.out];rfl,by rw [N.out.2];exact Bss.nil _,B5.out⟩
  subst q1
  have TL:T.length≤200:=MM.out rfl
  have G2:=Lib.hid (GN.out rfl)
  have K4:=Lib.hid (tkb_any T _ w3 T3.out (by omega))
  rw [fault_zero rfl]
  clear NO GN MM
  go_wp2_with fail
  refine K4.out.mono ?_
  rintro y w4 ⟨u4,rfl,ho4,hb4⟩
  obtain ⟨pa,pc,ep,_⟩:=ho4.rb
  rw [tkb_len] at ep
  subst ep
  have O4:=Lib.hid ho4
  have B4:=Lib.hid hb4
  clear K4 ho4 hb4
  have USL:us.length≤1000000:=by rw [HE.out.1.1];unfold teM;rw [List.length_map,List.length_take];omega
  have b24:Below wr.heap.size wr w4:=B3.out.trans (B4.out.mono B3.out.size)
  have WB:Hid (W0.heap.size≤w4.heap.size):=Lib.hid (Nat.le_trans HBB.out.size b24.size)
  obtain ⟨v6,w6,ap,o6,b6,s6,k6,x6⟩:=ap_row (pa,T.length,pc) (ow_below HO.out b24) WB.out USL
  have AP:=Lib.hid ap
  have O6:Hid (Os w6 W0.heap.size v6 (us++[(pa,T.length,pc)])):=Lib.hid o6
  have B6:Hid (Below W0.heap.size W0 w6):=Lib.hid ((HBB.out.trans (b24.mono HBB.out.size)).trans b6)
  have NN:=HN.out
  have N3:Hid (teN tm (L.take (k + 1))≤200 * (k + 1)):=Lib.hid (by rw [SN.out];omega)
  have AZ:Apz w4 (us++[(pa,T.length,pc)]) o:=fun x hx g' hg=>by
   rcases List.mem_append.1 hx with q | q
   ·have:=HE.out.2 x q g' hg
    exact ⟨Nat.lt_of_lt_of_le this.1 b24.size,this.2⟩
   ·simp at q
    subst q
    have:=O4.out.lt g' hg
    exact ⟨this.2,fun eo=>by have:=(HO.out.lt g' eo).2;have:=B3.out.size;omega⟩
  have E6:Hid (Ech w6 (us++[(pa,T.length,pc)]) (teM tm (L.take (k + 1)))∧Apz w6 (us++[(pa,T.length,pc)]) v6):=Lib.hid (by
   refine ⟨?_,fun x hx g' hg=>⟨Nat.lt_of_lt_of_le (AZ x hx g' hg).1 s6,fun ev=>?_⟩⟩
   ·rw [SM.out]
    exact ((HE.out.1.on b24).snoc O4.out.rb).kept (fun x hx g' hg=>k6 g' (AZ x hx g' hg).1 (AZ x hx g' hg).2)
   ·rcases x6 with q | q
    ·rw [q] at ev
     exact (AZ x hx g' hg).2 ev
    ·rw [q] at ev
     simp at ev
     have:=(AZ x hx g' hg).1
     omega)
  have wn:IntKind.i64.wrap ((teN tm (L.take k):Int) + (T.length:Int))=(teN tm (L.take k):Int) + (T.length:Int):=by rw [IntKind.wrap_i64];omega
  have SN2:Hid ((teN tm (L.take k):Int) + (T.length:Int)=(teN tm (L.take (k + 1)):Int)):=Lib.hid (by rw [SN.out];omega)
  clear ap o6 b6 s6 k6 x6 AZ b24 USL
  go_wp2_with (at_builtin;refine wpl_app rfl _ _ 101 rfl _ _ _ _ rfl rfl AP.out ?_)
  go_roundw
  case rel=>exact ⟨k + 1,v6,_,by omega,by go_num,rfl,by rw [← SN2.out],O6,E6,G2,N3,B6.out⟩
  case measure=>simp [intOf];omega
end Go.Proofs.YtoncfgfjdlgfcaaGreatDoor.Pp
namespace Go.Proofs.YtoncfgfjdlgfcaaGreatDoor.Pp
open Go.RowKit Bz
set_option maxRecDepth 100000 in
set_option maxHeartbeats 1000000 in
theorem idxP (g:Nat) (p:Bz→Bool) (l:List Bz) (b0:Nat) (v:Value) (w:World) (eg:∀ args w,(callFunc g args).run Tryz.prog w=.ok (.enter g args) w)
 (hC:∀ c∈l,∀ W,Below w.heap.size w W→Calls Tryz.prog g #[agB c,.pointer (some ⟨b0,0,none⟩)] W fun e w'=>e=.returned (.bool (p c))∧Below W.heap.size W w') (hh:Rb w v l) (hl:l.length≤1000000) :
 Calls Tryz.prog 83 #[v,.func (.func g) #[] #[.pointer (some ⟨b0,0,none⟩)]] w (Bz.IdxA l p w):=by
 have HH:=Lib.hid hh
 have HC:=Lib.hid hC
 obtain ⟨a,cap,rfl,_⟩:=hh
 clear hC
 go_enter Tryz.func83,Tryz.ntmps83
 go_wp2
 go_loopw [8] (fun i wr=>∃ k:Nat,k≤l.length∧i=.int .i64 k∧Hid ((l.take k).any p=false)∧Below w.heap.size w wr) (fun i _=>l.length - (intOf i).toNat)
 case atStart=>exact ⟨0,Nat.zero_le _,rfl,Lib.hid rfl,Below.refl _ _⟩
 case round=>
  obtain ⟨k,hk,rfl,HF,hB⟩:=hrel
  have HB:=Lib.hid hB
  by_cases hlt:k<l.length
  ·obtain ⟨b,off,rfl,_,k1,k2⟩:=rb_at (HH.out.on hB) hlt
   have bl:=cell_in k1
   have K:=Lib.hid (HC.out (l.getD k (0,0)) (by rw [List.getD_eq_getElem?_getD,List.getElem?_eq_getElem hlt];exact List.getElem_mem _) wr hB)
   obtain ⟨X,hX⟩:∃ X,X=l.getD k (0,0):=⟨_,rfl⟩
   rw [← hX] at k1 k2 K
   have HX:=Lib.hid hX
   clear hX hB
   go_wp2_with fail
   refine K.out.mono ?_
   rintro e w2 ⟨rfl,hb⟩
   have HB2:=Lib.hid (HB.out.trans (hb.mono HB.out.size))
   clear hb K k1 k2 bl
   rcases hp:p X with _ | _
   ·have N1:=Lib.hid (Bz.any_tk p l k hlt HF.out (by rw [← HX.out];exact hp))
    go_wp2
    go_roundw
    case rel=>exact ⟨k + 1,by omega,by go_num,N1,HB2.out⟩
    case measure=>simp [intOf];omega
   ·have N1:Hid (p (l.getD k (0,0))=true):=Lib.hid (by rw [← HX.out];exact hp)
    go_wp2
    go_ret
    exact ⟨HB2.out,Or.inr ⟨k,rfl,hlt,HF.out,N1.out⟩⟩
  ·have N1:Hid (l.any p=false):=Lib.hid (by have:=HF.out;rwa [List.take_of_length_le (by omega)] at this)
   go_wp2
   go_ret
   exact ⟨HB.out,Or.inl ⟨rfl,N1.out⟩⟩
theorem any_at {p:Bz→Bool} {l:List Bz} {k:Nat} (hk:k<l.length) (hp:p (l.getD k (0,0))=true):l.any p=true:=
 List.any_eq_true.2 ⟨_,by rw [List.getD_eq_getElem?_getD,List.getElem?_eq_getElem hk];exact List.getElem_mem _,hp⟩
set_option maxRecDepth 100000 in
theorem conP (g:Nat) (p:Bz→Bool) (l:List Bz) (b0:Nat) (v:Value) (w:World) (eg:∀ args w,(callFunc g args).run Tryz.prog w=.ok (.enter g args) w)
 (hC:∀ c∈l,∀ W,Below w.heap.size w W→Calls Tryz.prog g #[agB c,.pointer (some ⟨b0,0,none⟩)] W fun e w'=>e=.returned (.bool (p c))∧Below W.heap.size W w') (hh:Rb w v l) (hl:l.length≤1000000) :
 Calls Tryz.prog 97 #[v,.func (.func g) #[] #[.pointer (some ⟨b0,0,none⟩)]] w fun e w'=>e=.returned (.bool (l.any p))∧Below w.heap.size w w':=by
 have K:=Lib.hid (idxP g p l b0 v w eg hC hh hl)
 clear hC hh eg
 go_enter Tryz.func97,Tryz.ntmps97
 go_wp2_with fail
 refine K.out.mono ?_
 rintro e w1 ⟨hb,hx⟩
 have B1:=Lib.hid hb
 clear K hb
 rcases hx with ⟨rfl,ha⟩ | ⟨k,rfl,hk,ha,hp⟩
 ·have N:=Lib.hid ha
  clear ha
  go_wp2
  go_ret
  exact ⟨by rw [N.out];rfl,B1.out⟩
 ·have N:=Lib.hid (any_at hk hp)
  have kn:(0:Int)≤(k:Int):=by omega
  clear ha hp
  go_wp2
  go_ret
  exact ⟨by rw [N.out];rfl,B1.out⟩
def mtB (x y:Bz):Bool:=decide (max x.1 y.1<min x.2 y.2)
set_option maxRecDepth 100000 in
theorem shr2_any (x y:Bz) (b:Nat) (w:World) (hx:BBx w b x) :
 Calls Tryz.prog 99 #[agB y,.pointer (some ⟨b,0,none⟩)] w fun e w'=>e=.returned (.bool (mtB x y))∧Below w.heap.size w w':=by
 have N:Hid (mtB x y=decide (max x.1 y.1<min x.2 y.2)):=Lib.hid rfl
 generalize mtB x y=R at N ⊢
 have T3:=BBx.new w y 99
 have b3:=below_one w (.cells #[.int .i64 y.1,.int .i64 y.2] 99)
 obtain ⟨W3,hW3⟩:∃ W3,W3=w.alloc (.cells #[.int .i64 y.1,.int .i64 y.2] 99):=⟨_,rfl⟩
 rw [← hW3] at T3 b3
 have HW3:=Lib.hid hW3
 have B3:=Lib.hid b3
 obtain ⟨t0,t1⟩:=T3
 have tl:=cell_in t0
 obtain ⟨x0,x1⟩:=hx
 have n0:=(b3.cell (p:=⟨b,0,none⟩) (cell_in x0)).trans x0
 have n1:=(b3.cell (p:=⟨b,1,none⟩) (cell_in x1)).trans x1
 have nl:=cell_in n0
 clear hW3 b3 x0 x1
 go_enter Tryz.func99,Tryz.ntmps99
 go_upto_region 1 with fail
 rw [← HW3.out]
 go_wp2
 go_ret
 exact ⟨ret_bool N.out.symm,B3.out⟩
set_option maxRecDepth 100000 in
theorem shr1_any (x:Bz) (m:List Bz) (u:Value) (b:Nat) (w:World) (hb:w.cell? ⟨b,0,none⟩=some u) (hu:Rb w u m) (hl:m.length≤1000000) :
 Calls Tryz.prog 98 #[agB x,.pointer (some ⟨b,0,none⟩)] w fun e w'=>e=.returned (.bool (m.any (mtB x)))∧Below w.heap.size w w':=by
 have T3:=BBx.new w x 99
 have b3:=below_one w (.cells #[.int .i64 x.1,.int .i64 x.2] 99)
 obtain ⟨W3,hW3⟩:∃ W3,W3=w.alloc (.cells #[.int .i64 x.1,.int .i64 x.2] 99):=⟨_,rfl⟩
 rw [← hW3] at T3 b3
 have HW3:=Lib.hid hW3
 have B3:=Lib.hid b3
 have n0:=(b3.cell (p:=⟨b,0,none⟩) (cell_in hb)).trans hb
 have nl:=cell_in n0
 have eg:∀ args w,(callFunc 99 args).run Tryz.prog w=.ok (.enter 99 args) w:=enters_of Tryz.func99 (by kernel_rfl) rfl
 have K:=Lib.hid (conP 99 (mtB x) m w.heap.size u W3 eg (fun c _ W q=>shr2_any x c w.heap.size W ⟨(q.cell (p:=⟨w.heap.size,0,none⟩) (cell_in T3.1)).trans T3.1,(q.cell (p:=⟨w.heap.size,1,none⟩) (cell_in T3.2)).trans T3.2⟩) (hu.on b3) hl)
 obtain ⟨a,cap,rfl,_⟩:=hu
 clear hW3 b3 hb T3 eg
 go_enter Tryz.func98,Tryz.ntmps98
 go_upto_region 1 with fail
 rw [← HW3.out]
 go_wp2_with fail
 refine K.out.mono ?_
 rintro e w1 ⟨rfl,hb⟩
 have B1:=Lib.hid (B3.out.trans (hb.mono B3.out.size))
 clear K hb n0 nl
 go_wp2
 go_ret
 exact ⟨rfl,B1.out⟩
def shB (l m:List Bz):Bool:=l.any (fun x=>m.any (mtB x))
set_option maxRecDepth 100000 in
theorem shr_any (l m:List Bz) (v u:Value) (w:World) (hv:Rb w v l) (hu:Rb w u m) (hl:l.length≤1000000) (hm:m.length≤1000000) :
 Calls Tryz.prog 48 #[v,u] w fun e w'=>e=.returned (.bool (shB l m))∧Below w.heap.size w w':=by
 have N:Hid (shB l m=l.any (fun x=>m.any (mtB x))):=Lib.hid rfl
 generalize shB l m=R at N ⊢
 have b3:=below_one w (.cells #[u] 46)
 have c3:(w.alloc (.cells #[u] 46)).cell? ⟨w.heap.size,0,none⟩=some u:=by simp
 obtain ⟨W3,hW3⟩:∃ W3,W3=w.alloc (.cells #[u] 46):=⟨_,rfl⟩
 rw [← hW3] at c3 b3
 have HW3:=Lib.hid hW3
 have B3:=Lib.hid b3
 have eg:∀ args w,(callFunc 98 args).run Tryz.prog w=.ok (.enter 98 args) w:=enters_of Tryz.func98 (by kernel_rfl) rfl
 have K:=Lib.hid (conP 98 (fun x=>m.any (mtB x)) l w.heap.size v W3 eg (fun c _ W q=>shr1_any c m u w.heap.size W ((q.cell (p:=⟨w.heap.size,0,none⟩) (cell_in c3)).trans c3) ((hu.on b3).on q) hm) (hv.on b3) hl)
 rw [← N.out] at K
 obtain ⟨a,cap,rfl,_⟩:=hu
 obtain ⟨a2,cap2,rfl,_⟩:=hv
 clear hW3 b3 c3 eg N
 go_enter Tryz.func48,Tryz.ntmps48
 go_upto_region 1 with fail
 rw [← HW3.out]
 go_wp2_with fail
 refine K.out.mono ?_
 rintro e w1 ⟨rfl,hb⟩
 have B1:=Lib.hid (B3.out.trans (hb.mono B3.out.size))
 clear K hb
 go_wp2
 go_ret
 exact ⟨rfl,B1.out⟩
end Go.Proofs.YtoncfgfjdlgfcaaGreatDoor.Pp
namespace Go.Proofs.YtoncfgfjdlgfcaaGreatDoor.Pp
open Go.RowKit Bz Cal Txt
abbrev Oc (w:World) (n0:Nat) (v:Value) (l:List Bz):Prop:=w.ownsRow n0 58 2 v l.length (l.flatMap encB)
theorem Oc.rb {w:World} {n0:Nat} {v:Value} {l:List Bz} (h:Oc w n0 v l):Rb w v l:=own_rowK (enc:=encB) (k:=2) encB_len (by decide) h
theorem info_two:(Tryz.prog.info? 58).map (fun i=>(i.zero,i.size,i.bytes))=some (some (.agg #[.int .i64 0,.int .i64 0]),2,16):=by kernel_rfl
theorem appC_own {w:World} {n0:Nat} {v vo:Value} {l mo:List Bz} (h:Oc w n0 v l) (hm:Rb w vo mo) (hn:n0≤w.heap.size) (hl:l.length + mo.length≤1000000000) :
 ∃ v' w',(∀ ty,(Builtin.append_ #[56,56] ty #[v,vo]).run Tryz.prog w=.ok v' w')∧Oc w' n0 v' (l++mo)∧w.grownBy w' v.ownBlock:=by
 obtain ⟨i0,hi,hz0,hz1,hz2⟩:=info_parts info_two
 obtain ⟨a,cap,rfl,hc⟩:=hm
 have own:∀ (v':Value) (w':World),w'.ownsRow n0 58 2 v' (l.length + mo.length) (l.flatMap encB++mo.flatMap encB)→Oc w' n0 v' (l++mo):=fun v' w' q=>by
  show w'.ownsRow n0 58 2 v' (l++mo).length ((l++mo).flatMap encB)
  rw [List.length_append,List.flatMap_append];exact q
 have some_:∀ ad:Addr,(∀ j u,(mo.flatMap encB)[j]?=some u→w.cell? (ad.add j)=some u)→∃ (v':Value) (w':World),(∀ ty,(Builtin.append_ #[56,56] ty #[v,.slice (some ad) mo.length cap]).run Tryz.prog w=.ok v' w')∧Oc w' n0 v' (l++mo)∧w.grownBy w' v.ownBlock:=fun ad hcell=>by
  obtain ⟨v',w',hr,r1,r2,_,_⟩:=run_append_own_at (P:=Tryz.prog) w n0 56 56 58 i0 (.agg #[.int .i64 0,.int .i64 0]) 2 16 Tryz.underlying56 hi hz0 hz1 hz2 rfl (by decide) v l.length (l.flatMap encB) h ad mo.length cap (mo.flatMap encB) (flat_len encB 2 encB_len mo) hcell (fun u hu'=>by
   obtain ⟨x,_,hx⟩:=List.mem_flatMap.1 hu'
   exact encB_one x u hx) (by unfold maxLen;omega) (by omega) hn
  exact ⟨v',w',fun ty=>hr,own v' w' r1,r2⟩
 rcases hc with rfl | ⟨b,off,rfl,hc⟩
 ·rcases a with _ | ad
  ·refine ⟨v,w,fun ty=>?_,own v w (by simpa using h),⟨rfl,rfl,rfl,Nat.le_refl _,fun _ _ _=>rfl⟩⟩
   rcases h.2 with ⟨rfl,h0⟩ | ⟨g,cp,cur,rfl,_,hg,hnc,_,_,_⟩
   ·simp [Builtin.append_,run_underlying Tryz.underlying56,sizeOf,typeInfo,hi,Builtin.lenOf,Builtin.firstCells]
   ·simp [Builtin.append_,run_underlying Tryz.underlying56,sizeOf,typeInfo,hi,Builtin.lenOf,Builtin.firstCells,hnc,storeCells]
  ·exact some_ ad (fun j u hu'=>by simp at hu')
 ·exact some_ ⟨b,off,none⟩ (fun j u hu'=>by rw [add_off];exact hc j u hu')
theorem rc_one (W:World) (x:Bz):Rb (W.alloc (.cells #[.int .i64 x.1,.int .i64 x.2] 58)) (.slice (some ⟨W.heap.size,0,none⟩) 1 1) [x]:=by
 refine ⟨_,_,rfl,Or.inr ⟨W.heap.size,0,rfl,fun j u hu=>?_⟩⟩
 have hj:j<2:=(List.getElem?_eq_some_iff.1 hu).1
 rcases (by omega:j=0∨j=1) with rfl | rfl
 ·simp [encB] at hu
  subst hu
  simp
 ·simp [encB] at hu
  subst hu
  simp
theorem apc_own {W:World} {n0:Nat} {u:Value} {M:List Bz} (X:Bz) (h:Oc W n0 u M) (hn:n0≤W.heap.size) (hl:M.length≤1000000):∃ v' w',(∀ ty,(Builtin.append_ #[56,56] ty #[u,.slice (some ⟨W.heap.size,0,none⟩) 1 1]).run Tryz.prog (W.alloc (.cells #[.int .i64 X.1,.int .i64 X.2] 58))=.ok v' w')∧Oc w' n0 v' (M++[X])∧Below n0 W w'∧∀ k,k<W.heap.size→u.ownBlock≠some k→w'.heap[k]?=W.heap[k]?:=by
 have b5:=below_one W (.cells #[.int .i64 X.1,.int .i64 X.2] 58)
 obtain ⟨v6,w6,ap,o6,b6⟩:=appC_own (ow_below h b5) (rc_one W X) (Nat.le_trans hn b5.size) (by simp;omega)
 exact ⟨v6,w6,ap,o6,(b5.mono hn).trans ((Below.refl n0 _).grown b6 (Nat.le_trans hn b5.size) (fun j hj=>(h.lt j hj).1)),fun k hk hne=>(b6.block k (Nat.lt_of_lt_of_le hk b5.size) (fun e=>hne e.symm)).trans (b5.block k hk)⟩
def cIn (LL:List (List Bz)) (i k:Nat):List Bz:=(List.range' k (LL.length - k)).flatMap (fun j=>if shB (LL.getD i []) (LL.getD j [])=true then [((i:Int),(j:Int))] else [])
def cOut (LL:List (List Bz)) (i:Nat):List Bz:=(List.range' i (LL.length - i)).flatMap (fun j=>cIn LL j (j + 1))
theorem cIn_end (LL:List (List Bz)) (i k:Nat) (h:LL.length≤k):cIn LL i k=[]:=by unfold cIn;rw [show LL.length - k=0 by omega];rfl
theorem cOut_end (LL:List (List Bz)) (i:Nat) (h:LL.length≤i):cOut LL i=[]:=by unfold cOut;rw [show LL.length - i=0 by omega];rfl
theorem cIn_step (LL:List (List Bz)) (i k:Nat) (h:k<LL.length):cIn LL i k=(if shB (LL.getD i []) (LL.getD k [])=true then [((i:Int),(k:Int))] else [])++cIn LL i (k + 1):=by
 unfold cIn
 rw [show LL.length - k=(LL.length - (k + 1)) + 1 by omega,List.range'_succ,List.flatMap_cons]
theorem cOut_step (LL:List (List Bz)) (i:Nat) (h:i<LL.length):cOut LL i=cIn LL i (i + 1)++cOut LL (i + 1):=by
 unfold cOut
 rw [show LL.length - i=(LL.length - (i + 1)) + 1 by omega,List.range'_succ,List.flatMap_cons]
theorem row_of {w1:World} {ua:Option Addr} {n uc:Nat} {us:List Sv} {LL:List (List Bz)} (US:RowK encS w1 (.slice ua n uc) us) (EC:Ech w1 us LL):∀ i,i<LL.length→∃ ub uoff p c,ua=some ⟨ub,uoff,none⟩∧∀ W,Below w1.heap.size w1 W→W.cell? ⟨ub,uoff + i,none⟩=some (.slice p (LL.getD i []).length c)∧Rb W (.slice p (LL.getD i []).length c) (LL.getD i []):=fun i hi=>by
 obtain ⟨ub,uoff,ea,_,hc⟩:=sv_at US (i:=i) (by rw [EC.1];exact hi)
 have hr:=EC.2 i hi
 rcases hS:us.getD i (none,0,0) with ⟨S1,S2,S3⟩
 rw [hS] at hr hc
 obtain ⟨p,c,ep,_⟩:=id hr
 simp only [svV,Value.slice.injEq] at ep
 obtain ⟨rfl,rfl,rfl⟩:=ep
 exact ⟨ub,uoff,_,_,ea,fun W q=>⟨(q.cell (p:=⟨ub,uoff + i,none⟩) (cell_in hc)).trans hc,hr.on q⟩⟩
def ClA (w:World) (R:List Bz) (f:Int) (e:Ending) (w':World):Prop:=∃ u,e=.returned (.tuple #[u,fault f])∧Oc w' w.heap.size u R∧Below w.heap.size w w'
def clL (f:Int) (LL:List (List Bz)):List Bz:=if f=0 then cOut LL 0 else []
set_option maxRecDepth 100000 in
set_option maxHeartbeats 8000000 in
theorem clash_of (LL:List (List Bz)) (F:Int) (a:Int) (l:List (Int × Int)) (fr t:Int) (v vl:Value) (w:World) (hz:ZoneIn w v a l)
 (hE:∀ W,Below w.heap.size w W→Calls Tryz.prog 43 #[v,vl,.int .i64 fr,.int .i64 t] W (TeA W LL F))
 (hl:LL.length≤20) (hn:∀ T∈LL,T.length≤1000) :
 Calls Tryz.prog 15 #[v,vl,.int .i64 fr,.int .i64 t] w (ClA w (clL F LL) F):=by
 have HN:=Lib.hid hn
 obtain ⟨sa,sc,rfl⟩:=hz.form
 have b0:Below w.heap.size w (w.alloc (.cells #[.int .i64 a,.slice sa l.length sc] 24)):=(Below.refl _ _).alloc (Nat.le_refl _) _
 have z0:(w.alloc (.cells #[.int .i64 a,.slice sa l.length sc] 24)).cell? ⟨w.heap.size,0,none⟩=some (.int .i64 a)∧(w.alloc (.cells #[.int .i64 a,.slice sa l.length sc] 24)).cell? ⟨w.heap.size,1,none⟩=some (.slice sa l.length sc):=⟨by simp,by simp⟩
 obtain ⟨W0,hW0⟩:∃ W0,W0=w.alloc (.cells #[.int .i64 a,.slice sa l.length sc] 24):=⟨_,rfl⟩
 rw [← hW0] at b0 z0
 have HW0:=Lib.hid hW0
 have B0:=Lib.hid b0
 have K:=Lib.hid (hE W0 b0)
 obtain ⟨y0,y1⟩:=z0
 have yl:=cell_in y0
 obtain ⟨R,hR⟩:∃ R,R=clL F LL:=⟨_,rfl⟩
 rw [← hR]
 have HR:=Lib.hid hR
 clear hz hE hW0 b0 hn hR
 by_cases h:F=0
 case neg=>
  have H1:=Lib.hid h
  have N:Hid (R=[]):=Lib.hid (by rw [HR.out];exact if_neg h)
  clear h HR
  go_enter Tryz.func15,Tryz.ntmps15
  go_upto_region 1 with fail
  rw [← HW0.out]
  go_wp2_with fail
  refine K.out.mono ?_
  rintro e w1 ⟨u1,rfl,_,hb⟩
  have B1:=Lib.hid (B0.out.trans (hb.mono B0.out.size))
  rw [fault_not H1.out]
  clear hb K HW0 y0 y1 yl
  go_wp2
  go_ret2
  exact ⟨_,by rw [fault_not H1.out];rfl,by rw [N.out];exact World.ownsRow_nil _ _ _ _,B1.out⟩
 subst h
 have RR:Hid (R=cOut LL 0):=HR
 clear HR
 go_enter Tryz.func15,Tryz.ntmps15
 go_upto_region 1 with fail
 rw [← HW0.out]
 go_wp2_with fail
 refine K.out.mono ?_
 rintro e w1 ⟨u1,rfl,⟨us,hus,hec⟩,hb⟩
 have B1:=Lib.hid (B0.out.trans (hb.mono B0.out.size))
 have EC:=Lib.hid hec
 have UL:us.length=LL.length:=hec.1
 have US:=Lib.hid hus
 obtain ⟨ua,uc,eu,_⟩:=hus
 subst eu
 rw [fault_zero rfl]
 clear hb K HW0 y0 y1 yl hec
 have ROW:=Lib.hid (row_of US.out EC.out)
 have LN:Hid (∀ i,i<LL.length→(LL.getD i []).length≤1000):=Lib.hid (fun i hi=>HN.out _ (by rw [List.getD_eq_getElem?_getD,List.getElem?_eq_getElem hi];exact List.getElem_mem hi))
 have UL2:(us.length:Int)=(LL.length:Int):=by omega
 rw [UL] at US ⊢
 clear HN UL2
 go_wp2_with fail
 go_loopw [29,12,13,14,15] (fun iv xv _ _ _ wr=>∃ (i:Nat) (x:Value) (g:List Bz),i≤LL.length∧iv=.int .i64 i∧xv=x∧Hid (Oc wr w1.heap.size x g)∧Hid (g++cOut LL i=R)∧Hid (g.length≤20 * i)∧Below w1.heap.size w1 wr) (fun iv _ _ _ _ _=>LL.length - (intOf iv).toNat)
 case atStart=>exact ⟨0,_,[],Nat.zero_le _,rfl,rfl,Lib.hid (World.ownsRow_nil _ _ _ _),Lib.hid (by rw [RR.out];rfl),Lib.hid (Nat.le_refl _),Below.refl _ _⟩
 case round=>
  obtain ⟨i,x,g,hi,rfl,hx,HO,HG,HL,hB⟩:=hrel
  replace hx:=hx.symm
  subst hx
  have HB:=Lib.hid hB
  by_cases hlt:i<LL.length
  case neg=>
   have O9:Hid (Oc wr w.heap.size x R):=Lib.hid (by rw [← HG.out,cOut_end LL i (by omega),List.append_nil];exact own_mono HO.out B1.out.size)
   have B9:=Lib.hid (B1.out.trans (hB.mono B1.out.size))
   clear hB
   go_wp2
   go_ret2
   exact ⟨x,rfl,O9.out,B9.out⟩
  obtain ⟨ub,uoff,p,c,ea,hc⟩:=ROW.out i hlt
  subst ea
  have CI:=Lib.hid hc
  have LI:=Lib.hid (LN.out i hlt)
  have SO:=Lib.hid (cOut_step LL i hlt)
  obtain ⟨A,hA⟩:∃ A,A=LL.getD i []:=⟨_,rfl⟩
  have HA:=Lib.hid hA
  rw [← hA] at CI LI
  have c0:=(CI.out wr hB).1
  have cl:=cell_in c0
  have G0:Hid (g++(cIn LL i (i + 1)++cOut LL (i + 1))=R):=Lib.hid (by rw [← SO.out];exact HG.out)
  have lA:A.length≤1000:=LI.out
  clear hc hA SO HG
  go_upto_region 8 with fail
  clear c0 cl
  go_wp2_with fail
  go_loopw [15,12] (fun kv xv wj=>∃ (k:Nat) (x:Value) (g:List Bz),k≤LL.length∧kv=.int .i64 k∧xv=x∧Hid (Oc wj w1.heap.size x g)∧Hid (g++(cIn LL i k++cOut LL (i + 1))=R)∧Hid (g.length + i + 1≤20 * i + k)∧Below w1.heap.size w1 wj) (fun kv _ _=>LL.length - (intOf kv).toNat)
  case atStart=>exact ⟨i + 1,x,g,by omega,by go_num,rfl,HO,G0,Lib.hid (by have:=HL.out;omega),HB.out⟩
  case round=>
   clear HO G0 HL
   obtain ⟨k,x2,g2,hk,rfl,hx2,HO,HG,HL,hB2⟩:=hrel
   replace hx2:=hx2.symm
   subst hx2
   have HB2:=Lib.hid hB2
   by_cases hkl:k<LL.length
   case neg=>
    have G9:Hid (g2++cOut LL (i + 1)=R):=Lib.hid (by have:=HG.out;rwa [cIn_end LL i k (by omega),List.nil_append] at this)
    have L9:Hid (g2.length≤20 * (i + 1)):=Lib.hid (by have:=HL.out;omega)
    clear hB2
    go_wp2
    go_roundw
    case rel=>exact ⟨i + 1,x2,g2,by omega,by go_num,rfl,HO,G9,L9,HB2.out⟩
    case measure=>simp [intOf];omega
   obtain ⟨ub2,uoff2,p2,c2,ea2,hc2⟩:=ROW.out k hkl
   simp only [Option.some.injEq,Addr.mk.injEq,and_true] at ea2
   obtain ⟨rfl,rfl⟩:=ea2
   have SI:=Lib.hid (cIn_step LL i k hkl)
   have lB:=LN.out k hkl
   obtain ⟨C,hC⟩:∃ C,C=LL.getD k []:=⟨_,rfl⟩
   rw [← HA.out,← hC] at SI
   rw [← hC] at hc2 lB
   have d0:=(hc2 wr hB2).1
   have dl:=cell_in d0
   have KS:=Lib.hid (shr_any A C _ _ wr (CI.out wr hB2).2 (hc2 wr hB2).2 (by omega) (by omega))
   have OL:g2.length≤1000000:=by have:=HL.out;omega
   generalize shB A C=S at SI KS
   clear hc2 hC hB2
   go_wp2_with fail
   refine KS.out.mono ?_
   rintro e w4 ⟨rfl,hb4⟩
   have B4:Hid (Below w1.heap.size w1 w4):=Lib.hid (HB2.out.trans (hb4.mono HB2.out.size))
   have O4:Hid (Oc w4 w1.heap.size x2 g2):=Lib.hid (ow_below HO.out hb4)
   clear KS hb4 d0 dl HO
   rcases S with _ | _
   ·have G9:Hid (g2++(cIn LL i (k + 1)++cOut LL (i + 1))=R):=Lib.hid (by rw [← HG.out,SI.out];rfl)
    have L9:Hid (g2.length + i + 1≤20 * i + (k + 1)):=Lib.hid (by have:=HL.out;omega)
    go_wp2
    go_roundw
    case rel=>exact ⟨k + 1,x2,g2,by omega,by go_num,rfl,O4,G9,L9,B4.out⟩
    case measure=>simp [intOf];omega
   ·obtain ⟨v6,w6,ap,o6,b6,_⟩:=apc_own ((i:Int),(k:Int)) O4.out B4.out.size OL
    have AP:=Lib.hid ap
    have O6:=Lib.hid o6
    have B6:Hid (Below w1.heap.size w1 w6):=Lib.hid (B4.out.trans b6)
    have G9:Hid ((g2++[((i:Int),(k:Int))])++(cIn LL i (k + 1)++cOut LL (i + 1))=R):=Lib.hid (by rw [← HG.out,SI.out];simp)
    have L9:Hid ((g2++[((i:Int),(k:Int))]).length + i + 1≤20 * i + (k + 1)):=Lib.hid (by have:=HL.out;rw [List.length_append];simp;omega)
    clear ap o6 b6
    go_wp2_with (at_builtin;refine wpl_app rfl _ _ 56 rfl _ _ _ _ rfl rfl AP.out ?_)
    go_roundw
    case rel=>exact ⟨k + 1,v6,_,by omega,by go_num,rfl,O6,G9,L9,B6.out⟩
    case measure=>simp [intOf];omega
end Go.Proofs.YtoncfgfjdlgfcaaGreatDoor.Pp
