/-
  Texts of our own that serve the card of this claim, joined into one.
-/
import Derived.Test.YtoncfgfjdlgfcaaGreatDoorPP
import Derived.Test.YtoncfgfjdlgfcaaGreatDoorRE
import Derived.Lib.QuietBelow
import Derived.Deep.RegionHeld3
import Derived.BigQuiet
import Derived.Deep.Cut
import Derived.Deep.CutRange
import Derived.Test.YtoncfgfjdlgfcaaGreatDoorRA
import Derived.Test.YtoncfgfjdlgfcaaGreatDoorRC
import Derived.Test.YtoncfgfjdlgfcaaGreatDoorBR
import Derived.Test.YtoncfgfjdlgfcaaGreatDoorBF
import Derived.Test.YtoncfgfjdlgfcaaGreatDoorPF
import Derived.Test.YtoncfgfjdlgfcaaGreatDoorLD
namespace Go.Proofs.YtoncfgfjdlgfcaaGreatDoor.Pl
open Go.RowKit Cal Txt
abbrev Tt:=Int × Int × Int
def enc3 (x:Tt):List Value:=[.int .i64 x.1,.int .i64 x.2.1,.int .i64 x.2.2]
theorem enc3_len (x:Tt):(enc3 x).length=3:=rfl
abbrev Sv:=Option Addr × Nat × Nat
abbrev svV (s:Sv):Value:=.slice s.1 s.2.1 s.2.2
def encS (s:Sv):List Value:=[svV s]
theorem encS_len (s:Sv):(encS s).length=1:=rfl
def Ech (w:World) (us:List Sv) (LL:List (List Tt)):Prop:=us.length=LL.length∧∀ i,i<LL.length→RowK enc3 w (svV (us.getD i (none,0,0))) (LL.getD i [])
theorem Ech.on {w w':World} {us:List Sv} {LL:List (List Tt)} (h:Ech w us LL) (q:Below w.heap.size w w'):Ech w' us LL:=⟨h.1,fun i hi=>(h.2 i hi).on q⟩
theorem Ech.nil (w:World):Ech w [] []:=⟨rfl,fun i hi=>by simp at hi⟩
theorem Ech.snoc {w:World} {us:List Sv} {LL:List (List Tt)} (h:Ech w us LL) {u:Sv} {T:List Tt} (hu:RowK enc3 w (svV u) T):Ech w (us++[u]) (LL++[T]):=by
 refine ⟨by simp [h.1],fun i hi=>?_⟩
 rcases Nat.lt_or_ge i LL.length with g | g
 ·rw [List.getD_eq_getElem?_getD,List.getD_eq_getElem?_getD,List.getElem?_append_left (by rw [h.1];exact g),List.getElem?_append_left g,← List.getD_eq_getElem?_getD,← List.getD_eq_getElem?_getD]
  exact h.2 i g
 ·obtain rfl:i=LL.length:=by simp at hi;omega
  rw [List.getD_eq_getElem?_getD,List.getD_eq_getElem?_getD,List.getElem?_append_right (by rw [h.1];exact Nat.le_refl _),List.getElem?_append_right (Nat.le_refl _),h.1,Nat.sub_self]
  exact hu
def Tss (w:World) (v:Value) (LL:List (List Tt)):Prop:=∃ us:List Sv,RowK encS w v us∧Ech w us LL
theorem Tss.on {w w':World} {v:Value} {LL:List (List Tt)} (h:Tss w v LL) (q:Below w.heap.size w w'):Tss w' v LL:=by
 obtain ⟨us,h1,h2⟩:=h
 exact ⟨us,h1.on q,h2.on q⟩
theorem Tss.nil (w:World):Tss w (.slice none 0 0) []:=⟨[],RowK.nil _ _,Ech.nil w⟩
section
variable (ez:Evt→Int) (se:Int) (tm:Evt→List Tt)
def paE (x:Evt × Evs):Int:=if ¬ ez x.1=0 then ez x.1 else if ¬ se=0 then se else if 200<(tm x.1).length then 4 else 0
def paG (L:List (Evt × Evs)):Int:=(L.map (paE ez se tm)).foldr (fun f r=>if f=0 then r else f) 0
def paN:List (Evt × Evs)→Nat
 | []=>0
 | x :: r=>(tm x.1).length + paN r
def paF (L:List (Evt × Evs)):Int:=if 20<L.length then 4 else if ¬ paG ez se tm L=0 then paG ez se tm L else if 200<paN tm L then 4 else 0
def paM (L:List (Evt × Evs)):List (List Tt):=L.map (fun x=>tm x.1)
def paL (L:List (Evt × Evs)):List (List Tt):=if paF ez se tm L=0 then paM tm L else []
theorem paG_step {L:List (Evt × Evs)} {k:Nat} (h:k<L.length):paG ez se tm (L.drop k)=if paE ez se tm L[k]=0 then paG ez se tm (L.drop (k + 1)) else paE ez se tm L[k]:=by
 unfold paG
 rw [List.drop_eq_getElem_cons h,List.map_cons,List.foldr_cons]
theorem paN_step {L:List (Evt × Evs)} {k:Nat} (h:k<L.length):paN tm (L.take (k + 1))=paN tm (L.take k) + (tm L[k].1).length:=by
 have app:∀ (p:List (Evt × Evs)) (x:Evt × Evs),paN tm (p++[x])=paN tm p + (tm x.1).length:=fun p x=>by
  induction p with
  | nil=>simp [paN]
  | cons y r ih=>show (tm y.1).length + paN tm (r++[x])=(tm y.1).length + paN tm r + _;rw [ih];omega
 rw [List.take_succ_eq_append_getElem h,app]
theorem paM_step {L:List (Evt × Evs)} {k:Nat} (h:k<L.length):paM tm (L.take (k + 1))=paM tm (L.take k)++[tm L[k].1]:=by
 unfold paM
 rw [List.take_succ_eq_append_getElem h,List.map_append]
 rfl
end
theorem info_tms:(Tryz.prog.info? 40).map (fun i=>(i.zero,i.size,i.bytes))=some (some (.slice none 0 0),1,24):=by kernel_rfl
abbrev Os (w:World) (n0:Nat) (v:Value) (us:List Sv):Prop:=w.ownsRow n0 40 1 v us.length (us.flatMap encS)
theorem os_one (W:World) (s:Sv):RowK encS (W.alloc (.cells #[svV s] 40)) (.slice (some ⟨W.heap.size,0,none⟩) 1 1) [s]:=by
 refine ⟨_,_,rfl,Or.inr ⟨W.heap.size,0,rfl,fun j u hu=>?_⟩⟩
 have hj:j<1:=(List.getElem?_eq_some_iff.1 hu).1
 obtain rfl:j=0:=by omega
 simp [encS] at hu
 subst hu
 simp
theorem ap_row {W:World} {n0:Nat} {u:Value} {us:List Sv} (s:Sv) (h:Os W n0 u us) (hn:n0≤W.heap.size) (hl:us.length≤1000000):∃ v' w',(∀ ty,(Builtin.append_ #[53,53] ty #[u,.slice (some ⟨W.heap.size,0,none⟩) 1 1]).run Tryz.prog (W.alloc (.cells #[svV s] 40))=.ok v' w')∧Os w' n0 v' (us++[s])∧Below n0 W w'∧W.heap.size≤w'.heap.size∧(∀ k,k<W.heap.size→u.ownBlock≠some k→w'.heap[k]?=W.heap[k]?)∧(v'.ownBlock=u.ownBlock∨v'.ownBlock=some (W.heap.size + 1)):=by
 have b5:Below W.heap.size W (W.alloc (.cells #[svV s] 40)):=(Below.refl _ _).alloc (Nat.le_refl _) _
 obtain ⟨i0,hi,hz0,hz1,hz2⟩:=info_parts info_tms
 obtain ⟨a',c',e',hc⟩:=os_one W s
 have h':Os (W.alloc (.cells #[svV s] 40)) n0 u us:=ow_below h b5
 obtain ⟨v',w',hr,r1,r2,_,r4⟩:=run_append_own_at (P:=Tryz.prog) (W.alloc (.cells #[svV s] 40)) n0 53 53 40 i0 (.slice none 0 0) 1 24 Tryz.underlying53 hi hz0 hz1 hz2 rfl (by decide) u us.length (us.flatMap encS) h' ⟨W.heap.size,0,none⟩ 1 1 [svV s] rfl (fun j x hx=>by
  have hj:j<1:=(List.getElem?_eq_some_iff.1 hx).1
  obtain rfl:j=0:=by omega
  simp at hx
  subst hx
  rw [add_off]
  simp) (fun x hx=>by simp at hx;subst hx;rfl) (by unfold maxLen;omega) (by omega) (Nat.le_trans hn b5.size)
 refine ⟨v',w',fun ty=>hr,?_,(b5.mono hn).trans ((Below.refl n0 _).grown r2 (Nat.le_trans hn b5.size) (fun j hj=>(h.lt j hj).1)),Nat.le_trans b5.size r2.size,fun k hk hne=>(r2.block k (Nat.lt_of_lt_of_le hk b5.size) (fun e=>hne e.symm)).trans (b5.block k hk),?_⟩
 ·show w'.ownsRow n0 40 1 v' (us++[s]).length ((us++[s]).flatMap encS)
  rw [List.length_append,List.flatMap_append]
  exact r1
 ·rwa [World.size_alloc] at r4
def Apz (w:World) (us:List Sv) (o:Value):Prop:=∀ x∈us,∀ g,(svV x).ownBlock=some g→g<w.heap.size∧o.ownBlock≠some g
theorem rowK_kept {w w':World} {v:Value} {T:List Tt} (h:RowK enc3 w v T) (q:∀ g,v.ownBlock=some g→w'.heap[g]?=w.heap[g]?):RowK enc3 w' v T:=by
 obtain ⟨a,cap,e,hc⟩:=h
 refine ⟨a,cap,e,?_⟩
 rcases hc with hc | ⟨b,off,ea,hc⟩
 ·exact Or.inl hc
 ·refine Or.inr ⟨b,off,ea,fun j u hu=>?_⟩
  have:=hc j u hu
  have e2:=q b (by rw [e,ea];rfl)
  rw [← this]
  simp [World.cell?,e2]
theorem getD_mem {us:List Sv} {i:Nat} (h:i<us.length):us.getD i (none,0,0)∈us:=by
 rw [List.getD_eq_getElem?_getD,List.getElem?_eq_getElem h]
 exact List.getElem_mem h
theorem Ech.kept {w w':World} {us:List Sv} {LL:List (List Tt)} (h:Ech w us LL) (q:∀ x∈us,∀ g,(svV x).ownBlock=some g→w'.heap[g]?=w.heap[g]?):Ech w' us LL:=
 ⟨h.1,fun i hi=>rowK_kept (h.2 i hi) (q _ (getD_mem (by rw [h.1];exact hi)))⟩
theorem Apz.on {w w':World} {us:List Sv} {o:Value} (h:Apz w us o) (q:w.heap.size≤w'.heap.size):Apz w' us o:=fun x hx g hg=>⟨Nat.lt_of_lt_of_le (h x hx g hg).1 q,(h x hx g hg).2⟩
theorem wpl_app {w:World} {ops:Array Oper} {rest:List Oper} {o:Oper} {a:Act} {Q:Exit→Act→World→Prop} (hgd:o.guard=none) (s x:Operand) (t:TypeId)
 (ho:o.op=.call { callee:=.builtin .append,args:=#[s,x],argTypes:=#[t,t] }) (v vo v':Value) (w':World) (hs:a.eval s=v) (hx:a.eval x=vo)
 (hr:∀ ty,(Builtin.append_ #[t,t] ty #[v,vo]).run Tryz.prog w=.ok v' w') (h:wpList Tryz.prog ops Q rest (a.put o.dst v') w'):wpList Tryz.prog ops Q (o :: rest) a w:=by
 refine wpList_plain hgd fun K hK=>?_
 unfold Oper.wp execOp
 simp only [ho,resolve,invoke,builtin,Sem.run_bind,Sem.run_pure,Result.andThen_ok,List.map_toArray,List.map_cons,List.map_nil,hs,hx,hr]
 exact hK _ _ h
def PaA (w:World) (LL:List (List Tt)) (f:Int) (e:Ending) (w':World):Prop:=∃ u,e=.returned (.tuple #[u,.int .i64 f])∧Tss w' u LL∧Below w.heap.size w w'
set_option maxRecDepth 100000 in
set_option maxHeartbeats 8000000 in
theorem all_of (ez:Evt→Int) (se:Int) (tm:Evt→List Tt) (a:Int) (l:List (Int × Int)) (L:List (Evt × Evs)) (fr t:Int) (v vl:Value) (w:World) (hz:ZoneIn w v a l) (hL:Evl w vl L) (hl:L.length≤9223372036854775807)
 (hR:∀ x∈L,∀ W,Below w.heap.size w W→Calls Tryz.prog 24 #[v,.agg (ecells x.1 x.2)] W fun e w'=>e=.returned (.int .i64 (ez x.1))∧Below W.heap.size W w')
 (hS:∀ W,Calls Tryz.prog 25 #[.int .i64 fr,.int .i64 t] W fun e w'=>e=.returned (.int .i64 se)∧w'=W)
 (hB:∀ x∈L,ez x.1=0→se=0→∀ W,Below w.heap.size w W→Calls Tryz.prog 47 #[v,.agg (ecells x.1 x.2),.int .i64 fr,.int .i64 t] W fun e w'=>∃ u,e=.returned (svV u)∧RowK enc3 w' (svV u) (tm x.1)∧Below W.heap.size W w'∧∀ g,(svV u).ownBlock=some g→W.heap.size≤g∧g<w'.heap.size) :
 Calls Tryz.prog 13 #[v,vl,.int .i64 fr,.int .i64 t] w (PaA w (paL ez se tm L) (paF ez se tm L)):=by
 have HL:=Lib.hid hL
 have HR:=Lib.hid hR
 have HS:=Lib.hid hS
 have HB:=Lib.hid hB
 obtain ⟨sa,sc,rfl⟩:=hz.form
 obtain ⟨ae,ce,rfl⟩:=hL.form
 have b0:Below w.heap.size w (w.alloc (.cells #[.int .i64 a,.slice sa l.length sc] 24)):=(Below.refl _ _).alloc (Nat.le_refl _) _
 have z0:(w.alloc (.cells #[.int .i64 a,.slice sa l.length sc] 24)).cell? ⟨w.heap.size,0,none⟩=some (.int .i64 a)∧(w.alloc (.cells #[.int .i64 a,.slice sa l.length sc] 24)).cell? ⟨w.heap.size,1,none⟩=some (.slice sa l.length sc):=⟨by simp,by simp⟩
 obtain ⟨W0,hW0⟩:∃ W0,W0=w.alloc (.cells #[.int .i64 a,.slice sa l.length sc] 24):=⟨_,rfl⟩
 rw [← hW0] at b0 z0
 have HW0:=Lib.hid hW0
 have B0:=Lib.hid b0
 have Z0:=Lib.hid z0
 clear hz hL hR hS hB hW0 b0 z0
 by_cases h20:20<L.length
 ·have N:Hid (paF ez se tm L=4∧paL ez se tm L=[]):=Lib.hid (by
   have e:paF ez se tm L=4:=by unfold paF;rw [if_pos h20]
   exact ⟨e,by unfold paL;rw [e];rfl⟩)
  generalize paF ez se tm L=F at N ⊢
  generalize paL ez se tm L=LL at N ⊢
  have n20:(20:Int)<(L.length:Int):=by omega
  go_enter Tryz.func13,Tryz.ntmps13
  go_upto_region 1 with fail
  rw [← HW0.out]
  go_wp2
  go_ret2
  exact ⟨_,by rw [N.out.1];rfl,by rw [N.out.2];exact Tss.nil _,B0.out⟩
 have EF:Hid (paF ez se tm L=if ¬ paG ez se tm L=0 then paG ez se tm L else if 200<paN tm L then 4 else 0):=Lib.hid (by unfold paF;rw [if_neg h20])
 have EL:Hid (paL ez se tm L=if paF ez se tm L=0 then paM tm L else []):=Lib.hid rfl
 generalize paF ez se tm L=F at EF EL ⊢
 generalize paL ez se tm L=LL at EL ⊢
 have n20:¬ (20:Int)<(L.length:Int):=by omega
 go_enter Tryz.func13,Tryz.ntmps13
 go_upto_region 1 with fail
 rw [← HW0.out]
 clear HW0
 go_wp2_with fail
 go_loopw [10,11,12,13,14] (fun ov nv iv _ _ wr=>∃ (k:Nat) (o:Value) (us:List Sv),k≤L.length∧iv=.int .i64 k∧ov=o∧nv=.int .i64 (paN tm (L.take k))∧Hid (Os wr W0.heap.size o us)∧Hid (Ech wr us (paM tm (L.take k))∧Apz wr us o)∧Hid (paG ez se tm L=paG ez se tm (L.drop k))∧Hid (paN tm (L.take k)≤200 * k)∧Below W0.heap.size W0 wr) (fun _ _ iv _ _ _=>L.length - (intOf iv).toNat)
 case atStart=>exact ⟨0,_,[],Nat.zero_le _,rfl,rfl,rfl,Lib.hid (World.ownsRow_nil _ _ _ _),Lib.hid ⟨Ech.nil _,fun x hx=>by simp at hx⟩,Lib.hid rfl,Lib.hid (Nat.le_refl _),Below.refl _ _⟩
 case round=>
  obtain ⟨k,o,us,hk,rfl,ho,rfl,HO,HE,HG,HN,hB⟩:=hrel
  replace ho:=ho.symm
  subst ho
  have HBB:=Lib.hid hB
  have B1:=Lib.hid (B0.out.trans (hB.mono B0.out.size))
  by_cases hlt:k<L.length
  case neg=>
   have hk2:k=L.length:=by omega
   have EF2:F=if 200<paN tm L then 4 else 0:=by
    have e0:paG ez se tm L=0:=by rw [HG.out,hk2,List.drop_length];rfl
    rw [EF.out,if_neg (fun z=>z e0)]
   have TK:L.take k=L:=by rw [hk2,List.take_length]
   rw [TK] at HE HN ⊢
   by_cases h200:200<paN tm L
   ·have N:Hid (F=4∧LL=[]):=Lib.hid (by
     have e:F=4:=by rw [EF2,if_pos h200]
     exact ⟨e,by rw [EL.out,e];rfl⟩)
    have n2:(200:Int)<(paN tm L:Int):=by omega
    clear EF2 TK hB
    go_wp2
    go_ret2
    exact ⟨_,by rw [N.out.1];rfl,by rw [N.out.2];exact Tss.nil _,B1.out⟩
   ·have N:Hid (F=0∧LL=paM tm L):=Lib.hid (by
     have e:F=0:=by rw [EF2,if_neg h200]
     exact ⟨e,by rw [EL.out,if_pos e]⟩)
    have n2:¬ (200:Int)<(paN tm L:Int):=by omega
    have RR:Hid (Tss wr o (paM tm L)):=Lib.hid ⟨us,own_rowK (enc:=encS) (k:=1) encS_len (by decide) HO.out,HE.out.1⟩
    clear EF2 TK hB
    go_wp2
    go_ret2
    exact ⟨o,by rw [N.out.1];rfl,by rw [N.out.2];exact RR.out,B1.out⟩
  obtain ⟨b,off,ea,_,bl,hr,hE⟩:=evl_at (HL.out.on B1.out) hlt
  subst ea
  have XM:L[k]∈L:=List.getElem_mem hlt
  have KR:=Lib.hid (HR.out _ XM)
  have KB:=Lib.hid (HB.out _ XM)
  have SG:=Lib.hid (paG_step ez se tm hlt)
  have SN:=Lib.hid (paN_step tm hlt)
  have SM:=Lib.hid (paM_step tm hlt)
  generalize L[k]=X at hr KR KB SG SN SM
  have DE:Hid (paE ez se tm X=if ¬ ez X.1=0 then ez X.1 else if ¬ se=0 then se else if 200<(tm X.1).length then 4 else 0):=Lib.hid rfl
  generalize paE ez se tm X=PE at SG DE
  obtain ⟨e,s⟩:=X
  dsimp only at KR KB SG SN SM DE
  have CELLS:Hid (∀ W,Below wr.heap.size wr W→(W.cell? ⟨w.heap.size,0,none⟩=some (.int .i64 a)∧W.cell? ⟨w.heap.size,1,none⟩=some (.slice sa l.length sc))∧W.rangeAt b (off + k * 17) (encE (e,s))):=Lib.hid (fun W q=>by
   have q2:=hB.trans (q.mono hB.size)
   have zl:=World.block_lt_of_cell? _ _ Z0.out.1
   exact ⟨⟨(q2.cell (p:=⟨w.heap.size,0,none⟩) zl).trans Z0.out.1,(q2.cell (p:=⟨w.heap.size,1,none⟩) zl).trans Z0.out.2⟩,fun j u hu=>(q.cell (p:=⟨b,off + k * 17 + j,none⟩) bl).trans (hr j u hu)⟩)
  have KR2:Hid (∀ W,Below wr.heap.size wr W→Calls Tryz.prog 24 #[(.agg #[.int .i64 a,.slice sa l.length sc]),.agg (ecells e s)] W fun x w'=>x=.returned (.int .i64 (ez e))∧Below W.heap.size W w'):=Lib.hid (fun W q=>KR.out W (B1.out.trans (q.mono B1.out.size)))
  have NO:Hid (¬ PE=0→F=PE∧LL=[]):=Lib.hid (fun q=>by
   have g:paG ez se tm L=PE:=by rw [HG.out,SG.out,if_neg q]
   have e:F=PE:=by rw [EF.out,g,if_pos q]
   exact ⟨e,by rw [EL.out,e,if_neg q]⟩)
  have GN:Hid (PE=0→paG ez se tm L=paG ez se tm (L.drop (k + 1))):=Lib.hid (fun q=>by rw [HG.out,SG.out,if_pos q])
  generalize ez e=E1 at KR2 KB DE
  clear hE hr KR HR HB EF EL SG
  go_upto_region 8 with fail
  obtain ⟨⟨y0,y1⟩,rg⟩:=CELLS.out wr (Below.refl _ _)
  have c0:=rg 0 _ rfl
  rw [Nat.add_zero] at c0
  have c1:=rg 1 _ rfl
  have c2:=rg 2 _ rfl
  have c3:=rg 3 _ rfl
  have c4:=rg 4 _ rfl
  have c5:=rg 5 _ rfl
  have c6:=rg 6 _ rfl
  have c7:=rg 7 _ rfl
  have c8:=rg 8 _ rfl
  have c9:=rg 9 _ rfl
  have c10:=rg 10 _ rfl
  have c11:=rg 11 _ rfl
  have c12:=rg 12 _ rfl
  have c13:=rg 13 _ rfl
  have c14:=rg 14 _ rfl
  have c15:=rg 15 _ rfl
  have c16:=rg 16 _ rfl
  have m0:=cell_regrown y0
  have m1:=cell_regrown y1
  have n0:=cell_regrown c0
  have n1:=cell_regrown c1
  have n2:=cell_regrown c2
  have n3:=cell_regrown c3
  have n4:=cell_regrown c4
  have n5:=cell_regrown c5
  have n6:=cell_regrown c6
  have n7:=cell_regrown c7
  have n8:=cell_regrown c8
  have n9:=cell_regrown c9
  have n10:=cell_regrown c10
  have n11:=cell_regrown c11
  have n12:=cell_regrown c12
  have n13:=cell_regrown c13
  have n14:=cell_regrown c14
  have n15:=cell_regrown c15
  have n16:=cell_regrown c16
  clear y0 y1 rg c0 c1 c2 c3 c4 c5 c6 c7 c8 c9 c10 c11 c12 c13 c14 c15 c16
  refine wp_region_quiet_below (by kernel_rfl) (by kernel_rfl) ?_
  repeat (go_big_quiet_step (first | (go_at_call 24;exact Calls.regrown_of (KR2.out _ (below_regrown wr _ _)))))
  refine wpQuiet_nil ?_
  intro _ hw'
  obtain ⟨⟨dq,osq⟩,hw''⟩:=hw'
  subst hw''
  have b2:=below_regrown wr dq osq
  generalize Sort.grow (redrawn wr dq) osq=w2 at b2 ⊢
  have B2:=Lib.hid b2
  clear m0 m1 n0 n1 n2 n3 n4 n5 n6 n7 n8 n9 n10 n11 n12 n13 n14 n15 n16
  clear b2 KR2
  have B3:=Lib.hid (B1.out.trans (B2.out.mono B1.out.size))
  by_cases q1:E1=0
  case neg=>
   have P1:PE=E1:=by rw [DE.out,if_pos q1]
   have N:Hid (F=E1∧LL=[]):=Lib.hid (by have:=NO.out (by rw [P1];exact q1);rwa [P1] at this)
   have q2:(E1 == 0)=false:=by simpa using q1
   have q3:(E1 != 0)=true:=by simpa using q1
   clear q1 P1
   go_wp2
   go_ret2
   exact ⟨_,by rw [N.out.1];rfl,by rw [N.out.2];exact Tss.nil _,B3.out⟩
  subst q1
  have KS:=Lib.hid (HS.out w2)
  by_cases q1:se=0
  case neg=>
   have P1:PE=se:=by rw [DE.out,if_neg (fun z=>z rfl),if_pos q1]
   have N:Hid (F=se∧LL=[]):=Lib.hid (by have:=NO.out (by rw [P1];exact q1);rwa [P1] at this)
   have q3:(se != 0)=true:=by simpa using q1
   clear q1 P1
   go_wp2_with (go_at_call 25;refine KS.out.mono ?_;rintro x w' ⟨rfl,hw⟩;replace hw:=hw.symm;subst hw)
   go_ret2
   exact ⟨_,by rw [N.out.1];rfl,by rw [N.out.2];exact Tss.nil _,B3.out⟩
  subst q1
  have KB2:=Lib.hid (fun W (q:Below w2.heap.size w2 W)=>KB.out rfl rfl W (B3.out.trans (q.mono B3.out.size)))
  go_upto_region 13 with (go_at_call 25;refine KS.out.mono ?_;rintro x w' ⟨rfl,hw⟩;replace hw:=hw.symm;subst hw)
  clear KS KB
  have HS9:Hid (∀ X,Below w2.heap.size w2 X→((X.cell? ⟨w.heap.size,0,none⟩=some (.int .i64 a)∧X.cell? ⟨w.heap.size,1,none⟩=some (.slice sa l.length sc))∧(X.cell? ⟨b,off + k * 17,none⟩=some (.string e.name)∧X.cell? ⟨b,off + k * 17 + 1,none⟩=some (.string e.text)∧X.cell? ⟨b,off + k * 17 + 2,none⟩=some (.int .i64 e.start)∧X.cell? ⟨b,off + k * 17 + 3,none⟩=some (.int .i64 e.len)∧X.cell? ⟨b,off + k * 17 + 4,none⟩=some (.bool e.rep)∧X.cell? ⟨b,off + k * 17 + 5,none⟩=some (.int .i64 e.rule.freq)∧X.cell? ⟨b,off + k * 17 + 6,none⟩=some (.int .i64 e.rule.every)∧X.cell? ⟨b,off + k * 17 + 7,none⟩=some (.int .i64 e.rule.count)∧X.cell? ⟨b,off + k * 17 + 8,none⟩=some (.int .i64 e.rule.till)∧X.cell? ⟨b,off + k * 17 + 9,none⟩=some (s.vm)∧X.cell? ⟨b,off + k * 17 + 10,none⟩=some (s.vd)∧X.cell? ⟨b,off + k * 17 + 11,none⟩=some (s.vw)∧X.cell? ⟨b,off + k * 17 + 12,none⟩=some (s.vp)∧X.cell? ⟨b,off + k * 17 + 13,none⟩=some (s.vo)∧X.cell? ⟨b,off + k * 17 + 14,none⟩=some (s.vn)∧X.cell? ⟨b,off + k * 17 + 15,none⟩=some (s.vc)∧X.cell? ⟨b,off + k * 17 + 16,none⟩=some (s.va)))):=Lib.hid (fun X q=>by
   obtain ⟨y,rg⟩:=CELLS.out X (B2.out.trans (q.mono B2.out.size))
   exact ⟨y,rg 0 _ rfl,rg 1 _ rfl,rg 2 _ rfl,rg 3 _ rfl,rg 4 _ rfl,rg 5 _ rfl,rg 6 _ rfl,rg 7 _ rfl,rg 8 _ rfl,rg 9 _ rfl,rg 10 _ rfl,rg 11 _ rfl,rg 12 _ rfl,rg 13 _ rfl,rg 14 _ rfl,rg 15 _ rfl,rg 16 _ rfl⟩)
  clear CELLS
  go_region_held3 (fun X=>((X.cell? ⟨w.heap.size,0,none⟩=some (.int .i64 a)∧X.cell? ⟨w.heap.size,1,none⟩=some (.slice sa l.length sc))∧(X.cell? ⟨b,off + k * 17,none⟩=some (.string e.name)∧X.cell? ⟨b,off + k * 17 + 1,none⟩=some (.string e.text)∧X.cell? ⟨b,off + k * 17 + 2,none⟩=some (.int .i64 e.start)∧X.cell? ⟨b,off + k * 17 + 3,none⟩=some (.int .i64 e.len)∧X.cell? ⟨b,off + k * 17 + 4,none⟩=some (.bool e.rep)∧X.cell? ⟨b,off + k * 17 + 5,none⟩=some (.int .i64 e.rule.freq)∧X.cell? ⟨b,off + k * 17 + 6,none⟩=some (.int .i64 e.rule.every)∧X.cell? ⟨b,off + k * 17 + 7,none⟩=some (.int .i64 e.rule.count)∧X.cell? ⟨b,off + k * 17 + 8,none⟩=some (.int .i64 e.rule.till)∧X.cell? ⟨b,off + k * 17 + 9,none⟩=some (s.vm)∧X.cell? ⟨b,off + k * 17 + 10,none⟩=some (s.vd)∧X.cell? ⟨b,off + k * 17 + 11,none⟩=some (s.vw)∧X.cell? ⟨b,off + k * 17 + 12,none⟩=some (s.vp)∧X.cell? ⟨b,off + k * 17 + 13,none⟩=some (s.vo)∧X.cell? ⟨b,off + k * 17 + 14,none⟩=some (s.vn)∧X.cell? ⟨b,off + k * 17 + 15,none⟩=some (s.vc)∧X.cell? ⟨b,off + k * 17 + 16,none⟩=some (s.va))))
   (first | exact HS9.out _ (Below.drew (Below.refl _ w2)) | exact HS9.out _ hb3)
   (first | (go_at_call 47;refine (KB2.out _ (Below.drew (Below.refl _ w2))).mono ?_;rintro y w3 ⟨u3,rfl,hr3,hb3',hg3⟩;have hb3:Below w2.heap.size w2 w3:=Below.trans (Below.drew (Below.refl _ w2)) hb3';clear hb3'))
  rename_i hHeld
  clear hHeld
  obtain ⟨ua,uc,eu,_⟩:=id hr3
  obtain ⟨p1,p2,p3⟩:=u3
  simp only [svV,Value.slice.injEq] at eu
  obtain ⟨rfl,rfl,rfl⟩:=eu
  have R3:Hid (RowK enc3 w3 (svV (p1,(tm e).length,p3)) (tm e)):=Lib.hid hr3
  have B4:=Lib.hid hb3
  have G3:Hid (∀ g,(svV (p1,(tm e).length,p3)).ownBlock=some g→w2.heap.size≤g∧g<w3.heap.size):=Lib.hid hg3
  have DE2:Hid (PE=if 200<(tm e).length then 4 else 0):=Lib.hid (by rw [DE.out];simp)
  have B5:=Lib.hid (B3.out.trans (hb3.mono B3.out.size))
  have NN:=HN.out
  clear hr3 hb3 DE KB2 HS9 hg3
  by_cases q5:200<(tm e).length
  ·have N:Hid (F=4∧LL=[]):=Lib.hid (by
    have P1:PE=4:=by rw [DE2.out,if_pos q5]
    have:=NO.out (by rw [P1];decide)
    rwa [P1] at this)
   have n2:(200:Int)<((tm e).length:Int):=by omega
   clear NO GN DE2 NN
   go_wp2
   go_ret2
   exact ⟨_,by rw [N.out.1];rfl,by rw [N.out.2];exact Tss.nil _,B5.out⟩
  ·have P1:PE=0:=by rw [DE2.out,if_neg q5]
   have G2:=Lib.hid (GN.out P1)
   have n2:¬ (200:Int)<((tm e).length:Int):=by omega
   have USL:us.length≤1000000:=by rw [HE.out.1.1];unfold paM;rw [List.length_map,List.length_take];omega
   have WB:Hid (W0.heap.size≤w3.heap.size):=Lib.hid (Nat.le_trans HBB.out.size (Nat.le_trans B2.out.size B4.out.size))
   have b24:Below wr.heap.size wr w3:=B2.out.trans (B4.out.mono B2.out.size)
   obtain ⟨v6,w6,ap,o6,b6,s6,k6,x6⟩:=ap_row (p1,(tm e).length,p3) (ow_below HO.out b24) WB.out USL
   have AP:=Lib.hid ap
   have O6:Hid (Os w6 W0.heap.size v6 (us++[(p1,(tm e).length,p3)])):=Lib.hid o6
   have B6:Hid (Below W0.heap.size W0 w6):=Lib.hid ((HBB.out.trans (b24.mono HBB.out.size)).trans b6)
   have N3:Hid (paN tm (L.take (k + 1))≤200 * (k + 1)):=Lib.hid (by rw [SN.out];omega)
   have AZ:Apz w3 (us++[(p1,(tm e).length,p3)]) o:=fun x hx g hg=>by
    rcases List.mem_append.1 hx with q | q
    ·have:=HE.out.2 x q g hg
     exact ⟨Nat.lt_of_lt_of_le this.1 b24.size,this.2⟩
    ·simp at q
     subst q
     have:=G3.out g hg
     exact ⟨this.2,fun eo=>by have:=(HO.out.lt g eo).2;have:=B2.out.size;omega⟩
   have E6:Hid (Ech w6 (us++[(p1,(tm e).length,p3)]) (paM tm (L.take (k + 1)))∧Apz w6 (us++[(p1,(tm e).length,p3)]) v6):=Lib.hid (by
    refine ⟨?_,fun x hx g hg=>⟨Nat.lt_of_lt_of_le (AZ x hx g hg).1 s6,fun ev=>?_⟩⟩
    ·rw [SM.out]
     exact ((HE.out.1.on b24).snoc R3.out).kept (fun x hx g hg=>k6 g (AZ x hx g hg).1 (AZ x hx g hg).2)
    ·rcases x6 with q | q
     ·rw [q] at ev
      exact (AZ x hx g hg).2 ev
     ·rw [q] at ev
      simp at ev
      have:=(AZ x hx g hg).1
      omega)
   have wn:IntKind.i64.wrap ((paN tm (L.take k):Int) + ((tm e).length:Int))=(paN tm (L.take k):Int) + ((tm e).length:Int):=by rw [IntKind.wrap_i64];omega
   have SN2:Hid ((paN tm (L.take k):Int) + ((tm e).length:Int)=(paN tm (L.take (k + 1)):Int)):=Lib.hid (by rw [SN.out];omega)
   clear ap o6 b6 s6 k6 x6 AZ P1 NO GN DE2 b24 USL hB
   go_wp2_with (at_builtin;refine wpl_app rfl _ _ 53 rfl _ _ _ _ rfl rfl AP.out ?_)
   go_roundw
   case rel=>exact ⟨k + 1,v6,_,by omega,by go_num,rfl,by rw [← SN2.out],O6,E6,G2,N3,B6.out⟩
   case measure=>simp [intOf];omega
end Go.Proofs.YtoncfgfjdlgfcaaGreatDoor.Pl
namespace Go.Proofs.YtoncfgfjdlgfcaaGreatDoor.Pl
open Go.RowKit Cal Txt
theorem tms_row {w:World} {v:Value} {T:List Tm} (h:Tms w v T):∃ s:Sv,v=svV s∧RowK enc3 w (svV s) T:=by
 obtain ⟨a,cap,rfl,hc⟩:=h
 refine ⟨(a,T.length,cap),rfl,a,cap,rfl,?_⟩
 rcases hc with hc | ⟨b,off,ea,hc⟩
 ·exact Or.inl hc
 ·refine Or.inr ⟨b,off,ea,fun j u hu=>?_⟩
  have hj:j<T.length * 3:=by have:=(List.getElem?_eq_some_iff.1 hu).1;rwa [flat_len enc3 3 enc3_len] at this
  have q:=flat_at enc3 3 enc3_len T (j / 3) (j % 3) (by omega) (by omega)
  rw [show j / 3 * 3 + j % 3=j by omega,hu] at q
  obtain ⟨k0,k1,k2⟩:=hc (j / 3) (by omega)
  rcases (by omega:j % 3=0∨j % 3=1∨j % 3=2) with z | z | z
  ·rw [z] at q
   rw [show off + j=off + j / 3 * 3 by omega,k0]
   exact q.symm
  ·rw [z] at q
   rw [show off + j=off + j / 3 * 3 + 1 by omega,k1]
   exact q.symm
  ·rw [z] at q
   rw [show off + j=off + j / 3 * 3 + 2 by omega,k2]
   exact q.symm
theorem refAll_any (a:Int) (l:List (Int × Int)) (L:List (Evt × Evs)) (fr t:Int) (v vl:Value) (w:World) (hz:ZoneIn w v a l) (hL:Evl w vl L) (hl:L.length≤9223372036854775807)
 (hs:∀ x∈L,x.1.rule.months.length + x.1.rule.days.length + x.1.rule.weeks.length + x.1.rule.pick.length≤9223372036854775807) :
 Calls Tryz.prog 13 #[v,vl,.int .i64 fr,.int .i64 t] w (PaA w (paL (ezF a l) (seF fr t) (fun e=>tmA a l e fr t) L) (paF (ezF a l) (seF fr t) (fun e=>tmA a l e fr t) L)):=by
 refine all_of (ezF a l) (seF fr t) (fun e=>tmA a l e fr t) a l L fr t v vl w hz hL hl (fun x hx W q=>refReady_any a l v x.1 x.2 W (hz.on q) ((hL.2 x hx).on q) (hs x hx)) (fun W=>refStretch_any fr t W) (fun x hx h1 h2 W q=>?_)
 have e1:evF x.1=0∧Zo.zf a l=0:=by
  unfold ezF at h1
  by_cases c:evF x.1=0
  ·rw [if_neg (fun z=>z c)] at h1
   exact ⟨c,h1⟩
  ·rw [if_pos c] at h1
   exact absurd h1 c
 have e2:strB fr t=true:=by
  unfold seF at h2
  split at h2
  ·assumption
  ·omega
 unfold strB ist at e2
 simp at e2
 refine (refBtw_own a l v x.1 x.2 fr t W (hz.on q) e1.2 ((hL.2 x hx).on q) e1.1 (by omega) (by omega) (by omega) (by omega)).mono ?_
 rintro y w' ⟨u,rfl,h3,h4,h5⟩
 obtain ⟨s,rfl,hr⟩:=tms_row h3
 exact ⟨s,rfl,hr,h4,h5⟩
end Go.Proofs.YtoncfgfjdlgfcaaGreatDoor.Pl
namespace Go.Proofs.YtoncfgfjdlgfcaaGreatDoor.Pl
open Go.RowKit Cal Txt
def tkB (T:List Tt):List Bz.Bz:=T.map (fun x=>(x.2.1,x.2.2))
def tkA (LL:List (List Tt)):List Bz.Bz:=LL.flatMap tkB
theorem tkA_step {LL:List (List Tt)} {k:Nat} (h:k<LL.length):tkA (LL.take (k + 1))=tkA (LL.take k)++tkB (LL.getD k []):=by
 unfold tkA
 rw [List.take_succ_eq_append_getElem h,List.flatMap_append,List.getD_eq_getElem?_getD,List.getElem?_eq_getElem h]
 simp
theorem tkB_step {T:List Tt} {k:Nat} (h:k<T.length):tkB (T.take (k + 1))=tkB (T.take k)++[((T.getD k (0,0,0)).2.1,(T.getD k (0,0,0)).2.2)]:=by
 unfold tkB
 rw [List.take_succ_eq_append_getElem h,List.map_append,List.getD_eq_getElem?_getD,List.getElem?_eq_getElem h]
 rfl
def lnA:List (List Tt)→Nat
 | []=>0
 | T :: r=>T.length + lnA r
theorem tkA_len (LL:List (List Tt)):(tkA LL).length=lnA LL:=by
 induction LL with
 | nil=>rfl
 | cons T r ih=>show (tkB T++tkA r).length=_;rw [List.length_append,ih];simp [tkB,lnA]
theorem sv_at {w:World} {a:Option Addr} {n c:Nat} {us:List Sv} (h:RowK encS w (.slice a n c) us) {i:Nat} (hi:i<us.length):∃ b off,a=some ⟨b,off,none⟩∧n=us.length∧w.cell? ⟨b,off + i,none⟩=some (svV (us.getD i (none,0,0))):=by
 obtain ⟨a',c',e,hc⟩:=h
 simp only [Value.slice.injEq] at e
 obtain ⟨rfl,rfl,rfl⟩:=e
 rcases hc with hc | ⟨b,off,rfl,hc⟩
 ·rw [hc] at hi
  simp at hi
 ·have q:=flat_at encS 1 encS_len us i 0 hi (by decide)
  exact ⟨b,off,rfl,rfl,hc i _ (by rw [Nat.mul_one,Nat.add_zero] at q;exact q)⟩
theorem t3_at {w:World} {a:Option Addr} {n c:Nat} {T:List Tt} (h:RowK enc3 w (.slice a n c) T) {i:Nat} (hi:i<T.length):∃ b off,a=some ⟨b,off,none⟩∧n=T.length∧w.cell? ⟨b,off + i * 3,none⟩=some (.int .i64 (T.getD i (0,0,0)).1)∧w.cell? ⟨b,off + i * 3 + 1,none⟩=some (.int .i64 (T.getD i (0,0,0)).2.1)∧w.cell? ⟨b,off + i * 3 + 2,none⟩=some (.int .i64 (T.getD i (0,0,0)).2.2):=by
 obtain ⟨a',c',e,hc⟩:=h
 simp only [Value.slice.injEq] at e
 obtain ⟨rfl,rfl,rfl⟩:=e
 rcases hc with hc | ⟨b,off,rfl,hc⟩
 ·rw [hc] at hi
  simp at hi
 ·have q0:=flat_at enc3 3 enc3_len T i 0 hi (by decide)
  have q1:=flat_at enc3 3 enc3_len T i 1 hi (by decide)
  have q2:=flat_at enc3 3 enc3_len T i 2 hi (by decide)
  refine ⟨b,off,rfl,rfl,hc _ _ q0,?_,?_⟩
  ·have:=hc _ _ q1
   rwa [← Nat.add_assoc] at this
  ·have:=hc _ _ q2
   rwa [← Nat.add_assoc] at this
theorem news2 (W:World) (x y:Int) (t:TypeId):∀ j u,([.int .i64 x,.int .i64 y]:List Value)[j]?=some u→((W.alloc (.cells #[.int .i64 x,.int .i64 y] t)).drew).cell? ((⟨W.heap.size,0,none⟩:Addr).add j)=some u:=fun j u hu=>by
 have hj:j<2:=(List.getElem?_eq_some_iff.1 hu).1
 rw [add_off]
 show (W.alloc (.cells #[.int .i64 x,.int .i64 y] t)).cell? ⟨W.heap.size,0 + j,none⟩=some u
 rcases (by omega:j=0∨j=1) with rfl | rfl
 ·simp at hu
  subst hu
  simp
 ·simp at hu
  subst hu
  simp
set_option maxRecDepth 100000 in
set_option maxHeartbeats 8000000 in
theorem tak_of (LL:List (List Tt)) (F:Int) (a:Int) (l:List (Int × Int)) (fr t:Int) (v vl:Value) (w:World) (hz:ZoneIn w v a l)
 (hA:∀ W,Below w.heap.size w W→Calls Tryz.prog 13 #[v,vl,.int .i64 fr,.int .i64 t] W (PaA W LL F))
 (hn:lnA LL≤1000) (hl:LL.length≤1000) (hr:Bz.Rt (tkA LL)) :
 Calls Tryz.prog 9 #[v,vl,.int .i64 fr,.int .i64 t] w fun e w'=>∃ u,e=.returned (.tuple #[u,.int .i64 F])∧Bz.Ob w' w.heap.size u (Bz.nrm (tkA LL))∧Below w.heap.size w w':=by
 have HR:=Lib.hid hr
 have HN:=Lib.hid hn
 have HTK:=Lib.hid (tkA_len LL)
 obtain ⟨sa,sc,rfl⟩:=hz.form
 have b0:Below w.heap.size w (w.alloc (.cells #[.int .i64 a,.slice sa l.length sc] 24)):=(Below.refl _ _).alloc (Nat.le_refl _) _
 have z0:(w.alloc (.cells #[.int .i64 a,.slice sa l.length sc] 24)).cell? ⟨w.heap.size,0,none⟩=some (.int .i64 a)∧(w.alloc (.cells #[.int .i64 a,.slice sa l.length sc] 24)).cell? ⟨w.heap.size,1,none⟩=some (.slice sa l.length sc):=⟨by simp,by simp⟩
 obtain ⟨W0,hW0⟩:∃ W0,W0=w.alloc (.cells #[.int .i64 a,.slice sa l.length sc] 24):=⟨_,rfl⟩
 rw [← hW0] at b0 z0
 have HW0:=Lib.hid hW0
 have B0:=Lib.hid b0
 have K:=Lib.hid (hA W0 b0)
 obtain ⟨y0,y1⟩:=z0
 have yl:=Bz.cell_in y0
 clear hz hA hW0 b0 hr hn
 go_enter Tryz.func9,Tryz.ntmps9
 go_upto_region 1 with fail
 rw [← HW0.out]
 go_wp2_with fail
 refine K.out.mono ?_
 rintro e w1 ⟨u1,rfl,⟨us,hus,hec⟩,hb⟩
 have B1:=Lib.hid (B0.out.trans (hb.mono B0.out.size))
 have EC:=Lib.hid hec
 have UL:us.length=LL.length:=hec.1
 have US:=Lib.hid hus
 obtain ⟨ua,uc,eu,_⟩:=hus
 subst eu
 clear hb K HW0 y0 y1 yl hec
 go_wp2_with fail
 go_loopw [12,13,14] (fun xv iv _ wr=>∃ (i:Nat) (x:Value),i≤us.length∧iv=.int .i64 i∧xv=x∧Hid (Bz.Ob wr w1.heap.size x (tkA (LL.take i)))∧Below w1.heap.size w1 wr) (fun _ iv _ _=>us.length - (intOf iv).toNat)
 case atStart=>exact ⟨0,_,Nat.zero_le _,rfl,rfl,Lib.hid (World.ownsRow_nil _ _ _ _),Below.refl _ _⟩
 case round=>
  obtain ⟨i,x,hi,rfl,hx,HO,hB⟩:=hrel
  replace hx:=hx.symm
  subst hx
  have HB:=Lib.hid hB
  by_cases hlt:i<us.length
  case neg=>
   have O9:Hid (Bz.Ob wr w1.heap.size x (tkA LL)):=Lib.hid (by have:=HO.out;rwa [List.take_of_length_le (by omega)] at this)
   have K2:=Lib.hid (Bz.rNorm_any (tkA LL) x wr O9.out.rb (by rw [HTK.out];exact HN.out) HR.out)
   have B9:=Lib.hid (B1.out.trans (hB.mono B1.out.size))
   clear hB HO O9
   go_wp2_with fail
   refine K2.out.mono ?_
   rintro e w9 ⟨u9,rfl,ho,hb⟩
   have O9:=Lib.hid (own_mono ho B9.out.size)
   have B10:=Lib.hid (B9.out.trans (hb.mono B9.out.size))
   clear ho hb K2
   go_wp2
   go_ret2
   exact ⟨u9,rfl,O9.out,B10.out⟩
  have SA:=Lib.hid (tkA_step (LL:=LL) (k:=i) (by omega))
  have RT:=Lib.hid (EC.out.2 i (by omega))
  obtain ⟨T,hT⟩:∃ T,T=LL.getD i []:=⟨_,rfl⟩
  rw [← hT] at SA RT
  have TL:T.length≤1000:=by
   have key:∀ (M:List (List Tt)) (j:Nat),j<M.length→(M.getD j []).length≤lnA M:=fun M=>by
    induction M with
    | nil=>intro j hj;simp at hj
    | cons P r ih=>
      intro j hj
      rcases j with _ | j
      ·show P.length≤P.length + lnA r;omega
      ·have:=ih j (by simpa using hj)
       show ((P :: r).getD (j + 1) []).length≤P.length + lnA r
       simp only [List.getD_cons_succ]
       omega
   rw [hT]
   exact Nat.le_trans (key LL i (by omega)) HN.out
  have PL:Hid ((tkA (LL.take i)).length + T.length≤1000):=Lib.hid (by
   have e:(tkA (LL.take (i + 1))).length≤(tkA LL).length:=by
    have:tkA LL=tkA (LL.take (i + 1))++tkA (LL.drop (i + 1)):=by
     unfold tkA
     rw [← List.flatMap_append,List.take_append_drop]
    rw [this,List.length_append]
    omega
   rw [SA.out,List.length_append,HTK.out] at e
   have:=HN.out
   simp [tkB] at e
   omega)
  obtain ⟨ub,uoff,ea,_,_⟩:=sv_at US.out hlt
  subst ea
  have CU:Hid (∀ W,Below w1.heap.size w1 W→W.cell? ⟨ub,uoff + i,none⟩=some (svV (us.getD i (none,0,0)))∧ub<W.heap.size):=Lib.hid (fun W q=>by
   obtain ⟨b',o',e',_,c'⟩:=sv_at (US.out.on q) hlt
   simp only [Option.some.injEq,Addr.mk.injEq,and_true] at e'
   obtain ⟨rfl,rfl⟩:=e'
   exact ⟨c',Bz.cell_in c'⟩)
  generalize us.getD i (none,0,0)=S at RT CU
  obtain ⟨ta,tn,tc⟩:=S
  obtain ⟨ta',tc',et,_⟩:=id RT.out
  simp only [svV,Value.slice.injEq] at et
  obtain ⟨rfl,rfl,rfl⟩:=et
  generalize tkA (LL.take i)=P at HO SA PL
  clear hT hB
  go_wp2_with fail
  go_loopw [12,14] (fun xv jv wj=>∃ (j:Nat) (x:Value),j≤T.length∧jv=.int .i64 j∧xv=x∧Hid (Bz.Ob wj w1.heap.size x (P++tkB (T.take j)))∧Below w1.heap.size w1 wj) (fun _ jv _=>T.length - (intOf jv).toNat)
  case atStart=>exact ⟨0,x,Nat.zero_le _,rfl,rfl,Lib.hid (by simpa [tkB] using HO.out),HB.out⟩
  case round=>
   obtain ⟨j,x2,hj,rfl,hx,HO2,hB⟩:=hrel
   replace hx:=hx.symm
   subst hx
   have HB2:=Lib.hid hB
   obtain ⟨cu,cl⟩:=CU.out _ hB
   by_cases hjl:j<T.length
   case neg=>
    have O9:Hid (Bz.Ob wr w1.heap.size x2 (tkA (LL.take (i + 1)))):=Lib.hid (by have:=HO2.out;rw [List.take_of_length_le (by omega)] at this;rw [SA.out];exact this)
    clear hB
    go_wp2
    go_roundw
    case rel=>exact ⟨i + 1,x2,by omega,by go_num,rfl,O9,HB2.out⟩
    case measure=>simp [intOf];omega
   obtain ⟨tb,toff,et,_,d0,d1,d2⟩:=t3_at (RT.out.on hB) hjl
   subst et
   have ST:=Lib.hid (tkB_step hjl)
   have SS:Hid (∀ X,Below w1.heap.size w1 X→X.cell? ⟨ub,uoff + i,none⟩=some (.slice (some ⟨tb,toff,none⟩) T.length tc)∧X.cell? ⟨tb,toff + j * 3 + 1,none⟩=some (.int .i64 (T.getD j (0,0,0)).2.1)∧X.cell? ⟨tb,toff + j * 3 + 2,none⟩=some (.int .i64 (T.getD j (0,0,0)).2.2)):=Lib.hid (fun X q=>by
    obtain ⟨b',o',e',_,_,g1,g2⟩:=t3_at (RT.out.on q) hjl
    simp only [Option.some.injEq,Addr.mk.injEq,and_true] at e'
    obtain ⟨rfl,rfl⟩:=e'
    exact ⟨(CU.out X q).1,g1,g2⟩)
   have QL:(P++tkB (T.take j)).length≤1000:=by
    rw [List.length_append]
    have:=PL.out
    simp [tkB]
    omega
   obtain ⟨Q,hQ⟩:∃ Q,Q=P++tkB (T.take j):=⟨_,rfl⟩
   have NX:Hid (P++tkB (T.take (j + 1))=Q++[((T.getD j (0,0,0)).2.1,(T.getD j (0,0,0)).2.2)]):=Lib.hid (by rw [hQ,ST.out,List.append_assoc])
   rw [← hQ] at HO2 QL
   generalize T.getD j (0,0,0)=X at d0 d1 d2 SS NX
   obtain ⟨x0,X1,X2⟩:=X
   dsimp only at d0 d1 d2 SS NX
   have dl:=Bz.cell_in d1
   obtain ⟨i0,hi0,hz0,hz1,hz2⟩:=info_parts Bz.info_bz
   have szx:w1.heap.size≤wr.heap.size:=hB.size
   clear hQ ST hB d0
   go_upto_region 9 with fail
   go_region_held3 (fun X=>X.cell? ⟨ub,uoff + i,none⟩=some (.slice (some ⟨tb,toff,none⟩) T.length tc)∧X.cell? ⟨tb,toff + j * 3 + 1,none⟩=some (.int .i64 X1)∧X.cell? ⟨tb,toff + j * 3 + 2,none⟩=some (.int .i64 X2))
    (first | exact SS.out _ (Below.drew HB2.out) | exact SS.out _ (Below.alloc (Below.drew HB2.out) szx _) | exact SS.out _ (Below.drew (Below.alloc HB2.out szx _)) | exact SS.out _ hb3)
    (first
    | (refine Zo.step_append_own rfl _ _ 46 rfl w1.heap.size 99 i0 (.agg #[.int .i64 0,.int .i64 0]) 2 16 Tryz.underlying46 hi0 hz0 hz1 hz2 rfl (by decide) _ Q.length (Q.flatMap Bz.encB) rfl (ow_below HO2.out (Below.drew (Below.alloc (Below.refl _ _) (Nat.le_refl _) _))) ⟨wr.heap.size,0,none⟩ 1 1 [.int .i64 X1,.int .i64 X2] rfl rfl (news2 _ _ _ _) (fun u hu=>by simp at hu;rcases hu with rfl | rfl <;> rfl) (by unfold maxLen;omega) (by omega) (Nat.le_trans szx (by simp)) ?_;intro v' w3 R1 R2;have hb3:Below w1.heap.size w1 w3:=Below.grown (Below.drew (Below.alloc HB2.out szx _)) R2 (Nat.le_trans szx (by simp)) (fun j hj=>(HO2.out.lt j hj).1);have Q1:=Lib.hid R1;clear R1 R2))
   all_goals
    have Q2:=Lib.hid hb3
    have Q3:Hid (Bz.Ob w3 w1.heap.size v' (P++tkB (T.take (j + 1)))):=Lib.hid (by
     rw [NX.out]
     show w3.ownsRow w1.heap.size 99 2 v' (Q++[(X1,X2)]).length ((Q++[(X1,X2)]).flatMap Bz.encB)
     rw [List.length_append,List.flatMap_append]
     exact Q1.out)
    clear hb3 cu cl d1 d2 dl Q1
    go_wp2
    go_roundw
    case rel=>exact ⟨j + 1,v',by omega,by go_num,rfl,Q3,Q2.out⟩
    case measure=>simp [intOf];omega
end Go.Proofs.YtoncfgfjdlgfcaaGreatDoor.Pl
namespace Go.Proofs.YtoncfgfjdlgfcaaGreatDoor.Pp
open Go.RowKit Bz Cal Txt
def mmB (x y:Tm):Bool:=decide (max x.2.1 y.2.1<x.2.2∧max x.2.1 y.2.1<y.2.2)
def mmL (a b:List Tm):Bool:=a.any (fun x=>b.any (mmB x))
theorem mm_tk (a b:List Tm):mmL a b=shB (tkb a) (tkb b):=by
 unfold mmL shB tkb
 rw [List.any_map]
 congr 1
 funext x
 show b.any (mmB x)=(b.map (fun y=>(y.2.1,y.2.2))).any (mtB (x.2.1,x.2.2))
 rw [List.any_map]
 congr 1
 funext y
 show decide (max x.2.1 y.2.1<x.2.2∧max x.2.1 y.2.1<y.2.2)=decide (max x.2.1 y.2.1<min x.2.2 y.2.2)
 rw [decide_eq_decide]
 omega
theorem any_step (b:List Tm) (f:Tm→Bool) (k:Nat) (h:k<b.length):(b.drop k).any f=(f (b.getD k (0,0,0)) || (b.drop (k + 1)).any f):=by
 rw [List.drop_eq_getElem_cons h,List.any_cons,List.getD_eq_getElem?_getD,List.getElem?_eq_getElem h]
 rfl
set_option maxRecDepth 100000 in
set_option maxHeartbeats 4000000 in
theorem meetT_any (a b:List Tm) (va vb:Value) (w:World) (ha:Tms w va a) (hb:Tms w vb b) (la:a.length≤1000000) (lb:b.length≤1000000) :
 Calls Tryz.prog 14 #[va,vb] w fun e w'=>e=.returned (.bool (mmL a b))∧w'=w:=by
 obtain ⟨pa,ca,rfl,hca⟩:=ha
 obtain ⟨pb,cb,rfl,hcb⟩:=hb
 have HA:=Lib.hid hca
 have HB:=Lib.hid hcb
 have EM:Hid (mmL a b=a.any (fun x=>b.any (mmB x))):=Lib.hid rfl
 generalize mmL a b=R at EM ⊢
 clear hca hcb
 go_enter Tryz.func14,Tryz.ntmps14
 go_wp2_with fail
 go_loop [5,6,7] (fun iv _ _=>∃ i:Nat,i≤a.length∧iv=.int .i64 i∧Hid (R=(a.drop i).any (fun x=>b.any (mmB x)))) (fun iv _ _=>a.length - (intOf iv).toNat)
 case atStart=>exact ⟨0,Nat.zero_le _,rfl,EM⟩
 case round=>
  obtain ⟨i,hi,rfl,HI⟩:=hrel
  by_cases hlt:i<a.length
  case neg=>
   have N:Hid (R=false):=Lib.hid (by rw [HI.out,show i=a.length by omega,List.drop_length];rfl)
   go_wp2_with fail
   go_ret
   exact ⟨by rw [N.out];rfl,rfl⟩
  rcases HA.out with hc | ⟨ba,oa,rfl,hc⟩
  ·rw [hc] at hlt;simp at hlt
  obtain ⟨_,x1,x2⟩:=hc i hlt
  have SX:=any_step a (fun x=>b.any (mmB x)) i hlt
  generalize a.getD i (0,0,0)=X at x1 x2 SX
  have HS:=Lib.hid (HI.out.trans SX)
  have xl:=ecell_in x1
  clear hc SX
  go_wp2_with fail
  go_loop [6,7] (fun jv _=>∃ j:Nat,j≤b.length∧jv=.int .i64 j∧Hid (R=((b.drop j).any (mmB X) || (a.drop (i + 1)).any (fun x=>b.any (mmB x))))) (fun jv _=>b.length - (intOf jv).toNat)
  case atStart=>exact ⟨0,Nat.zero_le _,rfl,HS⟩
  case round=>
   obtain ⟨j,hj,rfl,HJ⟩:=hrel
   by_cases hlj:j<b.length
   case neg=>
    have N:Hid (R=(a.drop (i + 1)).any (fun x=>b.any (mmB x))):=Lib.hid (by rw [HJ.out,show j=b.length by omega,List.drop_length];rfl)
    go_wp2_with fail
    go_round
    case rel=>exact ⟨i + 1,by omega,by go_num,N⟩
    case measure=>simp [intOf];omega
   rcases HB.out with hc | ⟨bb,ob,rfl,hc⟩
   ·rw [hc] at hlj;simp at hlj
   obtain ⟨_,y1,y2⟩:=hc j hlj
   have SY:=any_step b (mmB X) j hlj
   generalize b.getD j (0,0,0)=Y at y1 y2 SY
   have yl:=ecell_in y1
   have HY:=Lib.hid SY
   clear hc SY
   by_cases c1:X.2.1<Y.2.1
   case neg=>
    have mx:max X.2.1 Y.2.1=X.2.1:=by omega
    by_cases c2:X.2.1<X.2.2
    case neg=>
     have N:Hid (R=((b.drop (j + 1)).any (mmB X) || (a.drop (i + 1)).any (fun x=>b.any (mmB x)))):=Lib.hid (by
      have e:mmB X Y=false:=by unfold mmB;rw [mx];simp;omega
      rw [HJ.out,HY.out,e,Bool.false_or])
     clear mx HY HJ
     go_wp2_with fail
     go_round
     case rel=>exact ⟨j + 1,by omega,by go_num,N⟩
     case measure=>simp [intOf];omega
    by_cases c3:X.2.1<Y.2.2
    case neg=>
     have N:Hid (R=((b.drop (j + 1)).any (mmB X) || (a.drop (i + 1)).any (fun x=>b.any (mmB x)))):=Lib.hid (by
      have e:mmB X Y=false:=by unfold mmB;rw [mx];simp;omega
      rw [HJ.out,HY.out,e,Bool.false_or])
     clear mx HY HJ
     go_wp2_with fail
     go_round
     case rel=>exact ⟨j + 1,by omega,by go_num,N⟩
     case measure=>simp [intOf];omega
    have N:Hid (R=true):=Lib.hid (by
     have e:mmB X Y=true:=by unfold mmB;rw [mx];simp;omega
     rw [HJ.out,HY.out,e,Bool.true_or,Bool.true_or])
    clear mx HY HJ
    go_wp2_with fail
    go_ret
    exact ⟨by rw [N.out];rfl,rfl⟩
   have mx:max X.2.1 Y.2.1=Y.2.1:=by omega
   by_cases c2:Y.2.1<X.2.2
   case neg=>
    have N:Hid (R=((b.drop (j + 1)).any (mmB X) || (a.drop (i + 1)).any (fun x=>b.any (mmB x)))):=Lib.hid (by
     have e:mmB X Y=false:=by unfold mmB;rw [mx];simp;omega
     rw [HJ.out,HY.out,e,Bool.false_or])
    clear mx HY HJ
    go_wp2_with fail
    go_round
    case rel=>exact ⟨j + 1,by omega,by go_num,N⟩
    case measure=>simp [intOf];omega
   by_cases c3:Y.2.1<Y.2.2
   case neg=>
    have N:Hid (R=((b.drop (j + 1)).any (mmB X) || (a.drop (i + 1)).any (fun x=>b.any (mmB x)))):=Lib.hid (by
     have e:mmB X Y=false:=by unfold mmB;rw [mx];simp;omega
     rw [HJ.out,HY.out,e,Bool.false_or])
    clear mx HY HJ
    go_wp2_with fail
    go_round
    case rel=>exact ⟨j + 1,by omega,by go_num,N⟩
    case measure=>simp [intOf];omega
   have N:Hid (R=true):=Lib.hid (by
    have e:mmB X Y=true:=by unfold mmB;rw [mx];simp;omega
    rw [HJ.out,HY.out,e,Bool.true_or,Bool.true_or])
   clear mx HY HJ
   go_wp2_with fail
   go_ret
   exact ⟨by rw [N.out];rfl,rfl⟩
end Go.Proofs.YtoncfgfjdlgfcaaGreatDoor.Pp
namespace Go.Proofs.YtoncfgfjdlgfcaaGreatDoor.Pp
open Go.RowKit Bz Cal Txt
section
variable (a:Int) (l:List (Int × Int)) (fr t:Int)
abbrev dF (L:List (Evt × Evs)):Int:=Pl.paF (ezF a l) (seF fr t) (fun e=>tmA a l e fr t) L
abbrev dL (L:List (Evt × Evs)):List (List Pl.Tt):=Pl.paL (ezF a l) (seF fr t) (fun e=>tmA a l e fr t) L
abbrev eF (L:List (Evt × Evs)):Int:=teF (fun e=>tbF a l e fr t) (fun e=>tbL a l e fr t) L
abbrev eL (L:List (Evt × Evs)):List (List Bz):=teL (fun e=>tbF a l e fr t) (fun e=>tbL a l e fr t) L
theorem tm_same {e:Evt} (h1:ezF a l e=0) (h2:strB fr t=true):tmA a l e fr t=tmL a l e fr t:=by
 obtain ⟨⟨b1,b2⟩,b3,_⟩:=strB_ends h2
 exact tmA_eq (ez_good h1).1 (ez_good h1).2 (by unfold okS;omega)
theorem pa_tb (x:Evt × Evs):Pl.paE (ezF a l) (seF fr t) (fun e=>tmA a l e fr t) x=tbF a l x.1 fr t:=by
 unfold Pl.paE tbF seF
 by_cases h1:ezF a l x.1=0
 ·by_cases h2:strB fr t=true
  ·have e:=tm_same a l fr t h1 h2
   simp [h1,h2,e]
  ·simp [h1,h2]
 ·simp [h1]
theorem pa_tm {e:Evt} (h:tbF a l e fr t=0):tmA a l e fr t=tbL a l e fr t:=by
 obtain ⟨⟨h1,h0⟩,h2,h3,_⟩:=tb_good h
 rw [h3,tm_same a l fr t (by unfold ezF;rw [if_neg (fun z=>z h1)];exact h0) h2]
theorem pa_G (L:List (Evt × Evs)):Pl.paG (ezF a l) (seF fr t) (fun e=>tmA a l e fr t) L=teG (fun e=>tbF a l e fr t) L:=by
 unfold Pl.paG teG
 rw [show L.map (Pl.paE (ezF a l) (seF fr t) (fun e=>tmA a l e fr t))=L.map (fun x=>tbF a l x.1 fr t) from List.map_congr_left (fun x _=>pa_tb a l fr t x)]
theorem teG_all (g:Evt→Int):∀ L:List (Evt × Evs),teG g L=0→∀ x∈L,g x.1=0
 | [],_,x,hx=>by simp at hx
 | b :: r,h,x,hx=>by
   have q:(if g b.1=0 then teG g r else g b.1)=0:=h
   split at q
   ·rename_i z
    rcases List.mem_cons.1 hx with rfl | hx
    ·exact z
    ·exact teG_all g r q x hx
   ·rename_i z;exact absurd q z
theorem paN_same (f g:Evt→List Tm):∀ L:List (Evt × Evs),(∀ x∈L,f x.1=g x.1)→Pl.paN f L=teN g L
 | [],_=>rfl
 | b :: r,h=>by
   show (f b.1).length + Pl.paN f r=(g b.1).length + teN g r
   rw [h b (by simp),paN_same f g r (fun x hx=>h x (List.mem_cons_of_mem _ hx))]
theorem d_F (L:List (Evt × Evs)):dF a l fr t L=eF a l fr t L:=by
 have e:=pa_G a l fr t L
 unfold dF eF Pl.paF teF
 rw [e]
 by_cases h0:20<L.length
 ·simp [h0]
 ·by_cases h1:teG (fun e=>tbF a l e fr t) L=0
  ·have e2:=paN_same (fun e=>tmA a l e fr t) (fun e=>tbL a l e fr t) L (fun x hx=>pa_tm a l fr t (teG_all _ L h1 x hx))
   simp [h0,h1,e2]
  ·simp [h0,h1]
theorem eF_all {L:List (Evt × Evs)} (h:eF a l fr t L=0):L.length≤20∧(∀ x∈L,tbF a l x.1 fr t=0)∧teN (fun e=>tbL a l e fr t) L≤200:=by
 unfold eF teF at h
 split at h
 ·cases h
 ·split at h
  ·rename_i q;exact absurd h q
  ·rename_i q
   split at h
   ·cases h
   ·exact ⟨by omega,teG_all _ L (Decidable.byContradiction q),by omega⟩
theorem d_L (L:List (Evt × Evs)):eL a l fr t L=(dL a l fr t L).map tkb:=by
 have e:=d_F a l fr t L
 unfold dF eF at e
 unfold eL dL teL Pl.paL
 rw [e]
 split
 ·rename_i h
  have q:=(eF_all a l fr t h).2.1
  unfold teM Pl.paM
  rw [List.map_map]
  refine List.map_congr_left (fun x hx=>?_)
  show tkb (tbL a l x.1 fr t)=tkb (tmA a l x.1 fr t)
  rw [pa_tm a l fr t (q x hx)]
 ·rfl
theorem d_flat (L:List (Evt × Evs)):Pl.tkA (dL a l fr t L)=(eL a l fr t L).flatten:=by
 rw [d_L,List.flatten_eq_flatMap,List.flatMap_map]
 rfl
theorem tb_gd {e:Evt} (h:tbF a l e fr t=0):∀ x∈tkb (tbL a l e fr t),Gd x:=fun x hx=>by
 obtain ⟨⟨h1,h0⟩,h2,h3,_⟩:=tb_good h
 obtain ⟨⟨b1,b2⟩,b3,_⟩:=strB_ends h2
 rw [h3] at hx
 obtain ⟨y,hy,rfl⟩:=List.mem_map.1 hx
 have m:=(tmL_mem h1 h0 (by unfold okS;omega)).1 hy
 have tt:=isTm_time m
 obtain ⟨_,⟨r,_,ht⟩,_,_⟩:=m
 obtain ⟨_,_,t3,t4⟩:=tim_some ht
 have:=(evF_lens h1).2.2.2.2.2.1
 unfold Gd
 dsimp only
 omega
theorem e_gd (L:List (Evt × Evs)):∀ x∈(eL a l fr t L).flatten,Gd x:=fun x hx=>by
 unfold eL teL at hx
 split at hx
 ·rename_i h
  obtain ⟨T,hT,hx⟩:=List.mem_flatten.1 hx
  obtain ⟨z,hz,rfl⟩:=List.mem_map.1 hT
  exact tb_gd a l fr t ((eF_all a l fr t h).2.1 z hz) x hx
 ·simp at hx
theorem b_F (L:List (Evt × Evs)):bsF a l fr t L=dF a l fr t L:=by
 rw [d_F]
 unfold bsF pbF
 split
 ·rename_i h
  rw [bzF_zero.2 ⟨teL_flat _ _ L,e_gd a l fr t L⟩]
  exact h.symm
 ·rfl
theorem b_L (L:List (Evt × Evs)):bsL a l fr t L=nrm (Pl.tkA (dL a l fr t L)):=by
 rw [d_flat]
 unfold bsL pbL
 split
 ·exact nmL_yes (bzF_zero.2 ⟨teL_flat _ _ L,e_gd a l fr t L⟩)
 ·rename_i h
  have:eL a l fr t L=[]:=by unfold eL teL;rw [if_neg h]
  rw [this]
  rfl
theorem d_rt (L:List (Evt × Evs)):Rt (Pl.tkA (dL a l fr t L)):=by rw [d_flat];exact gd_rt (e_gd a l fr t L)
theorem lnA_tk:∀ LL:List (List Pl.Tt),Pl.lnA LL=(Pl.tkA LL).length
 | []=>rfl
 | T :: r=>by
   show T.length + Pl.lnA r=(Pl.tkA (T :: r)).length
   have e:Pl.tkA (T :: r)=Pl.tkB T++Pl.tkA r:=by unfold Pl.tkA;rw [List.flatMap_cons]
   rw [lnA_tk r,e,List.length_append]
   unfold Pl.tkB
   rw [List.length_map]
theorem d_few (L:List (Evt × Evs)):Pl.lnA (dL a l fr t L)≤1000∧(dL a l fr t L).length≤20∧∀ T∈dL a l fr t L,T.length≤200:=by
 refine ⟨?_,?_,fun T hT=>?_⟩
 ·rw [lnA_tk,d_flat]
  exact Nat.le_trans (teL_flat _ _ L) (by decide)
 ·have h:=(teL_ok (fun e=>tbF a l e fr t) (fun e=>tbL a l e fr t) L (fun _ _=>tb_few2)).1
  have e:=congrArg List.length (d_L a l fr t L)
  rw [List.length_map] at e
  rw [← e]
  exact h
 ·unfold dL Pl.paL at hT
  split at hT
  ·rename_i h
   have e:=d_F a l fr t L
   unfold dF at e
   rw [e] at h
   obtain ⟨x,hx,rfl⟩:=List.mem_map.1 hT
   show (tmA a l x.1 fr t).length≤200
   rw [pa_tm a l fr t ((eF_all a l fr t h).2.1 x hx)]
   exact tb_few2
  ·simp at hT
theorem b_gd (L:List (Evt × Evs)):∀ x∈bsL a l fr t L,Gd x:=fun x hx=>by
 rw [b_L,d_flat] at hx
 have g:=e_gd a l fr t L
 have w:=nrm_in (gd_rt g) (gd_wt g) x hx
 have c:=nrm_cn (gd_rt g)
 have:=c.2 x hx
 unfold Gd
 omega
theorem c_L (L:List (Evt × Evs)):clL (eF a l fr t L) (eL a l fr t L)=cOut ((dL a l fr t L).map tkb) 0:=by
 rw [← d_L]
 unfold clL
 split
 ·rfl
 ·rename_i h
  have:eL a l fr t L=[]:=by unfold eL teL;rw [if_neg h]
  rw [this]
  rfl
end
theorem nrm_two {x y:List Bz} (hx:∀ z∈x,Gd z) (hy:∀ z∈y,Gd z):nrm (x++y)=nrm (y++x):=by
 have g1:∀ z∈x++y,Gd z:=fun z hz=>(List.mem_append.1 hz).elim (hx z) (hy z)
 have g2:∀ z∈y++x,Gd z:=fun z hz=>(List.mem_append.1 hz).elim (hy z) (hx z)
 refine cn_ext (nrm_cn (gd_rt g1)) (nrm_cn (gd_rt g2)) (fun t=>?_)
 rw [nrm_cov (gd_rt g1),nrm_cov (gd_rt g2),cov_app,cov_app]
 exact Or.comm
def d2F (fx fy:Int) (x y:List Bz) (fr t len:Int):Int:=if fx≠0 then fx else if fy≠0 then fy else if ist fr=false∨ist t=false then 1 else if t<fr then 3 else slE len (fre t fr (nrm (y++x)))
def d2T (fx fy:Int) (x y:List Bz) (fr t len:Int):Int:=if fx≠0 then 0 else if fy≠0 then 0 else if ist fr=false∨ist t=false then 0 else if t<fr then 0 else slT len (fre t fr (nrm (y++x)))
theorem meet_doc (BF:Nat→Int) (BL:Nat→List Bz) (fr t len:Int) (h0:∀ z∈BL 0,Gd z) (h1:∀ z∈BL 1,Gd z) :
 meF BL BF 2 fr t len=d2F (BF 0) (BF 1) (BL 0) (BL 1) fr t len∧meT BL BF 2 fr t len=d2T (BF 0) (BF 1) (BL 0) (BL 1) fr t len:=by
 have eC:meC BL 2=BL 0++BL 1:=by show ([]++BL 0)++BL 1=_;rw [List.nil_append]
 have g1:∀ z∈BL 0++BL 1,Gd z:=fun z hz=>(List.mem_append.1 hz).elim (h0 z) (h1 z)
 have eN:=nrm_two h0 h1
 have r0:reF (BL 0++BL 1) 0=0:=reF_zero.2 g1
 have eG:meG BF 0 2=if BF 0=0 then (if BF 1=0 then 0 else BF 1) else BF 0:=rfl
 unfold meF meT d2F d2T
 rw [eG,eC]
 by_cases a0:BF 0=0
 ·by_cases a1:BF 1=0
  ·have f0:faF (BL 0++BL 1) fr t=onF (fr,t):=by unfold faF;rw [if_pos r0]
   have f1:onF (fr,t)=if ist fr=false∨ist t=false then 1 else if t<fr then 3 else 0:=rfl
   have f2:faL (BL 0++BL 1) fr t=if onF (fr,t)=0 then fre t fr (nrm (BL 1++BL 0)) else []:=by unfold faL;rw [f0,eN]
   simp only [a0,a1,ne_eq,not_true_eq_false,if_false,if_true]
   unfold saF saT
   rw [f0,f2,f1]
   by_cases b0:ist fr=false∨ist t=false
   ·simp [b0]
   ·by_cases b1:t<fr
    ·simp [b0,b1]
    ·simp [b0,b1]
  ·simp [a0,a1]
 ·simp [a0]
end Go.Proofs.YtoncfgfjdlgfcaaGreatDoor.Pp
