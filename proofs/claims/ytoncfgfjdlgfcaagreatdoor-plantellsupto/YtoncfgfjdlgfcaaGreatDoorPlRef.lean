/-
  What is proved here: what the document's All and Taken (chimeref2) answer of a list of events, out of what its Ready, Stretch and Between do (contracts over the translation).
-/
import Derived.Test.YtoncfgfjdlgfcaaGreatDoorPP
import Derived.Test.YtoncfgfjdlgfcaaGreatDoorRE
import Derived.Lib.QuietBelow
import Derived.Deep.RegionHeld3
import Derived.BigQuiet
import Derived.Deep.Cut
import Derived.Deep.CutRange
namespace Go.Proofs.YtoncfgfjdlgfcaaGreatDoor.Pl
open Go.RowKit Cal Txt
abbrev Tt:=Int × Int × Int
def enc3 (x:Tt):List Value:=[.int .i64 x.1,.int .i64 x.2.1,.int .i64 x.2.2]
theorem enc3_len (x:Tt):(enc3 x).length=3:=rfl
abbrev Sv:=Option Addr × Nat × Nat
abbrev svV (s:Sv):Value:=.slice s.1 s.2.1 s.2.2
def encS (s:Sv):List Value:=[svV s]
theorem encS_len (s:Sv):(encS s).length=1:=rfl
def Ech (w:World) (us:List Sv) (LL:List (List Tt)):Prop:=us.length=LL.length∧∀ i,i<LL.length→RowK enc3 w (svV (us.getD i (none,0,0))) (LL.getD i [])
theorem Ech.on {w w':World} {us:List Sv} {LL:List (List Tt)} (h:Ech w us LL) (q:Below w.heap.size w w'):Ech w' us LL:=⟨h.1,fun i hi=>(h.2 i hi).on q⟩
theorem Ech.nil (w:World):Ech w [] []:=⟨rfl,fun i hi=>by simp at hi⟩
theorem Ech.snoc {w:World} {us:List Sv} {LL:List (List Tt)} (h:Ech w us LL) {u:Sv} {T:List Tt} (hu:RowK enc3 w (svV u) T):Ech w (us++[u]) (LL++[T]):=by
 refine ⟨by simp [h.1],fun i hi=>?_⟩
 rcases Nat.lt_or_ge i LL.length with g | g
 ·rw [List.getD_eq_getElem?_getD,List.getD_eq_getElem?_getD,List.getElem?_append_left (by rw [h.1];exact g),List.getElem?_append_left g,← List.getD_eq_getElem?_getD,← List.getD_eq_getElem?_getD]
  exact h.2 i g
 ·obtain rfl:i=LL.length:=by simp at hi;omega
  rw [List.getD_eq_getElem?_getD,List.getD_eq_getElem?_getD,List.getElem?_append_right (by rw [h.1];exact Nat.le_refl _),List.getElem?_append_right (Nat.le_refl _),h.1,Nat.sub_self]
  exact hu
def Tss (w:World) (v:Value) (LL:List (List Tt)):Prop:=∃ us:List Sv,RowK encS w v us∧Ech w us LL
theorem Tss.on {w w':World} {v:Value} {LL:List (List Tt)} (h:Tss w v LL) (q:Below w.heap.size w w'):Tss w' v LL:=by
 obtain ⟨us,h1,h2⟩:=h
 exact ⟨us,h1.on q,h2.on q⟩
theorem Tss.nil (w:World):Tss w (.slice none 0 0) []:=⟨[],RowK.nil _ _,Ech.nil w⟩
section
variable (ez:Evt→Int) (se:Int) (tm:Evt→List Tt)
def paE (x:Evt × Evs):Int:=if ¬ ez x.1=0 then ez x.1 else if ¬ se=0 then se else if 200<(tm x.1).length then 4 else 0
def paG (L:List (Evt × Evs)):Int:=(L.map (paE ez se tm)).foldr (fun f r=>if f=0 then r else f) 0
def paN:List (Evt × Evs)→Nat
 | []=>0
 | x :: r=>(tm x.1).length + paN r
def paF (L:List (Evt × Evs)):Int:=if 20<L.length then 4 else if ¬ paG ez se tm L=0 then paG ez se tm L else if 200<paN tm L then 4 else 0
def paM (L:List (Evt × Evs)):List (List Tt):=L.map (fun x=>tm x.1)
def paL (L:List (Evt × Evs)):List (List Tt):=if paF ez se tm L=0 then paM tm L else []
theorem paG_step {L:List (Evt × Evs)} {k:Nat} (h:k<L.length):paG ez se tm (L.drop k)=if paE ez se tm L[k]=0 then paG ez se tm (L.drop (k + 1)) else paE ez se tm L[k]:=by
 unfold paG
 rw [List.drop_eq_getElem_cons h,List.map_cons,List.foldr_cons]
theorem paN_step {L:List (Evt × Evs)} {k:Nat} (h:k<L.length):paN tm (L.take (k + 1))=paN tm (L.take k) + (tm L[k].1).length:=by
 have app:∀ (p:List (Evt × Evs)) (x:Evt × Evs),paN tm (p++[x])=paN tm p + (tm x.1).length:=fun p x=>by
  induction p with
  | nil=>simp [paN]
  | cons y r ih=>show (tm y.1).length + paN tm (r++[x])=(tm y.1).length + paN tm r + _;rw [ih];omega
 rw [List.take_succ_eq_append_getElem h,app]
theorem paM_step {L:List (Evt × Evs)} {k:Nat} (h:k<L.length):paM tm (L.take (k + 1))=paM tm (L.take k)++[tm L[k].1]:=by
 unfold paM
 rw [List.take_succ_eq_append_getElem h,List.map_append]
 rfl
end
theorem info_tms:(Tryz.prog.info? 40).map (fun i=>(i.zero,i.size,i.bytes))=some (some (.slice none 0 0),1,24):=by kernel_rfl
abbrev Os (w:World) (n0:Nat) (v:Value) (us:List Sv):Prop:=w.ownsRow n0 40 1 v us.length (us.flatMap encS)
theorem os_one (W:World) (s:Sv):RowK encS (W.alloc (.cells #[svV s] 40)) (.slice (some ⟨W.heap.size,0,none⟩) 1 1) [s]:=by
 refine ⟨_,_,rfl,Or.inr ⟨W.heap.size,0,rfl,fun j u hu=>?_⟩⟩
 have hj:j<1:=(List.getElem?_eq_some_iff.1 hu).1
 obtain rfl:j=0:=by omega
 simp [encS] at hu
 subst hu
 simp
theorem ap_row {W:World} {n0:Nat} {u:Value} {us:List Sv} (s:Sv) (h:Os W n0 u us) (hn:n0≤W.heap.size) (hl:us.length≤1000000):∃ v' w',(∀ ty,(Builtin.append_ #[53,53] ty #[u,.slice (some ⟨W.heap.size,0,none⟩) 1 1]).run Tryz.prog (W.alloc (.cells #[svV s] 40))=.ok v' w')∧Os w' n0 v' (us++[s])∧Below n0 W w'∧W.heap.size≤w'.heap.size∧(∀ k,k<W.heap.size→u.ownBlock≠some k→w'.heap[k]?=W.heap[k]?)∧(v'.ownBlock=u.ownBlock∨v'.ownBlock=some (W.heap.size + 1)):=by
 have b5:Below W.heap.size W (W.alloc (.cells #[svV s] 40)):=(Below.refl _ _).alloc (Nat.le_refl _) _
 obtain ⟨i0,hi,hz0,hz1,hz2⟩:=info_parts info_tms
 obtain ⟨a',c',e',hc⟩:=os_one W s
 have h':Os (W.alloc (.cells #[svV s] 40)) n0 u us:=ow_below h b5
 obtain ⟨v',w',hr,r1,r2,_,r4⟩:=run_append_own_at (P:=Tryz.prog) (W.alloc (.cells #[svV s] 40)) n0 53 53 40 i0 (.slice none 0 0) 1 24 Tryz.underlying53 hi hz0 hz1 hz2 rfl (by decide) u us.length (us.flatMap encS) h' ⟨W.heap.size,0,none⟩ 1 1 [svV s] rfl (fun j x hx=>by
  have hj:j<1:=(List.getElem?_eq_some_iff.1 hx).1
  obtain rfl:j=0:=by omega
  simp at hx
  subst hx
  rw [add_off]
  simp) (fun x hx=>by simp at hx;subst hx;rfl) (by unfold maxLen;omega) (by omega) (Nat.le_trans hn b5.size)
 refine ⟨v',w',fun ty=>hr,?_,(b5.mono hn).trans ((Below.refl n0 _).grown r2 (Nat.le_trans hn b5.size) (fun j hj=>(h.lt j hj).1)),Nat.le_trans b5.size r2.size,fun k hk hne=>(r2.block k (Nat.lt_of_lt_of_le hk b5.size) (fun e=>hne e.symm)).trans (b5.block k hk),?_⟩
 ·show w'.ownsRow n0 40 1 v' (us++[s]).length ((us++[s]).flatMap encS)
  rw [List.length_append,List.flatMap_append]
  exact r1
 ·rwa [World.size_alloc] at r4
def Apz (w:World) (us:List Sv) (o:Value):Prop:=∀ x∈us,∀ g,(svV x).ownBlock=some g→g<w.heap.size∧o.ownBlock≠some g
theorem rowK_kept {w w':World} {v:Value} {T:List Tt} (h:RowK enc3 w v T) (q:∀ g,v.ownBlock=some g→w'.heap[g]?=w.heap[g]?):RowK enc3 w' v T:=by
 obtain ⟨a,cap,e,hc⟩:=h
 refine ⟨a,cap,e,?_⟩
 rcases hc with hc | ⟨b,off,ea,hc⟩
 ·exact Or.inl hc
 ·refine Or.inr ⟨b,off,ea,fun j u hu=>?_⟩
  have:=hc j u hu
  have e2:=q b (by rw [e,ea];rfl)
  rw [← this]
  simp [World.cell?,e2]
theorem getD_mem {us:List Sv} {i:Nat} (h:i<us.length):us.getD i (none,0,0)∈us:=by
 rw [List.getD_eq_getElem?_getD,List.getElem?_eq_getElem h]
 exact List.getElem_mem h
theorem Ech.kept {w w':World} {us:List Sv} {LL:List (List Tt)} (h:Ech w us LL) (q:∀ x∈us,∀ g,(svV x).ownBlock=some g→w'.heap[g]?=w.heap[g]?):Ech w' us LL:=
 ⟨h.1,fun i hi=>rowK_kept (h.2 i hi) (q _ (getD_mem (by rw [h.1];exact hi)))⟩
theorem Apz.on {w w':World} {us:List Sv} {o:Value} (h:Apz w us o) (q:w.heap.size≤w'.heap.size):Apz w' us o:=fun x hx g hg=>⟨Nat.lt_of_lt_of_le (h x hx g hg).1 q,(h x hx g hg).2⟩
theorem wpl_app {w:World} {ops:Array Oper} {rest:List Oper} {o:Oper} {a:Act} {Q:Exit→Act→World→Prop} (hgd:o.guard=none) (s x:Operand) (t:TypeId)
 (ho:o.op=.call { callee:=.builtin .append,args:=#[s,x],argTypes:=#[t,t] }) (v vo v':Value) (w':World) (hs:a.eval s=v) (hx:a.eval x=vo)
 (hr:∀ ty,(Builtin.append_ #[t,t] ty #[v,vo]).run Tryz.prog w=.ok v' w') (h:wpList Tryz.prog ops Q rest (a.put o.dst v') w'):wpList Tryz.prog ops Q (o :: rest) a w:=by
 refine wpList_plain hgd fun K hK=>?_
 unfold Oper.wp execOp
 simp only [ho,resolve,invoke,builtin,Sem.run_bind,Sem.run_pure,Result.andThen_ok,List.map_toArray,List.map_cons,List.map_nil,hs,hx,hr]
 exact hK _ _ h
def PaA (w:World) (LL:List (List Tt)) (f:Int) (e:Ending) (w':World):Prop:=∃ u,e=.returned (.tuple #[u,.int .i64 f])∧Tss w' u LL∧Below w.heap.size w w'
set_option maxRecDepth 100000 in
set_option maxHeartbeats 8000000 in
theorem all_of (ez:Evt→Int) (se:Int) (tm:Evt→List Tt) (a:Int) (l:List (Int × Int)) (L:List (Evt × Evs)) (fr t:Int) (v vl:Value) (w:World) (hz:ZoneIn w v a l) (hL:Evl w vl L) (hl:L.length≤9223372036854775807)
 (hR:∀ x∈L,∀ W,Below w.heap.size w W→Calls Tryz.prog 24 #[v,.agg (ecells x.1 x.2)] W fun e w'=>e=.returned (.int .i64 (ez x.1))∧Below W.heap.size W w')
 (hS:∀ W,Calls Tryz.prog 25 #[.int .i64 fr,.int .i64 t] W fun e w'=>e=.returned (.int .i64 se)∧w'=W)
 (hB:∀ x∈L,ez x.1=0→se=0→∀ W,Below w.heap.size w W→Calls Tryz.prog 47 #[v,.agg (ecells x.1 x.2),.int .i64 fr,.int .i64 t] W fun e w'=>∃ u,e=.returned (svV u)∧RowK enc3 w' (svV u) (tm x.1)∧Below W.heap.size W w'∧∀ g,(svV u).ownBlock=some g→W.heap.size≤g∧g<w'.heap.size) :
 Calls Tryz.prog 13 #[v,vl,.int .i64 fr,.int .i64 t] w (PaA w (paL ez se tm L) (paF ez se tm L)):=by
 have HL:=Lib.hid hL
 have HR:=Lib.hid hR
 have HS:=Lib.hid hS
 have HB:=Lib.hid hB
 obtain ⟨sa,sc,rfl⟩:=hz.form
 obtain ⟨ae,ce,rfl⟩:=hL.form
 have b0:Below w.heap.size w (w.alloc (.cells #[.int .i64 a,.slice sa l.length sc] 24)):=(Below.refl _ _).alloc (Nat.le_refl _) _
 have z0:(w.alloc (.cells #[.int .i64 a,.slice sa l.length sc] 24)).cell? ⟨w.heap.size,0,none⟩=some (.int .i64 a)∧(w.alloc (.cells #[.int .i64 a,.slice sa l.length sc] 24)).cell? ⟨w.heap.size,1,none⟩=some (.slice sa l.length sc):=⟨by simp,by simp⟩
 obtain ⟨W0,hW0⟩:∃ W0,W0=w.alloc (.cells #[.int .i64 a,.slice sa l.length sc] 24):=⟨_,rfl⟩
 rw [← hW0] at b0 z0
 have HW0:=Lib.hid hW0
 have B0:=Lib.hid b0
 have Z0:=Lib.hid z0
 clear hz hL hR hS hB hW0 b0 z0
 by_cases h20:20<L.length
 ·have N:Hid (paF ez se tm L=4∧paL ez se tm L=[]):=Lib.hid (by
   have e:paF ez se tm L=4:=by unfold paF;rw [if_pos h20]
   exact ⟨e,by unfold paL;rw [e];rfl⟩)
  generalize paF ez se tm L=F at N ⊢
  generalize paL ez se tm L=LL at N ⊢
  have n20:(20:Int)<(L.length:Int):=by omega
  go_enter Tryz.func13,Tryz.ntmps13
  go_upto_region 1 with fail
  rw [← HW0.out]
  go_wp2
  go_ret2
  exact ⟨_,by rw [N.out.1];rfl,by rw [N.out.2];exact Tss.nil _,B0.out⟩
 have EF:Hid (paF ez se tm L=if ¬ paG ez se tm L=0 then paG ez se tm L else if 200<paN tm L then 4 else 0):=Lib.hid (by unfold paF;rw [if_neg h20])
 have EL:Hid (paL ez se tm L=if paF ez se tm L=0 then paM tm L else []):=Lib.hid rfl
 generalize paF ez se tm L=F at EF EL ⊢
 generalize paL ez se tm L=LL at EL ⊢
 have n20:¬ (20:Int)<(L.length:Int):=by omega
 go_enter Tryz.func13,Tryz.ntmps13
 go_upto_region 1 with fail
 rw [← HW0.out]
 clear HW0
 go_wp2_with fail
 go_loopw [10,11,12,13,14] (fun ov nv iv _ _ wr=>∃ (k:Nat) (o:Value) (us:List Sv),k≤L.length∧iv=.int .i64 k∧ov=o∧nv=.int .i64 (paN tm (L.take k))∧Hid (Os wr W0.heap.size o us)∧Hid (Ech wr us (paM tm (L.take k))∧Apz wr us o)∧Hid (paG ez se tm L=paG ez se tm (L.drop k))∧Hid (paN tm (L.take k)≤200 * k)∧Below W0.heap.size W0 wr) (fun _ _ iv _ _ _=>L.length - (intOf iv).toNat)
 case atStart=>exact ⟨0,_,[],Nat.zero_le _,rfl,rfl,rfl,Lib.hid (World.ownsRow_nil _ _ _ _),Lib.hid ⟨Ech.nil _,fun x hx=>by simp at hx⟩,Lib.hid rfl,Lib.hid (Nat.le_refl _),Below.refl _ _⟩
 case round=>
  obtain ⟨k,o,us,hk,rfl,ho,rfl,HO,HE,HG,HN,hB⟩:=hrel
  replace ho:=ho.symm
  subst ho
  have HBB:=Lib.hid hB
  have B1:=Lib.hid (B0.out.trans (hB.mono B0.out.size))
  by_cases hlt:k<L.length
  case neg=>
   have hk2:k=L.length:=by omega
   have EF2:F=if 200<paN tm L then 4 else 0:=by
    have e0:paG ez se tm L=0:=by rw [HG.out,hk2,List.drop_length];rfl
    rw [EF.out,if_neg (fun z=>z e0)]
   have TK:L.take k=L:=by rw [hk2,List.take_length]
   rw [TK] at HE HN ⊢
   by_cases h200:200<paN tm L
   ·have N:Hid (F=4∧LL=[]):=Lib.hid (by
     have e:F=4:=by rw [EF2,if_pos h200]
     exact ⟨e,by rw [EL.out,e];rfl⟩)
    have n2:(200:Int)<(paN tm L:Int):=by omega
    clear EF2 TK hB
    go_wp2
    go_ret2
    exact ⟨_,by rw [N.out.1];rfl,by rw [N.out.2];exact Tss.nil _,B1.out⟩
   ·have N:Hid (F=0∧LL=paM tm L):=Lib.hid (by
     have e:F=0:=by rw [EF2,if_neg h200]
     exact ⟨e,by rw [EL.out,if_pos e]⟩)
    have n2:¬ (200:Int)<(paN tm L:Int):=by omega
    have RR:Hid (Tss wr o (paM tm L)):=Lib.hid ⟨us,own_rowK (enc:=encS) (k:=1) encS_len (by decide) HO.out,HE.out.1⟩
    clear EF2 TK hB
    go_wp2
    go_ret2
    exact ⟨o,by rw [N.out.1];rfl,by rw [N.out.2];exact RR.out,B1.out⟩
  obtain ⟨b,off,ea,_,bl,hr,hE⟩:=evl_at (HL.out.on B1.out) hlt
  subst ea
  have XM:L[k]∈L:=List.getElem_mem hlt
  have KR:=Lib.hid (HR.out _ XM)
  have KB:=Lib.hid (HB.out _ XM)
  have SG:=Lib.hid (paG_step ez se tm hlt)
  have SN:=Lib.hid (paN_step tm hlt)
  have SM:=Lib.hid (paM_step tm hlt)
  generalize L[k]=X at hr KR KB SG SN SM
  have DE:Hid (paE ez se tm X=if ¬ ez X.1=0 then ez X.1 else if ¬ se=0 then se else if 200<(tm X.1).length then 4 else 0):=Lib.hid rfl
  generalize paE ez se tm X=PE at SG DE
  obtain ⟨e,s⟩:=X
  dsimp only at KR KB SG SN SM DE
  have CELLS:Hid (∀ W,Below wr.heap.size wr W→(W.cell? ⟨w.heap.size,0,none⟩=some (.int .i64 a)∧W.cell? ⟨w.heap.size,1,none⟩=some (.slice sa l.length sc))∧W.rangeAt b (off + k * 17) (encE (e,s))):=Lib.hid (fun W q=>by
   have q2:=hB.trans (q.mono hB.size)
   have zl:=World.block_lt_of_cell? _ _ Z0.out.1
   exact ⟨⟨(q2.cell (p:=⟨w.heap.size,0,none⟩) zl).trans Z0.out.1,(q2.cell (p:=⟨w.heap.size,1,none⟩) zl).trans Z0.out.2⟩,fun j u hu=>(q.cell (p:=⟨b,off + k * 17 + j,none⟩) bl).trans (hr j u hu)⟩)
  have KR2:Hid (∀ W,Below wr.heap.size wr W→Calls Tryz.prog 24 #[(.agg #[.int .i64 a,.slice sa l.length sc]),.agg (ecells e s)] W fun x w'=>x=.returned (.int .i64 (ez e))∧Below W.heap.size W w'):=Lib.hid (fun W q=>KR.out W (B1.out.trans (q.mono B1.out.size)))
  have NO:Hid (¬ PE=0→F=PE∧LL=[]):=Lib.hid (fun q=>by
   have g:paG ez se tm L=PE:=by rw [HG.out,SG.out,if_neg q]
   have e:F=PE:=by rw [EF.out,g,if_pos q]
   exact ⟨e,by rw [EL.out,e,if_neg q]⟩)
  have GN:Hid (PE=0→paG ez se tm L=paG ez se tm (L.drop (k + 1))):=Lib.hid (fun q=>by rw [HG.out,SG.out,if_pos q])
  generalize ez e=E1 at KR2 KB DE
  clear hE hr KR HR HB EF EL SG
  go_upto_region 8 with fail
  obtain ⟨⟨y0,y1⟩,rg⟩:=CELLS.out wr (Below.refl _ _)
  have c0:=rg 0 _ rfl
  rw [Nat.add_zero] at c0
  have c1:=rg 1 _ rfl
  have c2:=rg 2 _ rfl
  have c3:=rg 3 _ rfl
  have c4:=rg 4 _ rfl
  have c5:=rg 5 _ rfl
  have c6:=rg 6 _ rfl
  have c7:=rg 7 _ rfl
  have c8:=rg 8 _ rfl
  have c9:=rg 9 _ rfl
  have c10:=rg 10 _ rfl
  have c11:=rg 11 _ rfl
  have c12:=rg 12 _ rfl
  have c13:=rg 13 _ rfl
  have c14:=rg 14 _ rfl
  have c15:=rg 15 _ rfl
  have c16:=rg 16 _ rfl
  have m0:=cell_regrown y0
  have m1:=cell_regrown y1
  have n0:=cell_regrown c0
  have n1:=cell_regrown c1
  have n2:=cell_regrown c2
  have n3:=cell_regrown c3
  have n4:=cell_regrown c4
  have n5:=cell_regrown c5
  have n6:=cell_regrown c6
  have n7:=cell_regrown c7
  have n8:=cell_regrown c8
  have n9:=cell_regrown c9
  have n10:=cell_regrown c10
  have n11:=cell_regrown c11
  have n12:=cell_regrown c12
  have n13:=cell_regrown c13
  have n14:=cell_regrown c14
  have n15:=cell_regrown c15
  have n16:=cell_regrown c16
  clear y0 y1 rg c0 c1 c2 c3 c4 c5 c6 c7 c8 c9 c10 c11 c12 c13 c14 c15 c16
  refine wp_region_quiet_below (by kernel_rfl) (by kernel_rfl) ?_
  repeat (go_big_quiet_step (first | (go_at_call 24;exact Calls.regrown_of (KR2.out _ (below_regrown wr _ _)))))
  refine wpQuiet_nil ?_
  intro _ hw'
  obtain ⟨⟨dq,osq⟩,hw''⟩:=hw'
  subst hw''
  have b2:=below_regrown wr dq osq
  generalize Sort.grow (redrawn wr dq) osq=w2 at b2 ⊢
  have B2:=Lib.hid b2
  clear m0 m1 n0 n1 n2 n3 n4 n5 n6 n7 n8 n9 n10 n11 n12 n13 n14 n15 n16
  clear b2 KR2
  have B3:=Lib.hid (B1.out.trans (B2.out.mono B1.out.size))
  by_cases q1:E1=0
  case neg=>
   have P1:PE=E1:=by rw [DE.out,if_pos q1]
   have N:Hid (F=E1∧LL=[]):=Lib.hid (by have:=NO.out (by rw [P1];exact q1);rwa [P1] at this)
   have q2:(E1 == 0)=false:=by simpa using q1
   have q3:(E1 != 0)=true:=by simpa using q1
   clear q1 P1
   go_wp2
   go_ret2
   exact ⟨_,by rw [N.out.1];rfl,by rw [N.out.2];exact Tss.nil _,B3.out⟩
  subst q1
  have KS:=Lib.hid (HS.out w2)
  by_cases q1:se=0
  case neg=>
   have P1:PE=se:=by rw [DE.out,if_neg (fun z=>z rfl),if_pos q1]
   have N:Hid (F=se∧LL=[]):=Lib.hid (by have:=NO.out (by rw [P1];exact q1);rwa [P1] at this)
   have q3:(se != 0)=true:=by simpa using q1
   clear q1 P1
   go_wp2_with (go_at_call 25;refine KS.out.mono ?_;rintro x w' ⟨rfl,hw⟩;replace hw:=hw.symm;subst hw)
   go_ret2
   exact ⟨_,by rw [N.out.1];rfl,by rw [N.out.2];exact Tss.nil _,B3.out⟩
  subst q1
  have KB2:=Lib.hid (fun W (q:Below w2.heap.size w2 W)=>KB.out rfl rfl W (B3.out.trans (q.mono B3.out.size)))
  go_upto_region 13 with (go_at_call 25;refine KS.out.mono ?_;rintro x w' ⟨rfl,hw⟩;replace hw:=hw.symm;subst hw)
  clear KS KB
  have HS9:Hid (∀ X,Below w2.heap.size w2 X→((X.cell? ⟨w.heap.size,0,none⟩=some (.int .i64 a)∧X.cell? ⟨w.heap.size,1,none⟩=some (.slice sa l.length sc))∧(X.cell? ⟨b,off + k * 17,none⟩=some (.string e.name)∧X.cell? ⟨b,off + k * 17 + 1,none⟩=some (.string e.text)∧X.cell? ⟨b,off + k * 17 + 2,none⟩=some (.int .i64 e.start)∧X.cell? ⟨b,off + k * 17 + 3,none⟩=some (.int .i64 e.len)∧X.cell? ⟨b,off + k * 17 + 4,none⟩=some (.bool e.rep)∧X.cell? ⟨b,off + k * 17 + 5,none⟩=some (.int .i64 e.rule.freq)∧X.cell? ⟨b,off + k * 17 + 6,none⟩=some (.int .i64 e.rule.every)∧X.cell? ⟨b,off + k * 17 + 7,none⟩=some (.int .i64 e.rule.count)∧X.cell? ⟨b,off + k * 17 + 8,none⟩=some (.int .i64 e.rule.till)∧X.cell? ⟨b,off + k * 17 + 9,none⟩=some (s.vm)∧X.cell? ⟨b,off + k * 17 + 10,none⟩=some (s.vd)∧X.cell? ⟨b,off + k * 17 + 11,none⟩=some (s.vw)∧X.cell? ⟨b,off + k * 17 + 12,none⟩=some (s.vp)∧X.cell? ⟨b,off + k * 17 + 13,none⟩=some (s.vo)∧X.cell? ⟨b,off + k * 17 + 14,none⟩=some (s.vn)∧X.cell? ⟨b,off + k * 17 + 15,none⟩=some (s.vc)∧X.cell? ⟨b,off + k * 17 + 16,none⟩=some (s.va)))):=Lib.hid (fun X q=>by
   obtain ⟨y,rg⟩:=CELLS.out X (B2.out.trans (q.mono B2.out.size))
   exact ⟨y,rg 0 _ rfl,rg 1 _ rfl,rg 2 _ rfl,rg 3 _ rfl,rg 4 _ rfl,rg 5 _ rfl,rg 6 _ rfl,rg 7 _ rfl,rg 8 _ rfl,rg 9 _ rfl,rg 10 _ rfl,rg 11 _ rfl,rg 12 _ rfl,rg 13 _ rfl,rg 14 _ rfl,rg 15 _ rfl,rg 16 _ rfl⟩)
  clear CELLS
  go_region_held3 (fun X=>((X.cell? ⟨w.heap.size,0,none⟩=some (.int .i64 a)∧X.cell? ⟨w.heap.size,1,none⟩=some (.slice sa l.length sc))∧(X.cell? ⟨b,off + k * 17,none⟩=some (.string e.name)∧X.cell? ⟨b,off + k * 17 + 1,none⟩=some (.string e.text)∧X.cell? ⟨b,off + k * 17 + 2,none⟩=some (.int .i64 e.start)∧X.cell? ⟨b,off + k * 17 + 3,none⟩=some (.int .i64 e.len)∧X.cell? ⟨b,off + k * 17 + 4,none⟩=some (.bool e.rep)∧X.cell? ⟨b,off + k * 17 + 5,none⟩=some (.int .i64 e.rule.freq)∧X.cell? ⟨b,off + k * 17 + 6,none⟩=some (.int .i64 e.rule.every)∧X.cell? ⟨b,off + k * 17 + 7,none⟩=some (.int .i64 e.rule.count)∧X.cell? ⟨b,off + k * 17 + 8,none⟩=some (.int .i64 e.rule.till)∧X.cell? ⟨b,off + k * 17 + 9,none⟩=some (s.vm)∧X.cell? ⟨b,off + k * 17 + 10,none⟩=some (s.vd)∧X.cell? ⟨b,off + k * 17 + 11,none⟩=some (s.vw)∧X.cell? ⟨b,off + k * 17 + 12,none⟩=some (s.vp)∧X.cell? ⟨b,off + k * 17 + 13,none⟩=some (s.vo)∧X.cell? ⟨b,off + k * 17 + 14,none⟩=some (s.vn)∧X.cell? ⟨b,off + k * 17 + 15,none⟩=some (s.vc)∧X.cell? ⟨b,off + k * 17 + 16,none⟩=some (s.va))))
   (first | exact HS9.out _ (Below.drew (Below.refl _ w2)) | exact HS9.out _ hb3)
   (first | (go_at_call 47;refine (KB2.out _ (Below.drew (Below.refl _ w2))).mono ?_;rintro y w3 ⟨u3,rfl,hr3,hb3',hg3⟩;have hb3:Below w2.heap.size w2 w3:=Below.trans (Below.drew (Below.refl _ w2)) hb3';clear hb3'))
  rename_i hHeld
  clear hHeld
  obtain ⟨ua,uc,eu,_⟩:=id hr3
  obtain ⟨p1,p2,p3⟩:=u3
  simp only [svV,Value.slice.injEq] at eu
  obtain ⟨rfl,rfl,rfl⟩:=eu
  have R3:Hid (RowK enc3 w3 (svV (p1,(tm e).length,p3)) (tm e)):=Lib.hid hr3
  have B4:=Lib.hid hb3
  have G3:Hid (∀ g,(svV (p1,(tm e).length,p3)).ownBlock=some g→w2.heap.size≤g∧g<w3.heap.size):=Lib.hid hg3
  have DE2:Hid (PE=if 200<(tm e).length then 4 else 0):=Lib.hid (by rw [DE.out];simp)
  have B5:=Lib.hid (B3.out.trans (hb3.mono B3.out.size))
  have NN:=HN.out
  clear hr3 hb3 DE KB2 HS9 hg3
  by_cases q5:200<(tm e).length
  ·have N:Hid (F=4∧LL=[]):=Lib.hid (by
    have P1:PE=4:=by rw [DE2.out,if_pos q5]
    have:=NO.out (by rw [P1];decide)
    rwa [P1] at this)
   have n2:(200:Int)<((tm e).length:Int):=by omega
   clear NO GN DE2 NN
   go_wp2
   go_ret2
   exact ⟨_,by rw [N.out.1];rfl,by rw [N.out.2];exact Tss.nil _,B5.out⟩
  ·have P1:PE=0:=by rw [DE2.out,if_neg q5]
   have G2:=Lib.hid (GN.out P1)
   have n2:¬ (200:Int)<((tm e).length:Int):=by omega
   have USL:us.length≤1000000:=by rw [HE.out.1.1];unfold paM;rw [List.length_map,List.length_take];omega
   have WB:Hid (W0.heap.size≤w3.heap.size):=Lib.hid (Nat.le_trans HBB.out.size (Nat.le_trans B2.out.size B4.out.size))
   have b24:Below wr.heap.size wr w3:=B2.out.trans (B4.out.mono B2.out.size)
   obtain ⟨v6,w6,ap,o6,b6,s6,k6,x6⟩:=ap_row (p1,(tm e).length,p3) (ow_below HO.out b24) WB.out USL
   have AP:=Lib.hid ap
   have O6:Hid (Os w6 W0.heap.size v6 (us++[(p1,(tm e).length,p3)])):=Lib.hid o6
   have B6:Hid (Below W0.heap.size W0 w6):=Lib.hid ((HBB.out.trans (b24.mono HBB.out.size)).trans b6)
   have N3:Hid (paN tm (L.take (k + 1))≤200 * (k + 1)):=Lib.hid (by rw [SN.out];omega)
   have AZ:Apz w3 (us++[(p1,(tm e).length,p3)]) o:=fun x hx g hg=>by
    rcases List.mem_append.1 hx with q | q
    ·have:=HE.out.2 x q g hg
     exact ⟨Nat.lt_of_lt_of_le this.1 b24.size,this.2⟩
    ·simp at q
     subst q
     have:=G3.out g hg
     exact ⟨this.2,fun eo=>by have:=(HO.out.lt g eo).2;have:=B2.out.size;omega⟩
   have E6:Hid (Ech w6 (us++[(p1,(tm e).length,p3)]) (paM tm (L.take (k + 1)))∧Apz w6 (us++[(p1,(tm e).length,p3)]) v6):=Lib.hid (by
    refine ⟨?_,fun x hx g hg=>⟨Nat.lt_of_lt_of_le (AZ x hx g hg).1 s6,fun ev=>?_⟩⟩
    ·rw [SM.out]
     exact ((HE.out.1.on b24).snoc R3.out).kept (fun x hx g hg=>k6 g (AZ x hx g hg).1 (AZ x hx g hg).2)
    ·rcases x6 with q | q
     ·rw [q] at ev
      exact (AZ x hx g hg).2 ev
     ·rw [q] at ev
      simp at ev
      have:=(AZ x hx g hg).1
      omega)
   have wn:IntKind.i64.wrap ((paN tm (L.take k):Int) + ((tm e).length:Int))=(paN tm (L.take k):Int) + ((tm e).length:Int):=by rw [IntKind.wrap_i64];omega
   have SN2:Hid ((paN tm (L.take k):Int) + ((tm e).length:Int)=(paN tm (L.take (k + 1)):Int)):=Lib.hid (by rw [SN.out];omega)
   clear ap o6 b6 s6 k6 x6 AZ P1 NO GN DE2 b24 USL hB
   go_wp2_with (at_builtin;refine wpl_app rfl _ _ 53 rfl _ _ _ _ rfl rfl AP.out ?_)
   go_roundw
   case rel=>exact ⟨k + 1,v6,_,by omega,by go_num,rfl,by rw [← SN2.out],O6,E6,G2,N3,B6.out⟩
   case measure=>simp [intOf];omega
end Go.Proofs.YtoncfgfjdlgfcaaGreatDoor.Pl
